/- HELPER, no statement of the seat: a list of Z-sets in a box, one more at a time, inside a range over a function. -/
import Derived.Test.YtifjenleoagefaaGreatCgk
import Derived.Test.YtifjenleoagefaaGreatZss
namespace Go.Proofs.YtifjenleoagefaaGreat
open Go.RowKit Go.Sort Go.Shelf
set_option linter.unusedSimpArgs false
set_option linter.unusedVariables false

/-- A list of Z-sets in the box B, in blocks of its own that hold cells, outside the zone from lo to hi. -/
def LzI (base B lo hi : Nat) (zs : List Zs) (W : World) : Prop :=
  ∃ A c css F, Blk W B 29 #[.slice A zs.length c] ∧ SlF ZlO 1 23 W (tightF A F) A c zs css F ∧ ∀ k, tightF A F k → base ≤ k ∧ (k < lo ∨ hi ≤ k) ∧ k ≠ B ∧ ∃ o, W.heap[k]? = some o ∧ o.isCells = true
theorem LzI.same {base B lo hi : Nat} {zs : List Zs} {W W' : World} (h : LzI base B lo hi zs W) (hk : ∀ (k : Nat) (o : Obj), (k < lo ∨ hi ≤ k) → W.heap[k]? = some o → o.isCells = true → W'.heap[k]? = some o) (hB : B < lo) : LzI base B lo hi zs W' := by
  obtain ⟨A, c, css, F, h1, h2, h3⟩ := h
  have hq : ∀ k, tightF A F k → W'.heap[k]? = W.heap[k]? := fun k hk' => by
    obtain ⟨-, hz, -, o, ho, hc⟩ := h3 k hk'
    rw [hk k o hz ho hc, ho]
  exact ⟨A, c, css, F, hk _ _ (.inl hB) h1 rfl, h2.loc zlO hq, fun k hk' => by rw [hq k hk']; exact h3 k hk'⟩
theorem LzI.below {base B lo hi : Nat} {zs : List Zs} {W W' : World} (h : LzI base B lo hi zs W) (hb : Below W.heap.size W W') (hB : B < lo) : LzI base B lo hi zs W' :=
  h.same (fun k o _ ho _ => (hb.block k (Array.getElem?_eq_some_iff.1 ho).1).trans ho) hB
theorem lzI_stays {β : Type} {base B lo hi : Nat} (zs : β → List Zs) (hB : B < lo) : StaysIn lo hi (fun s W => LzI base B lo hi (zs s) W) := fun s W W' row h hg hr =>
  h.same (fun k o hz ho _ => (hg.block k (Array.getElem?_eq_some_iff.1 ho).1 (fun e => by have := hr k e.symm; omega)).trans ho) hB
theorem lzI_row {base B lo hi : Nat} {zs : List Zs} {W : World} (h : LzI base B lo hi zs W) (hB : base ≤ B) : GoodO [B] base W ∧ ∀ k, OwB [B] W k → k = B ∨ (k < lo ∨ hi ≤ k) := by
  obtain ⟨A, c, css, F, h1, h2, h3⟩ := h
  have key : ∀ k, OwB [B] W k → k = B ∨ blk A = some k := by
    rintro k ⟨B', hB', rfl | ⟨n, c2, T, hr⟩⟩
    · simp at hB'; exact .inl hB'
    · simp only [List.mem_singleton] at hB'
      subst hB'
      unfold Blk at h1
      rw [h1] at hr
      injection hr with hr
      injection hr with hr _ _
      have hr2 := congrArg (fun a : Array Value => a[0]?) hr
      simp at hr2
      exact .inr (by rw [hr2.1]; rfl)
  refine ⟨⟨fun B' hB' => by simp at hB'; subst hB'; exact ⟨hB, h1.lt⟩, fun k hk => ?_⟩, fun k hk => ?_⟩
  · rcases key k hk with rfl | e
    · exact ⟨hB, h1.lt⟩
    · exact ⟨(h3 k (.inl e)).1, h2.lt k (.inl e)⟩
  · rcases key k hk with e | e
    · exact .inl e
    · exact .inr (h3 k (.inl e)).2.1
theorem lz_push {base B lo hi : Nat} {zs : List Zs} {W w4 w5 : World} {A : Option Addr} {c : Nat} {css : List (List Value)} {F : Nat → Fp} {v' : Value} {Ad : Option Addr} {cd : Nat} {z : Zs} {T : Fp}
    (h1 : Blk W B 29 #[.slice A zs.length c]) (h2 : SlF ZlO 1 23 W (tightF A F) A c zs css F) (h3 : ∀ k, tightF A F k → base ≤ k ∧ (k < lo ∨ hi ≤ k) ∧ k ≠ B ∧ ∃ o, W.heap[k]? = some o ∧ o.isCells = true) (hbB : base ≤ B) (hBl : B < lo) (hroom : hi ≤ W.heap.size) (hlo : lo ≤ hi)
    (hb : Below W.heap.size W w4) (hz : EntsOw w4 T Ad cd z) (hT : ∀ k, T k → W.heap.size ≤ k ∧ ∃ o, w4.heap[k]? = some o ∧ o.isCells = true)
    (hrow : w5.ownsRow 0 23 1 v' (zs.length + 1) (css.flatten ++ [.slice Ad z.length cd])) (hg : w4.grownBy w5 (blk A)) (hl : v'.ownBlock = blk A ∨ v'.ownBlock = some w4.heap.size) :
    LzI base B lo hi (zs ++ [z]) (w5.setCell ⟨B, 0, none⟩ v') ∧ KpO [B] base W (w5.setCell ⟨B, 0, none⟩ v') ∧ (∀ b, KeepsFrom b W (w5.setCell ⟨B, 0, none⟩ v')) ∧ GrownS W (w5.setCell ⟨B, 0, none⟩ v') (fun k => k = B ∨ blk A = some k) ∧ Blk w5 B 29 #[.slice A zs.length c] := by
  obtain ⟨A', c', rfl⟩ := own_slice hrow
  rw [ownBlock_slice] at hl
  have hs4 := hb.size
  have hs5 := hg.size
  have hBW := h1.lt
  have hw1 : ∀ k, k < w4.heap.size → blk A ≠ some k → w5.heap[k]? = w4.heap[k]? := fun k hk hn => hg.block k hk (fun e => hn e.symm)
  have hW5 : ∀ k, k < W.heap.size → blk A ≠ some k → w5.heap[k]? = W.heap[k]? := fun k hk hn => (hw1 k (by omega) hn).trans (hb.block k hk)
  have hAt : ∀ k, blk A = some k → k < W.heap.size := fun k hk => h2.lt k (.inl hk)
  have hBA : blk A ≠ some B := fun e => (h3 B (.inl e)).2.2.1 rfl
  have hTl : ∀ k, T k → k < w4.heap.size := SlOw.lt hz
  have hT5 : ∀ k, T k → w5.heap[k]? = w4.heap[k]? := fun k hk => hw1 k (hTl k hk) (fun e => by have := hAt k e; have := (hT k hk).1; omega)
  have hA' : ∀ k, blk A' = some k → blk A = some k ∨ k = w4.heap.size := fun k hk => by
    rcases hl with e | e
    · exact .inl (by rw [← e]; exact hk)
    · rw [e] at hk; injection hk with hk; exact .inr hk.symm
  have hA4 := World.ownsRow.lt hrow
  rw [ownBlock_slice] at hA4
  have hel : ZlO w4 T [.slice Ad z.length cd] z := ⟨Ad, cd, rfl, hz⟩
  have hp := (SlF.push zlO (h2.loc zlO (fun k hk => hb.block k (h2.lt k hk))) hel (w' := w5) (U := fun k => tightF A F k ∨ T k ∨ blk A' = some k) (fun k hk ht => by have := h2.lt k ht; have := (hT k hk).1; omega) hrow hw1 (fun k hk => (hA' k hk).imp id (fun e => by omega)) (fun k hk => hk) (fun k hk => by
    rcases hk with hk | hk | hk
    · have := h2.lt k hk; omega
    · have := hTl k hk; omega
    · exact (hA4 k hk).2)).tight
  have hsB : ∀ k, k ≠ B → (w5.setCell ⟨B, 0, none⟩ (.slice A' (zs.length + 1) c')).heap[k]? = w5.heap[k]? := fun k hk => Below.heap_setCell _ _ _ _ hk
  have hsz : (w5.setCell ⟨B, 0, none⟩ (.slice A' (zs.length + 1) c')).heap.size = w5.heap.size := by simp [World.setCell]
  have kB5 : Blk w5 B 29 #[.slice A zs.length c] := (hW5 B hBW hBA).trans h1
  have hne : ∀ k, tightF A' (fun j => if j = zs.length then T else F j) k → T k ∨ (∃ j, F j k ∧ blk A ≠ some k) ∨ blk A' = some k := fun k hk => by
    rcases hk with hk | ⟨j, hk⟩
    · exact .inr (.inr hk)
    · by_cases e : j = zs.length
      · simp [e] at hk; exact .inl hk
      · simp [e] at hk; exact .inr (.inl ⟨j, hk, (h2.sub j k hk).2⟩)
  have hall : ∀ k, tightF A' (fun j => if j = zs.length then T else F j) k → base ≤ k ∧ (k < lo ∨ hi ≤ k) ∧ k ≠ B ∧ ∃ o, w5.heap[k]? = some o ∧ o.isCells = true := fun k hk => by
    rcases hne k hk with e | ⟨j, hj, hn⟩ | e
    · obtain ⟨h4, h5⟩ := hT k e
      exact ⟨by omega, .inr (by omega), by omega, by rw [hT5 k e]; exact h5⟩
    · rw [hW5 k (h2.lt k (.inr ⟨j, hj⟩)) hn]
      exact h3 k (.inr ⟨j, hj⟩)
    · have hk4 := (hA4 k e).2
      have hcell : ∃ o, w5.heap[k]? = some o ∧ o.isCells = true := ⟨w5.heap[k], by simp [hk4], row_cells hrow k _ e (by simp [hk4])⟩
      rcases hA' k e with e | e
      · exact ⟨(h3 k (.inl e)).1, (h3 k (.inl e)).2.1, (h3 k (.inl e)).2.2.1, hcell⟩
      · exact ⟨by omega, .inr (by omega), by omega, hcell⟩
  have hgr : GrownS W (w5.setCell ⟨B, 0, none⟩ (.slice A' (zs.length + 1) c')) (fun k => k = B ∨ blk A = some k) :=
    ⟨hg.os.trans hb.os, hg.tape.trans hb.tape, hg.output.trans hb.output, by rw [hsz]; omega, fun k hk hn => (hsB k (fun e => hn (.inl e))).trans (hW5 k hk (fun e => hn (.inr e)))⟩
  have hFB : Blk (w5.setCell ⟨B, 0, none⟩ (.slice A' (zs.length + 1) c')) B 29 #[.slice A' (zs.length + 1) c'] := by simpa using kB5.set_ 0 (.slice A' (zs.length + 1) c')
  have hls : LzI base B lo hi (zs ++ [z]) (w5.setCell ⟨B, 0, none⟩ (.slice A' (zs.length + 1) c')) :=
    ⟨A', c', _, _, by rw [List.length_append, List.length_singleton]; exact hFB, hp.loc zlO (fun k hk => hsB k (hall k hk).2.2.1), fun k hk => by rw [hsB k (hall k hk).2.2.1]; exact hall k hk⟩
  have hRW : ∀ k, blk A = some k → RowOf W B k := fun k hk => by
    rcases ownsRow_form h2.row with ⟨rfl, _, _⟩ | ⟨g, rfl, _, _, _, _⟩
    · cases hk
    · have : g = k := by simpa [blk] using hk
      subst this
      exact ⟨_, _, _, h1⟩
  have hrow2 : ∀ k, OwB [B] (w5.setCell ⟨B, 0, none⟩ (.slice A' (zs.length + 1) c')) k → k = B ∨ blk A' = some k := by
    rintro k ⟨B', hB', rfl | ⟨n, c2, T, hr⟩⟩
    · simp at hB'; exact .inl hB'
    · simp only [List.mem_singleton] at hB'
      subst hB'
      have hb3 := hFB
      unfold Blk at hb3
      rw [hb3] at hr
      injection hr with hr
      injection hr with hr _ _
      have hr2 := congrArg (fun a : Array Value => a[0]?) hr
      simp at hr2
      exact .inr (by rw [hr2.1]; rfl)
  refine ⟨hls, kpO_grown hgr (by omega) (fun k hk => ?_) (fun k hk hlt => ?_) (fun _ => (lzI_row hls hbB).1), fun b => keepsFrom_grown hgr (fun k o hk ho => ?_), hgr, kB5⟩
  · rcases hk with rfl | hk
    · exact ⟨hbB, fun _ => ⟨_, List.mem_singleton.2 rfl, .inl rfl⟩⟩
    · exact ⟨(h3 k (.inl hk)).1, fun _ => ⟨_, List.mem_singleton.2 rfl, .inr (hRW k hk)⟩⟩
  · rcases hrow2 k hk with rfl | hk
    · exact ⟨_, List.mem_singleton.2 rfl, .inl rfl⟩
    · rcases hA' k hk with e | e
      · exact ⟨_, List.mem_singleton.2 rfl, .inr (hRW k e)⟩
      · omega
  · rcases hk with rfl | hk
    · exact blk_cells h1 o ho
    · obtain ⟨-, -, -, o', ho', hc'⟩ := h3 k (.inl hk)
      rw [ho] at ho'; cases ho'; exact hc'
end Go.Proofs.YtifjenleoagefaaGreat
