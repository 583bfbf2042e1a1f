/- HELPER, no statement of the seat: a list of entries in a box, one more entry at a time, inside a range over a function; the pairs of a relation. -/
import Derived.Test.YtifjenleoagefaaRf
import Derived.Test.YtifjenleoagefaaZbn
import Derived.Maps.OwnIn
namespace Go.Proofs.Ytifjenleoagefaa
open Go.RowKit Go.Sort Go.Shelf
set_option linter.unusedSimpArgs false
set_option linter.unusedVariables false
attribute [local go_sem] Oper.semAt_some

/-- What a list leads to, no more. -/
def tightF (A : Option Addr) (F : Nat → Fp) : Fp := fun k => blk A = some k ∨ ∃ j, F j k
theorem SlF.tight {α : Type} {O : Ow α} {sz : Nat} {E : TypeId} {w : World} {S : Fp} {A : Option Addr} {c : Nat} {xs : List α} {css : List (List Value)} {F : Nat → Fp} (h : SlF O sz E w S A c xs css F) : SlF O sz E w (tightF A F) A c xs css F :=
  ⟨fun k hk => hk.elim (fun e => h.lt k (h.top k e)) (fun ⟨j, e⟩ => h.lt k (h.sub j k e).1), fun k hk => .inl hk, h.row, h.clen, h.elen, fun j k hk => ⟨.inr ⟨j, hk⟩, (h.sub j k hk).2⟩, h.apart, h.elt⟩
/-- A list of entries in the box B, in blocks of its own that hold cells, apart from those of ex. -/
def LsI (base B : Nat) (ex : List Nat) (es : List Ent) (W : World) : Prop :=
  ∃ A c css F, Blk W B 27 #[.slice A es.length c] ∧ SlF EntO 2 40 W (tightF A F) A c es css F ∧ (∀ k, tightF A F k → base ≤ k ∧ ∃ o, W.heap[k]? = some o ∧ o.isCells = true) ∧ ∀ x ∈ ex, ¬ tightF A F x ∧ x < W.heap.size
theorem LsI.same {base B : Nat} {ex : List Nat} {es : List Ent} {W W' : World} (h : LsI base B ex es W) (hs : W.heap.size ≤ W'.heap.size) (hk : ∀ (k : Nat) (o : Obj), W.heap[k]? = some o → o.isCells = true → W'.heap[k]? = some o) : LsI base B ex es W' := by
  obtain ⟨A, c, css, F, h1, h2, h3, h4⟩ := h
  have hq : ∀ k, tightF A F k → W'.heap[k]? = W.heap[k]? := fun k hk' => by
    obtain ⟨-, o, ho, hc⟩ := h3 k hk'
    rw [hk k o ho hc, ho]
  exact ⟨A, c, css, F, hk _ _ h1 rfl, h2.loc entO hq, fun k hk' => ⟨(h3 k hk').1, by rw [hq k hk']; exact (h3 k hk').2⟩, fun x hx => ⟨(h4 x hx).1, Nat.lt_of_lt_of_le (h4 x hx).2 hs⟩⟩
theorem LsI.below {base B : Nat} {ex : List Nat} {es : List Ent} {W W' : World} (h : LsI base B ex es W) (hb : Below W.heap.size W W') : LsI base B ex es W' :=
  h.same hb.size (fun k o ho _ => (hb.block k (Array.getElem?_eq_some_iff.1 ho).1).trans ho)
theorem lsI_own {β : Type} {base B b : Nat} {ex : List Nat} (es : β → List Ent) : OwnFrom b (fun s W => LsI base B ex (es s) W) := fun s W W' row h hg hr =>
  h.same hg.size (fun k o ho hc => (hg.block k (Array.getElem?_eq_some_iff.1 ho).1 (fun e => by
    obtain ⟨-, o', ho', hc'⟩ := hr k e.symm
    rw [ho] at ho'; cases ho'; rw [hc] at hc'; cases hc')).trans ho)
theorem LsI.more {base B x : Nat} {ex : List Nat} {es : List Ent} {W W' : World} (h : LsI base B ex es W) (hb : Below W.heap.size W W') (hx : W.heap.size ≤ x) (hx' : x < W'.heap.size) : LsI base B (x :: ex) es W' := by
  obtain ⟨A, c, css, F, h1, h2, h3, h4⟩ := h
  obtain ⟨A', c', css', F', g1, g2, g3, g4⟩ := LsI.below ⟨A, c, css, F, h1, h2, h3, h4⟩ hb
  have h1' := h1.below hb
  have hq : ∀ k, tightF A F k → W'.heap[k]? = W.heap[k]? := fun k hk' => hb.block k (h2.lt k hk')
  refine ⟨A, c, css, F, h1', h2.loc entO hq, fun k hk' => ⟨(h3 k hk').1, by rw [hq k hk']; exact (h3 k hk').2⟩, fun y hy => ?_⟩
  rcases List.mem_cons.1 hy with rfl | hy
  · exact ⟨fun ht => by have := h2.lt y ht; omega, hx'⟩
  · exact ⟨(h4 y hy).1, Nat.lt_of_lt_of_le (h4 y hy).2 hb.size⟩
theorem LsI.less {base B : Nat} {ex ex' : List Nat} {es : List Ent} {W : World} (h : LsI base B ex es W) (hx : ∀ x ∈ ex', x ∈ ex) : LsI base B ex' es W := by
  obtain ⟨A, c, css, F, h1, h2, h3, h4⟩ := h
  exact ⟨A, c, css, F, h1, h2, h3, fun x hx' => h4 x (hx x hx')⟩
theorem lsI_row {base B : Nat} {ex : List Nat} {es : List Ent} {W : World} (h : LsI base B ex es W) (hB : base ≤ B) : GoodO [B] base W := by
  obtain ⟨A, c, css, F, h1, h2, h3, h4⟩ := h
  refine ⟨fun B' hB' => by simp at hB'; subst hB'; exact ⟨hB, h1.lt⟩, fun k hk => ?_⟩
  obtain ⟨B', hB', rfl | ⟨n, c2, T, hr⟩⟩ := hk
  · simp at hB'; subst hB'; exact ⟨hB, h1.lt⟩
  · simp only [List.mem_singleton] at hB'
    subst hB'
    unfold Blk at h1
    rw [h1] at hr
    injection hr with hr
    injection hr with hr _ _
    have hr2 := congrArg (fun a : Array Value => a[0]?) hr
    simp at hr2
    have hA : blk A = some k := by rw [hr2.1]; rfl
    exact ⟨(h3 k (.inl hA)).1, h2.lt k (.inl hA)⟩
theorem ls_push {base B : Nat} {ex : List Nat} {es : List Ent} {W w4 : World} {A : Option Addr} {c : Nat} {css : List (List Value)} {F : Nat → Fp} {v' : Value} (x y : Nat)
    (h1 : Blk W B 27 #[.slice A es.length c]) (h2 : SlF EntO 2 40 W (tightF A F) A c es css F) (h3 : ∀ k, tightF A F k → base ≤ k ∧ ∃ o, W.heap[k]? = some o ∧ o.isCells = true) (h4 : ∀ x ∈ ex, ¬ tightF A F x ∧ x < W.heap.size) (hBx : B ∈ ex) (hbB : base ≤ B)
    (hrow : w4.ownsRow 0 40 2 v' (es.length + 1) (css.flatten ++ [.slice (some ⟨W.heap.size, 0, none⟩) 2 2, .int .i64 1]))
    (hg : ((W.alloc (.cells #[.int .i64 (x : Int), .int .i64 (y : Int)] 3)).alloc (.cells #[.slice (some ⟨W.heap.size, 0, none⟩) 2 2, .int .i64 1] 40)).grownBy w4 (blk A)) (hl : v'.ownBlock = blk A ∨ v'.ownBlock = some (W.heap.size + 2)) :
    LsI base B ex (es ++ [pr x y]) (w4.setCell ⟨B, 0, none⟩ v') ∧ KpO [B] base W (w4.setCell ⟨B, 0, none⟩ v') ∧ (∀ b, KeepsFrom b W (w4.setCell ⟨B, 0, none⟩ v')) ∧ GrownS W (w4.setCell ⟨B, 0, none⟩ v') (fun k => k = B ∨ blk A = some k) ∧ Blk w4 B 27 #[.slice A es.length c] := by
  obtain ⟨A', c', rfl⟩ := own_slice hrow
  rw [ownBlock_slice] at hl
  have hs4 := hg.size
  simp at hs4
  have hBt := (h4 B hBx).1
  have hBl := h1.lt
  have hb1 : Below W.heap.size W (W.alloc (.cells #[.int .i64 (x : Int), .int .i64 (y : Int)] 3)) := bal (Below.refl _ _) _
  have hb2 : Below W.heap.size W ((W.alloc (.cells #[.int .i64 (x : Int), .int .i64 (y : Int)] 3)).alloc (.cells #[.slice (some ⟨W.heap.size, 0, none⟩) 2 2, .int .i64 1] 40)) := bal hb1 _
  have hW4 : ∀ k, k < W.heap.size → blk A ≠ some k → w4.heap[k]? = W.heap[k]? := fun k hk hn => (hg.block k (by simp; omega) (fun e => hn e.symm)).trans (hb2.block k hk)
  have kI : Blk (W.alloc (.cells #[.int .i64 (x : Int), .int .i64 (y : Int)] 3)) W.heap.size 3 #[.int .i64 (x : Int), .int .i64 (y : Int)] := Blk.newAt rfl
  have hAt : ∀ k, blk A = some k → k < W.heap.size := fun k hk => h2.lt k (.inl hk)
  have hw1 : ∀ k, k < (W.alloc (.cells #[.int .i64 (x : Int), .int .i64 (y : Int)] 3)).heap.size → blk A ≠ some k → w4.heap[k]? = (W.alloc (.cells #[.int .i64 (x : Int), .int .i64 (y : Int)] 3)).heap[k]? := fun k hk hn => (hg.block k (by simp at hk ⊢; omega) (fun e => hn e.symm)).trans (Below.heap_alloc _ _ _ hk)
  have kI4 : Blk w4 W.heap.size 3 #[.int .i64 (x : Int), .int .i64 (y : Int)] := (hw1 _ (by simp) (fun e => by have := hAt _ e; omega)).trans kI
  have hel : EntO (W.alloc (.cells #[.int .i64 (x : Int), .int .i64 (y : Int)] 3)) (fun k => k = W.heap.size) [.slice (some ⟨W.heap.size, 0, none⟩) 2 2, .int .i64 1] (pr x y) :=
    EntO.mk (xs := [(x : Int), (y : Int)]) (fun k hk => by rw [hk]; simp) (fun k hk => by simp [blk] at hk; exact hk.symm) (IntsOwn.ofBlk (xs := [(x : Int), (y : Int)]) kI (Nat.zero_le _) (by simp [maxLen]))
  have hA' : ∀ k, blk A' = some k → blk A = some k ∨ k = W.heap.size + 2 := fun k hk => by
    rcases hl with e | e
    · exact .inl (by rw [← e]; exact hk)
    · rw [e] at hk; injection hk with hk; exact .inr hk.symm
  have hA4 := World.ownsRow.lt hrow
  rw [ownBlock_slice] at hA4
  have hp := (SlF.push entO (h2.loc entO (fun k hk => hb1.block k (h2.lt k hk))) hel (w' := w4) (U := fun k => tightF A F k ∨ k = W.heap.size ∨ blk A' = some k) (fun k hk ht => by have := h2.lt k ht; omega) hrow hw1 (fun k hk => (hA' k hk).imp id (fun e => by simp; omega)) (fun k hk => hk) (fun k hk => by
    rcases hk with hk | hk | hk
    · have := h2.lt k hk; omega
    · omega
    · exact (hA4 k hk).2)).tight
  have hsB : ∀ k, k ≠ B → (w4.setCell ⟨B, 0, none⟩ (.slice A' (es.length + 1) c')).heap[k]? = w4.heap[k]? := fun k hk => Below.heap_setCell _ _ _ _ hk
  have hsz : (w4.setCell ⟨B, 0, none⟩ (.slice A' (es.length + 1) c')).heap.size = w4.heap.size := by simp [World.setCell]
  have hBA : blk A ≠ some B := fun e => hBt (.inl e)
  have kB4 : Blk w4 B 27 #[.slice A es.length c] := (hW4 B hBl hBA).trans h1
  have hne : ∀ k, tightF A' (fun j => if j = es.length then (fun k => k = W.heap.size) else F j) k → k = W.heap.size ∨ (∃ j, F j k ∧ blk A ≠ some k) ∨ blk A' = some k := fun k hk => by
    rcases hk with hk | ⟨j, hk⟩
    · exact .inr (.inr hk)
    · by_cases e : j = es.length
      · simp [e] at hk; exact .inl hk
      · simp [e] at hk; exact .inr (.inl ⟨j, hk, (h2.sub j k hk).2⟩)
  have hnB : ∀ k, tightF A' (fun j => if j = es.length then (fun k => k = W.heap.size) else F j) k → ∀ q ∈ ex, k ≠ q := fun k hk q hq e => by
    subst e
    obtain ⟨hq1, hq2⟩ := h4 k hq
    rcases hne k hk with e | ⟨j, hj, _⟩ | e
    · omega
    · exact hq1 (.inr ⟨j, hj⟩)
    · rcases hA' k e with e | e
      · exact hq1 (.inl e)
      · omega
  have hgr : GrownS W (w4.setCell ⟨B, 0, none⟩ (.slice A' (es.length + 1) c')) (fun k => k = B ∨ blk A = some k) :=
    ⟨hg.os.trans hb2.os, hg.tape.trans hb2.tape, hg.output.trans hb2.output, by rw [hsz]; omega, fun k hk hn => (hsB k (fun e => hn (.inl e))).trans (hW4 k hk (fun e => hn (.inr e)))⟩
  have hFB : Blk (w4.setCell ⟨B, 0, none⟩ (.slice A' (es.length + 1) c')) B 27 #[.slice A' (es.length + 1) c'] := by simpa using kB4.set_ 0 (.slice A' (es.length + 1) c')
  have hcA : ∀ k o, blk A' = some k → w4.heap[k]? = some o → o.isCells = true := row_cells hrow
  have hls : LsI base B ex (es ++ [pr x y]) (w4.setCell ⟨B, 0, none⟩ (.slice A' (es.length + 1) c')) := by
    refine ⟨A', c', _, _, by rw [List.length_append, List.length_singleton]; exact hFB, hp.loc entO (fun k hk => hsB k (hnB k hk B hBx)), fun k hk => ?_, fun q hq => ⟨fun ht => hnB q ht q hq rfl, by rw [hsz]; have := (h4 q hq).2; omega⟩⟩
    rw [hsB k (hnB k hk B hBx)]
    rcases hne k hk with rfl | ⟨j, hj, hn⟩ | e
    · exact ⟨by have := h1.lt; omega, _, kI4, rfl⟩
    · rw [hW4 k (h2.lt k (.inr ⟨j, hj⟩)) hn]
      exact h3 k (.inr ⟨j, hj⟩)
    · have hk4 := (hA4 k e).2
      refine ⟨?_, w4.heap[k], by simp [hk4], hcA k _ e (by simp [hk4])⟩
      rcases hA' k e with e | e
      · exact (h3 k (.inl e)).1
      · omega
  have hRW : ∀ k, blk A = some k → RowOf W B k := fun k hk => by
    rcases ownsRow_form h2.row with ⟨rfl, _, _⟩ | ⟨g, rfl, _, _, _, _⟩
    · cases hk
    · have : g = k := by simpa [blk] using hk
      subst this
      exact ⟨_, _, _, h1⟩
  have hrow2 : ∀ k, OwB [B] (w4.setCell ⟨B, 0, none⟩ (.slice A' (es.length + 1) c')) k → k = B ∨ blk A' = some k := by
    rintro k ⟨B', hB', rfl | ⟨n, c2, T, hr⟩⟩
    · simp at hB'; exact .inl hB'
    · simp only [List.mem_singleton] at hB'
      subst hB'
      have hb3 := hFB
      unfold Blk at hb3
      rw [hb3] at hr
      injection hr with hr
      injection hr with hr _ _
      have hr2 := congrArg (fun a : Array Value => a[0]?) hr
      simp at hr2
      exact .inr (by rw [hr2.1]; rfl)
  refine ⟨hls, kpO_grown hgr (by omega) (fun k hk => ?_) (fun k hk hlt => ?_) (fun _ => lsI_row hls hbB), fun b => keepsFrom_grown hgr (fun k o hk ho => ?_), hgr, kB4⟩
  · rcases hk with rfl | hk
    · exact ⟨hbB, fun _ => ⟨_, List.mem_singleton.2 rfl, .inl rfl⟩⟩
    · exact ⟨(h3 k (.inl hk)).1, fun _ => ⟨_, List.mem_singleton.2 rfl, .inr (hRW k hk)⟩⟩
  · rcases hrow2 k hk with rfl | hk
    · exact ⟨_, List.mem_singleton.2 rfl, .inl rfl⟩
    · rcases hA' k hk with e | e
      · exact ⟨_, List.mem_singleton.2 rfl, .inr (hRW k e)⟩
      · omega
  · rcases hk with rfl | hk
    · exact blk_cells h1 o ho
    · obtain ⟨-, o', ho', hc'⟩ := h3 k (.inl hk)
      rw [ho] at ho'; cases ho'; exact hc'
end Go.Proofs.Ytifjenleoagefaa
