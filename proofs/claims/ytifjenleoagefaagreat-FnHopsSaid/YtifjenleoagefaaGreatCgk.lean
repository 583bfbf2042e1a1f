/- HELPER, no statement of the seat: several texts in one file. -/
import Derived.Test.YtifjenleoagefaaGreatRf
import Derived.Test.YtifjenleoagefaaGreatZbn
import Derived.Maps.OwnIn
import Derived.Test.YtifjenleoagefaaGreatCgl
import Derived.Test.YtifjenleoagefaaGreatEdg
/- HELPER, no statement of the seat: a list of entries in a box, one more entry at a time, inside a range over a function; the pairs of a relation. -/
namespace Go.Proofs.YtifjenleoagefaaGreat
open Go.RowKit Go.Sort Go.Shelf
set_option linter.unusedSimpArgs false
set_option linter.unusedVariables false
attribute [local go_sem] Oper.semAt_some

/-- What a list leads to, no more. -/
def tightF (A : Option Addr) (F : Nat → Fp) : Fp := fun k => blk A = some k ∨ ∃ j, F j k
theorem SlF.tight {α : Type} {O : Ow α} {sz : Nat} {E : TypeId} {w : World} {S : Fp} {A : Option Addr} {c : Nat} {xs : List α} {css : List (List Value)} {F : Nat → Fp} (h : SlF O sz E w S A c xs css F) : SlF O sz E w (tightF A F) A c xs css F :=
  ⟨fun k hk => hk.elim (fun e => h.lt k (h.top k e)) (fun ⟨j, e⟩ => h.lt k (h.sub j k e).1), fun k hk => .inl hk, h.row, h.clen, h.elen, fun j k hk => ⟨.inr ⟨j, hk⟩, (h.sub j k hk).2⟩, h.apart, h.elt⟩
/-- A list of entries in the box B, in blocks of its own that hold cells, apart from those of ex. -/
def LsI (base B : Nat) (ex : List Nat) (es : List Ent) (W : World) : Prop :=
  ∃ A c css F, Blk W B 23 #[.slice A es.length c] ∧ SlF EntO 2 33 W (tightF A F) A c es css F ∧ (∀ k, tightF A F k → base ≤ k ∧ ∃ o, W.heap[k]? = some o ∧ o.isCells = true) ∧ ∀ x ∈ ex, ¬ tightF A F x ∧ x < W.heap.size
theorem LsI.same {base B : Nat} {ex : List Nat} {es : List Ent} {W W' : World} (h : LsI base B ex es W) (hs : W.heap.size ≤ W'.heap.size) (hk : ∀ (k : Nat) (o : Obj), W.heap[k]? = some o → o.isCells = true → W'.heap[k]? = some o) : LsI base B ex es W' := by
  obtain ⟨A, c, css, F, h1, h2, h3, h4⟩ := h
  have hq : ∀ k, tightF A F k → W'.heap[k]? = W.heap[k]? := fun k hk' => by
    obtain ⟨-, o, ho, hc⟩ := h3 k hk'
    rw [hk k o ho hc, ho]
  exact ⟨A, c, css, F, hk _ _ h1 rfl, h2.loc entO hq, fun k hk' => ⟨(h3 k hk').1, by rw [hq k hk']; exact (h3 k hk').2⟩, fun x hx => ⟨(h4 x hx).1, Nat.lt_of_lt_of_le (h4 x hx).2 hs⟩⟩
theorem LsI.below {base B : Nat} {ex : List Nat} {es : List Ent} {W W' : World} (h : LsI base B ex es W) (hb : Below W.heap.size W W') : LsI base B ex es W' :=
  h.same hb.size (fun k o ho _ => (hb.block k (Array.getElem?_eq_some_iff.1 ho).1).trans ho)
theorem lsI_own {β : Type} {base B b : Nat} {ex : List Nat} (es : β → List Ent) : OwnFrom b (fun s W => LsI base B ex (es s) W) := fun s W W' row h hg hr =>
  h.same hg.size (fun k o ho hc => (hg.block k (Array.getElem?_eq_some_iff.1 ho).1 (fun e => by
    obtain ⟨-, o', ho', hc'⟩ := hr k e.symm
    rw [ho] at ho'; cases ho'; rw [hc] at hc'; cases hc')).trans ho)
theorem LsI.more {base B x : Nat} {ex : List Nat} {es : List Ent} {W W' : World} (h : LsI base B ex es W) (hb : Below W.heap.size W W') (hx : W.heap.size ≤ x) (hx' : x < W'.heap.size) : LsI base B (x :: ex) es W' := by
  obtain ⟨A, c, css, F, h1, h2, h3, h4⟩ := h
  obtain ⟨A', c', css', F', g1, g2, g3, g4⟩ := LsI.below ⟨A, c, css, F, h1, h2, h3, h4⟩ hb
  have h1' := h1.below hb
  have hq : ∀ k, tightF A F k → W'.heap[k]? = W.heap[k]? := fun k hk' => hb.block k (h2.lt k hk')
  refine ⟨A, c, css, F, h1', h2.loc entO hq, fun k hk' => ⟨(h3 k hk').1, by rw [hq k hk']; exact (h3 k hk').2⟩, fun y hy => ?_⟩
  rcases List.mem_cons.1 hy with rfl | hy
  · exact ⟨fun ht => by have := h2.lt y ht; omega, hx'⟩
  · exact ⟨(h4 y hy).1, Nat.lt_of_lt_of_le (h4 y hy).2 hb.size⟩
theorem LsI.less {base B : Nat} {ex ex' : List Nat} {es : List Ent} {W : World} (h : LsI base B ex es W) (hx : ∀ x ∈ ex', x ∈ ex) : LsI base B ex' es W := by
  obtain ⟨A, c, css, F, h1, h2, h3, h4⟩ := h
  exact ⟨A, c, css, F, h1, h2, h3, fun x hx' => h4 x (hx x hx')⟩
theorem lsI_row {base B : Nat} {ex : List Nat} {es : List Ent} {W : World} (h : LsI base B ex es W) (hB : base ≤ B) : GoodO [B] base W := by
  obtain ⟨A, c, css, F, h1, h2, h3, h4⟩ := h
  refine ⟨fun B' hB' => by simp at hB'; subst hB'; exact ⟨hB, h1.lt⟩, fun k hk => ?_⟩
  obtain ⟨B', hB', rfl | ⟨n, c2, T, hr⟩⟩ := hk
  · simp at hB'; subst hB'; exact ⟨hB, h1.lt⟩
  · simp only [List.mem_singleton] at hB'
    subst hB'
    unfold Blk at h1
    rw [h1] at hr
    injection hr with hr
    injection hr with hr _ _
    have hr2 := congrArg (fun a : Array Value => a[0]?) hr
    simp at hr2
    have hA : blk A = some k := by rw [hr2.1]; rfl
    exact ⟨(h3 k (.inl hA)).1, h2.lt k (.inl hA)⟩
theorem ls_push {base B : Nat} {ex : List Nat} {es : List Ent} {W w4 : World} {A : Option Addr} {c : Nat} {css : List (List Value)} {F : Nat → Fp} {v' : Value} (x y : Nat)
    (h1 : Blk W B 23 #[.slice A es.length c]) (h2 : SlF EntO 2 33 W (tightF A F) A c es css F) (h3 : ∀ k, tightF A F k → base ≤ k ∧ ∃ o, W.heap[k]? = some o ∧ o.isCells = true) (h4 : ∀ x ∈ ex, ¬ tightF A F x ∧ x < W.heap.size) (hBx : B ∈ ex) (hbB : base ≤ B)
    (hrow : w4.ownsRow 0 33 2 v' (es.length + 1) (css.flatten ++ [.slice (some ⟨W.heap.size, 0, none⟩) 2 2, .int .i64 1]))
    (hg : ((W.alloc (.cells #[.int .i64 (x : Int), .int .i64 (y : Int)] 3)).alloc (.cells #[.slice (some ⟨W.heap.size, 0, none⟩) 2 2, .int .i64 1] 33)).grownBy w4 (blk A)) (hl : v'.ownBlock = blk A ∨ v'.ownBlock = some (W.heap.size + 2)) :
    LsI base B ex (es ++ [pr x y]) (w4.setCell ⟨B, 0, none⟩ v') ∧ KpO [B] base W (w4.setCell ⟨B, 0, none⟩ v') ∧ (∀ b, KeepsFrom b W (w4.setCell ⟨B, 0, none⟩ v')) ∧ GrownS W (w4.setCell ⟨B, 0, none⟩ v') (fun k => k = B ∨ blk A = some k) ∧ Blk w4 B 23 #[.slice A es.length c] := by
  obtain ⟨A', c', rfl⟩ := own_slice hrow
  rw [ownBlock_slice] at hl
  have hs4 := hg.size
  simp at hs4
  have hBt := (h4 B hBx).1
  have hBl := h1.lt
  have hb1 : Below W.heap.size W (W.alloc (.cells #[.int .i64 (x : Int), .int .i64 (y : Int)] 3)) := bal (Below.refl _ _) _
  have hb2 : Below W.heap.size W ((W.alloc (.cells #[.int .i64 (x : Int), .int .i64 (y : Int)] 3)).alloc (.cells #[.slice (some ⟨W.heap.size, 0, none⟩) 2 2, .int .i64 1] 33)) := bal hb1 _
  have hW4 : ∀ k, k < W.heap.size → blk A ≠ some k → w4.heap[k]? = W.heap[k]? := fun k hk hn => (hg.block k (by simp; omega) (fun e => hn e.symm)).trans (hb2.block k hk)
  have kI : Blk (W.alloc (.cells #[.int .i64 (x : Int), .int .i64 (y : Int)] 3)) W.heap.size 3 #[.int .i64 (x : Int), .int .i64 (y : Int)] := Blk.newAt rfl
  have hAt : ∀ k, blk A = some k → k < W.heap.size := fun k hk => h2.lt k (.inl hk)
  have hw1 : ∀ k, k < (W.alloc (.cells #[.int .i64 (x : Int), .int .i64 (y : Int)] 3)).heap.size → blk A ≠ some k → w4.heap[k]? = (W.alloc (.cells #[.int .i64 (x : Int), .int .i64 (y : Int)] 3)).heap[k]? := fun k hk hn => (hg.block k (by simp at hk ⊢; omega) (fun e => hn e.symm)).trans (Below.heap_alloc _ _ _ hk)
  have kI4 : Blk w4 W.heap.size 3 #[.int .i64 (x : Int), .int .i64 (y : Int)] := (hw1 _ (by simp) (fun e => by have := hAt _ e; omega)).trans kI
  have hel : EntO (W.alloc (.cells #[.int .i64 (x : Int), .int .i64 (y : Int)] 3)) (fun k => k = W.heap.size) [.slice (some ⟨W.heap.size, 0, none⟩) 2 2, .int .i64 1] (pr x y) :=
    EntO.mk (xs := [(x : Int), (y : Int)]) (fun k hk => by rw [hk]; simp) (fun k hk => by simp [blk] at hk; exact hk.symm) (IntsOwn.ofBlk (xs := [(x : Int), (y : Int)]) kI (Nat.zero_le _) (by simp [maxLen]))
  have hA' : ∀ k, blk A' = some k → blk A = some k ∨ k = W.heap.size + 2 := fun k hk => by
    rcases hl with e | e
    · exact .inl (by rw [← e]; exact hk)
    · rw [e] at hk; injection hk with hk; exact .inr hk.symm
  have hA4 := World.ownsRow.lt hrow
  rw [ownBlock_slice] at hA4
  have hp := (SlF.push entO (h2.loc entO (fun k hk => hb1.block k (h2.lt k hk))) hel (w' := w4) (U := fun k => tightF A F k ∨ k = W.heap.size ∨ blk A' = some k) (fun k hk ht => by have := h2.lt k ht; omega) hrow hw1 (fun k hk => (hA' k hk).imp id (fun e => by simp; omega)) (fun k hk => hk) (fun k hk => by
    rcases hk with hk | hk | hk
    · have := h2.lt k hk; omega
    · omega
    · exact (hA4 k hk).2)).tight
  have hsB : ∀ k, k ≠ B → (w4.setCell ⟨B, 0, none⟩ (.slice A' (es.length + 1) c')).heap[k]? = w4.heap[k]? := fun k hk => Below.heap_setCell _ _ _ _ hk
  have hsz : (w4.setCell ⟨B, 0, none⟩ (.slice A' (es.length + 1) c')).heap.size = w4.heap.size := by simp [World.setCell]
  have hBA : blk A ≠ some B := fun e => hBt (.inl e)
  have kB4 : Blk w4 B 23 #[.slice A es.length c] := (hW4 B hBl hBA).trans h1
  have hne : ∀ k, tightF A' (fun j => if j = es.length then (fun k => k = W.heap.size) else F j) k → k = W.heap.size ∨ (∃ j, F j k ∧ blk A ≠ some k) ∨ blk A' = some k := fun k hk => by
    rcases hk with hk | ⟨j, hk⟩
    · exact .inr (.inr hk)
    · by_cases e : j = es.length
      · simp [e] at hk; exact .inl hk
      · simp [e] at hk; exact .inr (.inl ⟨j, hk, (h2.sub j k hk).2⟩)
  have hnB : ∀ k, tightF A' (fun j => if j = es.length then (fun k => k = W.heap.size) else F j) k → ∀ q ∈ ex, k ≠ q := fun k hk q hq e => by
    subst e
    obtain ⟨hq1, hq2⟩ := h4 k hq
    rcases hne k hk with e | ⟨j, hj, _⟩ | e
    · omega
    · exact hq1 (.inr ⟨j, hj⟩)
    · rcases hA' k e with e | e
      · exact hq1 (.inl e)
      · omega
  have hgr : GrownS W (w4.setCell ⟨B, 0, none⟩ (.slice A' (es.length + 1) c')) (fun k => k = B ∨ blk A = some k) :=
    ⟨hg.os.trans hb2.os, hg.tape.trans hb2.tape, hg.output.trans hb2.output, by rw [hsz]; omega, fun k hk hn => (hsB k (fun e => hn (.inl e))).trans (hW4 k hk (fun e => hn (.inr e)))⟩
  have hFB : Blk (w4.setCell ⟨B, 0, none⟩ (.slice A' (es.length + 1) c')) B 23 #[.slice A' (es.length + 1) c'] := by simpa using kB4.set_ 0 (.slice A' (es.length + 1) c')
  have hcA : ∀ k o, blk A' = some k → w4.heap[k]? = some o → o.isCells = true := row_cells hrow
  have hls : LsI base B ex (es ++ [pr x y]) (w4.setCell ⟨B, 0, none⟩ (.slice A' (es.length + 1) c')) := by
    refine ⟨A', c', _, _, by rw [List.length_append, List.length_singleton]; exact hFB, hp.loc entO (fun k hk => hsB k (hnB k hk B hBx)), fun k hk => ?_, fun q hq => ⟨fun ht => hnB q ht q hq rfl, by rw [hsz]; have := (h4 q hq).2; omega⟩⟩
    rw [hsB k (hnB k hk B hBx)]
    rcases hne k hk with rfl | ⟨j, hj, hn⟩ | e
    · exact ⟨by have := h1.lt; omega, _, kI4, rfl⟩
    · rw [hW4 k (h2.lt k (.inr ⟨j, hj⟩)) hn]
      exact h3 k (.inr ⟨j, hj⟩)
    · have hk4 := (hA4 k e).2
      refine ⟨?_, w4.heap[k], by simp [hk4], hcA k _ e (by simp [hk4])⟩
      rcases hA' k e with e | e
      · exact (h3 k (.inl e)).1
      · omega
  have hRW : ∀ k, blk A = some k → RowOf W B k := fun k hk => by
    rcases ownsRow_form h2.row with ⟨rfl, _, _⟩ | ⟨g, rfl, _, _, _, _⟩
    · cases hk
    · have : g = k := by simpa [blk] using hk
      subst this
      exact ⟨_, _, _, h1⟩
  have hrow2 : ∀ k, OwB [B] (w4.setCell ⟨B, 0, none⟩ (.slice A' (es.length + 1) c')) k → k = B ∨ blk A' = some k := by
    rintro k ⟨B', hB', rfl | ⟨n, c2, T, hr⟩⟩
    · simp at hB'; exact .inl hB'
    · simp only [List.mem_singleton] at hB'
      subst hB'
      have hb3 := hFB
      unfold Blk at hb3
      rw [hb3] at hr
      injection hr with hr
      injection hr with hr _ _
      have hr2 := congrArg (fun a : Array Value => a[0]?) hr
      simp at hr2
      exact .inr (by rw [hr2.1]; rfl)
  refine ⟨hls, kpO_grown hgr (by omega) (fun k hk => ?_) (fun k hk hlt => ?_) (fun _ => lsI_row hls hbB), fun b => keepsFrom_grown hgr (fun k o hk ho => ?_), hgr, kB4⟩
  · rcases hk with rfl | hk
    · exact ⟨hbB, fun _ => ⟨_, List.mem_singleton.2 rfl, .inl rfl⟩⟩
    · exact ⟨(h3 k (.inl hk)).1, fun _ => ⟨_, List.mem_singleton.2 rfl, .inr (hRW k hk)⟩⟩
  · rcases hrow2 k hk with rfl | hk
    · exact ⟨_, List.mem_singleton.2 rfl, .inl rfl⟩
    · rcases hA' k hk with e | e
      · exact ⟨_, List.mem_singleton.2 rfl, .inr (hRW k e)⟩
      · omega
  · rcases hk with rfl | hk
    · exact blk_cells h1 o ho
    · obtain ⟨-, o', ho', hc'⟩ := h3 k (.inl hk)
      rw [ho] at ho'; cases ho'; exact hc'
end Go.Proofs.YtifjenleoagefaaGreat

/- HELPER, no statement of the seat: the pairs of a relation, as a list of entries. -/
namespace Go.Proofs.YtifjenleoagefaaGreat
open Go.RowKit Go.Sort Go.Shelf
set_option linter.unusedSimpArgs false
set_option linter.unusedVariables false
attribute [local go_sem] Oper.semAt_some

def prsTo (r : List Nat) (k : Nat) : List Ent := (List.range k).flatMap fun x => (vtx (r.getD x 0)).map (pr x)
theorem prsTo_step (r : List Nat) (k : Nat) : prsTo r (k + 1) = prsTo r k ++ (vtx (r.getD k 0)).map (pr k) := by simp [prsTo, List.range_succ]
theorem prsTo_len (r : List Nat) (k : Nat) : (prsTo r k).length ≤ 20 * k := by
  induction k with
  | zero => simp [prsTo]
  | succ k ih =>
    have : (vtx (r.getD k 0)).length ≤ 20 := by
      have := List.length_filter_le (fun y => (r.getD k 0).testBit y) (List.range 20)
      simpa [vtx] using this
    rw [prsTo_step, List.length_append, List.length_map]; omega
theorem prs_srcs {w1 : World} {RA : Option Addr} {n rc : Nat} {x : Int} {E : TypeId} {g : Nat} (hg : w1.heap.size = g) : ∀ j u, [Value.slice RA n rc, .int .i64 x][j]? = some u → (w1.alloc (.cells #[.slice RA n rc, .int .i64 x] E)).cell? ((⟨g, 0, none⟩ : Addr).add j) = some u := by
  intro j u hu
  subst hg
  exact ent_srcs _ rfl j u hu
/-- What stands while the pairs of one vertex are collected. -/
def PrI (w : World) (ds : List Nat) (BX k : Nat) (es : List Ent) (W : World) : Prop :=
  MarksAt ds w.heap.size W ∧ LsI w.heap.size (w.heap.size + 1) [BX, w.heap.size + 1] es W ∧ Blk W BX 3 #[.int .i64 (k : Int)] ∧ Below w.heap.size w W
theorem PrI.below {w : World} {ds : List Nat} {BX k : Nat} {es : List Ent} {W W' : World} (h : PrI w ds BX k es W) (hb : Below W.heap.size W W') : PrI w ds BX k es W' :=
  ⟨h.1.below hb, h.2.1.below hb, h.2.2.1.below hb, btr h.2.2.2 hb⟩
theorem prI_own {β : Type} (w : World) (ds : List Nat) (BX k : Nat) (es : β → List Ent) {B : Nat} (hB : w.heap.size ≤ B) (hd : ∀ D ∈ ds, D < B) : OwnFrom B (fun x W => PrI w ds BX k (es x) W) :=
  OwnFrom.and (marks_own hd) (OwnFrom.and (lsI_own es) (OwnFrom.and ((ownBlk _ _ (fun _ : β => #[.int .i64 (k : Int)])).from _) (ownFrom_below (Nat.le_refl _) hB)))
set_option maxRecDepth 100000 in
set_option maxHeartbeats 6400000 in
theorem pairs_t (r : List Nat) (w : World) (hr : OkR r) :
    Calls Tryz.prog 33 #[.agg (relC r)] w fun e w' => ∃ A c S, e = .returned (.slice A (prs r).length c) ∧ EntsOw w' S A c (prs r) ∧ (∀ k, S k → w.heap.size ≤ k ∧ ∃ o, w'.heap[k]? = some o ∧ o.isCells = true) ∧ Below w.heap.size w w' := by
  obtain ⟨i0, hi, hz0, hz1, hz2⟩ := info_parts Tryz.infoEnt
  refine (callsIn_wide (n := 9)).1 ?_
  refine callsIn_of_wp_marks Tryz.func33 rfl trivial ?_ rfl
  simp only [Tryz.ntmps33, List.size_toArray, List.length_cons, List.length_nil, Nat.reduceAdd, Nat.reduceSub, Array.replicate_succ, Array.replicate_zero, List.push_toArray, List.append_toArray, List.nil_append, List.cons_append]
  have nt : ∀ k, ¬ tightF none (fun _ _ => False) k := fun k hk => by rcases hk with hk | ⟨_, hk⟩ <;> cases hk
  have hL0 : LsI w.heap.size (w.heap.size + 1) [w.heap.size + 1] [] ((w.alloc (.cells (relC r) 49)).alloc (.cells #[.slice none 0 0] 23)) :=
    ⟨none, 0, [], fun _ _ => False, Blk.newAt (by simp), SlF.nil (fun k hk => (nt k hk).elim), fun k hk => (nt k hk).elim, fun x hx => ⟨nt x, by simp at hx; subst hx; simp⟩⟩
  have HL0 := Lib.hid hL0
  have HB0 : Hid (Below w.heap.size w ((w.alloc (.cells (relC r) 49)).alloc (.cells #[.slice none 0 0] 23))) := bal (bal (Below.refl _ _) _) _
  clear hL0
  gi_wp2_with (refine wpListIn_load_row rfl 49 _ rfl w.heap.size rfl 49 (relC r) (0, 0) _ (show Blk _ w.heap.size 49 (relC r) from (Blk.newAt rfl).alloc _) underR rfl (sizeR hr) ?_)
  refine wpIn_loop (fun a' wr => ∃ (ds : List Nat) (k : Nat) (u4 u5 u6 u9 u10 u11 u12 u13 u14 u15 u16 u17 u18 u19 u20 u21 u22 u23 : Value), a' = { tmps := #[.agg (relC r), .pointer (some ⟨w.heap.size, 0, none⟩), .slice none 0 0, .pointer (some ⟨w.heap.size + 1, 0, none⟩), u4, u5, u6, .agg (relC r), .int .i64 ((k : Nat) : Int), u9, u10, u11, u12, u13, u14, u15, u16, u17, u18, u19, u20, u21, u22, u23], defers := markL ds } ∧ k ≤ 20 ∧ MarksAt ds w.heap.size wr ∧ LsI w.heap.size (w.heap.size + 1) [w.heap.size + 1] (prsTo r k) wr ∧ Below w.heap.size w wr) (fun a' _ => 20 - (intOf (a'.tmps.getD 8 undef)).toNat) ?_ ?_
  · exact ⟨[], 0, _, _, _, _, _, _, _, _, _, _, _, _, _, _, _, _, _, _, rfl, by omega, MarksAt.nil _ _, HL0.out, HB0.out⟩
  · rintro _ wr ⟨ds, k, u4, u5, u6, u9, u10, u11, u12, u13, u14, u15, u16, u17, u18, u19, u20, u21, u22, u23, rfl, hk, hM, hL, hbel⟩
    by_cases hlt : k < 20
    · have hix : ∀ W, (Instr.index 49 (.agg (relC r)) (.int .i64 (k : Int))).run Tryz.prog W = .ok (.int .u32 ((r.getD k 0 : Nat) : Int)) W := fun W => run_indexR _ k _ hlt (relC_at (by rw [hr.len]; exact hlt)) W
      have hlt' : (k : Int) < 20 := by omega
      have ha := hr.at k
      have HST := Lib.hid (prsTo_step r k)
      have HLEN := Lib.hid (prsTo_len r k)
      generalize r.getD k 0 = a at *
      have hbA : Below wr.heap.size wr (wr.alloc (.cells #[.int .i64 (k : Int)] 3)) := bal (Below.refl _ _) _
      have hBl := hL.choose_spec.choose_spec.choose_spec.choose_spec.1.lt
      have HH : Hid (PrI w ds wr.heap.size k (prsTo r k) (wr.alloc (.cells #[.int .i64 (k : Int)] 3))) := ⟨hM.below hbA, (hL.more hbA (Nat.le_refl _) (by simp)), Blk.newAt rfl, bal hbel _⟩
      have HML := Lib.hid hM.lt
      clear hM hL hbA
      gi_wp2_with (refine ⟨trivial, ?_⟩; gi_at_call 25; refine (callsIn_wide.2 (vertices_i a _)).mono ?_; rintro e w2 ⟨rfl, hV, hb2⟩)
      have hV1 : Blk w2 (wr.heap.size + 1) 47 #[.int .u32 (a : Int)] := by simpa using hV
      have hI0 := HH.out.below hb2
      have hs2 := hb2.size
      simp at hs2
      have hG := lsI_row hI0.2.1 (Nat.le_succ _)
      have hno : ¬ OwB [w.heap.size + 1] w2 (wr.heap.size + 1) := fun ho => by
        obtain ⟨B, hB, e | ⟨n, c, T, e⟩⟩ := ho
        · simp at hB; subst hB; have := hBl; omega
        · simp only [List.mem_singleton] at hB
          subst hB
          obtain ⟨A, c', css, F, g1, g2, g3, g4⟩ := HH.out.2.1
          have g1' := g1.below hb2
          unfold Blk at g1'
          rw [g1'] at e
          injection e with e
          injection e with e _ _
          have e2 := congrArg (fun a : Array Value => a[0]?) e
          simp at e2
          have := g2.lt (wr.heap.size + 1) (.inl (by rw [e2.1]; rfl))
          simp at this
      have HI := Lib.hid hI0
      clear hV hI0 hbel hb2 HH
      refine wpIn_rangeFunc_ownH rfl (by omega) (gf := 57) (lb := #[.pointer (some ⟨wr.heap.size + 1, 0, none⟩)]) rfl trivial (fun _ _ => rfl)
        (vertices_stops (wr.heap.size + 1) a w.heap.size w2 [w.heap.size + 1] hV1 ha hG hno (9 - 1) (by omega)) kpO_t (kpO_b (by omega) (by simp; omega)) (Below.refl _ _) (fun _ => rfl)
        (fun pre W => PrI w ds wr.heap.size k (prsTo r k ++ (pre.map Fin.val).map (pr k)) W) (fun _ _ _ => False)
        (prI_own w ds wr.heap.size k (fun pre : List (Fin 20) => prsTo r k ++ (pre.map Fin.val).map (pr k)) (by omega) (fun D hD => by have := HML.out D hD; omega)) (fun _ _ _ _ _ hs _ _ => hs) (by simpa using HI.out)
        (fun x a' W => a' = { tmps := #[.agg (relC r), .pointer (some ⟨w.heap.size, 0, none⟩), .slice none 0 0, .pointer (some ⟨w.heap.size + 1, 0, none⟩), .pointer (some ⟨wr.heap.size, 0, none⟩), .int .u32 (a : Int), .int .i64 ((x.1 : Nat) : Int), .agg (relC r), .int .i64 (k : Int), .bool true, .int .i64 (k : Int), .int .u32 (a : Int), .int .u32 (a : Int), .func (.func 57) #[] #[.pointer (some ⟨wr.heap.size + 1, 0, none⟩)], .int .i64 ((x.1 : Nat) : Int), u15, u16, u17, u18, u19, u20, u21, u22, u23], defers := [] })
        (fun x a' _ X Y row hs hg hr => hs)
        ?assign ?body ?done ?stop
      case assign =>
        rintro l pre x W K hI hK
        gi_wp2
        exact hK _ _ ((KeepsOthers.refl _).from _) (kpO_below hI.2.2.2.size (Below.refl _ _)) hI rfl
      case body =>
        rintro l pre x a' W hl - hI rfl hlt2
        obtain ⟨hMk, ⟨A, c, css, F, g1, g2, g3, g4⟩, hX, hB⟩ := hI
        have hx20 : x.1 < 20 := x.2
        have hpl : pre.length ≤ 20 := by
          have : (vtxF a).length ≤ 20 := by have := List.length_filter_le (fun y : Fin 20 => a.testBit y.1) (List.finRange 20); simpa [vtxF] using this
          omega
        have hen : (prsTo r k ++ (pre.map Fin.val).map (pr k)).length ≤ 800 := by
          have := HLEN.out
          rw [List.length_append, List.length_map, List.length_map]; omega
        have HE : Hid (prsTo r k ++ ((pre ++ [x]).map Fin.val).map (pr k) = (prsTo r k ++ (pre.map Fin.val).map (pr k)) ++ [pr k x.1]) := by simp [Hid]
        generalize prsTo r k ++ (pre.map Fin.val).map (pr k) = es at *
        have cX := hX.cell 0
        simp at cX
        have cB := g1.cell 0
        have fB := g1.frozen 0
        simp at cB
        have hbase : ∀ q, blk A = some q → 0 ≤ q := fun q _ => Nat.zero_le _
        have hrow0 := ownsRow_base g2.row hbase
        have hbA1 := bal (Below.refl W.heap.size W) (.cells #[.int .i64 (k : Int), .int .i64 ((x.1 : Nat) : Int)] 3)
        have hrow2 := (g2.loc entO (fun q hq => (bal hbA1 (.cells #[.slice (some ⟨W.heap.size, 0, none⟩) 2 2, .int .i64 1] 33)).block q (g2.lt q hq))).row
        have HG := Lib.hid (And.intro hMk (And.intro hX hB))
        have HS := Lib.hid (And.intro g1 (And.intro g2 (And.intro g3 g4)))
        clear hMk g2 g3 g4 hB hbA1 hrow0
        gi_wp2_with (gi_at_builtin; refine wpListIn_append_own_at _ rfl _ _ 23 rfl 0 33 i0 (.agg #[.slice none 0 0, .int .i64 0]) 2 32 Tryz.underlying23 hi hz0 hz1 hz2 rfl (by decide) _ _ _ rfl hrow2 ⟨W.heap.size + 1, 0, none⟩ 1 1 [.slice (some ⟨W.heap.size, 0, none⟩) 2 2, .int .i64 1] rfl rfl (prs_srcs (by simp)) ent_ones (by unfold maxLen; omega) (by omega) (by simp) ?_)
        intro v' w4 hrow' hgrow hnil hat
        obtain ⟨A', c', rfl⟩ := own_slice hrow'
        rw [ownBlock_slice] at hgrow
        obtain ⟨g1', g2, g3, g4⟩ := HS.out
        obtain ⟨hMk, hX', hB⟩ := HG.out
        obtain ⟨p1, p2, p3, p4, p5⟩ := ls_push k x.1 g1' g2 g3 g4 (by simp) (Nat.le_succ _) hrow' hgrow (by rw [ownBlock_slice] at hat ⊢; rw [ownBlock_slice] at hat; exact hat)
        have cB4 := p5.cell 0
        have fB4 := p5.frozen 0
        simp at cB4
        have hnew : PrI w ds wr.heap.size k (prsTo r k ++ ((pre ++ [x]).map Fin.val).map (pr k)) (w4.setCell ⟨w.heap.size + 1, 0, none⟩ (.slice A' (es.length + 1) c')) := by
          rw [HE.out]
          refine ⟨hMk.kept p4 (fun q hq => ?_), p1, (p4.block wr.heap.size hX'.lt (fun hq => ?_)).trans hX', hB.trans (below_grown p4 hB.size (fun q hq => ?_))⟩
          · rcases hq with rfl | hq
            · exact ⟨_, g1', rfl⟩
            · exact (g3 q (.inl hq)).2
          · rcases hq with hq | hq
            · omega
            · exact (g4 wr.heap.size (by simp)).1 (.inl hq)
          · rcases hq with rfl | hq
            · omega
            · exact (g3 q (.inl hq)).1
        have HN := Lib.hid (And.intro (p3 w2.heap.size) (And.intro p2 hnew))
        clear p1 p2 p3 p4 p5 hnew hrow' hgrow hnil hat g1' g2 g3 g4 hMk hX' hB HS HG hrow2 hX g1 cX cB fB
        gi_wp2
        exact HN.out
      case done =>
        rintro D ys W hD rfl hI hK
        have HI2 := Lib.hid hI
        have HK2 := Lib.hid hK
        clear hI hK
        gi_wp2_with fail
        obtain ⟨hMk, hL, hX, hB⟩ := HI2.out
        rw [vtxF_val, ← HST.out] at hL
        exact ⟨⟨D :: ds, k + 1, _, _, _, _, _, _, _, _, _, _, _, _, _, _, _, _, _, _, rfl, by omega, hMk.cons HK2.out (by omega) (fun x hx => by have := HML.out x hx; omega), hL.less (by simp), hB⟩, by simp [intOf]; omega⟩
      case stop =>
        rintro D c pre W _ _ h _
        exact h.elim
    · obtain rfl : k = 20 := by omega
      have HM := Lib.hid hM
      have H3 := Lib.hid hbel
      rw [show prsTo r 20 = prs r from rfl] at hL
      obtain ⟨A, c, css, F, g1, g2, g3, g4⟩ := hL
      have cB := g1.cell 0
      simp at cB
      have HG := Lib.hid (And.intro g2 g3)
      clear hM hbel g1 g2 g3 g4
      gi_wp2_with fail
      refine leaves_marks ds _ HM.out (fun w' hw' => ?_)
      have hq : ∀ q, tightF A F q → w'.heap[q]? = wr.heap[q]? := fun q hq => by
        obtain ⟨-, o, ho, hc⟩ := HG.out.2 q hq
        rw [hw'.cells q o ho hc, ho]
      exact ⟨_, results_tmp rfl _ _ _, A, c, tightF A F, rfl, ⟨_, _, HG.out.1.loc entO hq⟩, fun q h => ⟨(HG.out.2 q h).1, by rw [hq q h]; exact (HG.out.2 q h).2⟩, hw'.below H3.out⟩
theorem pairs_i (r : List Nat) (w : World) (hr : OkR r) :
    Calls Tryz.prog 33 #[.agg (relC r)] w fun e w' => ∃ A c, e = .returned (.slice A (prs r).length c) ∧ EntsOw w' (news w w') A c (prs r) ∧ Below w.heap.size w w' :=
  (pairs_t r w hr).mono fun _ w' ⟨A, c, S, he, ho, hS, hb⟩ => ⟨A, c, he, SlOw.mono ho (fun k hk => ⟨(hS k hk).1, SlOw.lt ho k hk⟩) (fun k hk => hk.2), hb⟩
end Go.Proofs.YtifjenleoagefaaGreat

/- HELPER, no statement of the seat: the program's closure and its rounds. -/
namespace Go.Proofs.YtifjenleoagefaaGreat
open Go.RowKit Go.Sort
set_option linter.unusedSimpArgs false
set_option linter.unusedVariables false
set_option maxHeartbeats 1600000 in
theorem Closure_i (A : Option Addr) (c : Nat) (es : List Ent) (w : World) (hx : EntsAt w A es) (hn : es.length ≤ 4194304) (hr : rowsIn es 4194304) :
    Calls Tryz.prog 13 #[.slice A es.length c] w fun e w' => ∃ A' c', e = .returned (.slice A' (ClosF es).length c') ∧ EntsOw w' (news w w') A' c' (ClosF es) ∧ Below w.heap.size w w' := by
  have hv := ValidEdges_i A c es w hx hn hr
  have HX := Lib.hid hx
  cases h1 : edgB es
  · have HT : Hid (ClosF es = []) := by simp [Hid, ClosF, h1]
    rw [h1] at hv
    clear h1
    go_enter Tryz.func13, Tryz.ntmps13
    go_wp2_with fail
    refine hv.mono ?_
    rintro e w1 ⟨rfl, b1⟩
    clear hv
    go_wp2_with fail
    go_ret
    rw [HT.out]
    exact ⟨none, 0, rfl, ⟨_, _, SlF.nil (fun k hk => hk.2)⟩, b1⟩
  · have hro := relOf_ok h1
    have hcl := closR_ok hro
    have HT : Hid (ClosF es = prs (closR (relOf es))) := by simp [Hid, ClosF, h1]
    have HE := Lib.hid h1
    rw [h1] at hv
    clear h1
    go_enter Tryz.func13, Tryz.ntmps13
    go_wp2_with fail
    refine hv.mono ?_
    rintro e w1 ⟨rfl, b1⟩
    clear hv
    go_wp2_with fail
    refine (relationOf_i _ _ es _ (HX.out.below entR b1) HE.out).mono ?_
    rintro e w3 ⟨rfl, b3⟩
    have HB3 := Lib.hid (btr b1 b3)
    clear b1 b3
    go_wp2_with fail
    refine (closure_w _ _ hro).mono ?_
    rintro e w4 ⟨rfl, b4⟩
    have HB4 := Lib.hid (btr HB3.out b4)
    clear b4 HB3
    go_wp2_with fail
    refine (pairs_i _ _ hcl).mono ?_
    rintro e w5 ⟨A', c', rfl, ho, b5⟩
    have HO := Lib.hid (ho.mono (S' := news w w5) (fun k hk => ⟨by have := hk.1; have := HB4.out.size; omega, hk.2⟩) (fun k hk => hk.2))
    have HB5 := Lib.hid (btr HB4.out b5)
    clear ho b5 HB4
    go_wp2_with fail
    go_ret
    rw [HT.out]
    exact ⟨A', c', rfl, HO.out, HB5.out⟩
end Go.Proofs.YtifjenleoagefaaGreat
