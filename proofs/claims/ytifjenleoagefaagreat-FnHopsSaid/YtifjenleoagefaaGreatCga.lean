/- HELPER, no statement of the seat: several texts in one file. -/
import Derived.Test.YtifjenleoagefaaGreatZbx
import Derived.Test.YtifjenleoagefaaGreatEdg
/- HELPER, no statement of the seat: relations of twenty vertices, as lists of numbers and as sets of pairs. -/
namespace Go.Proofs.YtifjenleoagefaaGreat
open Go.RowKit Go.Sort
set_option linter.unusedSimpArgs false
set_option linter.unusedVariables false

/-! Sets of rows: sorted lists whose weights are 1. -/
def Ones (l : List Ent) : Prop := ∀ e ∈ l, e.2 = 1
theorem ones_wsum {l : List Ent} (ha : Asc lessB l) (h1 : Ones l) (r : List Int) : wsum l r = if (r, 1) ∈ l then 1 else 0 := by
  induction l with
  | nil => simp [wsum_nil]
  | cons x l ih =>
    rw [wsum_cons]
    have hx1 : x.2 = 1 := h1 x (by simp)
    have hl := ih (List.Pairwise.of_cons ha) (fun e he => h1 e (by simp [he]))
    by_cases hr : x.1 = r
    · subst hr
      have hz : wsum l x.1 = 0 := wsum_zero (fun y hy e => by
        have := List.rel_of_pairwise_cons ha hy
        rw [e] at this
        rw [rowTot.irrefl] at this; cases this)
      rw [hz, if_pos rfl, hx1, if_pos (by rw [show (x.1, (1 : Int)) = x from by rw [← hx1]]; simp)]
      rfl
    · rw [if_neg hr, hl, Int.zero_add]
      have : ((r, (1 : Int)) ∈ x :: l) ↔ ((r, (1 : Int)) ∈ l) := by
        constructor
        · intro h
          rcases List.mem_cons.1 h with h | h
          · exact absurd (by rw [← h]) hr
          · exact h
        · exact fun h => List.mem_cons_of_mem _ h
      simp only [this]
theorem ones_ext {l m : List Ent} (hl : Asc lessB l) (hm : Asc lessB m) (l1 : Ones l) (m1 : Ones m) (h : ∀ r, (r, 1) ∈ l ↔ (r, 1) ∈ m) : l = m :=
  asc_ext rowTot hl hm (fun x hx => by rw [l1 x hx]; decide) (fun x hx => by rw [m1 x hx]; decide) (fun r => by rw [ones_wsum hl l1, ones_wsum hm m1]; simp only [h])
theorem ones_wOf {l : List Ent} (h1 : Ones l) (r : List Int) : wOf l r = if (r, 1) ∈ l then 1 else 0 := by
  induction l with
  | nil => simp [wOf]
  | cons x l ih =>
    have hx1 : x.2 = 1 := h1 x (by simp)
    have hl := ih (fun e he => h1 e (by simp [he]))
    unfold wOf at hl ⊢
    by_cases hr : x.1 = r
    · subst hr
      rw [List.find?_cons_of_pos (by simp), if_pos (by rw [show (x.1, (1 : Int)) = x from by rw [← hx1]]; simp)]
      simp [hx1]
    · rw [List.find?_cons_of_neg (by simpa using hr), hl]
      have : ((r, (1 : Int)) ∈ x :: l) ↔ ((r, (1 : Int)) ∈ l) := by
        constructor
        · intro h
          rcases List.mem_cons.1 h with h | h
          · exact absurd (by rw [← h]) hr
          · exact h
        · exact fun h => List.mem_cons_of_mem _ h
      simp only [this]
theorem disL_ones (l : List Ent) : Ones (disL l) := fun e he => by
  unfold disL at he
  obtain ⟨x, _, rfl⟩ := List.mem_map.1 he
  rfl
theorem disL_ascR {l : List Ent} (h : Asc lessB l) : Asc lessB (disL l) := by
  unfold disL Asc
  rw [List.pairwise_map]
  exact List.Pairwise.sublist List.filter_sublist h
theorem wsum_mem {l : List Ent} (ha : Asc lessB l) {e : Ent} (he : e ∈ l) : wsum l e.1 = e.2 := by
  induction l with
  | nil => cases he
  | cons x l ih =>
    rw [wsum_cons]
    rcases List.mem_cons.1 he with rfl | h
    · rw [if_pos rfl, wsum_zero (fun y hy e' => by
        have := List.rel_of_pairwise_cons ha hy
        rw [e'] at this
        rw [rowTot.irrefl] at this; cases this)]
      omega
    · rw [ih (List.Pairwise.of_cons ha) h, if_neg (fun e' => by
        have := List.rel_of_pairwise_cons ha h
        rw [e'] at this
        rw [rowTot.irrefl] at this; cases this)]
      omega
theorem disL_oneR {l : List Ent} (ha : Asc lessB l) (r : List Int) : (r, 1) ∈ disL l ↔ 0 < wsum l r := by
  constructor
  · intro h
    unfold disL at h
    obtain ⟨x, hx, e⟩ := List.mem_map.1 h
    obtain ⟨hx, hp⟩ := List.mem_filter.1 hx
    have hr : x.1 = r := congrArg (·.1) e
    rw [← hr, wsum_mem ha hx]
    simpa using hp
  · intro h
    by_cases hk : ∃ x ∈ l, x.1 = r
    · obtain ⟨x, hx, rfl⟩ := hk
      rw [wsum_mem ha hx] at h
      exact List.mem_map.2 ⟨x, List.mem_filter.2 ⟨hx, by simpa using h⟩, rfl⟩
    · rw [wsum_zero (fun x hx e => hk ⟨x, hx, e⟩)] at h
      omega
/-- A sum of ones is positive where one of them is. -/
theorem ones_pos {l : List Ent} (h1 : Ones l) (r : List Int) : 0 < wsum l r ↔ (r, 1) ∈ l := by
  induction l with
  | nil => simp [wsum_nil]
  | cons x l ih =>
    have hx1 : x.2 = 1 := h1 x (by simp)
    have hl1 : Ones l := fun e he => h1 e (by simp [he])
    have hnn : 0 ≤ wsum l r := by
      clear ih hx1 h1
      induction l with
      | nil => simp [wsum_nil]
      | cons y l ih2 =>
        rw [wsum_cons]
        have := ih2 (fun e he => hl1 e (by simp [he]))
        have hy := hl1 y (by simp)
        split <;> omega
    rw [wsum_cons]
    by_cases hr : x.1 = r
    · rw [if_pos hr]
      refine ⟨fun _ => ?_, fun _ => by omega⟩
      rw [show (r, (1 : Int)) = x from by rw [← hx1, ← hr]]
      simp
    · rw [if_neg hr, Int.zero_add, ih hl1]
      constructor
      · exact fun h => List.mem_cons_of_mem _ h
      · intro h
        rcases List.mem_cons.1 h with h | h
        · exact absurd (by rw [← h]) hr
        · exact h

/-! Relations. -/
def hasR (r : List Nat) (x y : Nat) : Bool := (r.getD x 0).testBit y
def pr (x y : Nat) : Ent := ([(x : Int), (y : Int)], 1)
def vtx (a : Nat) : List Nat := (List.range 20).filter fun y => a.testBit y
def prs (r : List Nat) : List Ent := (List.range 20).flatMap fun x => (vtx (r.getD x 0)).map (pr x)
def zeroR : List Nat := List.replicate 20 0
theorem gd_lt {r : List Nat} {x : Nat} (h : x < r.length) : r.getD x 0 = r[x] := by simp [List.getD, h]
theorem gd_ge {r : List Nat} {x : Nat} (h : r.length ≤ x) : r.getD x 0 = 0 := by simp [List.getD, List.getElem?_eq_none h]
structure OkR (r : List Nat) : Prop where
  len : r.length = 20
  bits : ∀ a ∈ r, a < 1048576
theorem OkR.at {r : List Nat} (h : OkR r) (x : Nat) : r.getD x 0 < 1048576 := by
  by_cases hx : x < r.length
  · rw [gd_lt hx]; exact h.bits _ (List.getElem_mem hx)
  · rw [gd_ge (by omega)]; decide
theorem OkR.big {r : List Nat} (h : OkR r) {x y : Nat} (hy : 20 ≤ y) : hasR r x y = false := by
  unfold hasR
  exact Nat.testBit_lt_two_pow (Nat.lt_of_lt_of_le (h.at x) (show 1048576 ≤ 2 ^ y from by
    have : 2 ^ 20 ≤ 2 ^ y := Nat.pow_le_pow_right (by decide) hy
    simpa using this))
theorem hasR_out {r : List Nat} (h : OkR r) {x y : Nat} (hx : 20 ≤ x) : hasR r x y = false := by
  unfold hasR
  rw [gd_ge (by rw [h.len]; exact hx)]
  simp
theorem zeroR_ok : OkR zeroR := ⟨by simp [zeroR], fun a ha => by rw [List.eq_of_mem_replicate ha]; decide⟩
theorem zeroR_has (x y : Nat) : hasR zeroR x y = false := by
  unfold hasR zeroR
  rw [List.getD_eq_getElem?_getD, List.getElem?_replicate]
  split <;> simp
theorem mem_vtx {a y : Nat} : y ∈ vtx a ↔ y < 20 ∧ a.testBit y = true := by simp [vtx]
theorem mem_prs {r : List Nat} {e : Ent} : e ∈ prs r ↔ ∃ x y, x < 20 ∧ y < 20 ∧ hasR r x y = true ∧ e = pr x y := by
  unfold prs
  simp only [List.mem_flatMap, List.mem_range, List.mem_map, mem_vtx]
  constructor
  · rintro ⟨x, hx, y, ⟨hy, hb⟩, rfl⟩; exact ⟨x, y, hx, hy, hb, rfl⟩
  · rintro ⟨x, y, hx, hy, hb, rfl⟩; exact ⟨x, hx, y, ⟨hy, hb⟩, rfl⟩
theorem pr_inj {x y x' y' : Nat} (h : pr x y = pr x' y') : x = x' ∧ y = y' := by
  have h1 := congrArg (fun e : Ent => e.1) h
  simp [pr] at h1
  omega
theorem has_prs {r : List Nat} (hr : OkR r) (x y : Nat) : pr x y ∈ prs r ↔ hasR r x y = true := by
  rw [mem_prs]
  constructor
  · rintro ⟨x', y', _, _, hb, e⟩
    obtain ⟨rfl, rfl⟩ := pr_inj e
    exact hb
  · intro h
    refine ⟨x, y, ?_, ?_, h, rfl⟩
    · apply Decidable.byContradiction; intro hx; rw [hasR_out hr (by omega)] at h; cases h
    · apply Decidable.byContradiction; intro hy; rw [hr.big (by omega)] at h; cases h
theorem prs_ones (r : List Nat) : Ones (prs r) := fun e he => by
  obtain ⟨x, y, _, _, _, rfl⟩ := mem_prs.1 he
  rfl
theorem less2 (a b c d : Int) : lessB [a, b] [c, d] = decide (a < c ∨ a = c ∧ b < d) := by
  simp only [lessB, cmpL, cmpI]
  by_cases h1 : a < c
  · simp [h1]
  · by_cases h2 : c < a
    · have : a ≠ c := by omega
      simp [h1, h2, this]
    · obtain rfl : a = c := by omega
      by_cases h3 : b < d
      · simp [h3]
      · by_cases h4 : d < b
        · simp [h3, h4]
        · simp [h3, h4]
theorem prs_asc (r : List Nat) : Asc lessB (prs r) := by
  unfold Asc prs
  rw [List.pairwise_flatMap]
  constructor
  · intro x _
    rw [List.pairwise_map]
    refine List.Pairwise.sublist List.filter_sublist (List.pairwise_lt_range.imp ?_)
    intro a b hab
    simp only [pr, less2]
    simp; omega
  · refine List.pairwise_lt_range.imp ?_
    intro a b hab e he f hf
    obtain ⟨y, _, rfl⟩ := List.mem_map.1 he
    obtain ⟨z, _, rfl⟩ := List.mem_map.1 hf
    simp only [pr, less2]
    simp; omega
theorem flatR_len {α β : Type} (f : α → List β) (n : Nat) (h : ∀ x, (f x).length ≤ n) : ∀ l : List α, (l.flatMap f).length ≤ l.length * n
  | [] => by simp
  | x :: l => by
    have h1 := flatR_len f n h l
    have h2 := h x
    rw [List.flatMap_cons, List.length_append, List.length_cons, Nat.add_mul, Nat.one_mul]
    omega
theorem vtx_len (a : Nat) : (vtx a).length ≤ 20 := by
  have := List.length_filter_le (fun y => a.testBit y) (List.range 20)
  simpa [vtx] using this
theorem prs_len (r : List Nat) : (prs r).length ≤ 400 := by
  have := flatR_len (fun x => (vtx (r.getD x 0)).map (pr x)) 20 (fun x => by rw [List.length_map]; exact vtx_len _) (List.range 20)
  simpa [prs] using this
theorem prs_row (r : List Nat) : ∀ e ∈ prs r, rowB e.1 = true ∧ e.1.length = 2 := fun e he => by
  obtain ⟨x, y, hx, hy, _, rfl⟩ := mem_prs.1 he
  refine ⟨?_, rfl⟩
  simp [pr, rowB, inB]
  omega
theorem prs_zs (r : List Nat) : zsB (prs r) = true :=
  zsB_mk (n := 2) (prs_len r) (fun e he => by
    have h1 := prs_ones r e he
    have h2 := (prs_row r e he).1
    simp [sumE, h1, h2, wtB, inB]) (fun e he => by rw [prs_ones r e he]; decide) (fun e he => (prs_row r e he).2) (prs_asc r)
theorem prs_ext {r s : List Nat} (hr : OkR r) (hs : OkR s) : prs r = prs s ↔ ∀ x y, hasR r x y = hasR s x y := by
  constructor
  · intro h x y
    have h1 := has_prs hr x y
    rw [h, has_prs hs] at h1
    exact Bool.eq_iff_iff.2 h1.symm
  · intro h
    refine ones_ext (prs_asc r) (prs_asc s) (prs_ones r) (prs_ones s) (fun k => ?_)
    rw [mem_prs, mem_prs]
    simp only [h]
theorem prs_nil {r : List Nat} (hr : OkR r) : prs r = [] ↔ ∀ x y, hasR r x y = false := by
  constructor
  · intro h x y
    have := has_prs hr x y
    rw [h] at this
    cases hb : hasR r x y
    · rfl
    · rw [hb] at this; simp at this
  · intro h
    apply List.eq_nil_iff_forall_not_mem.2
    intro e he
    obtain ⟨x, y, _, _, hb, _⟩ := mem_prs.1 he
    rw [h] at hb; cases hb
theorem rel_zero {r : List Nat} (hr : OkR r) : r = zeroR ↔ prs r = [] := by
  rw [prs_nil hr]
  constructor
  · rintro rfl x y; exact zeroR_has x y
  · intro h
    apply List.ext_getElem (by rw [hr.len]; simp [zeroR])
    intro i h1 h2
    have h0 : r[i] = 0 := by
      apply Nat.eq_of_testBit_eq
      intro y
      have := h i y
      rw [hasR, gd_lt h1] at this
      rw [this]; simp
    rw [h0]; exact (List.eq_of_mem_replicate (List.getElem_mem h2)).symm
end Go.Proofs.YtifjenleoagefaaGreat

/- HELPER, no statement of the seat: relations: unions, differences, compositions, the rounds of a closure; no program. -/
namespace Go.Proofs.YtifjenleoagefaaGreat
open Go.RowKit Go.Sort
set_option linter.unusedSimpArgs false
set_option linter.unusedVariables false

theorem edgeE_row {e : Ent} (h : edgeE e = true) : ∃ X Y : Nat, X < 20 ∧ Y < 20 ∧ e.1 = [(X : Int), (Y : Int)] := by
  obtain ⟨xs, v⟩ := e
  simp only [edgeE, Bool.and_eq_true, decide_eq_true_eq, inB] at h
  obtain ⟨hl, h0, h1⟩ := h
  match xs, hl with
  | [a, b], _ =>
    simp only [gi, List.getD_cons_zero, List.getD_cons_succ] at h0 h1
    exact ⟨a.toNat, b.toNat, by omega, by omega, by simp; omega⟩
theorem edgB_parts {es : List Ent} (h : edgB es = true) : zsB es = true ∧ Ones es ∧ ∀ e ∈ es, edgeE e = true := by
  simp only [edgB, setB, oneB, Bool.and_eq_true] at h
  obtain ⟨⟨h1, h2⟩, h3⟩ := h
  refine ⟨h1, fun e he => ?_, fun e he => ?_⟩
  · obtain ⟨j, hj, rfl⟩ := List.getElem_of_mem he
    have := allTo_iff.1 h2 j hj
    rw [nth_get hj] at this
    simpa using this
  · obtain ⟨j, hj, rfl⟩ := List.getElem_of_mem he
    have := allTo_iff.1 h3 j hj
    rwa [nth_get hj] at this
theorem prs_edg (r : List Nat) : edgB (prs r) = true := by
  simp only [edgB, setB, oneB, Bool.and_eq_true]
  refine ⟨⟨prs_zs r, allTo_iff.2 fun j hj => ?_⟩, allTo_iff.2 fun j hj => ?_⟩
  · rw [nth_get hj, prs_ones r _ (List.getElem_mem hj)]; rfl
  · rw [nth_get hj]
    obtain ⟨x, y, hx, hy, _, e⟩ := mem_prs.1 (List.getElem_mem hj)
    rw [e]
    simp [edgeE, pr, gi, inB]
    omega

/-! The relation of edges. -/
def setR (r : List Nat) (x y : Nat) : List Nat := r.set x (r.getD x 0 ||| 2 ^ y)
def relOf (es : List Ent) : List Nat := es.foldl (fun r e => setR r (gi e.1 0).toNat (gi e.1 1).toNat) zeroR
theorem setR_ok {r : List Nat} (h : OkR r) {x y : Nat} (hy : y < 20) : OkR (setR r x y) := by
  refine ⟨by simp [setR, h.len], fun a ha => ?_⟩
  rcases List.mem_or_eq_of_mem_set ha with h' | rfl
  · exact h.bits a h'
  · have h1 : r.getD x 0 < 2 ^ 20 := h.at x
    have h2 : 2 ^ y < 2 ^ 20 := Nat.pow_lt_pow_right (by decide) hy
    exact Nat.or_lt_two_pow h1 h2
theorem setR_has {r : List Nat} (h : OkR r) {X Y : Nat} (hX : X < 20) (x y : Nat) : hasR (setR r X Y) x y = (hasR r x y || (decide (x = X) && decide (y = Y))) := by
  unfold hasR setR
  by_cases hx : x = X
  · subst hx
    rw [gd_lt (by simp [h.len]; exact hX), List.getElem_set_self, Nat.testBit_or, Nat.testBit_two_pow]
    simp [eq_comm]
  · by_cases hl : x < r.length
    · rw [gd_lt (by simpa using hl), gd_lt hl, List.getElem_set_ne (by omega)]
      simp [hx]
    · rw [gd_ge (by simp; omega), gd_ge (by omega)]
      simp [hx]
theorem fold_rel : ∀ (es : List Ent) (r : List Nat), OkR r → (∀ e ∈ es, edgeE e = true) →
    OkR (es.foldl (fun r e => setR r (gi e.1 0).toNat (gi e.1 1).toNat) r) ∧ ∀ x y, hasR (es.foldl (fun r e => setR r (gi e.1 0).toNat (gi e.1 1).toNat) r) x y = true ↔ hasR r x y = true ∨ ∃ e ∈ es, e.1 = [(x : Int), (y : Int)]
  | [], r, h, _ => ⟨h, fun x y => by simp⟩
  | e :: es, r, h, he => by
    obtain ⟨X, Y, hX, hY, e1⟩ := edgeE_row (he e (by simp))
    have hg0 : (gi e.1 0).toNat = X := by rw [e1]; rfl
    have hg1 : (gi e.1 1).toNat = Y := by rw [e1]; rfl
    obtain ⟨h1, h2⟩ := fold_rel es (setR r X Y) (setR_ok h hY) (fun f hf => he f (by simp [hf]))
    rw [List.foldl_cons, hg0, hg1]
    refine ⟨h1, fun x y => ?_⟩
    rw [h2, setR_has h hX]
    simp only [Bool.or_eq_true, Bool.and_eq_true, decide_eq_true_eq, List.mem_cons, exists_eq_or_imp, e1]
    have : (x = X ∧ y = Y) ↔ [(X : Int), (Y : Int)] = [(x : Int), (y : Int)] := by
      constructor
      · rintro ⟨rfl, rfl⟩; rfl
      · intro h; simp at h; omega
    rw [this, or_assoc]
theorem relOf_ok {es : List Ent} (h : edgB es = true) : OkR (relOf es) := (fold_rel es zeroR zeroR_ok (edgB_parts h).2.2).1
theorem relOf_has {es : List Ent} (h : edgB es = true) (x y : Nat) : hasR (relOf es) x y = true ↔ pr x y ∈ es := by
  have := (fold_rel es zeroR zeroR_ok (edgB_parts h).2.2).2 x y
  rw [zeroR_has] at this
  unfold relOf
  rw [this]
  constructor
  · rintro (h' | ⟨e, he, e1⟩)
    · cases h'
    · have h1 := (edgB_parts h).2.1 e he
      rw [show pr x y = e from by rw [pr, ← e1, ← h1]]
      exact he
  · exact fun h' => .inr ⟨_, h', rfl⟩
theorem prs_relOf {es : List Ent} (h : edgB es = true) : prs (relOf es) = es := by
  obtain ⟨hz, h1, he⟩ := edgB_parts h
  refine ones_ext (prs_asc _) (zsB_asc hz) (prs_ones _) h1 (fun k => ?_)
  constructor
  · intro hk
    obtain ⟨x, y, _, _, hb, e⟩ := mem_prs.1 hk
    rw [e]
    exact (relOf_has h x y).1 hb
  · intro hk
    obtain ⟨X, Y, hX, hY, e1⟩ := edgeE_row (he _ hk)
    have : (k, (1 : Int)) = pr X Y := by rw [pr, ← e1]
    rw [this] at hk ⊢
    exact (has_prs (relOf_ok h) X Y).2 ((relOf_has h X Y).2 hk)

/-! Unions, differences, common pairs, compositions. -/
def orR (r s : List Nat) : List Nat := List.zipWith (fun a b => a ||| b) r s
def andR (r s : List Nat) : List Nat := List.zipWith (fun a b => a &&& b) r s
def nandR (r s : List Nat) : List Nat := List.zipWith (fun a b => a &&& (4294967295 - b)) r s
theorem zip_at {f : Nat → Nat → Nat} (hf : f 0 0 = 0) {r s : List Nat} (hr : r.length = 20) (hs : s.length = 20) (x : Nat) : (List.zipWith f r s).getD x 0 = f (r.getD x 0) (s.getD x 0) := by
  by_cases hx : x < 20
  · rw [gd_lt (by simp [hr, hs]; exact hx), gd_lt (by omega), gd_lt (by omega), List.getElem_zipWith]
  · rw [gd_ge (by simp [hr, hs]; omega), gd_ge (by omega), gd_ge (by omega), hf]
theorem zip_ok {f : Nat → Nat → Nat} (hf : ∀ a b, a < 1048576 → b < 1048576 → f a b < 1048576) {r s : List Nat} (hr : OkR r) (hs : OkR s) : OkR (List.zipWith f r s) := by
  refine ⟨by simp [hr.len, hs.len], fun a ha => ?_⟩
  obtain ⟨i, hi, rfl⟩ := List.getElem_of_mem ha
  rw [List.getElem_zipWith]
  exact hf _ _ (hr.bits _ (List.getElem_mem _)) (hs.bits _ (List.getElem_mem _))
theorem orR_ok {r s : List Nat} (hr : OkR r) (hs : OkR s) : OkR (orR r s) := zip_ok (fun a b ha hb => Nat.or_lt_two_pow (n := 20) ha hb) hr hs
theorem andR_ok {r s : List Nat} (hr : OkR r) (hs : OkR s) : OkR (andR r s) := zip_ok (fun a b ha hb => Nat.lt_of_le_of_lt Nat.and_le_left ha) hr hs
theorem nandR_ok {r s : List Nat} (hr : OkR r) (hs : OkR s) : OkR (nandR r s) := zip_ok (fun a b ha hb => Nat.lt_of_le_of_lt Nat.and_le_left ha) hr hs
theorem orR_has {r s : List Nat} (hr : OkR r) (hs : OkR s) (x y : Nat) : hasR (orR r s) x y = (hasR r x y || hasR s x y) := by
  unfold hasR orR
  rw [zip_at (by rfl) hr.len hs.len, Nat.testBit_or]
theorem andR_has {r s : List Nat} (hr : OkR r) (hs : OkR s) (x y : Nat) : hasR (andR r s) x y = (hasR r x y && hasR s x y) := by
  unfold hasR andR
  rw [zip_at (by rfl) hr.len hs.len, Nat.testBit_and]
theorem nand_bit {a b y : Nat} (ha : a < 4294967296) (hb : b < 4294967296) : (a &&& (4294967295 - b)).testBit y = (a.testBit y && !b.testBit y) := by
  rw [Nat.testBit_and, show 4294967295 - b = 2 ^ 32 - (b + 1) from by omega, Nat.testBit_two_pow_sub_succ (by simpa using hb)]
  by_cases hy : y < 32
  · simp [hy]
  · have : a.testBit y = false := Nat.testBit_lt_two_pow (Nat.lt_of_lt_of_le ha (show 4294967296 ≤ 2 ^ y from by
      have : 2 ^ 32 ≤ 2 ^ y := Nat.pow_le_pow_right (by decide) (by omega)
      simpa using this))
    simp [this]
theorem nandR_has {r s : List Nat} (hr : OkR r) (hs : OkR s) (x y : Nat) : hasR (nandR r s) x y = (hasR r x y && !hasR s x y) := by
  unfold hasR nandR
  rw [zip_at (f := fun a b => a &&& (4294967295 - b)) (by decide) hr.len hs.len, nand_bit (by have := hr.at x; omega) (by have := hs.at x; omega)]
def orTo (s : List Nat) (c : Nat) (l : List Nat) : Nat := l.foldl (fun c y => c ||| s.getD y 0) c
theorem orTo_bit (s : List Nat) : ∀ (l : List Nat) (c z : Nat), (orTo s c l).testBit z = true ↔ c.testBit z = true ∨ ∃ y ∈ l, hasR s y z = true
  | [], c, z => by simp [orTo]
  | y :: l, c, z => by
    have := orTo_bit s l (c ||| s.getD y 0) z
    unfold orTo at this ⊢
    rw [List.foldl_cons, this, Nat.testBit_or]
    simp [hasR, or_assoc]
theorem orTo_lt {s : List Nat} (hs : OkR s) : ∀ (l : List Nat) (c : Nat), c < 1048576 → orTo s c l < 1048576
  | [], c, h => h
  | y :: l, c, h => by
    unfold orTo
    rw [List.foldl_cons]
    exact orTo_lt hs l _ (Nat.or_lt_two_pow (n := 20) h (hs.at y))
def thenR (r s : List Nat) : List Nat := r.map fun a => orTo s 0 (vtx a)
theorem thenR_ok {r s : List Nat} (hr : OkR r) (hs : OkR s) : OkR (thenR r s) := by
  refine ⟨by simp [thenR, hr.len], fun a ha => ?_⟩
  obtain ⟨b, _, rfl⟩ := List.mem_map.1 ha
  exact orTo_lt hs _ _ (by decide)
theorem thenR_has {r s : List Nat} (hr : OkR r) (x z : Nat) : hasR (thenR r s) x z = true ↔ ∃ y, hasR r x y = true ∧ hasR s y z = true := by
  by_cases hx : x < 20
  · have : (thenR r s).getD x 0 = orTo s 0 (vtx (r.getD x 0)) := by
      rw [gd_lt (by simp [thenR, hr.len]; exact hx), gd_lt (by rw [hr.len]; exact hx)]
      simp [thenR]
    rw [hasR, this, orTo_bit]
    simp only [Nat.zero_testBit, Bool.false_eq_true, false_or, mem_vtx]
    constructor
    · rintro ⟨y, ⟨_, h1⟩, h2⟩; exact ⟨y, h1, h2⟩
    · rintro ⟨y, h1, h2⟩
      refine ⟨y, ⟨?_, h1⟩, h2⟩
      apply Decidable.byContradiction; intro hy; rw [hr.big (by omega)] at h1; cases h1
  · have h1 : hasR (thenR r s) x z = false := by
      unfold hasR
      rw [gd_ge (by simp [thenR, hr.len]; omega)]
      simp
    rw [h1]
    simp only [Bool.false_eq_true, false_iff]
    rintro ⟨y, h2, _⟩
    rw [hasR_out hr (by omega)] at h2; cases h2

/-! The same on sets of pairs. -/
def cmpsE (a b : List Ent) : List Ent := a.flatMap fun e => (b.filter fun f => decide (gi e.1 1 = gi f.1 0)).map fun f => ([gi e.1 0, gi f.1 1], 1)
def compE (a b : List Ent) : List Ent := disL (AddL [] (cmpsE a b))
def minE (a b : List Ent) : List Ent := a.filter fun e => decide (wOf b e.1 = 0)
theorem cmpsE_ones (a b : List Ent) : Ones (cmpsE a b) := fun e he => by
  simp only [cmpsE, List.mem_flatMap, List.mem_map] at he
  obtain ⟨_, _, _, _, rfl⟩ := he
  rfl
theorem asc_nil : Asc lessB ([] : List Ent) := List.Pairwise.nil
theorem compE_mem (a b : List Ent) (k : List Int) : (k, 1) ∈ compE a b ↔ ∃ e ∈ a, ∃ f ∈ b, gi e.1 1 = gi f.1 0 ∧ k = [gi e.1 0, gi f.1 1] := by
  unfold compE
  rw [disL_oneR (AddL_asc asc_nil _), AddL_wsum, wsum_nil, Int.zero_add, ones_pos (cmpsE_ones a b)]
  simp only [cmpsE, List.mem_flatMap, List.mem_map, List.mem_filter, decide_eq_true_eq]
  constructor
  · rintro ⟨e, he, f, ⟨hf, h1⟩, h2⟩
    exact ⟨e, he, f, hf, h1, (congrArg (fun e : Ent => e.1) h2).symm⟩
  · rintro ⟨e, he, f, hf, h1, rfl⟩
    exact ⟨e, he, f, ⟨hf, h1⟩, rfl⟩
theorem compE_prs {r s : List Nat} (hr : OkR r) (hs : OkR s) : compE (prs r) (prs s) = prs (thenR r s) := by
  refine ones_ext (disL_ascR (AddL_asc asc_nil _)) (prs_asc _) (disL_ones _) (prs_ones _) (fun k => ?_)
  rw [compE_mem]
  constructor
  · rintro ⟨e, he, f, hf, h1, rfl⟩
    obtain ⟨x, y, hx, hy, hb, rfl⟩ := mem_prs.1 he
    obtain ⟨y', z, hy', hz, hc, rfl⟩ := mem_prs.1 hf
    have h1' : (y : Int) = (y' : Int) := h1
    obtain rfl : y = y' := by omega
    exact (has_prs (thenR_ok hr hs) x z).2 ((thenR_has hr x z).2 ⟨y, hb, hc⟩)
  · intro h
    obtain ⟨x, z, hx, hz, hb, e⟩ := mem_prs.1 h
    obtain ⟨y, h1, h2⟩ := (thenR_has hr x z).1 hb
    exact ⟨_, (has_prs hr x y).2 h1, _, (has_prs hs y z).2 h2, rfl, congrArg (fun e : Ent => e.1) e⟩
theorem minE_prs {r s : List Nat} (hr : OkR r) (hs : OkR s) : minE (prs r) (prs s) = prs (nandR r s) := by
  refine ones_ext (List.Pairwise.sublist List.filter_sublist (prs_asc r)) (prs_asc _) (fun e he => prs_ones r e (List.mem_filter.1 he).1) (prs_ones _) (fun k => ?_)
  unfold minE
  rw [List.mem_filter, decide_eq_true_eq, ones_wOf (prs_ones s)]
  constructor
  · rintro ⟨h1, h2⟩
    obtain ⟨x, y, hx, hy, hb, e⟩ := mem_prs.1 h1
    rw [e]
    refine (has_prs (nandR_ok hr hs) x y).2 ?_
    rw [nandR_has hr hs, hb]
    have h3 : (k, (1 : Int)) ∉ prs s := fun h => by rw [if_pos h] at h2; cases h2
    rw [e, has_prs hs] at h3
    simpa using h3
  · intro h
    obtain ⟨x, y, hx, hy, hb, e⟩ := mem_prs.1 h
    rw [nandR_has hr hs, Bool.and_eq_true, Bool.not_eq_true'] at hb
    rw [e]
    refine ⟨(has_prs hr x y).2 hb.1, ?_⟩
    rw [if_neg]
    rw [has_prs hs, hb.2]; decide
def DisjR (r s : List Nat) : Prop := ∀ x y, ¬ (hasR r x y = true ∧ hasR s x y = true)
theorem add_prs {r s : List Nat} (hr : OkR r) (hs : OkR s) (hd : DisjR r s) : AddF (prs r) (prs s) = prs (orR r s) := by
  have hz : nz (AddL (prs r) (prs s)) = prs (orR r s) := by
    rw [← zsB_nz (prs_zs (orR r s))]
    refine nz_ext rowTot (AddL_asc (prs_asc r) _) (prs_asc _) (fun k => ?_)
    rw [AddL_wsum, ones_wsum (prs_asc r) (prs_ones r), ones_wsum (prs_asc s) (prs_ones s), ones_wsum (prs_asc _) (prs_ones _)]
    have h0 : (k, (1 : Int)) ∈ prs (orR r s) ↔ (k, (1 : Int)) ∈ prs r ∨ (k, (1 : Int)) ∈ prs s := by
      simp only [mem_prs, orR_has hr hs, Bool.or_eq_true]
      constructor
      · rintro ⟨x, y, hx, hy, h | h, e⟩
        · exact .inl ⟨x, y, hx, hy, h, e⟩
        · exact .inr ⟨x, y, hx, hy, h, e⟩
      · rintro (⟨x, y, hx, hy, h, e⟩ | ⟨x, y, hx, hy, h, e⟩)
        · exact ⟨x, y, hx, hy, .inl h, e⟩
        · exact ⟨x, y, hx, hy, .inr h, e⟩
    have h1 : ¬ ((k, (1 : Int)) ∈ prs r ∧ (k, (1 : Int)) ∈ prs s) := by
      rintro ⟨h1, h2⟩
      obtain ⟨x, y, _, _, hb, e⟩ := mem_prs.1 h1
      rw [e, has_prs hs] at h2
      exact hd x y ⟨hb, h2⟩
    by_cases c1 : (k, (1 : Int)) ∈ prs r
    · have c2 : (k, (1 : Int)) ∉ prs s := fun h => h1 ⟨c1, h⟩
      rw [if_pos c1, if_neg c2, if_pos (h0.2 (.inl c1))]; rfl
    · by_cases c2 : (k, (1 : Int)) ∈ prs s
      · rw [if_neg c1, if_pos c2, if_pos (h0.2 (.inr c2))]; rfl
      · rw [if_neg c1, if_neg c2, if_neg (fun h => (h0.1 h).elim c1 c2)]; rfl
  rw [AddF, prs_zs, prs_zs, hz]
  simp [chkF, prs_zs]

/-! How many pairs. -/
def cellsR : List (Nat × Nat) := (List.range 20).flatMap fun x => (List.range 20).map fun y => (x, y)
theorem prs_cells (r : List Nat) : prs r = (cellsR.filter fun p => hasR r p.1 p.2).map fun p => pr p.1 p.2 := by
  unfold prs cellsR
  rw [List.filter_flatMap, List.map_flatMap]
  congr 1
  funext x
  rw [List.filter_map, List.map_map]
  rfl
def szR (r : List Nat) : Nat := (prs r).length
theorem szR_le (r : List Nat) : szR r ≤ 400 := prs_len r
theorem countP_or {α : Type} (p q : α → Bool) (h : ∀ x, ¬ (p x = true ∧ q x = true)) : ∀ l : List α, l.countP (fun x => p x || q x) = l.countP p + l.countP q
  | [] => rfl
  | x :: l => by
    have ih := countP_or p q h l
    have hx := h x
    simp only [List.countP_cons, ih]
    cases hp : p x <;> cases hq : q x <;> simp_all <;> omega
theorem szR_count (r : List Nat) : szR r = cellsR.countP fun p => hasR r p.1 p.2 := by
  unfold szR
  rw [prs_cells, List.length_map, List.countP_eq_length_filter]
theorem szR_or {r s : List Nat} (hr : OkR r) (hs : OkR s) (hd : DisjR r s) : szR (orR r s) = szR r + szR s := by
  rw [szR_count, szR_count, szR_count, ← countP_or (fun p : Nat × Nat => hasR r p.1 p.2) (fun p => hasR s p.1 p.2) (fun p => hd p.1 p.2)]
  congr 1
  funext p
  exact orR_has hr hs p.1 p.2
theorem szR_pos {r : List Nat} (hr : OkR r) (h : r ≠ zeroR) : 0 < szR r := by
  apply Nat.pos_of_ne_zero
  intro h0
  exact h ((rel_zero hr).2 (List.length_eq_zero_iff.1 h0))

/-! The rounds. -/
def rdsR (r : List Nat) : Nat → List Nat → List Nat → List (List Nat)
  | 0, _, _ => []
  | n + 1, f, l => if l = zeroR then [] else l :: rdsR r n (orR f l) (nandR (thenR l r) (orR f l))
def rds (r : List Nat) : List (List Nat) := rdsR r 401 zeroR r
structure RdInv (f l : List Nat) : Prop where
  okf : OkR f
  okl : OkR l
  dj : DisjR f l
theorem RdInv.start {r : List Nat} (h : OkR r) : RdInv zeroR r := ⟨zeroR_ok, h, fun x y ⟨h1, _⟩ => by rw [zeroR_has] at h1; cases h1⟩
theorem RdInv.next {r f l : List Nat} (hr : OkR r) (h : RdInv f l) : RdInv (orR f l) (nandR (thenR l r) (orR f l)) := by
  have h1 := orR_ok h.okf h.okl
  have h2 := thenR_ok h.okl hr
  refine ⟨h1, nandR_ok h2 h1, fun x y ⟨a, b⟩ => ?_⟩
  rw [nandR_has h2 h1, a] at b
  simp at b
theorem RdInv.sz {f l : List Nat} (h : RdInv f l) (hl : l ≠ zeroR) : szR f < szR (orR f l) ∧ szR (orR f l) ≤ 400 := by
  rw [szR_or h.okf h.okl h.dj]
  have := szR_pos h.okl hl
  have h2 := szR_le (orR f l)
  rw [szR_or h.okf h.okl h.dj] at h2
  omega
theorem rdsR_fuel {r : List Nat} (hr : OkR r) : ∀ (n m : Nat) (f l : List Nat), RdInv f l → 400 - szR f < n → 400 - szR f < m → rdsR r n f l = rdsR r m f l
  | 0, _, _, _, _, h, _ => by omega
  | _ + 1, 0, _, _, _, _, h => by omega
  | n + 1, m + 1, f, l, hI, h1, h2 => by
    unfold rdsR
    by_cases hl : l = zeroR
    · rw [if_pos hl, if_pos hl]
    · have := hI.sz hl
      rw [if_neg hl, if_neg hl, rdsR_fuel hr n m _ _ (hI.next hr) (by omega) (by omega)]
/-- What is left of the rounds. -/
def restR (r f l : List Nat) : List (List Nat) := rdsR r 401 f l
theorem restR_end {r f : List Nat} : restR r f zeroR = [] := by simp [restR, rdsR]
theorem restR_step {r f l : List Nat} (hr : OkR r) (h : RdInv f l) (hl : l ≠ zeroR) : restR r f l = l :: restR r (orR f l) (nandR (thenR l r) (orR f l)) := by
  have := h.sz hl
  unfold restR
  rw [rdsR, if_neg hl, rdsR_fuel hr 400 401 _ _ (h.next hr) (by omega) (by omega)]
theorem rds_rest (r : List Nat) : rds r = restR r zeroR r := rfl
theorem restR_len {r : List Nat} (hr : OkR r) : ∀ (n : Nat) (f l : List Nat), RdInv f l → 400 - szR f < n → (rdsR r n f l).length ≤ 400 - szR f
  | 0, _, _, _, _ => by simp [rdsR]
  | n + 1, f, l, hI, h1 => by
    unfold rdsR
    by_cases hl : l = zeroR
    · rw [if_pos hl]; simp
    · have := hI.sz hl
      have h2 := restR_len hr n _ _ (hI.next hr) (by omega)
      rw [if_neg hl, List.length_cons]
      omega
theorem rds_len {r : List Nat} (hr : OkR r) : (rds r).length ≤ 400 := by
  have h1 := szR_le zeroR
  have := restR_len hr 401 zeroR r (RdInv.start hr) (by omega)
  unfold rds
  omega
def closR (r : List Nat) : List Nat := (rds r).foldl orR zeroR
/-- Rounds that have no pair in common. -/
def Djs : List Nat → List (List Nat) → Prop
  | _, [] => True
  | f, l :: L => OkR l ∧ l ≠ zeroR ∧ DisjR f l ∧ Djs (orR f l) L
theorem rdsR_djs {r : List Nat} (hr : OkR r) : ∀ (n : Nat) (f l : List Nat), RdInv f l → Djs f (rdsR r n f l)
  | 0, _, _, _ => trivial
  | n + 1, f, l, hI => by
    unfold rdsR
    by_cases hl : l = zeroR
    · rw [if_pos hl]; trivial
    · rw [if_neg hl]
      exact ⟨hI.okl, hl, hI.dj, rdsR_djs hr n _ _ (hI.next hr)⟩
theorem rds_djs {r : List Nat} (hr : OkR r) : Djs zeroR (rds r) := rdsR_djs hr _ _ _ (RdInv.start hr)
theorem djs_ok : ∀ {L : List (List Nat)} {f : List Nat}, OkR f → Djs f L → OkR (L.foldl orR f)
  | [], _, h, _ => h
  | l :: L, f, h, hd => djs_ok (L := L) (orR_ok h hd.1) hd.2.2.2
theorem djs_mem : ∀ {L : List (List Nat)} {f : List Nat}, Djs f L → ∀ l ∈ L, OkR l ∧ l ≠ zeroR
  | [], _, _, _, h => by cases h
  | k :: L, f, hd, l, h => by
    rcases List.mem_cons.1 h with rfl | h
    · exact ⟨hd.1, hd.2.1⟩
    · exact djs_mem (L := L) hd.2.2.2 l h
theorem djs_add : ∀ {L : List (List Nat)} {f : List Nat}, OkR f → Djs f L → (L.map prs).foldl AddF (prs f) = prs (L.foldl orR f)
  | [], _, _, _ => rfl
  | l :: L, f, h, hd => by
    rw [List.map_cons, List.foldl_cons, List.foldl_cons, add_prs h hd.1 hd.2.2.1]
    exact djs_add (L := L) (orR_ok h hd.1) hd.2.2.2
theorem closR_ok {r : List Nat} (hr : OkR r) : OkR (closR r) := djs_ok zeroR_ok (rds_djs hr)
theorem prs_zero : prs zeroR = [] := (rel_zero zeroR_ok).1 rfl
theorem closR_add {r : List Nat} (hr : OkR r) : ((rds r).map prs).foldl AddF [] = prs (closR r) := by
  rw [← prs_zero]
  exact djs_add zeroR_ok (rds_djs hr)
def ClosF (es : List Ent) : List Ent := if edgB es = true then prs (closR (relOf es)) else []
def RoundsF (es : List Ent) : List (List Ent) := if edgB es = true then (rds (relOf es)).map prs else []
end Go.Proofs.YtifjenleoagefaaGreat

/- HELPER, no statement of the seat: what the model does with closures that are maintained, as relations; no program. -/
namespace Go.Proofs.YtifjenleoagefaaGreat
open Go.RowKit Go.Sort
set_option linter.unusedSimpArgs false
set_option linter.unusedVariables false

theorem rel_ext {r s : List Nat} (hr : OkR r) (hs : OkR s) (h : ∀ x y, hasR r x y = hasR s x y) : r = s := by
  apply List.ext_getElem (by rw [hr.len, hs.len])
  intro i h1 h2
  apply Nat.eq_of_testBit_eq
  intro y
  have := h i y
  unfold hasR at this
  rw [gd_lt h1, gd_lt h2] at this
  exact this
theorem prs_inj {r s : List Nat} (hr : OkR r) (hs : OkR s) (h : prs r = prs s) : r = s := rel_ext hr hs ((prs_ext hr hs).1 h)
theorem rel_ext2 {r s : List Nat} (hr : OkR r) (hs : OkR s) (h : ∀ x y, hasR r x y = true ↔ hasR s x y = true) : r = s := rel_ext hr hs (fun x y => Bool.eq_iff_iff.2 (h x y))

/-! The model's union. -/
theorem uni_ok {r s : List Nat} (hr : OkR r) (hs : OkR s) : zsB (nz (AddL (prs r) (prs s))) = true ∧ disL (nz (AddL (prs r) (prs s))) = prs (orR r s) := by
  have hasc : Asc lessB (nz (AddL (prs r) (prs s))) := List.Pairwise.sublist List.filter_sublist (AddL_asc (prs_asc r) _)
  have hws : ∀ k, wsum (nz (AddL (prs r) (prs s))) k = (if (k, (1 : Int)) ∈ prs r then 1 else 0) + if (k, (1 : Int)) ∈ prs s then 1 else 0 := fun k => by
    rw [nz_wsum, AddL_wsum, ones_wsum (prs_asc r) (prs_ones r), ones_wsum (prs_asc s) (prs_ones s)]
  have h0 : ∀ k, (k, (1 : Int)) ∈ prs (orR r s) ↔ (k, (1 : Int)) ∈ prs r ∨ (k, (1 : Int)) ∈ prs s := fun k => by
    simp only [mem_prs, orR_has hr hs, Bool.or_eq_true]
    constructor
    · rintro ⟨x, y, hx, hy, h | h, e⟩
      · exact .inl ⟨x, y, hx, hy, h, e⟩
      · exact .inr ⟨x, y, hx, hy, h, e⟩
    · rintro (⟨x, y, hx, hy, h, e⟩ | ⟨x, y, hx, hy, h, e⟩)
      · exact ⟨x, y, hx, hy, .inl h, e⟩
      · exact ⟨x, y, hx, hy, .inr h, e⟩
  have hd : disL (nz (AddL (prs r) (prs s))) = prs (orR r s) := ones_ext (disL_ascR hasc) (prs_asc _) (disL_ones _) (prs_ones _) (fun k => by
    rw [disL_oneR hasc, hws, h0]
    by_cases c1 : (k, (1 : Int)) ∈ prs r <;> by_cases c2 : (k, (1 : Int)) ∈ prs s <;> simp [c1, c2])
  have hin : ∀ e ∈ nz (AddL (prs r) (prs s)), (e.2 = 1 ∨ e.2 = 2) ∧ (e.1, (1 : Int)) ∈ prs (orR r s) := fun e he => by
    have h1 := nz_mem e he
    have h2 := wsum_mem hasc he
    rw [hws] at h2
    rw [h0]
    by_cases c1 : (e.1, (1 : Int)) ∈ prs r <;> by_cases c2 : (e.1, (1 : Int)) ∈ prs s <;> simp only [c1, c2, if_true, if_false] at h2 <;> simp [c1, c2] <;> omega
  have hlen : (nz (AddL (prs r) (prs s))).length ≤ 400 := by
    have : (nz (AddL (prs r) (prs s))).length = (disL (nz (AddL (prs r) (prs s)))).length := by
      conv => rhs; unfold disL
      rw [List.length_map, List.filter_eq_self.2 (fun e he => by have := (hin e he).1; simp; omega)]
    rw [this, hd]; exact prs_len _
  refine ⟨zsB_mk (n := 2) hlen (fun e he => ?_) (fun e he => nz_mem e he) (fun e he => (prs_row _ _ (hin e he).2).2) hasc, hd⟩
  have h1 := (hin e he).1
  have h2 : rowB e.1 = true := (prs_row _ _ (hin e he).2).1
  simp [sumE, h2, wtB, inB]
  omega
theorem uni_prs {r s : List Nat} (hr : OkR r) (hs : OkR s) : disL (chkF (nz (AddL (prs r) (prs s)))) = prs (orR r s) := by
  rw [chkF, if_pos (uni_ok hr hs).1, (uni_ok hr hs).2]
theorem nand_nand {r s : List Nat} (hr : OkR r) (hs : OkR s) : nandR r (nandR r s) = andR r s :=
  rel_ext (nandR_ok hr (nandR_ok hr hs)) (andR_ok hr hs) (fun x y => by
    rw [nandR_has hr (nandR_ok hr hs), nandR_has hr hs, andR_has hr hs]
    cases hasR r x y <;> cases hasR s x y <;> rfl)

/-! The closure is transitive. -/
theorem fold_has : ∀ (L : List (List Nat)) (f : List Nat), OkR f → (∀ l ∈ L, OkR l) → ∀ x y, hasR (L.foldl orR f) x y = true ↔ hasR f x y = true ∨ ∃ l ∈ L, hasR l x y = true
  | [], f, _, _, x, y => by simp
  | l :: L, f, hf, hL, x, y => by
    have hl := hL l (by simp)
    rw [List.foldl_cons, fold_has L _ (orR_ok hf hl) (fun k hk => hL k (by simp [hk])), orR_has hf hl, Bool.or_eq_true]
    constructor
    · rintro ((h | h) | ⟨k, hk, h⟩)
      · exact .inl h
      · exact .inr ⟨l, by simp, h⟩
      · exact .inr ⟨k, by simp [hk], h⟩
    · rintro (h | ⟨k, hk, h⟩)
      · exact .inl (.inl h)
      · rcases List.mem_cons.1 hk with rfl | hk
        · exact .inl (.inr h)
        · exact .inr ⟨k, hk, h⟩
theorem rdsR_cont {r : List Nat} (hr : OkR r) : ∀ (n : Nat) (f l : List Nat), RdInv f l → 400 - szR f < n → (∀ x y z, hasR f x y = true → hasR r y z = true → hasR (orR f l) x z = true) →
    ∀ x y z, hasR ((rdsR r n f l).foldl orR f) x y = true → hasR r y z = true → hasR ((rdsR r n f l).foldl orR f) x z = true
  | 0, _, _, _, h, _ => by omega
  | n + 1, f, l, hI, hn, hc => by
    unfold rdsR
    by_cases hl : l = zeroR
    · rw [if_pos hl]
      intro x y z h1 h2
      have := hc x y z h1 h2
      rw [hl, orR_has hI.okf zeroR_ok, zeroR_has] at this
      simpa using this
    · have hs := hI.sz hl
      rw [if_neg hl, List.foldl_cons]
      refine rdsR_cont hr n _ _ (hI.next hr) (by omega) (fun x y z h1 h2 => ?_)
      have hg := orR_ok hI.okf hI.okl
      have ht := thenR_ok hI.okl hr
      rw [orR_has hg (nandR_ok ht hg), nandR_has ht hg]
      by_cases h3 : hasR (orR f l) x z = true
      · simp [h3]
      · rw [orR_has hI.okf hI.okl, Bool.or_eq_true] at h1
        rcases h1 with h1 | h1
        · exact absurd (hc x y z h1 h2) h3
        · have h4 : hasR (thenR l r) x z = true := (thenR_has hI.okl x z).2 ⟨y, h1, h2⟩
          simp [h4, h3]
theorem rdsR_all {r : List Nat} (hr : OkR r) (F : List Nat) (hF : ∀ x y z, hasR F x y = true → hasR r y z = true → hasR F x z = true) : ∀ (n : Nat) (f l : List Nat), RdInv f l → (∀ x y z, hasR F x y = true → hasR l y z = true → hasR F x z = true) →
    ∀ k ∈ rdsR r n f l, ∀ x y z, hasR F x y = true → hasR k y z = true → hasR F x z = true
  | 0, _, _, _, _, k, hk => by simp [rdsR] at hk
  | n + 1, f, l, hI, hl, k, hk => by
    unfold rdsR at hk
    by_cases h0 : l = zeroR
    · rw [if_pos h0] at hk; cases hk
    · rw [if_neg h0] at hk
      rcases List.mem_cons.1 hk with rfl | hk
      · exact hl
      · refine rdsR_all hr F hF n _ _ (hI.next hr) (fun x y z h1 h2 => ?_) k hk
        have hg := orR_ok hI.okf hI.okl
        have ht := thenR_ok hI.okl hr
        rw [nandR_has ht hg, Bool.and_eq_true] at h2
        obtain ⟨w, h3, h4⟩ := (thenR_has hI.okl y z).1 h2.1
        exact hF x w z (hl x y w h1 h3) h4
theorem rds_ok {r : List Nat} (hr : OkR r) : ∀ l ∈ rds r, OkR l := fun l hl => (djs_mem (rds_djs hr) l hl).1
theorem closR_has {r : List Nat} (hr : OkR r) (x y : Nat) : hasR (closR r) x y = true ↔ ∃ l ∈ rds r, hasR l x y = true := by
  unfold closR
  rw [fold_has _ _ zeroR_ok (rds_ok hr), zeroR_has]
  simp
theorem closR_sub {r : List Nat} (hr : OkR r) {x y : Nat} (h : hasR r x y = true) : hasR (closR r) x y = true := by
  rw [closR_has hr]
  have h0 : r ≠ zeroR := fun e => by rw [e, zeroR_has] at h; cases h
  exact ⟨r, by unfold rds rdsR; rw [if_neg h0]; simp, h⟩
theorem closR_step {r : List Nat} (hr : OkR r) {x y z : Nat} (h1 : hasR (closR r) x y = true) (h2 : hasR r y z = true) : hasR (closR r) x z = true :=
  rdsR_cont hr 401 zeroR r (RdInv.start hr) (by omega) (fun x y z h => by rw [zeroR_has] at h; cases h) x y z h1 h2
theorem closR_trans {r : List Nat} (hr : OkR r) {x y z : Nat} (h1 : hasR (closR r) x y = true) (h2 : hasR (closR r) y z = true) : hasR (closR r) x z = true := by
  obtain ⟨l, hl, h⟩ := (closR_has hr y z).1 h2
  exact rdsR_all hr (closR r) (fun x y z h1 h2 => closR_step hr h1 h2) 401 zeroR r (RdInv.start hr) (fun x y z h1 h2 => closR_step hr h1 h2) l hl x y z h1 h

/-! What is overdeleted. -/
def idR : List Nat := (List.range 20).map fun x => 2 ^ x
theorem idR_ok : OkR idR := ⟨by simp [idR], fun a ha => by
  obtain ⟨x, hx, rfl⟩ := List.mem_map.1 ha
  have := List.mem_range.1 hx
  exact (Nat.pow_lt_pow_right (by decide) this : 2 ^ x < 2 ^ 20)⟩
theorem idR_has (x y : Nat) : hasR idR x y = true ↔ x < 20 ∧ x = y := by
  unfold hasR
  rcases Nat.lt_or_ge x 20 with h | h
  · rw [gd_lt (by simpa [idR] using h)]
    simp [idR, h, Nat.testBit_two_pow]
  · rw [gd_ge (by simpa [idR] using h)]
    simp; omega
def overR (c e : List Nat) : List Nat := thenR (thenR (orR c idR) e) (orR c idR)
theorem overR_ok {c e : List Nat} (hc : OkR c) (he : OkR e) : OkR (overR c e) := thenR_ok (thenR_ok (orR_ok hc idR_ok) he) (orR_ok hc idR_ok)
def reachB (cs : List Ent) (x y : Int) : Bool := decide (x = y) || decide (0 < wOf cs [x, y])
def hitB (cs : List Ent) (e f : Ent) : Bool := reachB cs (gi e.1 0) (gi f.1 0) && reachB cs (gi f.1 1) (gi e.1 1)
def overE (cs gs : List Ent) : List Ent := cs.filter fun e => gs.any fun f => hitB cs e f
theorem reachB_prs {c : List Nat} (hc : OkR c) {x y : Nat} (hx : x < 20) : reachB (prs c) (x : Int) (y : Int) = true ↔ hasR (orR c idR) x y = true := by
  rw [orR_has hc idR_ok, Bool.or_eq_true, idR_has, reachB, Bool.or_eq_true, decide_eq_true_eq, decide_eq_true_eq, ones_wOf (prs_ones c)]
  have h1 : (([(x : Int), (y : Int)], (1 : Int)) ∈ prs c) ↔ hasR c x y = true := has_prs hc x y
  by_cases h : hasR c x y = true
  · simp [h1, h]
  · simp [h1, h, hx]; omega
theorem overE_prs {r g : List Nat} (hr : OkR r) (hg : OkR g) (hsub : ∀ x y, hasR g x y = true → hasR r x y = true) : overE (prs (closR r)) (prs g) = prs (overR (closR r) g) := by
  have hc := closR_ok hr
  have ho := overR_ok hc hg
  have h1 : Ones (overE (prs (closR r)) (prs g)) := fun e he => prs_ones _ e (List.mem_filter.1 he).1
  refine ones_ext (List.Pairwise.sublist List.filter_sublist (prs_asc _)) (prs_asc _) h1 (prs_ones _) (fun k => ?_)
  have hov : ∀ x y, hasR (overR (closR r) g) x y = true ↔ ∃ u v, hasR (orR (closR r) idR) x u = true ∧ hasR g u v = true ∧ hasR (orR (closR r) idR) v y = true := fun x y => by
    unfold overR
    rw [thenR_has (thenR_ok (orR_ok hc idR_ok) hg)]
    constructor
    · rintro ⟨v, h1, h2⟩
      obtain ⟨u, h3, h4⟩ := (thenR_has (orR_ok hc idR_ok) x v).1 h1
      exact ⟨u, v, h3, h4, h2⟩
    · rintro ⟨u, v, h3, h4, h2⟩
      exact ⟨v, (thenR_has (orR_ok hc idR_ok) x v).2 ⟨u, h3, h4⟩, h2⟩
  constructor
  · intro h
    obtain ⟨hm, hp⟩ := List.mem_filter.1 h
    obtain ⟨x, y, hx, hy, hxy, e⟩ := mem_prs.1 hm
    obtain ⟨f, hf, hh⟩ := List.any_eq_true.1 hp
    obtain ⟨u, v, hu, hv, huv, rfl⟩ := mem_prs.1 hf
    rw [e] at hh ⊢
    rw [has_prs ho, hov]
    simp only [hitB, pr, Bool.and_eq_true] at hh
    exact ⟨u, v, (reachB_prs hc hx).1 (by simpa [gi] using hh.1), huv, (reachB_prs hc hv).1 (by simpa [gi] using hh.2)⟩
  · intro h
    obtain ⟨x, y, hx, hy, hxy, e⟩ := mem_prs.1 h
    rw [e]
    obtain ⟨u, v, h1, h2, h3⟩ := (hov x y).1 hxy
    have h4 : hasR (closR r) u v = true := closR_sub hr (hsub u v h2)
    have hu : u < 20 := by
      rcases Nat.lt_or_ge u 20 with hu | hu
      · exact hu
      · rw [hasR_out hg hu] at h2; cases h2
    have hv : v < 20 := by
      rcases Nat.lt_or_ge v 20 with hv | hv
      · exact hv
      · rw [hg.big hv] at h2; cases h2
    have h5 : hasR (closR r) x v = true := by
      rw [orR_has hc idR_ok, Bool.or_eq_true, idR_has] at h1
      rcases h1 with h1 | ⟨_, rfl⟩
      · exact closR_trans hr h1 h4
      · exact h4
    have h6 : hasR (closR r) x y = true := by
      have h3' := h3
      rw [orR_has hc idR_ok, Bool.or_eq_true, idR_has] at h3'
      rcases h3' with h3' | ⟨_, rfl⟩
      · exact closR_trans hr h5 h3'
      · exact h5
    refine List.mem_filter.2 ⟨(has_prs hc x y).2 h6, List.any_eq_true.2 ⟨pr u v, (has_prs hg u v).2 h2, ?_⟩⟩
    simp only [hitB, pr, Bool.and_eq_true]
    exact ⟨by simpa [gi] using (reachB_prs hc hx).2 h1, by simpa [gi] using (reachB_prs hc hv).2 h3⟩

/-! What the four functions come to. -/
def mntB (es cs ms : List Ent) : Bool := edgB es && (edgB cs && (edgB ms && decide (closR (relOf es) = relOf cs)))
def MntF (G : List Nat → List Nat → List Nat → List Nat) (es cs ms : List Ent) : List Ent := if mntB es cs ms = true then prs (G (relOf es) (relOf cs) (relOf ms)) else []
def insG (r c m : List Nat) : List Nat := nandR (closR (orR r m)) c
def ovrG (r c m : List Nat) : List Nat := overR c (andR r m)
def redG (r c m : List Nat) : List Nat := andR (overR c (andR r m)) (closR (nandR r m))
def delG (r c m : List Nat) : List Nat := nandR c (closR (nandR r m))
theorem mnt_eq {es cs : List Ent} (h1 : edgB es = true) (h2 : edgB cs = true) : decide (closR (relOf es) = relOf cs) = decide (prs (closR (relOf es)) = cs) := by
  rw [Bool.eq_iff_iff, decide_eq_true_eq, decide_eq_true_eq]
  constructor
  · intro h; rw [h, prs_relOf h2]
  · intro h
    exact prs_inj (closR_ok (relOf_ok h1)) (relOf_ok h2) (by rw [h, prs_relOf h2])
theorem MntF_len (G : List Nat → List Nat → List Nat → List Nat) (es cs ms : List Ent) : (MntF G es cs ms).length ≤ 400 := by
  unfold MntF; split
  · exact prs_len _
  · simp
theorem MntF_row (G : List Nat → List Nat → List Nat → List Nat) (es cs ms : List Ent) : rowsIn (MntF G es cs ms) 4194304 := fun e he => by
  unfold MntF at he; split at he
  · have := (prs_row _ e he).2; omega
  · cases he
end Go.Proofs.YtifjenleoagefaaGreat
