/- HELPER, no statement of the seat: relations of twenty vertices, as lists of numbers and as sets of pairs. -/
import Derived.Test.YtifjenleoagefaaZbx
import Derived.Test.YtifjenleoagefaaEdg
namespace Go.Proofs.Ytifjenleoagefaa
open Go.RowKit Go.Sort
set_option linter.unusedSimpArgs false
set_option linter.unusedVariables false

/-! Sets of rows: sorted lists whose weights are 1. -/
def Ones (l : List Ent) : Prop := ∀ e ∈ l, e.2 = 1
theorem ones_wsum {l : List Ent} (ha : Asc lessB l) (h1 : Ones l) (r : List Int) : wsum l r = if (r, 1) ∈ l then 1 else 0 := by
  induction l with
  | nil => simp [wsum_nil]
  | cons x l ih =>
    rw [wsum_cons]
    have hx1 : x.2 = 1 := h1 x (by simp)
    have hl := ih (List.Pairwise.of_cons ha) (fun e he => h1 e (by simp [he]))
    by_cases hr : x.1 = r
    · subst hr
      have hz : wsum l x.1 = 0 := wsum_zero (fun y hy e => by
        have := List.rel_of_pairwise_cons ha hy
        rw [e] at this
        rw [rowTot.irrefl] at this; cases this)
      rw [hz, if_pos rfl, hx1, if_pos (by rw [show (x.1, (1 : Int)) = x from by rw [← hx1]]; simp)]
      rfl
    · rw [if_neg hr, hl, Int.zero_add]
      have : ((r, (1 : Int)) ∈ x :: l) ↔ ((r, (1 : Int)) ∈ l) := by
        constructor
        · intro h
          rcases List.mem_cons.1 h with h | h
          · exact absurd (by rw [← h]) hr
          · exact h
        · exact fun h => List.mem_cons_of_mem _ h
      simp only [this]
theorem ones_ext {l m : List Ent} (hl : Asc lessB l) (hm : Asc lessB m) (l1 : Ones l) (m1 : Ones m) (h : ∀ r, (r, 1) ∈ l ↔ (r, 1) ∈ m) : l = m :=
  asc_ext rowTot hl hm (fun x hx => by rw [l1 x hx]; decide) (fun x hx => by rw [m1 x hx]; decide) (fun r => by rw [ones_wsum hl l1, ones_wsum hm m1]; simp only [h])
theorem ones_wOf {l : List Ent} (h1 : Ones l) (r : List Int) : wOf l r = if (r, 1) ∈ l then 1 else 0 := by
  induction l with
  | nil => simp [wOf]
  | cons x l ih =>
    have hx1 : x.2 = 1 := h1 x (by simp)
    have hl := ih (fun e he => h1 e (by simp [he]))
    unfold wOf at hl ⊢
    by_cases hr : x.1 = r
    · subst hr
      rw [List.find?_cons_of_pos (by simp), if_pos (by rw [show (x.1, (1 : Int)) = x from by rw [← hx1]]; simp)]
      simp [hx1]
    · rw [List.find?_cons_of_neg (by simpa using hr), hl]
      have : ((r, (1 : Int)) ∈ x :: l) ↔ ((r, (1 : Int)) ∈ l) := by
        constructor
        · intro h
          rcases List.mem_cons.1 h with h | h
          · exact absurd (by rw [← h]) hr
          · exact h
        · exact fun h => List.mem_cons_of_mem _ h
      simp only [this]
theorem disL_ones (l : List Ent) : Ones (disL l) := fun e he => by
  unfold disL at he
  obtain ⟨x, _, rfl⟩ := List.mem_map.1 he
  rfl
theorem disL_ascR {l : List Ent} (h : Asc lessB l) : Asc lessB (disL l) := by
  unfold disL Asc
  rw [List.pairwise_map]
  exact List.Pairwise.sublist List.filter_sublist h
theorem wsum_mem {l : List Ent} (ha : Asc lessB l) {e : Ent} (he : e ∈ l) : wsum l e.1 = e.2 := by
  induction l with
  | nil => cases he
  | cons x l ih =>
    rw [wsum_cons]
    rcases List.mem_cons.1 he with rfl | h
    · rw [if_pos rfl, wsum_zero (fun y hy e' => by
        have := List.rel_of_pairwise_cons ha hy
        rw [e'] at this
        rw [rowTot.irrefl] at this; cases this)]
      omega
    · rw [ih (List.Pairwise.of_cons ha) h, if_neg (fun e' => by
        have := List.rel_of_pairwise_cons ha h
        rw [e'] at this
        rw [rowTot.irrefl] at this; cases this)]
      omega
theorem disL_oneR {l : List Ent} (ha : Asc lessB l) (r : List Int) : (r, 1) ∈ disL l ↔ 0 < wsum l r := by
  constructor
  · intro h
    unfold disL at h
    obtain ⟨x, hx, e⟩ := List.mem_map.1 h
    obtain ⟨hx, hp⟩ := List.mem_filter.1 hx
    have hr : x.1 = r := congrArg (·.1) e
    rw [← hr, wsum_mem ha hx]
    simpa using hp
  · intro h
    by_cases hk : ∃ x ∈ l, x.1 = r
    · obtain ⟨x, hx, rfl⟩ := hk
      rw [wsum_mem ha hx] at h
      exact List.mem_map.2 ⟨x, List.mem_filter.2 ⟨hx, by simpa using h⟩, rfl⟩
    · rw [wsum_zero (fun x hx e => hk ⟨x, hx, e⟩)] at h
      omega
/-- A sum of ones is positive where one of them is. -/
theorem ones_pos {l : List Ent} (h1 : Ones l) (r : List Int) : 0 < wsum l r ↔ (r, 1) ∈ l := by
  induction l with
  | nil => simp [wsum_nil]
  | cons x l ih =>
    have hx1 : x.2 = 1 := h1 x (by simp)
    have hl1 : Ones l := fun e he => h1 e (by simp [he])
    have hnn : 0 ≤ wsum l r := by
      clear ih hx1 h1
      induction l with
      | nil => simp [wsum_nil]
      | cons y l ih2 =>
        rw [wsum_cons]
        have := ih2 (fun e he => hl1 e (by simp [he]))
        have hy := hl1 y (by simp)
        split <;> omega
    rw [wsum_cons]
    by_cases hr : x.1 = r
    · rw [if_pos hr]
      refine ⟨fun _ => ?_, fun _ => by omega⟩
      rw [show (r, (1 : Int)) = x from by rw [← hx1, ← hr]]
      simp
    · rw [if_neg hr, Int.zero_add, ih hl1]
      constructor
      · exact fun h => List.mem_cons_of_mem _ h
      · intro h
        rcases List.mem_cons.1 h with h | h
        · exact absurd (by rw [← h]) hr
        · exact h

/-! Relations. -/
def hasR (r : List Nat) (x y : Nat) : Bool := (r.getD x 0).testBit y
def pr (x y : Nat) : Ent := ([(x : Int), (y : Int)], 1)
def vtx (a : Nat) : List Nat := (List.range 20).filter fun y => a.testBit y
def prs (r : List Nat) : List Ent := (List.range 20).flatMap fun x => (vtx (r.getD x 0)).map (pr x)
def zeroR : List Nat := List.replicate 20 0
theorem gd_lt {r : List Nat} {x : Nat} (h : x < r.length) : r.getD x 0 = r[x] := by simp [List.getD, h]
theorem gd_ge {r : List Nat} {x : Nat} (h : r.length ≤ x) : r.getD x 0 = 0 := by simp [List.getD, List.getElem?_eq_none h]
structure OkR (r : List Nat) : Prop where
  len : r.length = 20
  bits : ∀ a ∈ r, a < 1048576
theorem OkR.at {r : List Nat} (h : OkR r) (x : Nat) : r.getD x 0 < 1048576 := by
  by_cases hx : x < r.length
  · rw [gd_lt hx]; exact h.bits _ (List.getElem_mem hx)
  · rw [gd_ge (by omega)]; decide
theorem OkR.big {r : List Nat} (h : OkR r) {x y : Nat} (hy : 20 ≤ y) : hasR r x y = false := by
  unfold hasR
  exact Nat.testBit_lt_two_pow (Nat.lt_of_lt_of_le (h.at x) (show 1048576 ≤ 2 ^ y from by
    have : 2 ^ 20 ≤ 2 ^ y := Nat.pow_le_pow_right (by decide) hy
    simpa using this))
theorem hasR_out {r : List Nat} (h : OkR r) {x y : Nat} (hx : 20 ≤ x) : hasR r x y = false := by
  unfold hasR
  rw [gd_ge (by rw [h.len]; exact hx)]
  simp
theorem zeroR_ok : OkR zeroR := ⟨by simp [zeroR], fun a ha => by rw [List.eq_of_mem_replicate ha]; decide⟩
theorem zeroR_has (x y : Nat) : hasR zeroR x y = false := by
  unfold hasR zeroR
  rw [List.getD_eq_getElem?_getD, List.getElem?_replicate]
  split <;> simp
theorem mem_vtx {a y : Nat} : y ∈ vtx a ↔ y < 20 ∧ a.testBit y = true := by simp [vtx]
theorem mem_prs {r : List Nat} {e : Ent} : e ∈ prs r ↔ ∃ x y, x < 20 ∧ y < 20 ∧ hasR r x y = true ∧ e = pr x y := by
  unfold prs
  simp only [List.mem_flatMap, List.mem_range, List.mem_map, mem_vtx]
  constructor
  · rintro ⟨x, hx, y, ⟨hy, hb⟩, rfl⟩; exact ⟨x, y, hx, hy, hb, rfl⟩
  · rintro ⟨x, y, hx, hy, hb, rfl⟩; exact ⟨x, hx, y, ⟨hy, hb⟩, rfl⟩
theorem pr_inj {x y x' y' : Nat} (h : pr x y = pr x' y') : x = x' ∧ y = y' := by
  have h1 := congrArg (fun e : Ent => e.1) h
  simp [pr] at h1
  omega
theorem has_prs {r : List Nat} (hr : OkR r) (x y : Nat) : pr x y ∈ prs r ↔ hasR r x y = true := by
  rw [mem_prs]
  constructor
  · rintro ⟨x', y', _, _, hb, e⟩
    obtain ⟨rfl, rfl⟩ := pr_inj e
    exact hb
  · intro h
    refine ⟨x, y, ?_, ?_, h, rfl⟩
    · apply Decidable.byContradiction; intro hx; rw [hasR_out hr (by omega)] at h; cases h
    · apply Decidable.byContradiction; intro hy; rw [hr.big (by omega)] at h; cases h
theorem prs_ones (r : List Nat) : Ones (prs r) := fun e he => by
  obtain ⟨x, y, _, _, _, rfl⟩ := mem_prs.1 he
  rfl
theorem less2 (a b c d : Int) : lessB [a, b] [c, d] = decide (a < c ∨ a = c ∧ b < d) := by
  simp only [lessB, cmpL, cmpI]
  by_cases h1 : a < c
  · simp [h1]
  · by_cases h2 : c < a
    · have : a ≠ c := by omega
      simp [h1, h2, this]
    · obtain rfl : a = c := by omega
      by_cases h3 : b < d
      · simp [h3]
      · by_cases h4 : d < b
        · simp [h3, h4]
        · simp [h3, h4]
theorem prs_asc (r : List Nat) : Asc lessB (prs r) := by
  unfold Asc prs
  rw [List.pairwise_flatMap]
  constructor
  · intro x _
    rw [List.pairwise_map]
    refine List.Pairwise.sublist List.filter_sublist (List.pairwise_lt_range.imp ?_)
    intro a b hab
    simp only [pr, less2]
    simp; omega
  · refine List.pairwise_lt_range.imp ?_
    intro a b hab e he f hf
    obtain ⟨y, _, rfl⟩ := List.mem_map.1 he
    obtain ⟨z, _, rfl⟩ := List.mem_map.1 hf
    simp only [pr, less2]
    simp; omega
theorem flatR_len {α β : Type} (f : α → List β) (n : Nat) (h : ∀ x, (f x).length ≤ n) : ∀ l : List α, (l.flatMap f).length ≤ l.length * n
  | [] => by simp
  | x :: l => by
    have h1 := flatR_len f n h l
    have h2 := h x
    rw [List.flatMap_cons, List.length_append, List.length_cons, Nat.add_mul, Nat.one_mul]
    omega
theorem vtx_len (a : Nat) : (vtx a).length ≤ 20 := by
  have := List.length_filter_le (fun y => a.testBit y) (List.range 20)
  simpa [vtx] using this
theorem prs_len (r : List Nat) : (prs r).length ≤ 400 := by
  have := flatR_len (fun x => (vtx (r.getD x 0)).map (pr x)) 20 (fun x => by rw [List.length_map]; exact vtx_len _) (List.range 20)
  simpa [prs] using this
theorem prs_row (r : List Nat) : ∀ e ∈ prs r, rowB e.1 = true ∧ e.1.length = 2 := fun e he => by
  obtain ⟨x, y, hx, hy, _, rfl⟩ := mem_prs.1 he
  refine ⟨?_, rfl⟩
  simp [pr, rowB, inB]
  omega
theorem prs_zs (r : List Nat) : zsB (prs r) = true :=
  zsB_mk (n := 2) (prs_len r) (fun e he => by
    have h1 := prs_ones r e he
    have h2 := (prs_row r e he).1
    simp [sumE, h1, h2, wtB, inB]) (fun e he => by rw [prs_ones r e he]; decide) (fun e he => (prs_row r e he).2) (prs_asc r)
theorem prs_ext {r s : List Nat} (hr : OkR r) (hs : OkR s) : prs r = prs s ↔ ∀ x y, hasR r x y = hasR s x y := by
  constructor
  · intro h x y
    have h1 := has_prs hr x y
    rw [h, has_prs hs] at h1
    exact Bool.eq_iff_iff.2 h1.symm
  · intro h
    refine ones_ext (prs_asc r) (prs_asc s) (prs_ones r) (prs_ones s) (fun k => ?_)
    rw [mem_prs, mem_prs]
    simp only [h]
theorem prs_nil {r : List Nat} (hr : OkR r) : prs r = [] ↔ ∀ x y, hasR r x y = false := by
  constructor
  · intro h x y
    have := has_prs hr x y
    rw [h] at this
    cases hb : hasR r x y
    · rfl
    · rw [hb] at this; simp at this
  · intro h
    apply List.eq_nil_iff_forall_not_mem.2
    intro e he
    obtain ⟨x, y, _, _, hb, _⟩ := mem_prs.1 he
    rw [h] at hb; cases hb
theorem rel_zero {r : List Nat} (hr : OkR r) : r = zeroR ↔ prs r = [] := by
  rw [prs_nil hr]
  constructor
  · rintro rfl x y; exact zeroR_has x y
  · intro h
    apply List.ext_getElem (by rw [hr.len]; simp [zeroR])
    intro i h1 h2
    have h0 : r[i] = 0 := by
      apply Nat.eq_of_testBit_eq
      intro y
      have := h i y
      rw [hasR, gd_lt h1] at this
      rw [this]; simp
    rw [h0]; exact (List.eq_of_mem_replicate (List.getElem_mem h2)).symm
end Go.Proofs.Ytifjenleoagefaa
