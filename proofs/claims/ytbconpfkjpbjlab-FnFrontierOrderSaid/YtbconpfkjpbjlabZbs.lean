/- HELPER, no statement of the seat: several texts in one file. -/
import Derived.Test.YtbconpfkjpbjlabZba
/- HELPER, no statement of the seat: the program's methods of entries, and its generic tests at entries. -/
namespace Go.Proofs.Ytbconpfkjpbjlab
open Go.RowKit Go.Sort
set_option linter.unusedSimpArgs false
set_option linter.unusedVariables false

theorem wid_nil : wid ([] : List Ent) = 0 := rfl
theorem wid_get {es : List Ent} (h : 0 < es.length) : wid es = es[0].1.length := by rw [wid, nth_get h]
theorem stepB_zero {es : List Ent} {k : Nat} (h : k < es.length) (e : es[k].2 = 0) : stepB es k = false := by simp [stepB, nth_get h, e]
theorem stepB_wid {es : List Ent} {k : Nat} (h : k < es.length) (e : es[k].1.length ≠ wid es) : stepB es k = false := by simp [stepB, nth_get h, e]
theorem stepB_first {es : List Ent} (h : 0 < es.length) (e : es[0].2 ≠ 0) (e1 : es[0].1.length = wid es) : stepB es 0 = true := by simp [stepB, nth_get h, e, e1]
theorem stepB_next {es : List Ent} {m : Nat} (h : m + 1 < es.length) (e : es[m + 1].2 ≠ 0) (e1 : es[m + 1].1.length = wid es) : stepB es (m + 1) = lessB es[m].1 es[m + 1].1 := by simp [stepB, nth_get h, nth_get (show m < es.length by omega), e, e1]

end Go.Proofs.Ytbconpfkjpbjlab

/- HELPER, no statement of the seat: the model's tests and simple functions on lists of entries. -/
namespace Go.Proofs.Ytbconpfkjpbjlab
open Go.RowKit Go.Sort
set_option linter.unusedSimpArgs false
set_option linter.unusedVariables false

theorem inB_below (n : Int) (b : Bool) (h : wtB n = b) (w : World) : Calls Try.prog 30 #[.int .i64 n, .int .i64 (-1000000), .int .i64 1000000] w fun e w' => e = .returned (.bool b) ∧ Below w.heap.size w w' :=
  (inRange_any n _ _ w).mono fun e w' ⟨he, hw⟩ => ⟨by rw [he, ← h]; rfl, hw ▸ Below.refl _ _⟩
/-- The test of the model, of one entry. -/
def goodE (es : List Ent) (k : Nat) : Bool := sumE (nth es k) && stepB es k
theorem zsB_good (es : List Ent) : zsB es = (allTo (goodE es) es.length && decide (es.length ≤ 400)) := zsB_all
theorem zsB_bad {es : List Ent} {k : Nat} (h : k < es.length) (hg : goodE es k = false) : zsB es = false := by rw [zsB_good, allTo_bad h hg]; rfl
theorem good_row {es : List Ent} {k : Nat} (h : k < es.length) (e : rowB es[k].1 = false) : goodE es k = false := by simp [goodE, sumE, nth_get h, e]
theorem good_wt {es : List Ent} {k : Nat} (h : k < es.length) (e : wtB es[k].2 = false) : goodE es k = false := by simp [goodE, sumE, nth_get h, e]
theorem good_step {es : List Ent} {k : Nat} (e : stepB es k = false) : goodE es k = false := by simp [goodE, e]
theorem good_ok {es : List Ent} {k : Nat} (h : k < es.length) (e : rowB es[k].1 = true) (e1 : wtB es[k].2 = true) (e2 : stepB es k = true) : goodE es k = true := by simp [goodE, sumE, nth_get h, e, e1, e2]

end Go.Proofs.Ytbconpfkjpbjlab

/- HELPER, no statement of the seat: sets, weights: both sides. -/
namespace Go.Proofs.Ytbconpfkjpbjlab
open Go.RowKit Go.Sort
set_option linter.unusedSimpArgs false
set_option linter.unusedVariables false

theorem cmpL_zero : ∀ {xs ys : List Int}, cmpL xs ys = 0 ↔ xs = ys
  | [], [] => by simp [cmpL]
  | [], _ :: _ => by simp [cmpL]
  | _ :: _, [] => by simp [cmpL]
  | a :: xs, b :: ys => by
    unfold cmpL
    by_cases h : cmpI a b = 0
    · rw [if_pos h, cmpL_zero]
      have := (cmpI_zero a b).1 h
      subst this
      simp
    · rw [if_neg h]
      constructor
      · intro e; exact absurd e h
      · intro e
        injection e with e1 e2
        exact absurd ((cmpI_zero a b).2 e1) h
theorem one_get {z : List Ent} {k : Nat} (h : k < z.length) : decide ((nth z k).2 = 1) = decide (z[k].2 = 1) := by rw [nth_get h]
theorem setB_bad {z : List Ent} {k : Nat} (h : k < z.length) (e : z[k].2 ≠ 1) : oneB z = false := allTo_bad h (by rw [one_get h]; simp [e])

theorem tot_step {es : List Ent} (hz : zsB es = true) {k : Nat} (h : k < es.length) :
    totW (es.take (k + 1)) = totW (es.take k) + es[k].2 ∧ -1000000 * (k : Int) ≤ totW (es.take k) ∧ totW (es.take k) ≤ 1000000 * k ∧ -1000000 ≤ es[k].2 ∧ es[k].2 ≤ 1000000 ∧ (k : Int) ≤ 400 := by
  have hb := totW_bd (z := es) (fun e he => by
    obtain ⟨j, hj, rfl⟩ := List.getElem_of_mem he
    exact zsB_wt hz hj) k
  have := zsB_len hz
  exact ⟨totW_step h, hb.1, hb.2, (zsB_wt hz h).1, (zsB_wt hz h).2, by omega⟩
end Go.Proofs.Ytbconpfkjpbjlab
