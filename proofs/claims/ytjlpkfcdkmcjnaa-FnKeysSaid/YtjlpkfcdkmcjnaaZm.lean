/- HELPER, no statement of the seat: Z-sets as lists; no program. -/
import Derived.Test.YtjlpkfcdkmcjnaaEnt
namespace Go.Proofs.Ytjlpkfcdkmcjnaa
set_option linter.unusedSimpArgs false
set_option linter.unusedVariables false

/-- p holds of all numbers below k. -/
def allTo (p : Nat → Bool) (k : Nat) : Bool := (List.range k).all p
theorem allTo_zero (p : Nat → Bool) : allTo p 0 = true := rfl
theorem allTo_step {p : Nat → Bool} {k : Nat} (h : allTo p k = true) (hp : p k = true) : allTo p (k + 1) = true := by
  unfold allTo at *
  rw [List.range_succ, List.all_append, h]
  simp [hp]
theorem allTo_bad {p : Nat → Bool} {k n : Nat} (hk : k < n) (hp : p k = false) : allTo p n = false := by
  unfold allTo
  rw [List.all_eq_false]
  exact ⟨k, by simpa using hk, by simp [hp]⟩
theorem allTo_iff {p : Nat → Bool} {n : Nat} : allTo p n = true ↔ ∀ k, k < n → p k = true := by
  unfold allTo
  simp [List.all_eq_true]
theorem allTo_and {p q : Nat → Bool} {n : Nat} : allTo (fun k => p k && q k) n = (allTo p n && allTo q n) := by
  rw [Bool.eq_iff_iff]
  simp only [allTo_iff, Bool.and_eq_true]
  exact ⟨fun h => ⟨fun k hk => (h k hk).1, fun k hk => (h k hk).2⟩, fun h k hk => ⟨h.1 k hk, h.2 k hk⟩⟩

def wtB (x : Int) : Bool := inB x (-1000000) 1000000
def nth (z : List Ent) (j : Nat) : Ent := z.getD j ([], 0)
theorem nth_get {z : List Ent} {j : Nat} (h : j < z.length) : nth z j = z[j] := by simp [nth, h]
def wid (z : List Ent) : Nat := (nth z 0).1.length
/-- An entry that may be added. -/
def sumE (e : Ent) : Bool := rowB e.1 && wtB e.2
/-- An entry in its place. -/
def stepB (z : List Ent) (j : Nat) : Bool := decide ((nth z j).2 ≠ 0) && (decide ((nth z j).1.length = wid z) && (decide (j = 0) || lessB (nth z (j - 1)).1 (nth z j).1))
def sumsB (z : List Ent) : Bool := allTo (fun j => sumE (nth z j)) z.length
def ordB (z : List Ent) : Bool := allTo (stepB z) z.length
def zsB (z : List Ent) : Bool := decide (z.length ≤ 400) && (sumsB z && ordB z)
theorem zsB_len {z : List Ent} (h : zsB z = true) : z.length ≤ 400 := by
  simp only [zsB, Bool.and_eq_true, decide_eq_true_eq] at h
  exact h.1
theorem zsB_all {z : List Ent} : zsB z = (allTo (fun j => sumE (nth z j) && stepB z j) z.length && decide (z.length ≤ 400)) := by
  rw [allTo_and, zsB, sumsB, ordB, Bool.and_comm]
theorem zsB_get {z : List Ent} (h : zsB z = true) {j : Nat} (hj : j < z.length) : rowB z[j].1 = true ∧ wtB z[j].2 = true ∧ z[j].2 ≠ 0 ∧ z[j].1.length = wid z := by
  rw [zsB_all] at h
  simp only [Bool.and_eq_true] at h
  have := allTo_iff.1 h.1 j hj
  simp only [sumE, stepB, Bool.and_eq_true, decide_eq_true_eq, nth_get hj] at this
  exact ⟨this.1.1, this.1.2, this.2.1, this.2.2.1⟩
theorem zsB_row {z : List Ent} (h : zsB z = true) : rowsIn z 6 := by
  intro e he
  obtain ⟨j, hj, rfl⟩ := List.getElem_of_mem he
  exact row_len (zsB_get h hj).1
theorem zsB_wt {z : List Ent} (h : zsB z = true) {j : Nat} (hj : j < z.length) : -1000000 ≤ z[j].2 ∧ z[j].2 ≤ 1000000 := by
  have := (zsB_get h hj).2.1
  simpa [wtB, inB] using this

/-! ### Weights -/
def totW (z : List Ent) : Int := (z.map (·.2)).sum
theorem totW_step {z : List Ent} {k : Nat} (h : k < z.length) : totW (z.take (k + 1)) = totW (z.take k) + z[k].2 := by
  rw [List.take_succ_eq_append_getElem h]
  simp only [totW, List.map_append, List.sum_append, List.map_cons, List.map_nil, List.sum_cons, List.sum_nil, Int.add_zero]
theorem totW_bd {z : List Ent} (h : ∀ e ∈ z, -1000000 ≤ e.2 ∧ e.2 ≤ 1000000) : ∀ k : Nat, -1000000 * (k : Int) ≤ totW (z.take k) ∧ totW (z.take k) ≤ 1000000 * k := by
  intro k
  induction k with
  | zero => simp [totW]
  | succ k ih =>
    by_cases hk : k < z.length
    · rw [totW_step hk]
      have := h _ (List.getElem_mem hk)
      constructor <;> push_cast <;> omega
    · rw [List.take_of_length_le (by omega)]
      rw [List.take_of_length_le (by omega)] at ih
      constructor <;> push_cast <;> omega
def TotF (z : List Ent) : Int := if zsB z = true then totW z else 0
def wOf (z : List Ent) (r : List Int) : Int := ((z.find? fun e => decide (e.1 = r)).map (·.2)).getD 0
def WeightF (z : List Ent) (r : List Int) : Int := if zsB z = true then wOf z r else 0
/-- None of the first k entries is of the row r. -/
def noneTo (z : List Ent) (r : List Int) (k : Nat) : Prop := ∀ e ∈ z.take k, e.1 ≠ r
theorem noneTo_zero (z : List Ent) (r : List Int) : noneTo z r 0 := fun e he => by simp at he
theorem noneTo_step {z : List Ent} {r : List Int} {k : Nat} (h : noneTo z r k) (hk : k < z.length) (hn : z[k].1 ≠ r) : noneTo z r (k + 1) := by
  intro e he
  rw [List.take_succ_eq_append_getElem hk] at he
  rcases List.mem_append.1 he with he | he
  · exact h e he
  · simp at he; subst he; exact hn
theorem wOf_hit {z : List Ent} {r : List Int} {k : Nat} (h : noneTo z r k) (hk : k < z.length) (hr : z[k].1 = r) : wOf z r = z[k].2 := by
  have : (z.find? fun e => decide (e.1 = r)) = some z[k] := by
    have e : z.find? (fun e => decide (e.1 = r)) = (z.take k ++ z.drop k).find? (fun e => decide (e.1 = r)) := by rw [List.take_append_drop]
    rw [e, List.find?_append, List.find?_eq_none.2 (by intro x hx; simpa using h x hx), List.drop_eq_getElem_cons hk, Option.none_or, List.find?_cons_of_pos (by simp [hr])]
  rw [wOf, this]; rfl
theorem wOf_none {z : List Ent} {r : List Int} (h : noneTo z r z.length) : wOf z r = 0 := by
  rw [noneTo, List.take_length] at h
  rw [wOf, List.find?_eq_none.2 (by intro x hx; simpa using h x hx)]
  rfl
def oneB (z : List Ent) : Bool := allTo (fun j => decide ((nth z j).2 = 1)) z.length
def setB (z : List Ent) : Bool := zsB z && oneB z
def negL (z : List Ent) : List Ent := z.map fun e => (e.1, -e.2)
def NegF (z : List Ent) : List Ent := if zsB z = true then negL z else []
def disL (z : List Ent) : List Ent := (z.filter fun e => decide (0 < e.2)).map fun e => (e.1, 1)
def DisF (z : List Ent) : List Ent := if zsB z = true then disL z else []
theorem disL_step {z : List Ent} {k : Nat} (h : k < z.length) : disL (z.take (k + 1)) = disL (z.take k) ++ if 0 < z[k].2 then [(z[k].1, 1)] else [] := by
  rw [List.take_succ_eq_append_getElem h]
  unfold disL
  rw [List.filter_append, List.map_append]
  congr 1
  by_cases hp : 0 < z[k].2 <;> simp [hp]
end Go.Proofs.Ytjlpkfcdkmcjnaa
