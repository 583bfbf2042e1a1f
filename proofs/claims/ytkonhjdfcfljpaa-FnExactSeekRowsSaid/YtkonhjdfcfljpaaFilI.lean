/- HELPER, no statement of the seat: Filter of both sides. -/
import Derived.Test.YtkonhjdfcfljpaaFilE
import Derived.Test.YtkonhjdfcfljpaaZbn
namespace Go.Proofs.Ytkonhjdfcfljpaa
open Go.RowKit Go.Sort
set_option linter.unusedSimpArgs false
set_option linter.unusedVariables false


/-- What Filter gives. -/
def FilF (z : List Ent) (c k v : Int) : List Ent := if (zsB z && pvB c k v (wid z)) = true then z.filter (fun e => holdP c.toNat k v e.1) else []
theorem FilF_len (z : List Ent) (c k v : Int) : (FilF z c k v).length ≤ 400 := by
  unfold FilF
  split
  · rename_i h
    simp only [Bool.and_eq_true] at h
    exact Nat.le_trans (List.length_filter_le _ _) (zsB_len h.1)
  · simp
theorem FilF_row (z : List Ent) (c k v : Int) : rowsIn (FilF z c k v) 6 := by
  unfold FilF
  split
  · rename_i h
    simp only [Bool.and_eq_true] at h
    exact fun e he => zsB_row h.1 e (List.mem_filter.1 he).1
  · intro e he; cases he
theorem pvB_iff {c k v n : Int} : pvB c k v n = true ↔ (1 ≤ n ∧ n ≤ 6) ∧ (0 ≤ c ∧ c < n) ∧ (1 ≤ k ∧ k ≤ 4) ∧ (-9999 ≤ v ∧ v ≤ 9999) := by
  simp only [pvB, inB, Bool.and_eq_true, decide_eq_true_eq]
  constructor <;> (intro h; omega)

/-! ### The model's -/
end Go.Proofs.Ytkonhjdfcfljpaa
