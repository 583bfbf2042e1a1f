/- HELPER, no statement of the seat: FilterTrace of both sides. -/
import Derived.Test.YtkonhjdfcfljpaaFilI
import Derived.Test.YtkonhjdfcfljpaaBlu
namespace Go.Proofs.Ytkonhjdfcfljpaa
open Go.RowKit Go.Sort
set_option linter.unusedSimpArgs false
set_option linter.unusedVariables false

theorem trB_filter {l : List Upd} (p : Upd → Bool) (h : trB l = true) : trB (l.filter p) = true := trB_sub List.filter_sublist h
theorem chkT_filter {l : List Upd} (p : Upd → Bool) (h : trB l = true) : chkT (l.filter p) = l.filter p := by simp [chkT, trB_filter p h]
theorem widU_row {l : List Upd} (h : trB l = true) (hp : 0 < l.length) : 1 ≤ widU l ∧ widU l ≤ 6 := by
  have h1 := trB_wid h _ (List.getElem_mem hp)
  have h2 := (sumU_parts (trB_sum h _ (List.getElem_mem hp))).1
  rw [← h1]
  simp only [rowB, decide_eq_true_eq] at h2
  exact ⟨h2.1, h2.2.1⟩
/-- What FilterTrace gives. -/
def FilFU (z : List Upd) (c k v : Int) : List Upd := if (trB z && pvB c k v (widU z)) = true then z.filter (fun e => holdP c.toNat k v e.1.1) else []
theorem FilFU_len (z : List Upd) (c k v : Int) : (FilFU z c k v).length ≤ 400 := by
  unfold FilFU
  split
  · rename_i h
    simp only [Bool.and_eq_true] at h
    exact Nat.le_trans (List.length_filter_le _ _) ((trB_parts h.1).1)
  · simp
theorem FilFU_row (z : List Upd) (c k v : Int) : rowsU (FilFU z c k v) 6 := by
  unfold FilFU
  split
  · rename_i h
    simp only [Bool.and_eq_true] at h
    exact fun e he => trB_row h.1 e (List.mem_filter.1 he).1
  · intro e he; cases he
/-! ### The model's -/
end Go.Proofs.Ytkonhjdfcfljpaa
