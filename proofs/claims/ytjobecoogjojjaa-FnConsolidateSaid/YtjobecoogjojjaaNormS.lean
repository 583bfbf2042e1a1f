/- HELPER, no statement of the seat: the model's Normalize. -/
import Derived.Test.YtjobecoogjojjaaAddZ
namespace Go.Proofs.Ytjobecoogjojjaa
open Go.RowKit Go.Sort
set_option linter.unusedSimpArgs false
set_option linter.unusedVariables false


theorem sums_wts_s {es : List Ent} (h : sumsB es = true) : wts es 1000000 := fun e he => by
  obtain ⟨j, hj, rfl⟩ := List.getElem_of_mem he
  have := allTo_iff.1 h j hj
  simp only [sumE, Bool.and_eq_true, nth_get hj] at this
  have := this.2
  simpa [wtB, inB] using this
theorem sums_rows_s {es : List Ent} (h : sumsB es = true) : rowsIn es 6 := fun e he => by
  obtain ⟨j, hj, rfl⟩ := List.getElem_of_mem he
  have := allTo_iff.1 h j hj
  simp only [sumE, Bool.and_eq_true, nth_get hj] at this
  exact row_len this.1

end Go.Proofs.Ytjobecoogjojjaa
