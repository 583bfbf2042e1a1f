/- HELPER, no statement of the seat: IsTransitive of both sides. -/
import Derived.Test.YtifjenleoagefaaGreatRs
import Derived.Test.YtifjenleoagefaaGreatRd
namespace Go.Proofs.YtifjenleoagefaaGreat
open Go.RowKit Go.Sort
set_option linter.unusedSimpArgs false
set_option linter.unusedVariables false

def TrF (es : List Ent) : Bool := edgB es && decide ((minE (compE es es) es).length = 0)
theorem edg_two {es : List Ent} (h : edgB es = true) : es.length ≤ 400 ∧ ∀ e ∈ es, e.1.length = 2 := by
  obtain ⟨h1, _, h3⟩ := edgB_parts h
  exact ⟨zsB_len h1, fun e he => by obtain ⟨X, Y, _, _, e1⟩ := edgeE_row (h3 e he); rw [e1]; rfl⟩
theorem comp_edg {es : List Ent} (h : edgB es = true) : compE es es = prs (thenR (relOf es) (relOf es)) := by
  have hr := relOf_ok h
  have := compE_prs hr hr
  rwa [prs_relOf h] at this
theorem min_edg {es : List Ent} (h : edgB es = true) : minE (compE es es) es = prs (nandR (thenR (relOf es) (relOf es)) (relOf es)) := by
  have hr := relOf_ok h
  have := minE_prs (thenR_ok hr hr) hr
  rw [prs_relOf h] at this
  rw [comp_edg h, this]
theorem TrF_rel {es : List Ent} (h : edgB es = true) : TrF es = decide (nandR (thenR (relOf es) (relOf es)) (relOf es) = zeroR) := by
  have hr := relOf_ok h
  unfold TrF
  rw [h, Bool.true_and, min_edg h, Bool.eq_iff_iff, decide_eq_true_eq, decide_eq_true_eq, List.length_eq_zero_iff, rel_zero (nandR_ok (thenR_ok hr hr) hr)]
end Go.Proofs.YtifjenleoagefaaGreat
