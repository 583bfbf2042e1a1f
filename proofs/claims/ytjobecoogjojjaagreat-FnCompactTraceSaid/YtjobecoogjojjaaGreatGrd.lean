/- HELPER, no statement of the seat: a list as a fact of a region; isSubset and firstOf of the laws. -/
import Derived.Test.YtjobecoogjojjaaGreatSmI
import Derived.Test.YtjobecoogjojjaaGreatPl
import Derived.Test.YtjobecoogjojjaaGreatNrm
import Derived.Test.YtjobecoogjojjaaGreatGrf
namespace Go.Proofs.YtjobecoogjojjaaGreat
open Go.RowKit Go.Sort
set_option linter.unusedSimpArgs false
set_option linter.unusedVariables false

def ZVr (z : List Ent) (v : Value) (w : World) : Prop := ∃ A c, v = .slice A z.length c ∧ EntsAt w A z ∧ z.length ≤ c
theorem stable_zVr (z : List Ent) : Stable (ZVr z) := fun _ _ _ hb ⟨A, c, e, h, k⟩ => ⟨A, c, e, h.below entR hb, k⟩
/-- Weights of a sum of small ones. -/
theorem W_add {n : Nat} {x y : List Ent} (hx : Sm n 12 9 x) (hy : Sm n 12 9 y) (r : List Int) : WeightF (AddF x y) r = WeightF x r + WeightF y r ∧ (-9 ≤ WeightF x r ∧ WeightF x r ≤ 9) ∧ -9 ≤ WeightF y r ∧ WeightF y r ≤ 9 := by
  rw [WeightF_wsum (hx.add hy (by omega) (by omega) (by omega) (by omega)).zs, WeightF_wsum hx.zs, WeightF_wsum hy.zs]
  exact ⟨hx.add_wsum hy (by omega) (by omega) (by omega) (by omega) r, wsum_in (zsB_asc hx.zs) (by omega) hx.wt r, wsum_in (zsB_asc hy.zs) (by omega) hy.wt r⟩
theorem W_at {z : List Ent} (h : zsB z = true) {k : Nat} (hk : k < z.length) : WeightF z z[k].1 = z[k].2 := by
  rw [WeightF_wsum h]
  exact wsum_at (zsB_asc h) (List.getElem_mem hk)
end Go.Proofs.YtjobecoogjojjaaGreat
