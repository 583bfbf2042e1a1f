/- HELPER, no statement of the seat: predicates. -/
import Derived.Test.YtffgonddephkkaaZba
import Derived.Laws.ResultCell
namespace Go.Proofs.Ytffgonddephkkaa
open Go.RowKit
set_option linter.unusedSimpArgs false
set_option linter.unusedVariables false

abbrev prd (c k v : Int) : Value := .agg #[.int .i64 c, .int .i64 k, .int .i64 v]
def pvB (c k v n : Int) : Bool := inB n 1 6 && (inB c 0 (n - 1) && (inB k 1 4 && inB v (-9999) 9999))
theorem toPredicate_any (c k v : Int) (w : World) : Calls Try.prog 84 #[.agg #[.int .i64 c, .int .i64 k, .int .i64 v]] w fun e w' => e = .returned (.agg #[.int .i64 c, .int .i64 k, .int .i64 v]) ∧ Below w.heap.size w w' := by
  go_enter Try.func84, Try.ntmps84
  go_wp2
  exact bodyPost_ret (v := .agg #[.int .i64 c, .int .i64 k, .int .i64 v]) (by simp [results, Try.results84, go_sem]) rfl ⟨rfl, (by repeat (first | exact Below.refl _ _ | refine bal ?_ _ | refine bset ?_ (by simp) _ | refine Below.drew ?_))⟩
theorem inR_lit (n lo hi : Int) (b : Bool) (h : inB n lo hi = b) (w : World) : Calls Try.prog 54 #[.int .i64 n, .int .i64 lo, .int .i64 hi] w fun e w' => e = .returned (.bool b) ∧ w = w' :=
  (inRange_any n lo hi w).mono fun e w' ⟨he, hw⟩ => ⟨by rw [he, h], hw⟩

end Go.Proofs.Ytffgonddephkkaa
