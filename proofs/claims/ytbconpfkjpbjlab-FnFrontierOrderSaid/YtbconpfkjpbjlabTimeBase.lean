/- HELPER, no statement of the seat: contracts of the functions on times. -/
import Derived.Test.YtbconpfkjpbjlabRows
import Derived.Test.YtbconpfkjpbjlabZba
import Derived.WalkKit
import Derived.ProofKit
import Derived.OpenShut
import Derived.WalkLawsBesides
import Derived.Laws.ResultCell
import Derived.Below
import Derived.Outline
namespace Go.Proofs.Ytbconpfkjpbjlab
open Go.RowKit
set_option linter.unusedSimpArgs false
set_option linter.unusedVariables false

def leB (x y u v : Int) : Bool := decide (x ≤ u ∧ y ≤ v)
def bfB (x y u v : Int) : Bool := decide (x < u ∨ x = u ∧ y < v)
def eqB (x y u v : Int) : Bool := decide (x = u ∧ y = v)
def vtB (x y : Int) : Bool := decide (0 ≤ x ∧ x ≤ 99 ∧ 0 ≤ y ∧ y ≤ 99)

theorem timeLe_s (x y u v : Int) (w : World) : Calls Try.prog 23 #[.agg #[.int .i64 x, .int .i64 y], .agg #[.int .i64 u, .int .i64 v]] w fun e w' =>
    e = .returned (.bool (leB x y u v)) ∧ Below w.heap.size w w' := by
  by_cases h0 : x ≤ u <;> by_cases h1 : y ≤ v
  all_goals (try (exfalso; omega))
  all_goals
    go_enter Try.func23, Try.ntmps23
    go_wp2
    go_ret
    exact ⟨ret_bool (by simp [leB, bfB, eqB, vtB, *] <;> omega), (by repeat (first | exact Below.refl _ _ | refine bal ?_ _ | refine Below.drew ?_))⟩

theorem timeLe_i (x y u v : Int) (w : World) : Calls Try.prog 20 #[.agg #[.int .i64 x, .int .i64 y], .agg #[.int .i64 u, .int .i64 v]] w fun e w' =>
    e = .returned (.bool (leB x y u v)) ∧ Below w.heap.size w w' := by
  by_cases h0 : x ≤ u <;> by_cases h1 : y ≤ v
  all_goals (try (exfalso; omega))
  all_goals
    go_enter Try.func20, Try.ntmps20
    go_wp2
    go_ret
    exact ⟨ret_bool (by simp [leB, bfB, eqB, vtB, *] <;> omega), (by repeat (first | exact Below.refl _ _ | refine bal ?_ _ | refine Below.drew ?_))⟩

theorem validTime_s (x y : Int) (w : World) : Calls Try.prog 21 #[.agg #[.int .i64 x, .int .i64 y]] w fun e w' =>
    e = .returned (.bool (vtB x y)) ∧ Below w.heap.size w w' := by
  by_cases h0 : 0 ≤ x <;> by_cases h1 : x ≤ 99 <;> by_cases h2 : 0 ≤ y <;> by_cases h3 : y ≤ 99
  all_goals (try (exfalso; omega))
  all_goals
    go_enter Try.func21, Try.ntmps21
    go_wp2
    go_ret
    exact ⟨ret_bool (by simp [leB, bfB, eqB, vtB, *] <;> omega), (by repeat (first | exact Below.refl _ _ | refine bal ?_ _ | refine Below.drew ?_))⟩

theorem isValid_i (x y : Int) (w : World) : Calls Try.prog 18 #[.agg #[.int .i64 x, .int .i64 y]] w fun e w' =>
    e = .returned (.bool (vtB x y)) ∧ Below w.heap.size w w' := by
  by_cases h0 : 0 ≤ x <;> by_cases h1 : x ≤ 99 <;> by_cases h2 : 0 ≤ y <;> by_cases h3 : y ≤ 99
  all_goals (try (exfalso; omega))
  all_goals
    go_enter Try.func18, Try.ntmps18
    go_wp2
    go_ret
    exact ⟨ret_bool (by simp [leB, bfB, eqB, vtB, *] <;> omega), (by repeat (first | exact Below.refl _ _ | refine bal ?_ _ | refine Below.drew ?_))⟩

theorem timeBefore_s (x y u v : Int) (w : World) : Calls Try.prog 22 #[.agg #[.int .i64 x, .int .i64 y], .agg #[.int .i64 u, .int .i64 v]] w fun e w' =>
    e = .returned (.bool (bfB x y u v)) ∧ Below w.heap.size w w' := by
  by_cases h0 : x < u <;> by_cases h1 : x = u <;> by_cases h2 : y < v
  all_goals (try (exfalso; omega))
  all_goals
    go_enter Try.func22, Try.ntmps22
    go_wp2
    go_ret
    exact ⟨ret_bool (by simp [leB, bfB, eqB, vtB, *] <;> omega), (by repeat (first | exact Below.refl _ _ | refine bal ?_ _ | refine Below.drew ?_))⟩

end Go.Proofs.Ytbconpfkjpbjlab
