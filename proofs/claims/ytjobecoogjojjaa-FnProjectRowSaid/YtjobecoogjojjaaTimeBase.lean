/- HELPER, no statement of the seat: contracts of the functions on times. -/
import Derived.Test.YtjobecoogjojjaaRows
import Derived.Test.YtjobecoogjojjaaZba
import Derived.WalkKit
import Derived.ProofKit
import Derived.OpenShut
import Derived.WalkLawsBesides
import Derived.Laws.ResultCell
import Derived.Below
import Derived.Outline
namespace Go.Proofs.Ytjobecoogjojjaa
open Go.RowKit
set_option linter.unusedSimpArgs false
set_option linter.unusedVariables false

def leB (x y u v : Int) : Bool := decide (x ≤ u ∧ y ≤ v)
def bfB (x y u v : Int) : Bool := decide (x < u ∨ x = u ∧ y < v)
def eqB (x y u v : Int) : Bool := decide (x = u ∧ y = v)
def vtB (x y : Int) : Bool := decide (0 ≤ x ∧ x ≤ 99 ∧ 0 ≤ y ∧ y ≤ 99)

theorem toTime_any (x y : Int) (w : World) : Calls Try.prog 163 #[.agg #[.int .i64 x, .int .i64 y]] w fun e w' =>
    e = .returned (.agg #[.int .i64 x, .int .i64 y]) ∧ Below w.heap.size w w' := by
  go_enter Try.func163, Try.ntmps163
  go_wp2
  exact bodyPost_ret (v := .agg #[.int .i64 x, .int .i64 y]) (by simp [results, Try.results163, go_sem]) rfl ⟨rfl, (by repeat (first | exact Below.refl _ _ | refine bal ?_ _ | refine Below.drew ?_))⟩

theorem timeJoin_s (x y u v : Int) (w : World) : Calls Try.prog 158 #[.agg #[.int .i64 x, .int .i64 y], .agg #[.int .i64 u, .int .i64 v]] w fun e w' =>
    e = .returned (.agg #[.int .i64 (max x u), .int .i64 (max y v)]) ∧ Below w.heap.size w w' := by
  by_cases h1 : x < u <;> by_cases h2 : y < v
  all_goals
    go_enter Try.func158, Try.ntmps158
    go_wp2
    exact bodyPost_ret (v := .agg #[.int .i64 (max x u), .int .i64 (max y v)]) (by simp [results, Try.results158, go_sem]; omega) rfl ⟨rfl, (by repeat (first | exact Below.refl _ _ | refine bal ?_ _ | refine Below.drew ?_))⟩

theorem timeJoin_i (x y u v : Int) (w : World) : Calls Try.prog 104 #[.agg #[.int .i64 x, .int .i64 y], .agg #[.int .i64 u, .int .i64 v]] w fun e w' =>
    e = .returned (.agg #[.int .i64 (max x u), .int .i64 (max y v)]) ∧ Below w.heap.size w w' := by
  by_cases h1 : x < u <;> by_cases h2 : y < v
  all_goals
    go_enter Try.func104, Try.ntmps104
    go_wp2
    exact bodyPost_ret (v := .agg #[.int .i64 (max x u), .int .i64 (max y v)]) (by simp [results, Try.results104, go_sem]; omega) rfl ⟨rfl, (by repeat (first | exact Below.refl _ _ | refine bal ?_ _ | refine Below.drew ?_))⟩

theorem timeMeet_s (x y u v : Int) (w : World) : Calls Try.prog 159 #[.agg #[.int .i64 x, .int .i64 y], .agg #[.int .i64 u, .int .i64 v]] w fun e w' =>
    e = .returned (.agg #[.int .i64 (min x u), .int .i64 (min y v)]) ∧ Below w.heap.size w w' := by
  by_cases h1 : u < x <;> by_cases h2 : v < y
  all_goals
    go_enter Try.func159, Try.ntmps159
    go_wp2
    exact bodyPost_ret (v := .agg #[.int .i64 (min x u), .int .i64 (min y v)]) (by simp [results, Try.results159, go_sem]; omega) rfl ⟨rfl, (by repeat (first | exact Below.refl _ _ | refine bal ?_ _ | refine Below.drew ?_))⟩

theorem timeMeet_i (x y u v : Int) (w : World) : Calls Try.prog 105 #[.agg #[.int .i64 x, .int .i64 y], .agg #[.int .i64 u, .int .i64 v]] w fun e w' =>
    e = .returned (.agg #[.int .i64 (min x u), .int .i64 (min y v)]) ∧ Below w.heap.size w w' := by
  by_cases h1 : u < x <;> by_cases h2 : v < y
  all_goals
    go_enter Try.func105, Try.ntmps105
    go_wp2
    exact bodyPost_ret (v := .agg #[.int .i64 (min x u), .int .i64 (min y v)]) (by simp [results, Try.results105, go_sem]; omega) rfl ⟨rfl, (by repeat (first | exact Below.refl _ _ | refine bal ?_ _ | refine Below.drew ?_))⟩

theorem timeLe_s (x y u v : Int) (w : World) : Calls Try.prog 148 #[.agg #[.int .i64 x, .int .i64 y], .agg #[.int .i64 u, .int .i64 v]] w fun e w' =>
    e = .returned (.bool (leB x y u v)) ∧ Below w.heap.size w w' := by
  by_cases h0 : x ≤ u <;> by_cases h1 : y ≤ v
  all_goals (try (exfalso; omega))
  all_goals
    go_enter Try.func148, Try.ntmps148
    go_wp2
    go_ret
    exact ⟨ret_bool (by simp [leB, bfB, eqB, vtB, *] <;> omega), (by repeat (first | exact Below.refl _ _ | refine bal ?_ _ | refine Below.drew ?_))⟩

theorem timeLe_i (x y u v : Int) (w : World) : Calls Try.prog 82 #[.agg #[.int .i64 x, .int .i64 y], .agg #[.int .i64 u, .int .i64 v]] w fun e w' =>
    e = .returned (.bool (leB x y u v)) ∧ Below w.heap.size w w' := by
  by_cases h0 : x ≤ u <;> by_cases h1 : y ≤ v
  all_goals (try (exfalso; omega))
  all_goals
    go_enter Try.func82, Try.ntmps82
    go_wp2
    go_ret
    exact ⟨ret_bool (by simp [leB, bfB, eqB, vtB, *] <;> omega), (by repeat (first | exact Below.refl _ _ | refine bal ?_ _ | refine Below.drew ?_))⟩

theorem TimeLe_i (x y u v : Int) (w : World) : Calls Try.prog 27 #[.agg #[.int .i64 x, .int .i64 y], .agg #[.int .i64 u, .int .i64 v]] w fun e w' =>
    e = .returned (.bool (leB x y u v)) ∧ Below w.heap.size w w' := by
  by_cases h0 : x ≤ u <;> by_cases h1 : y ≤ v
  all_goals (try (exfalso; omega))
  all_goals
    go_enter Try.func27, Try.ntmps27
    go_wp2
    go_ret
    exact ⟨ret_bool (by simp [leB, bfB, eqB, vtB, *] <;> omega), (by repeat (first | exact Below.refl _ _ | refine bal ?_ _ | refine Below.drew ?_))⟩

theorem eqTime_any (x y u v : Int) (w : World) : Calls Try.prog 124 #[.agg #[.int .i64 x, .int .i64 y], .agg #[.int .i64 u, .int .i64 v]] w fun e w' =>
    e = .returned (.bool (eqB x y u v)) ∧ Below w.heap.size w w' := by
  by_cases h0 : x = u <;> by_cases h1 : y = v
  all_goals (try (exfalso; omega))
  all_goals
    go_enter Try.func124, Try.ntmps124
    go_wp2
    go_ret
    exact ⟨ret_bool (by simp [leB, bfB, eqB, vtB, *] <;> omega), (by repeat (first | exact Below.refl _ _ | refine bal ?_ _ | refine Below.drew ?_))⟩

theorem ValidTime_i (x y : Int) (w : World) : Calls Try.prog 26 #[.agg #[.int .i64 x, .int .i64 y]] w fun e w' =>
    e = .returned (.bool (vtB x y)) ∧ Below w.heap.size w w' := by
  by_cases h0 : 0 ≤ x <;> by_cases h1 : x ≤ 99 <;> by_cases h2 : 0 ≤ y <;> by_cases h3 : y ≤ 99
  all_goals (try (exfalso; omega))
  all_goals
    go_enter Try.func26, Try.ntmps26
    go_wp2
    go_ret
    exact ⟨ret_bool (by simp [leB, bfB, eqB, vtB, *] <;> omega), (by repeat (first | exact Below.refl _ _ | refine bal ?_ _ | refine Below.drew ?_))⟩

theorem validTime_s (x y : Int) (w : World) : Calls Try.prog 88 #[.agg #[.int .i64 x, .int .i64 y]] w fun e w' =>
    e = .returned (.bool (vtB x y)) ∧ Below w.heap.size w w' := by
  by_cases h0 : 0 ≤ x <;> by_cases h1 : x ≤ 99 <;> by_cases h2 : 0 ≤ y <;> by_cases h3 : y ≤ 99
  all_goals (try (exfalso; omega))
  all_goals
    go_enter Try.func88, Try.ntmps88
    go_wp2
    go_ret
    exact ⟨ret_bool (by simp [leB, bfB, eqB, vtB, *] <;> omega), (by repeat (first | exact Below.refl _ _ | refine bal ?_ _ | refine Below.drew ?_))⟩

theorem isValid_i (x y : Int) (w : World) : Calls Try.prog 81 #[.agg #[.int .i64 x, .int .i64 y]] w fun e w' =>
    e = .returned (.bool (vtB x y)) ∧ Below w.heap.size w w' := by
  by_cases h0 : 0 ≤ x <;> by_cases h1 : x ≤ 99 <;> by_cases h2 : 0 ≤ y <;> by_cases h3 : y ≤ 99
  all_goals (try (exfalso; omega))
  all_goals
    go_enter Try.func81, Try.ntmps81
    go_wp2
    go_ret
    exact ⟨ret_bool (by simp [leB, bfB, eqB, vtB, *] <;> omega), (by repeat (first | exact Below.refl _ _ | refine bal ?_ _ | refine Below.drew ?_))⟩

theorem timeBefore_s (x y u v : Int) (w : World) : Calls Try.prog 119 #[.agg #[.int .i64 x, .int .i64 y], .agg #[.int .i64 u, .int .i64 v]] w fun e w' =>
    e = .returned (.bool (bfB x y u v)) ∧ Below w.heap.size w w' := by
  by_cases h0 : x < u <;> by_cases h1 : x = u <;> by_cases h2 : y < v
  all_goals (try (exfalso; omega))
  all_goals
    go_enter Try.func119, Try.ntmps119
    go_wp2
    go_ret
    exact ⟨ret_bool (by simp [leB, bfB, eqB, vtB, *] <;> omega), (by repeat (first | exact Below.refl _ _ | refine bal ?_ _ | refine Below.drew ?_))⟩

end Go.Proofs.Ytjobecoogjojjaa
