/- HELPER, no statement of the seat: contracts of the functions on times. -/
import Derived.Test.YthefakiobpijiaaRows
import Derived.Test.YthefakiobpijiaaZba
import Derived.WalkKit
import Derived.ProofKit
import Derived.OpenShut
import Derived.WalkLawsBesides
import Derived.Laws.ResultCell
import Derived.Below
import Derived.Outline
namespace Go.Proofs.Ythefakiobpijiaa
open Go.RowKit
set_option linter.unusedSimpArgs false
set_option linter.unusedVariables false

def leB (x y u v : Int) : Bool := decide (x ≤ u ∧ y ≤ v)
def bfB (x y u v : Int) : Bool := decide (x < u ∨ x = u ∧ y < v)
def eqB (x y u v : Int) : Bool := decide (x = u ∧ y = v)
def vtB (x y : Int) : Bool := decide (0 ≤ x ∧ x ≤ 99 ∧ 0 ≤ y ∧ y ≤ 99)

theorem toTime_any (x y : Int) (w : World) : Calls Try.prog 151 #[.agg #[.int .i64 x, .int .i64 y]] w fun e w' =>
    e = .returned (.agg #[.int .i64 x, .int .i64 y]) ∧ Below w.heap.size w w' := by
  go_enter Try.func151, Try.ntmps151
  go_wp2
  exact bodyPost_ret (v := .agg #[.int .i64 x, .int .i64 y]) (by simp [results, Try.results151, go_sem]) rfl ⟨rfl, (by repeat (first | exact Below.refl _ _ | refine bal ?_ _ | refine Below.drew ?_))⟩

theorem timeJoin_s (x y u v : Int) (w : World) : Calls Try.prog 155 #[.agg #[.int .i64 x, .int .i64 y], .agg #[.int .i64 u, .int .i64 v]] w fun e w' =>
    e = .returned (.agg #[.int .i64 (max x u), .int .i64 (max y v)]) ∧ Below w.heap.size w w' := by
  by_cases h1 : x < u <;> by_cases h2 : y < v
  all_goals
    go_enter Try.func155, Try.ntmps155
    go_wp2
    exact bodyPost_ret (v := .agg #[.int .i64 (max x u), .int .i64 (max y v)]) (by simp [results, Try.results155, go_sem]; omega) rfl ⟨rfl, (by repeat (first | exact Below.refl _ _ | refine bal ?_ _ | refine Below.drew ?_))⟩

theorem timeJoin_i (x y u v : Int) (w : World) : Calls Try.prog 241 #[.agg #[.int .i64 x, .int .i64 y], .agg #[.int .i64 u, .int .i64 v]] w fun e w' =>
    e = .returned (.agg #[.int .i64 (max x u), .int .i64 (max y v)]) ∧ Below w.heap.size w w' := by
  by_cases h1 : x < u <;> by_cases h2 : y < v
  all_goals
    go_enter Try.func241, Try.ntmps241
    go_wp2
    exact bodyPost_ret (v := .agg #[.int .i64 (max x u), .int .i64 (max y v)]) (by simp [results, Try.results241, go_sem]; omega) rfl ⟨rfl, (by repeat (first | exact Below.refl _ _ | refine bal ?_ _ | refine Below.drew ?_))⟩

theorem timeLe_s (x y u v : Int) (w : World) : Calls Try.prog 159 #[.agg #[.int .i64 x, .int .i64 y], .agg #[.int .i64 u, .int .i64 v]] w fun e w' =>
    e = .returned (.bool (leB x y u v)) ∧ Below w.heap.size w w' := by
  by_cases h0 : x ≤ u <;> by_cases h1 : y ≤ v
  all_goals (try (exfalso; omega))
  all_goals
    go_enter Try.func159, Try.ntmps159
    go_wp2
    go_ret
    exact ⟨ret_bool (by simp [leB, bfB, eqB, vtB, *] <;> omega), (by repeat (first | exact Below.refl _ _ | refine bal ?_ _ | refine Below.drew ?_))⟩

theorem timeLe_i (x y u v : Int) (w : World) : Calls Try.prog 210 #[.agg #[.int .i64 x, .int .i64 y], .agg #[.int .i64 u, .int .i64 v]] w fun e w' =>
    e = .returned (.bool (leB x y u v)) ∧ Below w.heap.size w w' := by
  by_cases h0 : x ≤ u <;> by_cases h1 : y ≤ v
  all_goals (try (exfalso; omega))
  all_goals
    go_enter Try.func210, Try.ntmps210
    go_wp2
    go_ret
    exact ⟨ret_bool (by simp [leB, bfB, eqB, vtB, *] <;> omega), (by repeat (first | exact Below.refl _ _ | refine bal ?_ _ | refine Below.drew ?_))⟩

theorem eqTime_any (x y u v : Int) (w : World) : Calls Try.prog 152 #[.agg #[.int .i64 x, .int .i64 y], .agg #[.int .i64 u, .int .i64 v]] w fun e w' =>
    e = .returned (.bool (eqB x y u v)) ∧ Below w.heap.size w w' := by
  by_cases h0 : x = u <;> by_cases h1 : y = v
  all_goals (try (exfalso; omega))
  all_goals
    go_enter Try.func152, Try.ntmps152
    go_wp2
    go_ret
    exact ⟨ret_bool (by simp [leB, bfB, eqB, vtB, *] <;> omega), (by repeat (first | exact Below.refl _ _ | refine bal ?_ _ | refine Below.drew ?_))⟩

theorem validTime_s (x y : Int) (w : World) : Calls Try.prog 157 #[.agg #[.int .i64 x, .int .i64 y]] w fun e w' =>
    e = .returned (.bool (vtB x y)) ∧ Below w.heap.size w w' := by
  by_cases h0 : 0 ≤ x <;> by_cases h1 : x ≤ 99 <;> by_cases h2 : 0 ≤ y <;> by_cases h3 : y ≤ 99
  all_goals (try (exfalso; omega))
  all_goals
    go_enter Try.func157, Try.ntmps157
    go_wp2
    go_ret
    exact ⟨ret_bool (by simp [leB, bfB, eqB, vtB, *] <;> omega), (by repeat (first | exact Below.refl _ _ | refine bal ?_ _ | refine Below.drew ?_))⟩

theorem isValid_i (x y : Int) (w : World) : Calls Try.prog 219 #[.agg #[.int .i64 x, .int .i64 y]] w fun e w' =>
    e = .returned (.bool (vtB x y)) ∧ Below w.heap.size w w' := by
  by_cases h0 : 0 ≤ x <;> by_cases h1 : x ≤ 99 <;> by_cases h2 : 0 ≤ y <;> by_cases h3 : y ≤ 99
  all_goals (try (exfalso; omega))
  all_goals
    go_enter Try.func219, Try.ntmps219
    go_wp2
    go_ret
    exact ⟨ret_bool (by simp [leB, bfB, eqB, vtB, *] <;> omega), (by repeat (first | exact Below.refl _ _ | refine bal ?_ _ | refine Below.drew ?_))⟩

theorem timeBefore_s (x y u v : Int) (w : World) : Calls Try.prog 158 #[.agg #[.int .i64 x, .int .i64 y], .agg #[.int .i64 u, .int .i64 v]] w fun e w' =>
    e = .returned (.bool (bfB x y u v)) ∧ Below w.heap.size w w' := by
  by_cases h0 : x < u <;> by_cases h1 : x = u <;> by_cases h2 : y < v
  all_goals (try (exfalso; omega))
  all_goals
    go_enter Try.func158, Try.ntmps158
    go_wp2
    go_ret
    exact ⟨ret_bool (by simp [leB, bfB, eqB, vtB, *] <;> omega), (by repeat (first | exact Below.refl _ _ | refine bal ?_ _ | refine Below.drew ?_))⟩

end Go.Proofs.Ythefakiobpijiaa
