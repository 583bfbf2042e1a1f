/- HELPER, no statement of the seat: contracts of the functions on times. -/
import Derived.Test.YtnfffgpjgkhjlaaGreatRows
import Derived.Test.YtnfffgpjgkhjlaaGreatZba
import Derived.WalkKit
import Derived.ProofKit
import Derived.OpenShut
import Derived.WalkLawsBesides
import Derived.Laws.ResultCell
import Derived.Below
import Derived.Outline
namespace Go.Proofs.YtnfffgpjgkhjlaaGreat
open Go.RowKit
set_option linter.unusedSimpArgs false
set_option linter.unusedVariables false

def leB (x y u v : Int) : Bool := decide (x ≤ u ∧ y ≤ v)
def bfB (x y u v : Int) : Bool := decide (x < u ∨ x = u ∧ y < v)
def eqB (x y u v : Int) : Bool := decide (x = u ∧ y = v)
def vtB (x y : Int) : Bool := decide (0 ≤ x ∧ x ≤ 99 ∧ 0 ≤ y ∧ y ≤ 99)

theorem toTime_any (x y : Int) (w : World) : Calls Tryz.prog 35 #[.agg #[.int .i64 x, .int .i64 y]] w fun e w' =>
    e = .returned (.agg #[.int .i64 x, .int .i64 y]) ∧ Below w.heap.size w w' := by
  go_enter Tryz.func35, Tryz.ntmps35
  go_wp2
  exact bodyPost_ret (v := .agg #[.int .i64 x, .int .i64 y]) (by simp [results, Tryz.results35, go_sem]) rfl ⟨rfl, (by repeat (first | exact Below.refl _ _ | refine bal ?_ _ | refine Below.drew ?_))⟩

theorem timeJoin_s (x y u v : Int) (w : World) : Calls Tryz.prog 77 #[.agg #[.int .i64 x, .int .i64 y], .agg #[.int .i64 u, .int .i64 v]] w fun e w' =>
    e = .returned (.agg #[.int .i64 (max x u), .int .i64 (max y v)]) ∧ Below w.heap.size w w' := by
  by_cases h1 : x < u <;> by_cases h2 : y < v
  all_goals
    go_enter Tryz.func77, Tryz.ntmps77
    go_wp2
    exact bodyPost_ret (v := .agg #[.int .i64 (max x u), .int .i64 (max y v)]) (by simp [results, Tryz.results77, go_sem]; omega) rfl ⟨rfl, (by repeat (first | exact Below.refl _ _ | refine bal ?_ _ | refine Below.drew ?_))⟩

theorem timeJoin_i (x y u v : Int) (w : World) : Calls Tryz.prog 112 #[.agg #[.int .i64 x, .int .i64 y], .agg #[.int .i64 u, .int .i64 v]] w fun e w' =>
    e = .returned (.agg #[.int .i64 (max x u), .int .i64 (max y v)]) ∧ Below w.heap.size w w' := by
  by_cases h1 : x < u <;> by_cases h2 : y < v
  all_goals
    go_enter Tryz.func112, Tryz.ntmps112
    go_wp2
    exact bodyPost_ret (v := .agg #[.int .i64 (max x u), .int .i64 (max y v)]) (by simp [results, Tryz.results112, go_sem]; omega) rfl ⟨rfl, (by repeat (first | exact Below.refl _ _ | refine bal ?_ _ | refine Below.drew ?_))⟩

theorem timeMeet_s (x y u v : Int) (w : World) : Calls Tryz.prog 93 #[.agg #[.int .i64 x, .int .i64 y], .agg #[.int .i64 u, .int .i64 v]] w fun e w' =>
    e = .returned (.agg #[.int .i64 (min x u), .int .i64 (min y v)]) ∧ Below w.heap.size w w' := by
  by_cases h1 : u < x <;> by_cases h2 : v < y
  all_goals
    go_enter Tryz.func93, Tryz.ntmps93
    go_wp2
    exact bodyPost_ret (v := .agg #[.int .i64 (min x u), .int .i64 (min y v)]) (by simp [results, Tryz.results93, go_sem]; omega) rfl ⟨rfl, (by repeat (first | exact Below.refl _ _ | refine bal ?_ _ | refine Below.drew ?_))⟩

theorem timeMeet_i (x y u v : Int) (w : World) : Calls Tryz.prog 113 #[.agg #[.int .i64 x, .int .i64 y], .agg #[.int .i64 u, .int .i64 v]] w fun e w' =>
    e = .returned (.agg #[.int .i64 (min x u), .int .i64 (min y v)]) ∧ Below w.heap.size w w' := by
  by_cases h1 : u < x <;> by_cases h2 : v < y
  all_goals
    go_enter Tryz.func113, Tryz.ntmps113
    go_wp2
    exact bodyPost_ret (v := .agg #[.int .i64 (min x u), .int .i64 (min y v)]) (by simp [results, Tryz.results113, go_sem]; omega) rfl ⟨rfl, (by repeat (first | exact Below.refl _ _ | refine bal ?_ _ | refine Below.drew ?_))⟩

theorem timeLe_s (x y u v : Int) (w : World) : Calls Tryz.prog 59 #[.agg #[.int .i64 x, .int .i64 y], .agg #[.int .i64 u, .int .i64 v]] w fun e w' =>
    e = .returned (.bool (leB x y u v)) ∧ Below w.heap.size w w' := by
  by_cases h0 : x ≤ u <;> by_cases h1 : y ≤ v
  all_goals (try (exfalso; omega))
  all_goals
    go_enter Tryz.func59, Tryz.ntmps59
    go_wp2
    go_ret
    exact ⟨ret_bool (by simp [leB, bfB, eqB, vtB, *] <;> omega), (by repeat (first | exact Below.refl _ _ | refine bal ?_ _ | refine Below.drew ?_))⟩

theorem timeLe_i (x y u v : Int) (w : World) : Calls Tryz.prog 107 #[.agg #[.int .i64 x, .int .i64 y], .agg #[.int .i64 u, .int .i64 v]] w fun e w' =>
    e = .returned (.bool (leB x y u v)) ∧ Below w.heap.size w w' := by
  by_cases h0 : x ≤ u <;> by_cases h1 : y ≤ v
  all_goals (try (exfalso; omega))
  all_goals
    go_enter Tryz.func107, Tryz.ntmps107
    go_wp2
    go_ret
    exact ⟨ret_bool (by simp [leB, bfB, eqB, vtB, *] <;> omega), (by repeat (first | exact Below.refl _ _ | refine bal ?_ _ | refine Below.drew ?_))⟩

theorem eqTime_any (x y u v : Int) (w : World) : Calls Tryz.prog 40 #[.agg #[.int .i64 x, .int .i64 y], .agg #[.int .i64 u, .int .i64 v]] w fun e w' =>
    e = .returned (.bool (eqB x y u v)) ∧ Below w.heap.size w w' := by
  by_cases h0 : x = u <;> by_cases h1 : y = v
  all_goals (try (exfalso; omega))
  all_goals
    go_enter Tryz.func40, Tryz.ntmps40
    go_wp2
    go_ret
    exact ⟨ret_bool (by simp [leB, bfB, eqB, vtB, *] <;> omega), (by repeat (first | exact Below.refl _ _ | refine bal ?_ _ | refine Below.drew ?_))⟩

theorem validTime_s (x y : Int) (w : World) : Calls Tryz.prog 57 #[.agg #[.int .i64 x, .int .i64 y]] w fun e w' =>
    e = .returned (.bool (vtB x y)) ∧ Below w.heap.size w w' := by
  by_cases h0 : 0 ≤ x <;> by_cases h1 : x ≤ 99 <;> by_cases h2 : 0 ≤ y <;> by_cases h3 : y ≤ 99
  all_goals (try (exfalso; omega))
  all_goals
    go_enter Tryz.func57, Tryz.ntmps57
    go_wp2
    go_ret
    exact ⟨ret_bool (by simp [leB, bfB, eqB, vtB, *] <;> omega), (by repeat (first | exact Below.refl _ _ | refine bal ?_ _ | refine Below.drew ?_))⟩

theorem isValid_i (x y : Int) (w : World) : Calls Tryz.prog 111 #[.agg #[.int .i64 x, .int .i64 y]] w fun e w' =>
    e = .returned (.bool (vtB x y)) ∧ Below w.heap.size w w' := by
  by_cases h0 : 0 ≤ x <;> by_cases h1 : x ≤ 99 <;> by_cases h2 : 0 ≤ y <;> by_cases h3 : y ≤ 99
  all_goals (try (exfalso; omega))
  all_goals
    go_enter Tryz.func111, Tryz.ntmps111
    go_wp2
    go_ret
    exact ⟨ret_bool (by simp [leB, bfB, eqB, vtB, *] <;> omega), (by repeat (first | exact Below.refl _ _ | refine bal ?_ _ | refine Below.drew ?_))⟩

theorem timeBefore_s (x y u v : Int) (w : World) : Calls Tryz.prog 58 #[.agg #[.int .i64 x, .int .i64 y], .agg #[.int .i64 u, .int .i64 v]] w fun e w' =>
    e = .returned (.bool (bfB x y u v)) ∧ Below w.heap.size w w' := by
  by_cases h0 : x < u <;> by_cases h1 : x = u <;> by_cases h2 : y < v
  all_goals (try (exfalso; omega))
  all_goals
    go_enter Tryz.func58, Tryz.ntmps58
    go_wp2
    go_ret
    exact ⟨ret_bool (by simp [leB, bfB, eqB, vtB, *] <;> omega), (by repeat (first | exact Below.refl _ _ | refine bal ?_ _ | refine Below.drew ?_))⟩

end Go.Proofs.YtnfffgpjgkhjlaaGreat
