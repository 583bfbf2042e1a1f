/- HELPER, no statement of the seat: contracts of the functions on times. -/
import Derived.Test.YtfndglpfhdphiaaRows
import Derived.Test.YtfndglpfhdphiaaRegion
import Derived.WalkKit
import Derived.ProofKit
import Derived.OpenShut
import Derived.WalkLawsBesides
import Derived.Laws.ResultCell
import Derived.Below
import Derived.Outline
namespace Go.Proofs.Ytfndglpfhdphiaa
open Go.RowKit
set_option linter.unusedSimpArgs false
set_option linter.unusedVariables false

def leB (x y u v : Int) : Bool := decide (x ≤ u ∧ y ≤ v)
def bfB (x y u v : Int) : Bool := decide (x < u ∨ x = u ∧ y < v)
def eqB (x y u v : Int) : Bool := decide (x = u ∧ y = v)
def vtB (x y : Int) : Bool := decide (0 ≤ x ∧ x ≤ 99 ∧ 0 ≤ y ∧ y ≤ 99)

theorem toTime_any (x y : Int) (w : World) : Calls Try.prog 36 #[.agg #[.int .i64 x, .int .i64 y]] w fun e w' =>
    e = .returned (.agg #[.int .i64 x, .int .i64 y]) ∧ Below w.heap.size w w' := by
  go_enter Try.func36, Try.ntmps36
  go_wp2
  exact bodyPost_ret (v := .agg #[.int .i64 x, .int .i64 y]) (by simp [results, Try.results36, go_sem]) rfl ⟨rfl, (by repeat (first | exact Below.refl _ _ | refine bal ?_ _ | refine Below.drew ?_))⟩

theorem timeJoin_s (x y u v : Int) (w : World) : Calls Try.prog 49 #[.agg #[.int .i64 x, .int .i64 y], .agg #[.int .i64 u, .int .i64 v]] w fun e w' =>
    e = .returned (.agg #[.int .i64 (max x u), .int .i64 (max y v)]) ∧ Below w.heap.size w w' := by
  by_cases h1 : x < u <;> by_cases h2 : y < v
  all_goals
    go_enter Try.func49, Try.ntmps49
    go_wp2
    exact bodyPost_ret (v := .agg #[.int .i64 (max x u), .int .i64 (max y v)]) (by simp [results, Try.results49, go_sem]; omega) rfl ⟨rfl, (by repeat (first | exact Below.refl _ _ | refine bal ?_ _ | refine Below.drew ?_))⟩

theorem timeJoin_i (x y u v : Int) (w : World) : Calls Try.prog 47 #[.agg #[.int .i64 x, .int .i64 y], .agg #[.int .i64 u, .int .i64 v]] w fun e w' =>
    e = .returned (.agg #[.int .i64 (max x u), .int .i64 (max y v)]) ∧ Below w.heap.size w w' := by
  by_cases h1 : x < u <;> by_cases h2 : y < v
  all_goals
    go_enter Try.func47, Try.ntmps47
    go_wp2
    exact bodyPost_ret (v := .agg #[.int .i64 (max x u), .int .i64 (max y v)]) (by simp [results, Try.results47, go_sem]; omega) rfl ⟨rfl, (by repeat (first | exact Below.refl _ _ | refine bal ?_ _ | refine Below.drew ?_))⟩

theorem timeMeet_s (x y u v : Int) (w : World) : Calls Try.prog 50 #[.agg #[.int .i64 x, .int .i64 y], .agg #[.int .i64 u, .int .i64 v]] w fun e w' =>
    e = .returned (.agg #[.int .i64 (min x u), .int .i64 (min y v)]) ∧ Below w.heap.size w w' := by
  by_cases h1 : u < x <;> by_cases h2 : v < y
  all_goals
    go_enter Try.func50, Try.ntmps50
    go_wp2
    exact bodyPost_ret (v := .agg #[.int .i64 (min x u), .int .i64 (min y v)]) (by simp [results, Try.results50, go_sem]; omega) rfl ⟨rfl, (by repeat (first | exact Below.refl _ _ | refine bal ?_ _ | refine Below.drew ?_))⟩

theorem timeMeet_i (x y u v : Int) (w : World) : Calls Try.prog 48 #[.agg #[.int .i64 x, .int .i64 y], .agg #[.int .i64 u, .int .i64 v]] w fun e w' =>
    e = .returned (.agg #[.int .i64 (min x u), .int .i64 (min y v)]) ∧ Below w.heap.size w w' := by
  by_cases h1 : u < x <;> by_cases h2 : v < y
  all_goals
    go_enter Try.func48, Try.ntmps48
    go_wp2
    exact bodyPost_ret (v := .agg #[.int .i64 (min x u), .int .i64 (min y v)]) (by simp [results, Try.results48, go_sem]; omega) rfl ⟨rfl, (by repeat (first | exact Below.refl _ _ | refine bal ?_ _ | refine Below.drew ?_))⟩

theorem TimeJoin_s (x y u v : Int) (w : World) : Calls Try.prog 22 #[.agg #[.int .i64 x, .int .i64 y], .agg #[.int .i64 u, .int .i64 v]] w fun e w' =>
    e = .returned (.agg #[.int .i64 (max x u), .int .i64 (max y v)]) ∧ Below w.heap.size w w' := by
  go_enter Try.func22, Try.ntmps22
  go_wp2_with (go_at_call 49; refine (timeJoin_s _ _ _ _ _).mono ?_; rintro e w1 ⟨rfl, hb⟩; obtain ⟨hc, hf⟩ := bcell hb)
  exact bodyPost_ret (v := .agg #[.int .i64 (max x u), .int .i64 (max y v)]) (by simp [results, Try.results22, go_sem, hc]) rfl ⟨rfl, (by repeat (first | exact Below.refl _ _ | refine bal ?_ _ | refine bset ?_ (by simp <;> omega) _ | refine btr ?_ hb | refine Below.drew ?_))⟩

theorem TimeJoin_i (x y u v : Int) (w : World) : Calls Try.prog 20 #[.agg #[.int .i64 x, .int .i64 y], .agg #[.int .i64 u, .int .i64 v]] w fun e w' =>
    e = .returned (.agg #[.int .i64 (max x u), .int .i64 (max y v)]) ∧ Below w.heap.size w w' := by
  go_enter Try.func20, Try.ntmps20
  go_wp2_with (go_at_call 47; refine (timeJoin_i _ _ _ _ _).mono ?_; rintro e w1 ⟨rfl, hb⟩; obtain ⟨hc, hf⟩ := bcell hb)
  exact bodyPost_ret (v := .agg #[.int .i64 (max x u), .int .i64 (max y v)]) (by simp [results, Try.results20, go_sem, hc]) rfl ⟨rfl, (by repeat (first | exact Below.refl _ _ | refine bal ?_ _ | refine bset ?_ (by simp <;> omega) _ | refine btr ?_ hb | refine Below.drew ?_))⟩

theorem TimeMeet_s (x y u v : Int) (w : World) : Calls Try.prog 23 #[.agg #[.int .i64 x, .int .i64 y], .agg #[.int .i64 u, .int .i64 v]] w fun e w' =>
    e = .returned (.agg #[.int .i64 (min x u), .int .i64 (min y v)]) ∧ Below w.heap.size w w' := by
  go_enter Try.func23, Try.ntmps23
  go_wp2_with (go_at_call 50; refine (timeMeet_s _ _ _ _ _).mono ?_; rintro e w1 ⟨rfl, hb⟩; obtain ⟨hc, hf⟩ := bcell hb)
  exact bodyPost_ret (v := .agg #[.int .i64 (min x u), .int .i64 (min y v)]) (by simp [results, Try.results23, go_sem, hc]) rfl ⟨rfl, (by repeat (first | exact Below.refl _ _ | refine bal ?_ _ | refine bset ?_ (by simp <;> omega) _ | refine btr ?_ hb | refine Below.drew ?_))⟩

theorem TimeMeet_i (x y u v : Int) (w : World) : Calls Try.prog 21 #[.agg #[.int .i64 x, .int .i64 y], .agg #[.int .i64 u, .int .i64 v]] w fun e w' =>
    e = .returned (.agg #[.int .i64 (min x u), .int .i64 (min y v)]) ∧ Below w.heap.size w w' := by
  go_enter Try.func21, Try.ntmps21
  go_wp2_with (go_at_call 48; refine (timeMeet_i _ _ _ _ _).mono ?_; rintro e w1 ⟨rfl, hb⟩; obtain ⟨hc, hf⟩ := bcell hb)
  exact bodyPost_ret (v := .agg #[.int .i64 (min x u), .int .i64 (min y v)]) (by simp [results, Try.results21, go_sem, hc]) rfl ⟨rfl, (by repeat (first | exact Below.refl _ _ | refine bal ?_ _ | refine bset ?_ (by simp <;> omega) _ | refine btr ?_ hb | refine Below.drew ?_))⟩

theorem timeLe_s (x y u v : Int) (w : World) : Calls Try.prog 45 #[.agg #[.int .i64 x, .int .i64 y], .agg #[.int .i64 u, .int .i64 v]] w fun e w' =>
    e = .returned (.bool (leB x y u v)) ∧ Below w.heap.size w w' := by
  by_cases h0 : x ≤ u <;> by_cases h1 : y ≤ v
  all_goals (try (exfalso; omega))
  all_goals
    go_enter Try.func45, Try.ntmps45
    go_wp2
    go_ret
    exact ⟨ret_bool (by simp [leB, bfB, eqB, vtB, *] <;> omega), (by repeat (first | exact Below.refl _ _ | refine bal ?_ _ | refine Below.drew ?_))⟩

theorem TimeLe_s (x y u v : Int) (w : World) : Calls Try.prog 17 #[.agg #[.int .i64 x, .int .i64 y], .agg #[.int .i64 u, .int .i64 v]] w fun e w' =>
    e = .returned (.bool (leB x y u v)) ∧ Below w.heap.size w w' := by
  by_cases h0 : x ≤ u <;> by_cases h1 : y ≤ v
  all_goals (try (exfalso; omega))
  all_goals
    go_enter Try.func17, Try.ntmps17
    go_wp2
    go_ret
    exact ⟨ret_bool (by simp [leB, bfB, eqB, vtB, *] <;> omega), (by repeat (first | exact Below.refl _ _ | refine bal ?_ _ | refine Below.drew ?_))⟩

theorem timeLe_i (x y u v : Int) (w : World) : Calls Try.prog 44 #[.agg #[.int .i64 x, .int .i64 y], .agg #[.int .i64 u, .int .i64 v]] w fun e w' =>
    e = .returned (.bool (leB x y u v)) ∧ Below w.heap.size w w' := by
  by_cases h0 : x ≤ u <;> by_cases h1 : y ≤ v
  all_goals (try (exfalso; omega))
  all_goals
    go_enter Try.func44, Try.ntmps44
    go_wp2
    go_ret
    exact ⟨ret_bool (by simp [leB, bfB, eqB, vtB, *] <;> omega), (by repeat (first | exact Below.refl _ _ | refine bal ?_ _ | refine Below.drew ?_))⟩

theorem TimeLe_i (x y u v : Int) (w : World) : Calls Try.prog 16 #[.agg #[.int .i64 x, .int .i64 y], .agg #[.int .i64 u, .int .i64 v]] w fun e w' =>
    e = .returned (.bool (leB x y u v)) ∧ Below w.heap.size w w' := by
  by_cases h0 : x ≤ u <;> by_cases h1 : y ≤ v
  all_goals (try (exfalso; omega))
  all_goals
    go_enter Try.func16, Try.ntmps16
    go_wp2
    go_ret
    exact ⟨ret_bool (by simp [leB, bfB, eqB, vtB, *] <;> omega), (by repeat (first | exact Below.refl _ _ | refine bal ?_ _ | refine Below.drew ?_))⟩

theorem TimeBefore_s (x y u v : Int) (w : World) : Calls Try.prog 38 #[.agg #[.int .i64 x, .int .i64 y], .agg #[.int .i64 u, .int .i64 v]] w fun e w' =>
    e = .returned (.bool (bfB x y u v)) ∧ Below w.heap.size w w' := by
  by_cases h0 : x < u <;> by_cases h1 : x = u <;> by_cases h2 : y < v
  all_goals (try (exfalso; omega))
  all_goals
    go_enter Try.func38, Try.ntmps38
    go_wp2
    go_ret
    exact ⟨ret_bool (by simp [leB, bfB, eqB, vtB, *] <;> omega), (by repeat (first | exact Below.refl _ _ | refine bal ?_ _ | refine Below.drew ?_))⟩

theorem eqTime_any (x y u v : Int) (w : World) : Calls Try.prog 39 #[.agg #[.int .i64 x, .int .i64 y], .agg #[.int .i64 u, .int .i64 v]] w fun e w' =>
    e = .returned (.bool (eqB x y u v)) ∧ Below w.heap.size w w' := by
  by_cases h0 : x = u <;> by_cases h1 : y = v
  all_goals (try (exfalso; omega))
  all_goals
    go_enter Try.func39, Try.ntmps39
    go_wp2
    go_ret
    exact ⟨ret_bool (by simp [leB, bfB, eqB, vtB, *] <;> omega), (by repeat (first | exact Below.refl _ _ | refine bal ?_ _ | refine Below.drew ?_))⟩

theorem ValidTime_s (x y : Int) (w : World) : Calls Try.prog 35 #[.agg #[.int .i64 x, .int .i64 y]] w fun e w' =>
    e = .returned (.bool (vtB x y)) ∧ Below w.heap.size w w' := by
  by_cases h0 : 0 ≤ x <;> by_cases h1 : x ≤ 99 <;> by_cases h2 : 0 ≤ y <;> by_cases h3 : y ≤ 99
  all_goals (try (exfalso; omega))
  all_goals
    go_enter Try.func35, Try.ntmps35
    go_wp2
    go_ret
    exact ⟨ret_bool (by simp [leB, bfB, eqB, vtB, *] <;> omega), (by repeat (first | exact Below.refl _ _ | refine bal ?_ _ | refine Below.drew ?_))⟩

theorem ValidTime_i (x y : Int) (w : World) : Calls Try.prog 37 #[.agg #[.int .i64 x, .int .i64 y]] w fun e w' =>
    e = .returned (.bool (vtB x y)) ∧ Below w.heap.size w w' := by
  by_cases h0 : 0 ≤ x <;> by_cases h1 : x ≤ 99 <;> by_cases h2 : 0 ≤ y <;> by_cases h3 : y ≤ 99
  all_goals (try (exfalso; omega))
  all_goals
    go_enter Try.func37, Try.ntmps37
    go_wp2
    go_ret
    exact ⟨ret_bool (by simp [leB, bfB, eqB, vtB, *] <;> omega), (by repeat (first | exact Below.refl _ _ | refine bal ?_ _ | refine Below.drew ?_))⟩

theorem validTime_s (x y : Int) (w : World) : Calls Try.prog 57 #[.agg #[.int .i64 x, .int .i64 y]] w fun e w' =>
    e = .returned (.bool (vtB x y)) ∧ Below w.heap.size w w' := by
  by_cases h0 : 0 ≤ x <;> by_cases h1 : x ≤ 99 <;> by_cases h2 : 0 ≤ y <;> by_cases h3 : y ≤ 99
  all_goals (try (exfalso; omega))
  all_goals
    go_enter Try.func57, Try.ntmps57
    go_wp2
    go_ret
    exact ⟨ret_bool (by simp [leB, bfB, eqB, vtB, *] <;> omega), (by repeat (first | exact Below.refl _ _ | refine bal ?_ _ | refine Below.drew ?_))⟩

theorem isValid_i (x y : Int) (w : World) : Calls Try.prog 58 #[.agg #[.int .i64 x, .int .i64 y]] w fun e w' =>
    e = .returned (.bool (vtB x y)) ∧ Below w.heap.size w w' := by
  by_cases h0 : 0 ≤ x <;> by_cases h1 : x ≤ 99 <;> by_cases h2 : 0 ≤ y <;> by_cases h3 : y ≤ 99
  all_goals (try (exfalso; omega))
  all_goals
    go_enter Try.func58, Try.ntmps58
    go_wp2
    go_ret
    exact ⟨ret_bool (by simp [leB, bfB, eqB, vtB, *] <;> omega), (by repeat (first | exact Below.refl _ _ | refine bal ?_ _ | refine Below.drew ?_))⟩

theorem timeBefore_s (x y u v : Int) (w : World) : Calls Try.prog 59 #[.agg #[.int .i64 x, .int .i64 y], .agg #[.int .i64 u, .int .i64 v]] w fun e w' =>
    e = .returned (.bool (bfB x y u v)) ∧ Below w.heap.size w w' := by
  by_cases h0 : x < u <;> by_cases h1 : x = u <;> by_cases h2 : y < v
  all_goals (try (exfalso; omega))
  all_goals
    go_enter Try.func59, Try.ntmps59
    go_wp2
    go_ret
    exact ⟨ret_bool (by simp [leB, bfB, eqB, vtB, *] <;> omega), (by repeat (first | exact Below.refl _ _ | refine bal ?_ _ | refine Below.drew ?_))⟩

end Go.Proofs.Ytfndglpfhdphiaa
