/- HELPER, no statement of the seat: predicates. -/
import Derived.Test.YtjobecoogjojjaaZba
import Derived.Laws.ResultCell
namespace Go.Proofs.Ytjobecoogjojjaa
open Go.RowKit
set_option linter.unusedSimpArgs false
set_option linter.unusedVariables false

abbrev prd (c k v : Int) : Value := .agg #[.int .i64 c, .int .i64 k, .int .i64 v]
def pvB (c k v n : Int) : Bool := inB n 1 6 && (inB c 0 (n - 1) && (inB k 1 4 && inB v (-9999) 9999))
theorem inR_lit (n lo hi : Int) (b : Bool) (h : inB n lo hi = b) (w : World) : Calls Try.prog 134 #[.int .i64 n, .int .i64 lo, .int .i64 hi] w fun e w' => e = .returned (.bool b) ∧ w = w' :=
  (inRange_any n lo hi w).mono fun e w' ⟨he, hw⟩ => ⟨by rw [he, h], hw⟩

theorem validPredicate_s (c k v n : Int) (w : World) (h1 : 1 ≤ n) (h6 : n ≤ 6) :
    Calls Try.prog 98 #[.agg #[.int .i64 c, .int .i64 k, .int .i64 v], .int .i64 n] w fun e w' => e = .returned (.bool (inB c 0 (n - 1) && (inB k 1 4 && inB v (-9999) 9999))) ∧ Below w.heap.size w w' := by
  cases g1 : inB c 0 (n - 1)
  · have HC := fun w => inR_lit c 0 (n - 1) false g1 w
    clear g1
    go_enter Try.func98, Try.ntmps98
    go_wp2_with (go_at_call 134; refine (HC _).mono ?_; rintro e w1 ⟨rfl, rfl⟩)
    go_ret
    exact ⟨rfl, bal (Below.refl _ _) _⟩
  cases g2 : inB k 1 4
  · have HC := fun w => inR_lit c 0 (n - 1) true g1 w
    have HK := fun w => inR_lit k 1 4 false g2 w
    clear g1 g2
    go_enter Try.func98, Try.ntmps98
    go_wp2_with fail
    refine (HC _).mono ?_
    rintro e w1 ⟨rfl, rfl⟩
    go_wp2_with fail
    refine (HK _).mono ?_
    rintro e w1 ⟨rfl, rfl⟩
    go_wp2_with fail
    go_ret
    exact ⟨rfl, bal (Below.refl _ _) _⟩
  · have HC := fun w => inR_lit c 0 (n - 1) true g1 w
    have HK := fun w => inR_lit k 1 4 true g2 w
    clear g1 g2
    go_enter Try.func98, Try.ntmps98
    go_wp2_with fail
    refine (HC _).mono ?_
    rintro e w1 ⟨rfl, rfl⟩
    go_wp2_with fail
    refine (HK _).mono ?_
    rintro e w1 ⟨rfl, rfl⟩
    go_wp2_with fail
    refine (inRange_any _ _ _ _).mono ?_
    rintro e w1 ⟨rfl, rfl⟩
    go_wp2_with fail
    go_ret
    exact ⟨rfl, bal (Below.refl _ _) _⟩
theorem comparisonOf_yes (k : Int) (w : World) (h1 : 1 ≤ k) (h4 : k ≤ 4) : Calls Try.prog 154 #[.int .i64 k] w fun e w' => (∃ g, e = .returned (.func (.func g) #[] #[])) ∧ w = w' := by
  obtain h | h | h | h : k = 1 ∨ k = 2 ∨ k = 3 ∨ k = 4 := by omega
  all_goals
    subst h
    go_enter Try.func154, Try.ntmps154
    go_wp2
    go_ret
    exact ⟨⟨_, rfl⟩, rfl⟩
theorem comparisonOf_no (k : Int) (w : World) (h : k < 1 ∨ 4 < k) : Calls Try.prog 154 #[.int .i64 k] w fun e w' => e = .returned .nilFunc ∧ w = w' := by
  have e1 : (k == 1) = false := by rw [beq_eq_false_iff_ne]; omega
  have e2 : (k == 2) = false := by rw [beq_eq_false_iff_ne]; omega
  have e3 : (k == 3) = false := by rw [beq_eq_false_iff_ne]; omega
  have e4 : (k == 4) = false := by rw [beq_eq_false_iff_ne]; omega
  clear h
  go_enter Try.func154, Try.ntmps154
  go_wp2
  go_ret
  exact ⟨rfl, rfl⟩
theorem fn_neq (g : Nat) (w : World) : (binOp .neq 157 (.func (.func g) #[] #[]) .nilFunc).run Try.prog w = .ok (.bool true) w := by kernel_rfl
theorem fn_neq_nil (w : World) : (binOp .neq 157 .nilFunc .nilFunc).run Try.prog w = .ok (.bool false) w := by kernel_rfl

set_option maxHeartbeats 400000 in
theorem ValidPredicate_i (c k v n : Int) (w : World) :
    Calls Try.prog 94 #[.agg #[.int .i64 c, .int .i64 k, .int .i64 v], .int .i64 n] w fun e w' => e = .returned (.bool (pvB c k v n)) ∧ Below w.heap.size w w' := by
  have q1 := fn_neq
  have q2 := fn_neq_nil
  by_cases h1 : n < 1
  · have HR : Hid (pvB c k v n = false) := by simp [Hid, pvB, inB]; omega
    go_enter Try.func94, Try.ntmps94
    go_wp2
    go_ret
    exact ⟨ret_bool HR.out.symm, bal (Below.refl _ _) _⟩
  have g1 : 1 ≤ n := by omega
  by_cases h2 : 6 < n
  · have HR : Hid (pvB c k v n = false) := by simp [Hid, pvB, inB]; omega
    go_enter Try.func94, Try.ntmps94
    go_wp2
    go_ret
    exact ⟨ret_bool HR.out.symm, bal (Below.refl _ _) _⟩
  have g2 : n ≤ 6 := by omega
  by_cases h3 : c < 0
  · have HR : Hid (pvB c k v n = false) := by simp [Hid, pvB, inB]; omega
    go_enter Try.func94, Try.ntmps94
    go_wp2
    go_ret
    exact ⟨ret_bool HR.out.symm, bal (Below.refl _ _) _⟩
  have g3 : 0 ≤ c := by omega
  by_cases h4 : n ≤ c
  · have HR : Hid (pvB c k v n = false) := by simp [Hid, pvB, inB]; omega
    go_enter Try.func94, Try.ntmps94
    go_wp2
    go_ret
    exact ⟨ret_bool HR.out.symm, bal (Below.refl _ _) _⟩
  have g4 : c < n := by omega
  by_cases h5 : 1 ≤ k ∧ k ≤ 4
  · have HR : Hid (pvB c k v n = inB v (-9999) 9999) := by
      have a1 : inB n 1 6 = true := by simp [inB]; omega
      have a2 : inB c 0 (n - 1) = true := by simp [inB]; omega
      have a3 : inB k 1 4 = true := by simp [inB]; omega
      simp [Hid, pvB, a1, a2, a3]
    obtain ⟨k1, k4⟩ := h5
    clear h1 h2 h3 h4
    go_enter Try.func94, Try.ntmps94
    go_wp2_with fail
    refine (comparisonOf_yes _ _ k1 k4).mono ?_
    rintro e w1 ⟨⟨g, rfl⟩, rfl⟩
    go_wp2_with fail
    refine (isWithin_any _ _).mono ?_
    rintro e w1 ⟨rfl, rfl⟩
    go_wp2_with fail
    go_ret
    exact ⟨ret_bool HR.out.symm, bal (Below.refl _ _) _⟩
  · have hk : k < 1 ∨ 4 < k := by omega
    have HR : Hid (pvB c k v n = false) := by
      have a3 : inB k 1 4 = false := by simp [inB]; omega
      simp [Hid, pvB, a3]
    have hcon := fun w => comparisonOf_no k w hk
    clear h1 h2 h3 h4 h5 hk
    go_enter Try.func94, Try.ntmps94
    go_wp2_with fail
    refine (hcon _).mono ?_
    rintro e w1 ⟨rfl, rfl⟩
    go_wp2_with fail
    go_ret
    exact ⟨ret_bool HR.out.symm, bal (Below.refl _ _) _⟩
end Go.Proofs.Ytjobecoogjojjaa
