/- The law FnWeightOf returns true at every code; no condition. -/
import Derived.Test.YtjlpkfcdkmcjnaaDrawE
import Derived.Test.YtjlpkfcdkmcjnaaGrd
import Derived.Test.YtjlpkfcdkmcjnaaEntO
import Derived.Test.YtjlpkfcdkmcjnaaClo
import Derived.Carry
import Derived.ChangeOld
import Derived.Lib.SmallJoins
import Derived.Lib.QuietBelow
namespace Go.Proofs.Ytjlpkfcdkmcjnaa
open Go.ChangeShapes Go.WideShapes Go.ChangeAt Go.RowKit Go.Sort
set_option linter.unusedVariables false
set_option linter.unusedSimpArgs false

set_option maxRecDepth 100000 in
set_option maxHeartbeats 6400000 in
theorem FnWeightOf_walk (A : Option Addr) (n c : Nat) (w : World) (hc : n ≤ c) (hl : n ≤ maxLen) (hb : BytesAt w w.heap.size A n) :
    Calls Try.prog 6 #[.slice A n c] w fun e w' => e = .returned (.bool true) ∧ Below w.heap.size w w' := by
  unfold maxLen at hl
  by_cases hbign : 1048576 < n
  · have hb' : (1048576 : Int) < n := by omega
    go_enter Try.func6, Try.ntmps6
    go_wp2
    go_ret
    exact ⟨rfl, Below.refl _ _⟩
  have hbn' : (n : Int) ≤ 1048576 := by omega
  have HB := Lib.hid hb
  clear hb hbign
  go_enter Try.func6, Try.ntmps6
  go_wp2_with fail
  refine (DrawAdd_r _ _ _ _ HB.out hc (by omega)).mono ?_
  rintro e w1 ⟨z, y, Az, Ay, cz, cy, rfl, hz, hy, B1⟩
  have nz : z.length ≤ 4194304 := by have := hz.2.1; omega
  have rz : rowsIn z 4194304 := rows_big hz.2.2.1 (by decide)
  have ny : y.length ≤ 4194304 := by have := hy.2.1; omega
  have ry : rowsIn y 4194304 := rows_big hy.2.2.1 (by decide)
  have hzl := hz.2.1
  have hyl := hy.2.1
  cases hS : smB z
  · have HS := Lib.hid hS
    clear hS
    go_wp2_with fail
    refine (Add_i _ _ (z) _ _ (y) _ (SlOw.at_ entO hz.1) (SlOw.at_ entO hy.1) (EntsOw.cap hz.1) (EntsOw.cap hy.1) nz rz ny ry).mono ?_
    rintro e w2 ⟨A2, c2, rfl, o2, b2⟩
    have B2 := btr B1 b2
    have a2 : EntsAt w2 A2 (AddF (z) (y)) := SlOw.at_ entO o2
    go_wp2_with fail
    refine wp_region_facts [[], [], [], [1, 2], [0, 1, 2, 3], [0, 1, 2, 3, 4], [0, 1, 2, 3, 4, 5], [0, 1, 2, 3, 4, 5, 6], [0, 1, 2, 3, 4, 5, 6, 7], [0, 1, 2, 3, 4, 5, 6, 7, 8], [0, 1, 2, 3, 4, 5, 6, 7, 8, 9], [0, 1, 2, 3, 4, 5, 6, 7, 8, 9, 10], [0, 1, 2, 3, 4, 5, 6, 7, 8, 9, 10, 11], [0, 1, 2, 3, 4, 5, 6, 7, 8, 9, 10, 11, 12], [0, 1, 2, 3, 4, 5, 6, 7, 8, 9, 10, 11, 12, 13], [0, 1, 2, 3, 4, 5, 6, 7, 8, 9, 10, 11, 12, 13, 14], [0, 1, 2, 3, 4, 5, 6, 7, 8, 9, 10, 11, 12, 13, 14, 15], [0, 1, 2, 3, 4, 5, 6, 7, 8, 9, 10, 11, 12, 13, 14, 15, 16], [0, 1, 2, 3, 4, 5, 6, 7, 8, 9, 10, 11, 12, 13, 14, 15, 16, 17], [0, 1, 2, 3, 4, 5, 6, 7, 8, 9, 10, 11, 12, 13, 14, 15, 16, 17, 18], [0, 1, 2, 3, 4, 5, 6, 7, 8, 9, 10, 11, 12, 13, 14, 15, 16, 17, 18, 19], [0, 1, 2, 3, 4, 5, 6, 7, 8, 9, 10, 11, 12, 13, 14, 15, 16, 17, 18, 19, 20], [0, 1, 2, 3, 4, 5, 6, 7, 8, 9, 10, 11, 12, 13, 14, 15, 16, 17, 18, 19, 20, 21], [0, 1, 2, 3, 4, 5, 6, 7, 8, 9, 10, 11, 12, 13, 14, 15, 16, 17, 18, 19, 20, 21, 22], [0, 1, 2, 3, 4, 5, 6, 7, 8, 9, 10, 11, 12, 13, 14, 15, 16, 17, 18, 19, 20, 21, 22, 23], [0, 1, 2, 3, 4, 5, 6, 7, 8, 9, 10, 11, 12, 13, 14, 15, 16, 17, 18, 19, 20, 21, 22, 23, 24], [0, 1, 2, 3, 4, 5, 6, 7, 8, 9, 10, 11, 12, 13, 14, 15, 16, 17, 18, 19, 20, 21, 22, 23, 24, 25], [0, 1, 2, 3, 4, 5, 6, 7, 8, 9, 10, 11, 12, 13, 14, 15, 16, 17, 18, 19, 20, 21, 22, 23, 24, 25, 26], [0, 1, 2, 3, 4, 5, 6, 7, 8, 9, 10, 11, 12, 13, 14, 15, 16, 17, 18, 19, 20, 21, 22, 23, 24, 25, 26, 27], [0, 1, 2, 3, 4, 5, 6, 7, 8, 9, 10, 11, 12, 13, 14, 15, 16, 17, 18, 19, 20, 21, 22, 23, 24, 25, 26, 27, 28], [0, 1, 2, 3, 4, 5, 6, 7, 8, 9, 10, 11, 12, 13, 14, 15, 16, 17, 18, 19, 20, 21, 22, 23, 24, 25, 26, 27, 28, 29], [0, 1, 2, 3, 4, 5, 6, 7, 8, 9, 10, 11, 12, 13, 14, 15, 16, 17, 18, 19, 20, 21, 22, 23, 24, 25], [0, 1, 2, 3, 4, 5, 6, 7, 8, 9, 10, 11, 12, 13, 14, 15, 16, 17, 18, 19, 20, 21, 22, 23, 24, 25, 31], [0, 1, 2, 3, 4, 5, 6, 7, 8, 9, 10, 11, 12, 13, 14, 15, 16, 17, 18, 19, 20, 21, 22, 23, 24, 25, 31, 32], [0, 1, 2, 3, 4, 5, 6, 7, 8, 9, 10, 11, 12, 13, 14, 15, 16, 17, 18, 19, 20, 21, 22, 23, 24, 25, 31, 32, 33], [0, 1, 2, 3, 4, 5, 6, 7, 8, 9, 10, 11, 12, 13, 14, 15, 16, 17, 18, 19, 20, 21, 22, 23, 24, 25, 31, 32, 33, 34], [0, 1, 2, 3, 4, 5, 6, 7, 8, 9, 10, 11, 12, 13, 14, 15, 16, 17, 18, 19, 20, 21, 22, 23, 24, 25, 26, 27, 28, 29, 30, 31, 32, 33, 34, 35], [0, 1, 2, 3, 4, 5, 6, 7, 8, 9, 10, 11, 12, 13, 14, 15, 16, 17, 18, 19, 20, 21, 22, 23, 24, 25, 26, 27, 28, 29, 30, 31, 32, 33, 34, 35, 36]]
      [fun v' _ => v' = .slice A2 (AddF z y).length c2, fun v' _ => v' = .slice Az z.length cz, fun v' _ => v' = .slice Ay y.length cy, ZVr (AddF (z) (y)), fun v' _ => v' = .bool true, fun v' _ => v' = .bool false, fun v' _ => v' = .bool false, fun v' _ => v' = .slice Az z.length cz, fun v' _ => v' = .bool false, fun v' _ => v' = .bool true, fun v' _ => v' = .bool true, fun v' _ => v' = .bool true, fun v' _ => v' = undef, fun v' _ => v' = undef, fun v' _ => v' = undef, fun v' _ => v' = .bool true, fun v' _ => v' = .bool true, fun v' _ => v' = undef, fun v' _ => v' = undef, fun v' _ => v' = undef, fun v' _ => v' = undef, fun v' _ => v' = undef, fun v' _ => v' = undef, fun v' _ => v' = undef, fun v' _ => v' = undef, fun v' _ => v' = undef, fun v' _ => v' = undef, fun v' _ => v' = undef, fun v' _ => v' = undef, fun v' _ => v' = undef, fun v' _ => v' = undef, fun v' _ => v' = undef, fun v' _ => v' = undef, fun v' _ => v' = undef, fun v' _ => v' = undef, fun v' _ => v' = undef, fun v' _ => v' = undef, fun v' _ => v' = undef]
      (by kernel_rfl) (by kernel_rfl) rfl ⟨stable_pure _, stable_pure _, stable_pure _, stable_zVr _, stable_pure _, stable_pure _, stable_pure _, stable_pure _, stable_pure _, stable_pure _, stable_pure _, stable_pure _, stable_pure _, stable_pure _, stable_pure _, stable_pure _, stable_pure _, stable_pure _, stable_pure _, stable_pure _, stable_pure _, stable_pure _, stable_pure _, stable_pure _, stable_pure _, stable_pure _, stable_pure _, stable_pure _, stable_pure _, stable_pure _, stable_pure _, stable_pure _, stable_pure _, stable_pure _, stable_pure _, stable_pure _, stable_pure _, stable_pure _, trivial⟩ ?_
    refine wf_stepK [] [] (by kernel_rfl) (by kernel_rfl) (fun wf hb hf => ?_) (fun t0 => ?_)
    · refine ⟨?_⟩
      go_wp2
      exact ⟨rfl, .slice A2 (AddF z y).length c2, by kernel_rfl, Below.refl _ _, rfl⟩
    refine wf_stepK [] [] (by kernel_rfl) (by kernel_rfl) (fun wf hb hf => ?_) (fun t1 => ?_)
    · refine ⟨?_⟩
      go_wp2
      exact ⟨rfl, .slice Az z.length cz, by kernel_rfl, Below.refl _ _, rfl⟩
    refine wf_stepK [] [] (by kernel_rfl) (by kernel_rfl) (fun wf hb hf => ?_) (fun t2 => ?_)
    · refine ⟨?_⟩
      go_wp2
      exact ⟨rfl, .slice Ay y.length cy, by kernel_rfl, Below.refl _ _, rfl⟩
    refine wf_stepK [1, 2] [fun _ => t1 = .slice Az z.length cz, fun _ => t2 = .slice Ay y.length cy] (by kernel_rfl) (by kernel_rfl) (fun wf hb hf => ?_) (fun t3 => ?_)
    · obtain ⟨rfl, rfl, -⟩ := hf
      refine ⟨?_⟩
      go_wp2_with (go_at_call 28; refine (Add_s _ _ (z) _ _ (y) _ (((SlOw.at_ entO hz.1).below entR b2).below entR hb) (((SlOw.at_ entO hy.1).below entR b2).below entR hb) nz rz ny ry).mono ?_; rintro e w2 ⟨AN, cN, rfl, oN, hb2⟩)
      exact ⟨rfl, .slice AN (AddF (z) (y)).length cN, by kernel_rfl, hb2, AN, cN, rfl, SlOw.at_ entO oN, EntsOw.cap oN⟩
    refine wf_stepK [0, 3] [fun _ => t0 = .slice A2 (AddF z y).length c2, ZVr (AddF (z) (y)) t3] (by kernel_rfl) (by kernel_rfl) (fun wf hb hf => ?_) (fun t4 => ?_)
    · obtain ⟨rfl, ⟨XS1, xs1, rfl, hS1⟩, -⟩ := hf
      refine ⟨?_⟩
      go_wp2_with (go_at_call 15; refine (equalZ (xs := AddF (z) (y)) (ys := AddF (z) (y)) true (decide_eq_true rfl) (a2.below entR hb) hS1.1 (Nat.le_trans (AddF_len' _ _) (by decide)) (Nat.le_trans (AddF_len' _ _) (by decide)) (rows_big (AddF_row' _ _) (by decide)) (rows_big (AddF_row' _ _) (by decide))).mono ?_; rintro e w2 ⟨rfl, hb2⟩)
      exact ⟨rfl, .bool true, by kernel_rfl, hb2, rfl⟩
    refine wf_stepK [4] [fun _ => t4 = .bool true] (by kernel_rfl) (by kernel_rfl) (fun wf hb hf => ?_) (fun t5 => ?_)
    · obtain ⟨rfl, -⟩ := hf
      refine ⟨?_⟩
      go_wp2
      exact ⟨rfl, .bool false, by kernel_rfl, Below.refl _ _, rfl⟩
    refine wf_stepK [5] [fun _ => t5 = .bool false] (by kernel_rfl) (by kernel_rfl) (fun wf hb hf => ?_) (fun t6 => ?_)
    · obtain ⟨rfl, -⟩ := hf
      refine ⟨?_⟩
      go_wp2
      exact ⟨rfl, .bool false, by kernel_rfl, Below.refl _ _, rfl⟩
    refine wf_stepK [6] [fun _ => t6 = .bool false] (by kernel_rfl) (by kernel_rfl) (fun wf hb hf => ?_) (fun t7 => ?_)
    · obtain ⟨rfl, -⟩ := hf
      refine WfOp.yes (by kernel_rfl) ?_
      dsimp only
      go_wp2
      exact ⟨rfl, .slice Az z.length cz, by kernel_rfl, Below.refl _ _, rfl⟩
    refine wf_stepK [6, 7] [fun _ => t6 = .bool false, fun _ => t7 = .slice Az z.length cz] (by kernel_rfl) (by kernel_rfl) (fun wf hb hf => ?_) (fun t8 => ?_)
    · obtain ⟨rfl, rfl, -⟩ := hf
      refine WfOp.yes (by kernel_rfl) ?_
      dsimp only
      go_wp2_with (go_at_call 21; refine (smallZ false HS.out (((SlOw.at_ entO hz.1).below entR b2).below entR hb) nz rz).mono ?_; rintro e w2 ⟨rfl, hb2⟩)
      exact ⟨rfl, .bool false, by kernel_rfl, hb2, rfl⟩
    refine wf_stepK [6, 8] [fun _ => t6 = .bool false, fun _ => t8 = .bool false] (by kernel_rfl) (by kernel_rfl) (fun wf hb hf => ?_) (fun t9 => ?_)
    · obtain ⟨rfl, rfl, -⟩ := hf
      refine WfOp.yes (by kernel_rfl) ?_
      dsimp only
      go_wp2
      exact ⟨rfl, .bool true, by kernel_rfl, Below.refl _ _, rfl⟩
    refine wf_stepK [6, 9] [fun _ => t6 = .bool false, fun _ => t9 = .bool true] (by kernel_rfl) (by kernel_rfl) (fun wf hb hf => ?_) (fun t10 => ?_)
    · obtain ⟨rfl, rfl, -⟩ := hf
      refine ⟨?_⟩
      go_wp2
      exact ⟨rfl, .bool true, by kernel_rfl, Below.refl _ _, rfl⟩
    refine wf_stepK [10] [fun _ => t10 = .bool true] (by kernel_rfl) (by kernel_rfl) (fun wf hb hf => ?_) (fun t11 => ?_)
    · obtain ⟨rfl, -⟩ := hf
      refine ⟨?_⟩
      go_wp2
      exact ⟨rfl, .bool true, by kernel_rfl, Below.refl _ _, rfl⟩
    refine wf_stepK [11] [fun _ => t11 = .bool true] (by kernel_rfl) (by kernel_rfl) (fun wf hb hf => ?_) (fun t12 => ?_)
    · obtain ⟨rfl, -⟩ := hf
      exact WfOp.no (by kernel_rfl) rfl
    refine wf_stepK [11, 12] [fun _ => t11 = .bool true, fun _ => t12 = undef] (by kernel_rfl) (by kernel_rfl) (fun wf hb hf => ?_) (fun t13 => ?_)
    · obtain ⟨rfl, rfl, -⟩ := hf
      exact WfOp.no (by kernel_rfl) rfl
    refine wf_stepK [11, 13] [fun _ => t11 = .bool true, fun _ => t13 = undef] (by kernel_rfl) (by kernel_rfl) (fun wf hb hf => ?_) (fun t14 => ?_)
    · obtain ⟨rfl, rfl, -⟩ := hf
      exact WfOp.no (by kernel_rfl) rfl
    refine wf_stepK [11, 14] [fun _ => t11 = .bool true, fun _ => t14 = undef] (by kernel_rfl) (by kernel_rfl) (fun wf hb hf => ?_) (fun t15 => ?_)
    · obtain ⟨rfl, rfl, -⟩ := hf
      refine ⟨?_⟩
      go_wp2
      exact ⟨rfl, .bool true, by kernel_rfl, Below.refl _ _, rfl⟩
    refine wf_stepK [15] [fun _ => t15 = .bool true] (by kernel_rfl) (by kernel_rfl) (fun wf hb hf => ?_) (fun t16 => ?_)
    · obtain ⟨rfl, -⟩ := hf
      refine ⟨?_⟩
      go_wp2
      exact ⟨rfl, .bool true, by kernel_rfl, Below.refl _ _, rfl⟩
    refine wf_stepK [16] [fun _ => t16 = .bool true] (by kernel_rfl) (by kernel_rfl) (fun wf hb hf => ?_) (fun t17 => ?_)
    · obtain ⟨rfl, -⟩ := hf
      exact WfOp.no (by kernel_rfl) rfl
    refine wf_stepK [16, 17] [fun _ => t16 = .bool true, fun _ => t17 = undef] (by kernel_rfl) (by kernel_rfl) (fun wf hb hf => ?_) (fun t18 => ?_)
    · obtain ⟨rfl, rfl, -⟩ := hf
      exact WfOp.no (by kernel_rfl) rfl
    refine wf_stepK [16, 18] [fun _ => t16 = .bool true, fun _ => t18 = undef] (by kernel_rfl) (by kernel_rfl) (fun wf hb hf => ?_) (fun t19 => ?_)
    · obtain ⟨rfl, rfl, -⟩ := hf
      exact WfOp.no (by kernel_rfl) rfl
    refine wf_stepK [16, 19] [fun _ => t16 = .bool true, fun _ => t19 = undef] (by kernel_rfl) (by kernel_rfl) (fun wf hb hf => ?_) (fun t20 => ?_)
    · obtain ⟨rfl, rfl, -⟩ := hf
      exact WfOp.no (by kernel_rfl) rfl
    refine wf_stepK [20] [fun _ => t20 = undef] (by kernel_rfl) (by kernel_rfl) (fun wf hb hf => ?_) (fun t21 => ?_)
    · obtain ⟨rfl, -⟩ := hf
      exact WfOp.no (by kernel_rfl) rfl
    refine wf_stepK [20, 21] [fun _ => t20 = undef, fun _ => t21 = undef] (by kernel_rfl) (by kernel_rfl) (fun wf hb hf => ?_) (fun t22 => ?_)
    · obtain ⟨rfl, rfl, -⟩ := hf
      exact WfOp.no (by kernel_rfl) rfl
    refine wf_stepK [20, 22] [fun _ => t20 = undef, fun _ => t22 = undef] (by kernel_rfl) (by kernel_rfl) (fun wf hb hf => ?_) (fun t23 => ?_)
    · obtain ⟨rfl, rfl, -⟩ := hf
      exact WfOp.no (by kernel_rfl) rfl
    refine wf_stepK [16, 20, 23] [fun _ => t16 = .bool true, fun _ => t20 = undef, fun _ => t23 = undef] (by kernel_rfl) (by kernel_rfl) (fun wf hb hf => ?_) (fun t24 => ?_)
    · obtain ⟨rfl, rfl, rfl, -⟩ := hf
      exact WfOp.no (by kernel_rfl) rfl
    refine wf_stepK [16, 24] [fun _ => t16 = .bool true, fun _ => t24 = undef] (by kernel_rfl) (by kernel_rfl) (fun wf hb hf => ?_) (fun t25 => ?_)
    · obtain ⟨rfl, rfl, -⟩ := hf
      exact WfOp.no (by kernel_rfl) rfl
    refine wf_stepK [25] [fun _ => t25 = undef] (by kernel_rfl) (by kernel_rfl) (fun wf hb hf => ?_) (fun t26 => ?_)
    · obtain ⟨rfl, -⟩ := hf
      exact WfOp.no (by kernel_rfl) rfl
    refine wf_stepK [25, 26] [fun _ => t25 = undef, fun _ => t26 = undef] (by kernel_rfl) (by kernel_rfl) (fun wf hb hf => ?_) (fun t27 => ?_)
    · obtain ⟨rfl, rfl, -⟩ := hf
      exact WfOp.no (by kernel_rfl) rfl
    refine wf_stepK [25, 27] [fun _ => t25 = undef, fun _ => t27 = undef] (by kernel_rfl) (by kernel_rfl) (fun wf hb hf => ?_) (fun t28 => ?_)
    · obtain ⟨rfl, rfl, -⟩ := hf
      exact WfOp.no (by kernel_rfl) rfl
    refine wf_stepK [25, 28] [fun _ => t25 = undef, fun _ => t28 = undef] (by kernel_rfl) (by kernel_rfl) (fun wf hb hf => ?_) (fun t29 => ?_)
    · obtain ⟨rfl, rfl, -⟩ := hf
      exact WfOp.no (by kernel_rfl) rfl
    refine wf_stepK [25, 29] [fun _ => t25 = undef, fun _ => t29 = undef] (by kernel_rfl) (by kernel_rfl) (fun wf hb hf => ?_) (fun t30 => ?_)
    · obtain ⟨rfl, rfl, -⟩ := hf
      exact WfOp.no (by kernel_rfl) rfl
    refine wf_stepK [25] [fun _ => t25 = undef] (by kernel_rfl) (by kernel_rfl) (fun wf hb hf => ?_) (fun t31 => ?_)
    · obtain ⟨rfl, -⟩ := hf
      exact WfOp.no (by kernel_rfl) rfl
    refine wf_stepK [25, 31] [fun _ => t25 = undef, fun _ => t31 = undef] (by kernel_rfl) (by kernel_rfl) (fun wf hb hf => ?_) (fun t32 => ?_)
    · obtain ⟨rfl, rfl, -⟩ := hf
      exact WfOp.no (by kernel_rfl) rfl
    refine wf_stepK [25, 32] [fun _ => t25 = undef, fun _ => t32 = undef] (by kernel_rfl) (by kernel_rfl) (fun wf hb hf => ?_) (fun t33 => ?_)
    · obtain ⟨rfl, rfl, -⟩ := hf
      exact WfOp.no (by kernel_rfl) rfl
    refine wf_stepK [25, 33] [fun _ => t25 = undef, fun _ => t33 = undef] (by kernel_rfl) (by kernel_rfl) (fun wf hb hf => ?_) (fun t34 => ?_)
    · obtain ⟨rfl, rfl, -⟩ := hf
      exact WfOp.no (by kernel_rfl) rfl
    refine wf_stepK [25, 34] [fun _ => t25 = undef, fun _ => t34 = undef] (by kernel_rfl) (by kernel_rfl) (fun wf hb hf => ?_) (fun t35 => ?_)
    · obtain ⟨rfl, rfl, -⟩ := hf
      exact WfOp.no (by kernel_rfl) rfl
    refine wf_stepK [25, 30, 35] [fun _ => t25 = undef, fun _ => t30 = undef, fun _ => t35 = undef] (by kernel_rfl) (by kernel_rfl) (fun wf hb hf => ?_) (fun t36 => ?_)
    · obtain ⟨rfl, rfl, rfl, -⟩ := hf
      exact WfOp.no (by kernel_rfl) rfl
    refine wf_stepK [16, 25, 36] [fun _ => t16 = .bool true, fun _ => t25 = undef, fun _ => t36 = undef] (by kernel_rfl) (by kernel_rfl) (fun wf hb hf => ?_) (fun t37 => ?_)
    · obtain ⟨rfl, rfl, rfl, -⟩ := hf
      exact WfOp.no (by kernel_rfl) rfl
    refine wf_doneK [16, 37] [fun _ => t16 = .bool true, fun _ => t37 = undef] (by kernel_rfl) (by kernel_rfl) (fun w3 b3 hf => ?_)
    obtain ⟨rfl, rfl, -⟩ := hf
    show wpList _ _ _ [_] _ _
    refine wpList_frame (by simp [Act.put]; rfl) ?_
    have B3 := btr B2 b3
    go_wp2_with fail
    refine (Add_s _ _ (z) _ _ (y) _ ((SlOw.at_ entO hz.1).below entR (btr b2 b3)) ((SlOw.at_ entO hy.1).below entR (btr b2 b3)) nz rz ny ry).mono ?_
    rintro e w4 ⟨A4, c4, rfl, o4, b4⟩
    have B4 := btr B3 b4
    have a4 : EntsAt w4 A4 (AddF (z) (y)) := SlOw.at_ entO o4
    go_wp2_with fail
    refine (equalZ (xs := AddF (z) (y)) (ys := AddF (z) (y)) true (decide_eq_true rfl) (a2.below entR (btr b3 b4)) a4 (Nat.le_trans (AddF_len' _ _) (by decide)) (Nat.le_trans (AddF_len' _ _) (by decide)) (rows_big (AddF_row' _ _) (by decide)) (rows_big (AddF_row' _ _) (by decide))).mono ?_
    rintro e w5 ⟨rfl, b5⟩
    have B5 := btr B4 b5
    go_wp2_with fail
    go_ret
    exact ⟨rfl, B5⟩
  · have SX := smB_Sm hS
    cases hT : smB y
    · have HS := Lib.hid hS
      have HT := Lib.hid hT
      clear hS hT SX
      go_wp2_with fail
      refine (Add_i _ _ (z) _ _ (y) _ (SlOw.at_ entO hz.1) (SlOw.at_ entO hy.1) (EntsOw.cap hz.1) (EntsOw.cap hy.1) nz rz ny ry).mono ?_
      rintro e w2 ⟨A2, c2, rfl, o2, b2⟩
      have B2 := btr B1 b2
      have a2 : EntsAt w2 A2 (AddF (z) (y)) := SlOw.at_ entO o2
      go_wp2_with fail
      refine wp_region_facts [[], [], [], [1, 2], [0, 1, 2, 3], [0, 1, 2, 3, 4], [0, 1, 2, 3, 4, 5], [0, 1, 2, 3, 4, 5, 6], [0, 1, 2, 3, 4, 5, 6, 7], [0, 1, 2, 3, 4, 5, 6, 7, 8], [0, 1, 2, 3, 4, 5, 6, 7, 8, 9], [0, 1, 2, 3, 4, 5, 6, 7, 8, 9, 10], [0, 1, 2, 3, 4, 5, 6, 7, 8, 9, 10, 11], [0, 1, 2, 3, 4, 5, 6, 7, 8, 9, 10, 11, 12], [0, 1, 2, 3, 4, 5, 6, 7, 8, 9, 10, 11, 12, 13], [0, 1, 2, 3, 4, 5, 6, 7, 8, 9, 10, 11, 12, 13, 14], [0, 1, 2, 3, 4, 5, 6, 7, 8, 9, 10, 11, 12, 13, 14, 15], [0, 1, 2, 3, 4, 5, 6, 7, 8, 9, 10, 11, 12, 13, 14, 15, 16], [0, 1, 2, 3, 4, 5, 6, 7, 8, 9, 10, 11, 12, 13, 14, 15, 16, 17], [0, 1, 2, 3, 4, 5, 6, 7, 8, 9, 10, 11, 12, 13, 14, 15, 16, 17, 18], [0, 1, 2, 3, 4, 5, 6, 7, 8, 9, 10, 11, 12, 13, 14, 15, 16, 17, 18, 19], [0, 1, 2, 3, 4, 5, 6, 7, 8, 9, 10, 11, 12, 13, 14, 15, 16, 17, 18, 19, 20], [0, 1, 2, 3, 4, 5, 6, 7, 8, 9, 10, 11, 12, 13, 14, 15, 16, 17, 18, 19, 20, 21], [0, 1, 2, 3, 4, 5, 6, 7, 8, 9, 10, 11, 12, 13, 14, 15, 16, 17, 18, 19, 20, 21, 22], [0, 1, 2, 3, 4, 5, 6, 7, 8, 9, 10, 11, 12, 13, 14, 15, 16, 17, 18, 19, 20, 21, 22, 23], [0, 1, 2, 3, 4, 5, 6, 7, 8, 9, 10, 11, 12, 13, 14, 15, 16, 17, 18, 19, 20, 21, 22, 23, 24], [0, 1, 2, 3, 4, 5, 6, 7, 8, 9, 10, 11, 12, 13, 14, 15, 16, 17, 18, 19, 20, 21, 22, 23, 24, 25], [0, 1, 2, 3, 4, 5, 6, 7, 8, 9, 10, 11, 12, 13, 14, 15, 16, 17, 18, 19, 20, 21, 22, 23, 24, 25, 26], [0, 1, 2, 3, 4, 5, 6, 7, 8, 9, 10, 11, 12, 13, 14, 15, 16, 17, 18, 19, 20, 21, 22, 23, 24, 25, 26, 27], [0, 1, 2, 3, 4, 5, 6, 7, 8, 9, 10, 11, 12, 13, 14, 15, 16, 17, 18, 19, 20, 21, 22, 23, 24, 25, 26, 27, 28], [0, 1, 2, 3, 4, 5, 6, 7, 8, 9, 10, 11, 12, 13, 14, 15, 16, 17, 18, 19, 20, 21, 22, 23, 24, 25, 26, 27, 28, 29], [0, 1, 2, 3, 4, 5, 6, 7, 8, 9, 10, 11, 12, 13, 14, 15, 16, 17, 18, 19, 20, 21, 22, 23, 24, 25], [0, 1, 2, 3, 4, 5, 6, 7, 8, 9, 10, 11, 12, 13, 14, 15, 16, 17, 18, 19, 20, 21, 22, 23, 24, 25, 31], [0, 1, 2, 3, 4, 5, 6, 7, 8, 9, 10, 11, 12, 13, 14, 15, 16, 17, 18, 19, 20, 21, 22, 23, 24, 25, 31, 32], [0, 1, 2, 3, 4, 5, 6, 7, 8, 9, 10, 11, 12, 13, 14, 15, 16, 17, 18, 19, 20, 21, 22, 23, 24, 25, 31, 32, 33], [0, 1, 2, 3, 4, 5, 6, 7, 8, 9, 10, 11, 12, 13, 14, 15, 16, 17, 18, 19, 20, 21, 22, 23, 24, 25, 31, 32, 33, 34], [0, 1, 2, 3, 4, 5, 6, 7, 8, 9, 10, 11, 12, 13, 14, 15, 16, 17, 18, 19, 20, 21, 22, 23, 24, 25, 26, 27, 28, 29, 30, 31, 32, 33, 34, 35], [0, 1, 2, 3, 4, 5, 6, 7, 8, 9, 10, 11, 12, 13, 14, 15, 16, 17, 18, 19, 20, 21, 22, 23, 24, 25, 26, 27, 28, 29, 30, 31, 32, 33, 34, 35, 36]]
        [fun v' _ => v' = .slice A2 (AddF z y).length c2, fun v' _ => v' = .slice Az z.length cz, fun v' _ => v' = .slice Ay y.length cy, ZVr (AddF (z) (y)), fun v' _ => v' = .bool true, fun v' _ => v' = .bool false, fun v' _ => v' = .bool false, fun v' _ => v' = .slice Az z.length cz, fun v' _ => v' = .bool true, fun v' _ => v' = .bool false, fun v' _ => v' = .bool false, fun v' _ => v' = .bool false, fun v' _ => v' = .slice Ay y.length cy, fun v' _ => v' = .bool false, fun v' _ => v' = .bool true, fun v' _ => v' = .bool true, fun v' _ => v' = .bool true, fun v' _ => v' = undef, fun v' _ => v' = undef, fun v' _ => v' = undef, fun v' _ => v' = undef, fun v' _ => v' = undef, fun v' _ => v' = undef, fun v' _ => v' = undef, fun v' _ => v' = undef, fun v' _ => v' = undef, fun v' _ => v' = undef, fun v' _ => v' = undef, fun v' _ => v' = undef, fun v' _ => v' = undef, fun v' _ => v' = undef, fun v' _ => v' = undef, fun v' _ => v' = undef, fun v' _ => v' = undef, fun v' _ => v' = undef, fun v' _ => v' = undef, fun v' _ => v' = undef, fun v' _ => v' = undef]
        (by kernel_rfl) (by kernel_rfl) rfl ⟨stable_pure _, stable_pure _, stable_pure _, stable_zVr _, stable_pure _, stable_pure _, stable_pure _, stable_pure _, stable_pure _, stable_pure _, stable_pure _, stable_pure _, stable_pure _, stable_pure _, stable_pure _, stable_pure _, stable_pure _, stable_pure _, stable_pure _, stable_pure _, stable_pure _, stable_pure _, stable_pure _, stable_pure _, stable_pure _, stable_pure _, stable_pure _, stable_pure _, stable_pure _, stable_pure _, stable_pure _, stable_pure _, stable_pure _, stable_pure _, stable_pure _, stable_pure _, stable_pure _, stable_pure _, trivial⟩ ?_
      refine wf_stepK [] [] (by kernel_rfl) (by kernel_rfl) (fun wf hb hf => ?_) (fun t0 => ?_)
      · refine ⟨?_⟩
        go_wp2
        exact ⟨rfl, .slice A2 (AddF z y).length c2, by kernel_rfl, Below.refl _ _, rfl⟩
      refine wf_stepK [] [] (by kernel_rfl) (by kernel_rfl) (fun wf hb hf => ?_) (fun t1 => ?_)
      · refine ⟨?_⟩
        go_wp2
        exact ⟨rfl, .slice Az z.length cz, by kernel_rfl, Below.refl _ _, rfl⟩
      refine wf_stepK [] [] (by kernel_rfl) (by kernel_rfl) (fun wf hb hf => ?_) (fun t2 => ?_)
      · refine ⟨?_⟩
        go_wp2
        exact ⟨rfl, .slice Ay y.length cy, by kernel_rfl, Below.refl _ _, rfl⟩
      refine wf_stepK [1, 2] [fun _ => t1 = .slice Az z.length cz, fun _ => t2 = .slice Ay y.length cy] (by kernel_rfl) (by kernel_rfl) (fun wf hb hf => ?_) (fun t3 => ?_)
      · obtain ⟨rfl, rfl, -⟩ := hf
        refine ⟨?_⟩
        go_wp2_with (go_at_call 28; refine (Add_s _ _ (z) _ _ (y) _ (((SlOw.at_ entO hz.1).below entR b2).below entR hb) (((SlOw.at_ entO hy.1).below entR b2).below entR hb) nz rz ny ry).mono ?_; rintro e w2 ⟨AN, cN, rfl, oN, hb2⟩)
        exact ⟨rfl, .slice AN (AddF (z) (y)).length cN, by kernel_rfl, hb2, AN, cN, rfl, SlOw.at_ entO oN, EntsOw.cap oN⟩
      refine wf_stepK [0, 3] [fun _ => t0 = .slice A2 (AddF z y).length c2, ZVr (AddF (z) (y)) t3] (by kernel_rfl) (by kernel_rfl) (fun wf hb hf => ?_) (fun t4 => ?_)
      · obtain ⟨rfl, ⟨XS1, xs1, rfl, hS1⟩, -⟩ := hf
        refine ⟨?_⟩
        go_wp2_with (go_at_call 15; refine (equalZ (xs := AddF (z) (y)) (ys := AddF (z) (y)) true (decide_eq_true rfl) (a2.below entR hb) hS1.1 (Nat.le_trans (AddF_len' _ _) (by decide)) (Nat.le_trans (AddF_len' _ _) (by decide)) (rows_big (AddF_row' _ _) (by decide)) (rows_big (AddF_row' _ _) (by decide))).mono ?_; rintro e w2 ⟨rfl, hb2⟩)
        exact ⟨rfl, .bool true, by kernel_rfl, hb2, rfl⟩
      refine wf_stepK [4] [fun _ => t4 = .bool true] (by kernel_rfl) (by kernel_rfl) (fun wf hb hf => ?_) (fun t5 => ?_)
      · obtain ⟨rfl, -⟩ := hf
        refine ⟨?_⟩
        go_wp2
        exact ⟨rfl, .bool false, by kernel_rfl, Below.refl _ _, rfl⟩
      refine wf_stepK [5] [fun _ => t5 = .bool false] (by kernel_rfl) (by kernel_rfl) (fun wf hb hf => ?_) (fun t6 => ?_)
      · obtain ⟨rfl, -⟩ := hf
        refine ⟨?_⟩
        go_wp2
        exact ⟨rfl, .bool false, by kernel_rfl, Below.refl _ _, rfl⟩
      refine wf_stepK [6] [fun _ => t6 = .bool false] (by kernel_rfl) (by kernel_rfl) (fun wf hb hf => ?_) (fun t7 => ?_)
      · obtain ⟨rfl, -⟩ := hf
        refine WfOp.yes (by kernel_rfl) ?_
        dsimp only
        go_wp2
        exact ⟨rfl, .slice Az z.length cz, by kernel_rfl, Below.refl _ _, rfl⟩
      refine wf_stepK [6, 7] [fun _ => t6 = .bool false, fun _ => t7 = .slice Az z.length cz] (by kernel_rfl) (by kernel_rfl) (fun wf hb hf => ?_) (fun t8 => ?_)
      · obtain ⟨rfl, rfl, -⟩ := hf
        refine WfOp.yes (by kernel_rfl) ?_
        dsimp only
        go_wp2_with (go_at_call 21; refine (smallZ true HS.out (((SlOw.at_ entO hz.1).below entR b2).below entR hb) nz rz).mono ?_; rintro e w2 ⟨rfl, hb2⟩)
        exact ⟨rfl, .bool true, by kernel_rfl, hb2, rfl⟩
      refine wf_stepK [6, 8] [fun _ => t6 = .bool false, fun _ => t8 = .bool true] (by kernel_rfl) (by kernel_rfl) (fun wf hb hf => ?_) (fun t9 => ?_)
      · obtain ⟨rfl, rfl, -⟩ := hf
        refine WfOp.yes (by kernel_rfl) ?_
        dsimp only
        go_wp2
        exact ⟨rfl, .bool false, by kernel_rfl, Below.refl _ _, rfl⟩
      refine wf_stepK [6, 9] [fun _ => t6 = .bool false, fun _ => t9 = .bool false] (by kernel_rfl) (by kernel_rfl) (fun wf hb hf => ?_) (fun t10 => ?_)
      · obtain ⟨rfl, rfl, -⟩ := hf
        refine ⟨?_⟩
        go_wp2
        exact ⟨rfl, .bool false, by kernel_rfl, Below.refl _ _, rfl⟩
      refine wf_stepK [10] [fun _ => t10 = .bool false] (by kernel_rfl) (by kernel_rfl) (fun wf hb hf => ?_) (fun t11 => ?_)
      · obtain ⟨rfl, -⟩ := hf
        refine ⟨?_⟩
        go_wp2
        exact ⟨rfl, .bool false, by kernel_rfl, Below.refl _ _, rfl⟩
      refine wf_stepK [11] [fun _ => t11 = .bool false] (by kernel_rfl) (by kernel_rfl) (fun wf hb hf => ?_) (fun t12 => ?_)
      · obtain ⟨rfl, -⟩ := hf
        refine WfOp.yes (by kernel_rfl) ?_
        dsimp only
        go_wp2
        exact ⟨rfl, .slice Ay y.length cy, by kernel_rfl, Below.refl _ _, rfl⟩
      refine wf_stepK [11, 12] [fun _ => t11 = .bool false, fun _ => t12 = .slice Ay y.length cy] (by kernel_rfl) (by kernel_rfl) (fun wf hb hf => ?_) (fun t13 => ?_)
      · obtain ⟨rfl, rfl, -⟩ := hf
        refine WfOp.yes (by kernel_rfl) ?_
        dsimp only
        go_wp2_with (go_at_call 21; refine (smallZ false HT.out (((SlOw.at_ entO hy.1).below entR b2).below entR hb) ny ry).mono ?_; rintro e w2 ⟨rfl, hb2⟩)
        exact ⟨rfl, .bool false, by kernel_rfl, hb2, rfl⟩
      refine wf_stepK [11, 13] [fun _ => t11 = .bool false, fun _ => t13 = .bool false] (by kernel_rfl) (by kernel_rfl) (fun wf hb hf => ?_) (fun t14 => ?_)
      · obtain ⟨rfl, rfl, -⟩ := hf
        refine WfOp.yes (by kernel_rfl) ?_
        dsimp only
        go_wp2
        exact ⟨rfl, .bool true, by kernel_rfl, Below.refl _ _, rfl⟩
      refine wf_stepK [11, 14] [fun _ => t11 = .bool false, fun _ => t14 = .bool true] (by kernel_rfl) (by kernel_rfl) (fun wf hb hf => ?_) (fun t15 => ?_)
      · obtain ⟨rfl, rfl, -⟩ := hf
        refine ⟨?_⟩
        go_wp2
        exact ⟨rfl, .bool true, by kernel_rfl, Below.refl _ _, rfl⟩
      refine wf_stepK [15] [fun _ => t15 = .bool true] (by kernel_rfl) (by kernel_rfl) (fun wf hb hf => ?_) (fun t16 => ?_)
      · obtain ⟨rfl, -⟩ := hf
        refine ⟨?_⟩
        go_wp2
        exact ⟨rfl, .bool true, by kernel_rfl, Below.refl _ _, rfl⟩
      refine wf_stepK [16] [fun _ => t16 = .bool true] (by kernel_rfl) (by kernel_rfl) (fun wf hb hf => ?_) (fun t17 => ?_)
      · obtain ⟨rfl, -⟩ := hf
        exact WfOp.no (by kernel_rfl) rfl
      refine wf_stepK [16, 17] [fun _ => t16 = .bool true, fun _ => t17 = undef] (by kernel_rfl) (by kernel_rfl) (fun wf hb hf => ?_) (fun t18 => ?_)
      · obtain ⟨rfl, rfl, -⟩ := hf
        exact WfOp.no (by kernel_rfl) rfl
      refine wf_stepK [16, 18] [fun _ => t16 = .bool true, fun _ => t18 = undef] (by kernel_rfl) (by kernel_rfl) (fun wf hb hf => ?_) (fun t19 => ?_)
      · obtain ⟨rfl, rfl, -⟩ := hf
        exact WfOp.no (by kernel_rfl) rfl
      refine wf_stepK [16, 19] [fun _ => t16 = .bool true, fun _ => t19 = undef] (by kernel_rfl) (by kernel_rfl) (fun wf hb hf => ?_) (fun t20 => ?_)
      · obtain ⟨rfl, rfl, -⟩ := hf
        exact WfOp.no (by kernel_rfl) rfl
      refine wf_stepK [20] [fun _ => t20 = undef] (by kernel_rfl) (by kernel_rfl) (fun wf hb hf => ?_) (fun t21 => ?_)
      · obtain ⟨rfl, -⟩ := hf
        exact WfOp.no (by kernel_rfl) rfl
      refine wf_stepK [20, 21] [fun _ => t20 = undef, fun _ => t21 = undef] (by kernel_rfl) (by kernel_rfl) (fun wf hb hf => ?_) (fun t22 => ?_)
      · obtain ⟨rfl, rfl, -⟩ := hf
        exact WfOp.no (by kernel_rfl) rfl
      refine wf_stepK [20, 22] [fun _ => t20 = undef, fun _ => t22 = undef] (by kernel_rfl) (by kernel_rfl) (fun wf hb hf => ?_) (fun t23 => ?_)
      · obtain ⟨rfl, rfl, -⟩ := hf
        exact WfOp.no (by kernel_rfl) rfl
      refine wf_stepK [16, 20, 23] [fun _ => t16 = .bool true, fun _ => t20 = undef, fun _ => t23 = undef] (by kernel_rfl) (by kernel_rfl) (fun wf hb hf => ?_) (fun t24 => ?_)
      · obtain ⟨rfl, rfl, rfl, -⟩ := hf
        exact WfOp.no (by kernel_rfl) rfl
      refine wf_stepK [16, 24] [fun _ => t16 = .bool true, fun _ => t24 = undef] (by kernel_rfl) (by kernel_rfl) (fun wf hb hf => ?_) (fun t25 => ?_)
      · obtain ⟨rfl, rfl, -⟩ := hf
        exact WfOp.no (by kernel_rfl) rfl
      refine wf_stepK [25] [fun _ => t25 = undef] (by kernel_rfl) (by kernel_rfl) (fun wf hb hf => ?_) (fun t26 => ?_)
      · obtain ⟨rfl, -⟩ := hf
        exact WfOp.no (by kernel_rfl) rfl
      refine wf_stepK [25, 26] [fun _ => t25 = undef, fun _ => t26 = undef] (by kernel_rfl) (by kernel_rfl) (fun wf hb hf => ?_) (fun t27 => ?_)
      · obtain ⟨rfl, rfl, -⟩ := hf
        exact WfOp.no (by kernel_rfl) rfl
      refine wf_stepK [25, 27] [fun _ => t25 = undef, fun _ => t27 = undef] (by kernel_rfl) (by kernel_rfl) (fun wf hb hf => ?_) (fun t28 => ?_)
      · obtain ⟨rfl, rfl, -⟩ := hf
        exact WfOp.no (by kernel_rfl) rfl
      refine wf_stepK [25, 28] [fun _ => t25 = undef, fun _ => t28 = undef] (by kernel_rfl) (by kernel_rfl) (fun wf hb hf => ?_) (fun t29 => ?_)
      · obtain ⟨rfl, rfl, -⟩ := hf
        exact WfOp.no (by kernel_rfl) rfl
      refine wf_stepK [25, 29] [fun _ => t25 = undef, fun _ => t29 = undef] (by kernel_rfl) (by kernel_rfl) (fun wf hb hf => ?_) (fun t30 => ?_)
      · obtain ⟨rfl, rfl, -⟩ := hf
        exact WfOp.no (by kernel_rfl) rfl
      refine wf_stepK [25] [fun _ => t25 = undef] (by kernel_rfl) (by kernel_rfl) (fun wf hb hf => ?_) (fun t31 => ?_)
      · obtain ⟨rfl, -⟩ := hf
        exact WfOp.no (by kernel_rfl) rfl
      refine wf_stepK [25, 31] [fun _ => t25 = undef, fun _ => t31 = undef] (by kernel_rfl) (by kernel_rfl) (fun wf hb hf => ?_) (fun t32 => ?_)
      · obtain ⟨rfl, rfl, -⟩ := hf
        exact WfOp.no (by kernel_rfl) rfl
      refine wf_stepK [25, 32] [fun _ => t25 = undef, fun _ => t32 = undef] (by kernel_rfl) (by kernel_rfl) (fun wf hb hf => ?_) (fun t33 => ?_)
      · obtain ⟨rfl, rfl, -⟩ := hf
        exact WfOp.no (by kernel_rfl) rfl
      refine wf_stepK [25, 33] [fun _ => t25 = undef, fun _ => t33 = undef] (by kernel_rfl) (by kernel_rfl) (fun wf hb hf => ?_) (fun t34 => ?_)
      · obtain ⟨rfl, rfl, -⟩ := hf
        exact WfOp.no (by kernel_rfl) rfl
      refine wf_stepK [25, 34] [fun _ => t25 = undef, fun _ => t34 = undef] (by kernel_rfl) (by kernel_rfl) (fun wf hb hf => ?_) (fun t35 => ?_)
      · obtain ⟨rfl, rfl, -⟩ := hf
        exact WfOp.no (by kernel_rfl) rfl
      refine wf_stepK [25, 30, 35] [fun _ => t25 = undef, fun _ => t30 = undef, fun _ => t35 = undef] (by kernel_rfl) (by kernel_rfl) (fun wf hb hf => ?_) (fun t36 => ?_)
      · obtain ⟨rfl, rfl, rfl, -⟩ := hf
        exact WfOp.no (by kernel_rfl) rfl
      refine wf_stepK [16, 25, 36] [fun _ => t16 = .bool true, fun _ => t25 = undef, fun _ => t36 = undef] (by kernel_rfl) (by kernel_rfl) (fun wf hb hf => ?_) (fun t37 => ?_)
      · obtain ⟨rfl, rfl, rfl, -⟩ := hf
        exact WfOp.no (by kernel_rfl) rfl
      refine wf_doneK [16, 37] [fun _ => t16 = .bool true, fun _ => t37 = undef] (by kernel_rfl) (by kernel_rfl) (fun w3 b3 hf => ?_)
      obtain ⟨rfl, rfl, -⟩ := hf
      show wpList _ _ _ [_] _ _
      refine wpList_frame (by simp [Act.put]; rfl) ?_
      have B3 := btr B2 b3
      go_wp2_with fail
      refine (Add_s _ _ (z) _ _ (y) _ ((SlOw.at_ entO hz.1).below entR (btr b2 b3)) ((SlOw.at_ entO hy.1).below entR (btr b2 b3)) nz rz ny ry).mono ?_
      rintro e w4 ⟨A4, c4, rfl, o4, b4⟩
      have B4 := btr B3 b4
      have a4 : EntsAt w4 A4 (AddF (z) (y)) := SlOw.at_ entO o4
      go_wp2_with fail
      refine (equalZ (xs := AddF (z) (y)) (ys := AddF (z) (y)) true (decide_eq_true rfl) (a2.below entR (btr b3 b4)) a4 (Nat.le_trans (AddF_len' _ _) (by decide)) (Nat.le_trans (AddF_len' _ _) (by decide)) (rows_big (AddF_row' _ _) (by decide)) (rows_big (AddF_row' _ _) (by decide))).mono ?_
      rintro e w5 ⟨rfl, b5⟩
      have B5 := btr B4 b5
      go_wp2_with fail
      go_ret
      exact ⟨rfl, B5⟩
    · have SY := smB_Sm hT
      have HS := Lib.hid hS
      have HT := Lib.hid hT
      clear hS hT
      rcases Nat.eq_zero_or_pos z.length with hz0 | hpz
      · have SX : Sm (wid y) 12 9 z := by rw [List.eq_nil_of_length_eq_zero hz0]; exact Sm.nil _ _ _
        have HGZ : Hid (¬ 0 < z.length) := by rw [Hid, hz0]; decide
        clear hz0
        go_wp2_with fail
        refine (Add_i _ _ (z) _ _ (y) _ (SlOw.at_ entO hz.1) (SlOw.at_ entO hy.1) (EntsOw.cap hz.1) (EntsOw.cap hy.1) nz rz ny ry).mono ?_
        rintro e w2 ⟨A2, c2, rfl, o2, b2⟩
        have B2 := btr B1 b2
        have a2 : EntsAt w2 A2 (AddF (z) (y)) := SlOw.at_ entO o2
        go_wp2_with fail
        refine wp_region_facts [[], [], [], [1, 2], [0, 1, 2, 3], [0, 1, 2, 3, 4], [0, 1, 2, 3, 4, 5], [0, 1, 2, 3, 4, 5, 6], [0, 1, 2, 3, 4, 5, 6, 7], [0, 1, 2, 3, 4, 5, 6, 7, 8], [0, 1, 2, 3, 4, 5, 6, 7, 8, 9], [0, 1, 2, 3, 4, 5, 6, 7, 8, 9, 10], [0, 1, 2, 3, 4, 5, 6, 7, 8, 9, 10, 11], [0, 1, 2, 3, 4, 5, 6, 7, 8, 9, 10, 11, 12], [0, 1, 2, 3, 4, 5, 6, 7, 8, 9, 10, 11, 12, 13], [0, 1, 2, 3, 4, 5, 6, 7, 8, 9, 10, 11, 12, 13, 14], [0, 1, 2, 3, 4, 5, 6, 7, 8, 9, 10, 11, 12, 13, 14, 15], [0, 1, 2, 3, 4, 5, 6, 7, 8, 9, 10, 11, 12, 13, 14, 15, 16], [0, 1, 2, 3, 4, 5, 6, 7, 8, 9, 10, 11, 12, 13, 14, 15, 16, 17], [0, 1, 2, 3, 4, 5, 6, 7, 8, 9, 10, 11, 12, 13, 14, 15, 16, 17, 18], [0, 1, 2, 3, 4, 5, 6, 7, 8, 9, 10, 11, 12, 13, 14, 15, 16, 17, 18, 19], [0, 1, 2, 3, 4, 5, 6, 7, 8, 9, 10, 11, 12, 13, 14, 15, 16, 17, 18, 19, 20], [0, 1, 2, 3, 4, 5, 6, 7, 8, 9, 10, 11, 12, 13, 14, 15, 16, 17, 18, 19, 20, 21], [0, 1, 2, 3, 4, 5, 6, 7, 8, 9, 10, 11, 12, 13, 14, 15, 16, 17, 18, 19, 20, 21, 22], [0, 1, 2, 3, 4, 5, 6, 7, 8, 9, 10, 11, 12, 13, 14, 15, 16, 17, 18, 19, 20, 21, 22, 23], [0, 1, 2, 3, 4, 5, 6, 7, 8, 9, 10, 11, 12, 13, 14, 15, 16, 17, 18, 19, 20, 21, 22, 23, 24], [0, 1, 2, 3, 4, 5, 6, 7, 8, 9, 10, 11, 12, 13, 14, 15, 16, 17, 18, 19, 20, 21, 22, 23, 24, 25], [0, 1, 2, 3, 4, 5, 6, 7, 8, 9, 10, 11, 12, 13, 14, 15, 16, 17, 18, 19, 20, 21, 22, 23, 24, 25, 26], [0, 1, 2, 3, 4, 5, 6, 7, 8, 9, 10, 11, 12, 13, 14, 15, 16, 17, 18, 19, 20, 21, 22, 23, 24, 25, 26, 27], [0, 1, 2, 3, 4, 5, 6, 7, 8, 9, 10, 11, 12, 13, 14, 15, 16, 17, 18, 19, 20, 21, 22, 23, 24, 25, 26, 27, 28], [0, 1, 2, 3, 4, 5, 6, 7, 8, 9, 10, 11, 12, 13, 14, 15, 16, 17, 18, 19, 20, 21, 22, 23, 24, 25, 26, 27, 28, 29], [0, 1, 2, 3, 4, 5, 6, 7, 8, 9, 10, 11, 12, 13, 14, 15, 16, 17, 18, 19, 20, 21, 22, 23, 24, 25], [0, 1, 2, 3, 4, 5, 6, 7, 8, 9, 10, 11, 12, 13, 14, 15, 16, 17, 18, 19, 20, 21, 22, 23, 24, 25, 31], [0, 1, 2, 3, 4, 5, 6, 7, 8, 9, 10, 11, 12, 13, 14, 15, 16, 17, 18, 19, 20, 21, 22, 23, 24, 25, 31, 32], [0, 1, 2, 3, 4, 5, 6, 7, 8, 9, 10, 11, 12, 13, 14, 15, 16, 17, 18, 19, 20, 21, 22, 23, 24, 25, 31, 32, 33], [0, 1, 2, 3, 4, 5, 6, 7, 8, 9, 10, 11, 12, 13, 14, 15, 16, 17, 18, 19, 20, 21, 22, 23, 24, 25, 31, 32, 33, 34], [0, 1, 2, 3, 4, 5, 6, 7, 8, 9, 10, 11, 12, 13, 14, 15, 16, 17, 18, 19, 20, 21, 22, 23, 24, 25, 26, 27, 28, 29, 30, 31, 32, 33, 34, 35], [0, 1, 2, 3, 4, 5, 6, 7, 8, 9, 10, 11, 12, 13, 14, 15, 16, 17, 18, 19, 20, 21, 22, 23, 24, 25, 26, 27, 28, 29, 30, 31, 32, 33, 34, 35, 36]]
          [fun v' _ => v' = .slice A2 (AddF z y).length c2, fun v' _ => v' = .slice Az z.length cz, fun v' _ => v' = .slice Ay y.length cy, ZVr (AddF (z) (y)), fun v' _ => v' = .bool true, fun v' _ => v' = .bool false, fun v' _ => v' = .bool false, fun v' _ => v' = .slice Az z.length cz, fun v' _ => v' = .bool true, fun v' _ => v' = .bool false, fun v' _ => v' = .bool false, fun v' _ => v' = .bool false, fun v' _ => v' = .slice Ay y.length cy, fun v' _ => v' = .bool true, fun v' _ => v' = .bool false, fun v' _ => v' = .bool false, fun v' _ => v' = .bool false, fun v' _ => v' = .slice Az z.length cz, fun v' _ => v' = .int .i64 ((z.length : Nat)), fun v' _ => v' = .bool false, fun v' _ => v' = .bool false, fun v' _ => v' = undef, fun v' _ => v' = undef, fun v' _ => v' = undef, fun v' _ => v' = .bool false, fun v' _ => v' = .bool false, fun v' _ => v' = undef, fun v' _ => v' = undef, fun v' _ => v' = undef, fun v' _ => v' = undef, fun v' _ => v' = undef, fun v' _ => v' = undef, fun v' _ => v' = undef, fun v' _ => v' = undef, fun v' _ => v' = undef, fun v' _ => v' = undef, fun v' _ => v' = undef, fun v' _ => v' = .bool false]
          (by kernel_rfl) (by kernel_rfl) rfl ⟨stable_pure _, stable_pure _, stable_pure _, stable_zVr _, stable_pure _, stable_pure _, stable_pure _, stable_pure _, stable_pure _, stable_pure _, stable_pure _, stable_pure _, stable_pure _, stable_pure _, stable_pure _, stable_pure _, stable_pure _, stable_pure _, stable_pure _, stable_pure _, stable_pure _, stable_pure _, stable_pure _, stable_pure _, stable_pure _, stable_pure _, stable_pure _, stable_pure _, stable_pure _, stable_pure _, stable_pure _, stable_pure _, stable_pure _, stable_pure _, stable_pure _, stable_pure _, stable_pure _, stable_pure _, trivial⟩ ?_
        refine wf_stepK [] [] (by kernel_rfl) (by kernel_rfl) (fun wf hb hf => ?_) (fun t0 => ?_)
        · refine ⟨?_⟩
          go_wp2
          exact ⟨rfl, .slice A2 (AddF z y).length c2, by kernel_rfl, Below.refl _ _, rfl⟩
        refine wf_stepK [] [] (by kernel_rfl) (by kernel_rfl) (fun wf hb hf => ?_) (fun t1 => ?_)
        · refine ⟨?_⟩
          go_wp2
          exact ⟨rfl, .slice Az z.length cz, by kernel_rfl, Below.refl _ _, rfl⟩
        refine wf_stepK [] [] (by kernel_rfl) (by kernel_rfl) (fun wf hb hf => ?_) (fun t2 => ?_)
        · refine ⟨?_⟩
          go_wp2
          exact ⟨rfl, .slice Ay y.length cy, by kernel_rfl, Below.refl _ _, rfl⟩
        refine wf_stepK [1, 2] [fun _ => t1 = .slice Az z.length cz, fun _ => t2 = .slice Ay y.length cy] (by kernel_rfl) (by kernel_rfl) (fun wf hb hf => ?_) (fun t3 => ?_)
        · obtain ⟨rfl, rfl, -⟩ := hf
          refine ⟨?_⟩
          go_wp2_with (go_at_call 28; refine (Add_s _ _ (z) _ _ (y) _ (((SlOw.at_ entO hz.1).below entR b2).below entR hb) (((SlOw.at_ entO hy.1).below entR b2).below entR hb) nz rz ny ry).mono ?_; rintro e w2 ⟨AN, cN, rfl, oN, hb2⟩)
          exact ⟨rfl, .slice AN (AddF (z) (y)).length cN, by kernel_rfl, hb2, AN, cN, rfl, SlOw.at_ entO oN, EntsOw.cap oN⟩
        refine wf_stepK [0, 3] [fun _ => t0 = .slice A2 (AddF z y).length c2, ZVr (AddF (z) (y)) t3] (by kernel_rfl) (by kernel_rfl) (fun wf hb hf => ?_) (fun t4 => ?_)
        · obtain ⟨rfl, ⟨XS1, xs1, rfl, hS1⟩, -⟩ := hf
          refine ⟨?_⟩
          go_wp2_with (go_at_call 15; refine (equalZ (xs := AddF (z) (y)) (ys := AddF (z) (y)) true (decide_eq_true rfl) (a2.below entR hb) hS1.1 (Nat.le_trans (AddF_len' _ _) (by decide)) (Nat.le_trans (AddF_len' _ _) (by decide)) (rows_big (AddF_row' _ _) (by decide)) (rows_big (AddF_row' _ _) (by decide))).mono ?_; rintro e w2 ⟨rfl, hb2⟩)
          exact ⟨rfl, .bool true, by kernel_rfl, hb2, rfl⟩
        refine wf_stepK [4] [fun _ => t4 = .bool true] (by kernel_rfl) (by kernel_rfl) (fun wf hb hf => ?_) (fun t5 => ?_)
        · obtain ⟨rfl, -⟩ := hf
          refine ⟨?_⟩
          go_wp2
          exact ⟨rfl, .bool false, by kernel_rfl, Below.refl _ _, rfl⟩
        refine wf_stepK [5] [fun _ => t5 = .bool false] (by kernel_rfl) (by kernel_rfl) (fun wf hb hf => ?_) (fun t6 => ?_)
        · obtain ⟨rfl, -⟩ := hf
          refine ⟨?_⟩
          go_wp2
          exact ⟨rfl, .bool false, by kernel_rfl, Below.refl _ _, rfl⟩
        refine wf_stepK [6] [fun _ => t6 = .bool false] (by kernel_rfl) (by kernel_rfl) (fun wf hb hf => ?_) (fun t7 => ?_)
        · obtain ⟨rfl, -⟩ := hf
          refine WfOp.yes (by kernel_rfl) ?_
          dsimp only
          go_wp2
          exact ⟨rfl, .slice Az z.length cz, by kernel_rfl, Below.refl _ _, rfl⟩
        refine wf_stepK [6, 7] [fun _ => t6 = .bool false, fun _ => t7 = .slice Az z.length cz] (by kernel_rfl) (by kernel_rfl) (fun wf hb hf => ?_) (fun t8 => ?_)
        · obtain ⟨rfl, rfl, -⟩ := hf
          refine WfOp.yes (by kernel_rfl) ?_
          dsimp only
          go_wp2_with (go_at_call 21; refine (smallZ true HS.out (((SlOw.at_ entO hz.1).below entR b2).below entR hb) nz rz).mono ?_; rintro e w2 ⟨rfl, hb2⟩)
          exact ⟨rfl, .bool true, by kernel_rfl, hb2, rfl⟩
        refine wf_stepK [6, 8] [fun _ => t6 = .bool false, fun _ => t8 = .bool true] (by kernel_rfl) (by kernel_rfl) (fun wf hb hf => ?_) (fun t9 => ?_)
        · obtain ⟨rfl, rfl, -⟩ := hf
          refine WfOp.yes (by kernel_rfl) ?_
          dsimp only
          go_wp2
          exact ⟨rfl, .bool false, by kernel_rfl, Below.refl _ _, rfl⟩
        refine wf_stepK [6, 9] [fun _ => t6 = .bool false, fun _ => t9 = .bool false] (by kernel_rfl) (by kernel_rfl) (fun wf hb hf => ?_) (fun t10 => ?_)
        · obtain ⟨rfl, rfl, -⟩ := hf
          refine ⟨?_⟩
          go_wp2
          exact ⟨rfl, .bool false, by kernel_rfl, Below.refl _ _, rfl⟩
        refine wf_stepK [10] [fun _ => t10 = .bool false] (by kernel_rfl) (by kernel_rfl) (fun wf hb hf => ?_) (fun t11 => ?_)
        · obtain ⟨rfl, -⟩ := hf
          refine ⟨?_⟩
          go_wp2
          exact ⟨rfl, .bool false, by kernel_rfl, Below.refl _ _, rfl⟩
        refine wf_stepK [11] [fun _ => t11 = .bool false] (by kernel_rfl) (by kernel_rfl) (fun wf hb hf => ?_) (fun t12 => ?_)
        · obtain ⟨rfl, -⟩ := hf
          refine WfOp.yes (by kernel_rfl) ?_
          dsimp only
          go_wp2
          exact ⟨rfl, .slice Ay y.length cy, by kernel_rfl, Below.refl _ _, rfl⟩
        refine wf_stepK [11, 12] [fun _ => t11 = .bool false, fun _ => t12 = .slice Ay y.length cy] (by kernel_rfl) (by kernel_rfl) (fun wf hb hf => ?_) (fun t13 => ?_)
        · obtain ⟨rfl, rfl, -⟩ := hf
          refine WfOp.yes (by kernel_rfl) ?_
          dsimp only
          go_wp2_with (go_at_call 21; refine (smallZ true HT.out (((SlOw.at_ entO hy.1).below entR b2).below entR hb) ny ry).mono ?_; rintro e w2 ⟨rfl, hb2⟩)
          exact ⟨rfl, .bool true, by kernel_rfl, hb2, rfl⟩
        refine wf_stepK [11, 13] [fun _ => t11 = .bool false, fun _ => t13 = .bool true] (by kernel_rfl) (by kernel_rfl) (fun wf hb hf => ?_) (fun t14 => ?_)
        · obtain ⟨rfl, rfl, -⟩ := hf
          refine WfOp.yes (by kernel_rfl) ?_
          dsimp only
          go_wp2
          exact ⟨rfl, .bool false, by kernel_rfl, Below.refl _ _, rfl⟩
        refine wf_stepK [11, 14] [fun _ => t11 = .bool false, fun _ => t14 = .bool false] (by kernel_rfl) (by kernel_rfl) (fun wf hb hf => ?_) (fun t15 => ?_)
        · obtain ⟨rfl, rfl, -⟩ := hf
          refine ⟨?_⟩
          go_wp2
          exact ⟨rfl, .bool false, by kernel_rfl, Below.refl _ _, rfl⟩
        refine wf_stepK [15] [fun _ => t15 = .bool false] (by kernel_rfl) (by kernel_rfl) (fun wf hb hf => ?_) (fun t16 => ?_)
        · obtain ⟨rfl, -⟩ := hf
          refine ⟨?_⟩
          go_wp2
          exact ⟨rfl, .bool false, by kernel_rfl, Below.refl _ _, rfl⟩
        refine wf_stepK [16] [fun _ => t16 = .bool false] (by kernel_rfl) (by kernel_rfl) (fun wf hb hf => ?_) (fun t17 => ?_)
        · obtain ⟨rfl, -⟩ := hf
          refine WfOp.yes (by kernel_rfl) ?_
          dsimp only
          go_wp2
          exact ⟨rfl, .slice Az z.length cz, by kernel_rfl, Below.refl _ _, rfl⟩
        refine wf_stepK [16, 17] [fun _ => t16 = .bool false, fun _ => t17 = .slice Az z.length cz] (by kernel_rfl) (by kernel_rfl) (fun wf hb hf => ?_) (fun t18 => ?_)
        · obtain ⟨rfl, rfl, -⟩ := hf
          refine WfOp.yes (by kernel_rfl) ?_
          dsimp only
          go_wp2
          exact ⟨rfl, .int .i64 ((z.length : Nat)), by kernel_rfl, Below.refl _ _, rfl⟩
        refine wf_stepK [16, 18] [fun _ => t16 = .bool false, fun _ => t18 = .int .i64 ((z.length : Nat))] (by kernel_rfl) (by kernel_rfl) (fun wf hb hf => ?_) (fun t19 => ?_)
        · obtain ⟨rfl, rfl, -⟩ := hf
          refine WfOp.yes (by kernel_rfl) ?_
          dsimp only
          go_wp2
          exact ⟨rfl, .bool (decide (0 < z.length)), by kernel_rfl, Below.refl _ _, congrArg Value.bool (decide_eq_false HGZ.out)⟩
        refine wf_stepK [16, 19] [fun _ => t16 = .bool false, fun _ => t19 = .bool false] (by kernel_rfl) (by kernel_rfl) (fun wf hb hf => ?_) (fun t20 => ?_)
        · obtain ⟨rfl, rfl, -⟩ := hf
          refine WfOp.yes (by kernel_rfl) ?_
          dsimp only
          go_wp2
          exact ⟨rfl, .bool false, by kernel_rfl, Below.refl _ _, rfl⟩
        refine wf_stepK [20] [fun _ => t20 = .bool false] (by kernel_rfl) (by kernel_rfl) (fun wf hb hf => ?_) (fun t21 => ?_)
        · obtain ⟨rfl, -⟩ := hf
          exact WfOp.no (by kernel_rfl) rfl
        refine wf_stepK [20, 21] [fun _ => t20 = .bool false, fun _ => t21 = undef] (by kernel_rfl) (by kernel_rfl) (fun wf hb hf => ?_) (fun t22 => ?_)
        · obtain ⟨rfl, rfl, -⟩ := hf
          exact WfOp.no (by kernel_rfl) rfl
        refine wf_stepK [20, 22] [fun _ => t20 = .bool false, fun _ => t22 = undef] (by kernel_rfl) (by kernel_rfl) (fun wf hb hf => ?_) (fun t23 => ?_)
        · obtain ⟨rfl, rfl, -⟩ := hf
          exact WfOp.no (by kernel_rfl) rfl
        refine wf_stepK [16, 20, 23] [fun _ => t16 = .bool false, fun _ => t20 = .bool false, fun _ => t23 = undef] (by kernel_rfl) (by kernel_rfl) (fun wf hb hf => ?_) (fun t24 => ?_)
        · obtain ⟨rfl, rfl, rfl, -⟩ := hf
          refine WfOp.yes (by kernel_rfl) ?_
          dsimp only
          go_wp2
          exact ⟨rfl, .bool false, by kernel_rfl, Below.refl _ _, rfl⟩
        refine wf_stepK [16, 24] [fun _ => t16 = .bool false, fun _ => t24 = .bool false] (by kernel_rfl) (by kernel_rfl) (fun wf hb hf => ?_) (fun t25 => ?_)
        · obtain ⟨rfl, rfl, -⟩ := hf
          refine WfOp.yes (by kernel_rfl) ?_
          dsimp only
          go_wp2
          exact ⟨rfl, .bool false, by kernel_rfl, Below.refl _ _, rfl⟩
        refine wf_stepK [25] [fun _ => t25 = .bool false] (by kernel_rfl) (by kernel_rfl) (fun wf hb hf => ?_) (fun t26 => ?_)
        · obtain ⟨rfl, -⟩ := hf
          exact WfOp.no (by kernel_rfl) rfl
        refine wf_stepK [25, 26] [fun _ => t25 = .bool false, fun _ => t26 = undef] (by kernel_rfl) (by kernel_rfl) (fun wf hb hf => ?_) (fun t27 => ?_)
        · obtain ⟨rfl, rfl, -⟩ := hf
          exact WfOp.no (by kernel_rfl) rfl
        refine wf_stepK [25, 27] [fun _ => t25 = .bool false, fun _ => t27 = undef] (by kernel_rfl) (by kernel_rfl) (fun wf hb hf => ?_) (fun t28 => ?_)
        · obtain ⟨rfl, rfl, -⟩ := hf
          exact WfOp.no (by kernel_rfl) rfl
        refine wf_stepK [25, 28] [fun _ => t25 = .bool false, fun _ => t28 = undef] (by kernel_rfl) (by kernel_rfl) (fun wf hb hf => ?_) (fun t29 => ?_)
        · obtain ⟨rfl, rfl, -⟩ := hf
          exact WfOp.no (by kernel_rfl) rfl
        refine wf_stepK [25, 29] [fun _ => t25 = .bool false, fun _ => t29 = undef] (by kernel_rfl) (by kernel_rfl) (fun wf hb hf => ?_) (fun t30 => ?_)
        · obtain ⟨rfl, rfl, -⟩ := hf
          exact WfOp.no (by kernel_rfl) rfl
        refine wf_stepK [25] [fun _ => t25 = .bool false] (by kernel_rfl) (by kernel_rfl) (fun wf hb hf => ?_) (fun t31 => ?_)
        · obtain ⟨rfl, -⟩ := hf
          exact WfOp.no (by kernel_rfl) rfl
        refine wf_stepK [25, 31] [fun _ => t25 = .bool false, fun _ => t31 = undef] (by kernel_rfl) (by kernel_rfl) (fun wf hb hf => ?_) (fun t32 => ?_)
        · obtain ⟨rfl, rfl, -⟩ := hf
          exact WfOp.no (by kernel_rfl) rfl
        refine wf_stepK [25, 32] [fun _ => t25 = .bool false, fun _ => t32 = undef] (by kernel_rfl) (by kernel_rfl) (fun wf hb hf => ?_) (fun t33 => ?_)
        · obtain ⟨rfl, rfl, -⟩ := hf
          exact WfOp.no (by kernel_rfl) rfl
        refine wf_stepK [25, 33] [fun _ => t25 = .bool false, fun _ => t33 = undef] (by kernel_rfl) (by kernel_rfl) (fun wf hb hf => ?_) (fun t34 => ?_)
        · obtain ⟨rfl, rfl, -⟩ := hf
          exact WfOp.no (by kernel_rfl) rfl
        refine wf_stepK [25, 34] [fun _ => t25 = .bool false, fun _ => t34 = undef] (by kernel_rfl) (by kernel_rfl) (fun wf hb hf => ?_) (fun t35 => ?_)
        · obtain ⟨rfl, rfl, -⟩ := hf
          exact WfOp.no (by kernel_rfl) rfl
        refine wf_stepK [25, 30, 35] [fun _ => t25 = .bool false, fun _ => t30 = undef, fun _ => t35 = undef] (by kernel_rfl) (by kernel_rfl) (fun wf hb hf => ?_) (fun t36 => ?_)
        · obtain ⟨rfl, rfl, rfl, -⟩ := hf
          exact WfOp.no (by kernel_rfl) rfl
        refine wf_stepK [16, 25, 36] [fun _ => t16 = .bool false, fun _ => t25 = .bool false, fun _ => t36 = undef] (by kernel_rfl) (by kernel_rfl) (fun wf hb hf => ?_) (fun t37 => ?_)
        · obtain ⟨rfl, rfl, rfl, -⟩ := hf
          refine WfOp.yes (by kernel_rfl) ?_
          dsimp only
          go_wp2
          exact ⟨rfl, .bool false, by kernel_rfl, Below.refl _ _, rfl⟩
        refine wf_doneK [16, 37] [fun _ => t16 = .bool false, fun _ => t37 = .bool false] (by kernel_rfl) (by kernel_rfl) (fun w3 b3 hf => ?_)
        obtain ⟨rfl, rfl, -⟩ := hf
        show wpList _ _ _ [_] _ _
        refine wpList_frame (by simp [Act.put]; rfl) ?_
        have B3 := btr B2 b3
        have hatz : EntsAt w3 Az z := ((SlOw.at_ entO hz.1).below entR (btr b2 b3))
        have haty : EntsAt w3 Ay y := ((SlOw.at_ entO hy.1).below entR (btr b2 b3))
        have hatn : EntsAt w3 A2 (AddF z y) := (a2.below entR b3)
        have HWA := Lib.hid (W_add SX SY)
        have HWN : Hid (∀ k (h : k < (AddF z y).length), WeightF (AddF z y) (AddF z y)[k].1 = (AddF z y)[k].2) := fun k h => W_at (SX.add SY (by omega) (by omega) (by omega) (by omega)).zs h
        have hnl := AddF_len' z y
        have HNR := Lib.hid (AddF_row' z y)
        clear SX SY
        generalize AddF z y = N at *
        go_wp2
        go_loopw [6, 7] (fun i row wr => ∃ k : Nat, k ≤ z.length + y.length ∧ i = .int .i64 k ∧ Below w3.heap.size w3 wr) (fun i _ _ => z.length + y.length - (intOf i).toNat)
        case atStart => exact ⟨0, by omega, rfl, Below.refl _ _⟩
        case round =>
          obtain ⟨k, hk, rfl, bm⟩ := hrel
          by_cases hlt : k < z.length + y.length
          · have hlt1 : (k : Int) < (z.length : Int) + y.length := by omega
            have hba : Below wr.heap.size wr (wr.alloc (.cells #[] 3)) := bal (Below.refl _ _) _
            by_cases hkz : k < z.length
            · have hkz1 : (k : Int) < z.length := by omega
              obtain ⟨b, off, RA, rc, hAe, hbl, hc0, -, -, hrow⟩ := hatz.get k hkz
              have q0 := (hba.cell (p := ⟨b, off + k * 2, none⟩) (Nat.lt_of_lt_of_le hbl bm.size)).trans ((bm.cell (p := ⟨b, off + k * 2, none⟩) hbl).trans hc0)
              have hrl := rz.get hkz
              first | subst hAe | (injection hAe with hAe; injection hAe with hA1 hA2; subst hA1; subst hA2)
              have hw := HWA.out z[k].1
              obtain ⟨x, hx⟩ : ∃ x, WeightF z z[k].1 = x := ⟨_, rfl⟩
              obtain ⟨v, hv⟩ : ∃ v, WeightF y z[k].1 = v := ⟨_, rfl⟩
              rw [hx, hv] at hw
              have HW1 := Lib.hid hw.1
              have HX := Lib.hid hx
              have HV := Lib.hid hv
              have hxb := hw.2.1
              have hvb := hw.2.2
              have hne : ((x + v) != (x + v)) = false := by simp
              have bma := btr bm hba
              clear hw hx hv hc0
              go_wp2_with fail
              refine (weightZ (x + v) HW1.out (hatn.below entR bma) (hrow.below bma) (Nat.le_trans hnl (by decide)) (rows_big HNR.out (by decide)) hrl).mono ?_
              rintro e wa ⟨rfl, ba⟩
              go_wp2_with fail
              refine (weightZ x HX.out (hatz.below entR (btr bma ba)) (hrow.below (btr bma ba)) nz rz hrl).mono ?_
              rintro e wb ⟨rfl, bb⟩
              go_wp2_with fail
              refine (weightZ v HV.out (haty.below entR (btr (btr bma ba) bb)) (hrow.below (btr (btr bma ba) bb)) ny ry hrl).mono ?_
              rintro e wc ⟨rfl, bc⟩
              have hbc := btr (btr (btr bma ba) bb) bc
              clear q0 ba bb bc
              go_wp2
              go_roundw
              case rel => exact ⟨k + 1, by omega, by go_num, hbc⟩
              case measure => simp [intOf]; omega
            · have hkz1 : ¬ k < z.length := hkz
              obtain ⟨m, rfl⟩ : ∃ m, k = z.length + m := ⟨k - z.length, by omega⟩
              have hm : m < y.length := by omega
              have hm1 : ((z.length + m : Nat) : Int) - (z.length : Int) = m := by omega
              have hm2 : (z.length : Int) + (m : Int) - z.length = m := by omega
              obtain ⟨b, off, RA, rc, hAe, hbl, hc0, -, -, hrow⟩ := haty.get m hm
              have q0 := (hba.cell (p := ⟨b, off + m * 2, none⟩) (Nat.lt_of_lt_of_le hbl bm.size)).trans ((bm.cell (p := ⟨b, off + m * 2, none⟩) hbl).trans hc0)
              have hrl := ry.get hm
              first | subst hAe | (injection hAe with hAe; injection hAe with hA1 hA2; subst hA1; subst hA2)
              have hw := HWA.out y[m].1
              obtain ⟨x, hx⟩ : ∃ x, WeightF z y[m].1 = x := ⟨_, rfl⟩
              obtain ⟨v, hv⟩ : ∃ v, WeightF y y[m].1 = v := ⟨_, rfl⟩
              rw [hx, hv] at hw
              have HW1 := Lib.hid hw.1
              have HX := Lib.hid hx
              have HV := Lib.hid hv
              have hxb := hw.2.1
              have hvb := hw.2.2
              have hne : ((x + v) != (x + v)) = false := by simp
              have bma := btr bm hba
              clear hw hx hv hc0
              go_wp2_with fail
              refine (weightZ (x + v) HW1.out (hatn.below entR bma) (hrow.below bma) (Nat.le_trans hnl (by decide)) (rows_big HNR.out (by decide)) hrl).mono ?_
              rintro e wa ⟨rfl, ba⟩
              go_wp2_with fail
              refine (weightZ x HX.out (hatz.below entR (btr bma ba)) (hrow.below (btr bma ba)) nz rz hrl).mono ?_
              rintro e wb ⟨rfl, bb⟩
              go_wp2_with fail
              refine (weightZ v HV.out (haty.below entR (btr (btr bma ba) bb)) (hrow.below (btr (btr bma ba) bb)) ny ry hrl).mono ?_
              rintro e wc ⟨rfl, bc⟩
              have hbc := btr (btr (btr bma ba) bb) bc
              clear q0 ba bb bc
              go_wp2
              go_roundw
              case rel => exact ⟨z.length + m + 1, by omega, by go_num, hbc⟩
              case measure => simp [intOf]; omega
          · obtain rfl : k = z.length + y.length := by omega
            have hlt1 : ¬ ((z.length : Int) + y.length < (z.length : Int) + y.length) := by omega
            obtain ⟨V, rfl⟩ : ∃ V : World, V = wr := ⟨wr, rfl⟩
            have BV := btr B3 bm
            have hatv := hatn.below entR bm
            go_wp2
            go_loopw [8] (fun i wr => ∃ k : Nat, k ≤ N.length ∧ i = .int .i64 k ∧ Below V.heap.size V wr) (fun i _ => N.length - (intOf i).toNat)
            case atStart => exact ⟨0, by omega, rfl, Below.refl _ _⟩
            case round =>
              obtain ⟨i, hi, rfl, bi⟩ := hrel
              by_cases hit : i < N.length
              · obtain ⟨b, off, RA, rc, hAe, hbl, hc0, hc1, -, hrow⟩ := EntsAt.get (hatv.below entR bi) i hit
                first | subst hAe | (injection hAe with hAe; injection hAe with hA1 hA2; subst hA1; subst hA2)
                have q0 := cgrowZ hc0
                have q1 := cgrowZ hc1
                have hrl := (rows_big HNR.out (show 6 ≤ 4194304 by decide)).get hit
                have hit' : (i : Int) < N.length := by omega
                have hne : (N[i].2 != N[i].2) = false := by simp
                have hcon := fun W (hW : Below wr.heap.size wr W) => weightZ (c := c2) (d := rc) N[i].2 (HWN.out i hit) ((hatv.below entR bi).below entR hW) (hrow.below hW) (Nat.le_trans hnl (by decide)) (rows_big HNR.out (by decide)) hrl
                clear hc0 hc1
                go_wp2_with fail
                refine wp_region_quiet_below (by kernel_rfl) (by kernel_rfl) ?_
                repeat (go_big_quiet_step (exact Calls.regrown_of (hcon _ (below_regrown _ _ _))))
                refine wpQuiet_nil ?_
                intro wq hwq
                obtain ⟨⟨dq, osq⟩, rfl⟩ := hwq
                have hbq := below_regrown wr dq osq
                generalize grow (redrawn wr dq) osq = wx at hbq
                have hbx := btr bi hbq
                clear q0 q1 hbq hcon
                go_wp2
                go_roundw
                case rel => exact ⟨i + 1, by omega, by go_num, hbx⟩
                case measure => simp [intOf]; omega
              · obtain rfl : i = N.length := by omega
                go_wp2
                go_ret
                exact ⟨rfl, btr BV bi⟩
      · have hgz : (0 : Int) < z.length := by omega
        rcases Nat.eq_zero_or_pos y.length with hy0 | hpy
        · have SY : Sm (wid z) 12 9 y := by rw [List.eq_nil_of_length_eq_zero hy0]; exact Sm.nil _ _ _
          have HGY : Hid (¬ 0 < y.length) := by rw [Hid, hy0]; decide
          clear hy0
          go_wp2_with fail
          refine (Add_i _ _ (z) _ _ (y) _ (SlOw.at_ entO hz.1) (SlOw.at_ entO hy.1) (EntsOw.cap hz.1) (EntsOw.cap hy.1) nz rz ny ry).mono ?_
          rintro e w2 ⟨A2, c2, rfl, o2, b2⟩
          have B2 := btr B1 b2
          have a2 : EntsAt w2 A2 (AddF (z) (y)) := SlOw.at_ entO o2
          go_wp2_with fail
          refine wp_region_facts [[], [], [], [1, 2], [0, 1, 2, 3], [0, 1, 2, 3, 4], [0, 1, 2, 3, 4, 5], [0, 1, 2, 3, 4, 5, 6], [0, 1, 2, 3, 4, 5, 6, 7], [0, 1, 2, 3, 4, 5, 6, 7, 8], [0, 1, 2, 3, 4, 5, 6, 7, 8, 9], [0, 1, 2, 3, 4, 5, 6, 7, 8, 9, 10], [0, 1, 2, 3, 4, 5, 6, 7, 8, 9, 10, 11], [0, 1, 2, 3, 4, 5, 6, 7, 8, 9, 10, 11, 12], [0, 1, 2, 3, 4, 5, 6, 7, 8, 9, 10, 11, 12, 13], [0, 1, 2, 3, 4, 5, 6, 7, 8, 9, 10, 11, 12, 13, 14], [0, 1, 2, 3, 4, 5, 6, 7, 8, 9, 10, 11, 12, 13, 14, 15], [0, 1, 2, 3, 4, 5, 6, 7, 8, 9, 10, 11, 12, 13, 14, 15, 16], [0, 1, 2, 3, 4, 5, 6, 7, 8, 9, 10, 11, 12, 13, 14, 15, 16, 17], [0, 1, 2, 3, 4, 5, 6, 7, 8, 9, 10, 11, 12, 13, 14, 15, 16, 17, 18], [0, 1, 2, 3, 4, 5, 6, 7, 8, 9, 10, 11, 12, 13, 14, 15, 16, 17, 18, 19], [0, 1, 2, 3, 4, 5, 6, 7, 8, 9, 10, 11, 12, 13, 14, 15, 16, 17, 18, 19, 20], [0, 1, 2, 3, 4, 5, 6, 7, 8, 9, 10, 11, 12, 13, 14, 15, 16, 17, 18, 19, 20, 21], [0, 1, 2, 3, 4, 5, 6, 7, 8, 9, 10, 11, 12, 13, 14, 15, 16, 17, 18, 19, 20, 21, 22], [0, 1, 2, 3, 4, 5, 6, 7, 8, 9, 10, 11, 12, 13, 14, 15, 16, 17, 18, 19, 20, 21, 22, 23], [0, 1, 2, 3, 4, 5, 6, 7, 8, 9, 10, 11, 12, 13, 14, 15, 16, 17, 18, 19, 20, 21, 22, 23, 24], [0, 1, 2, 3, 4, 5, 6, 7, 8, 9, 10, 11, 12, 13, 14, 15, 16, 17, 18, 19, 20, 21, 22, 23, 24, 25], [0, 1, 2, 3, 4, 5, 6, 7, 8, 9, 10, 11, 12, 13, 14, 15, 16, 17, 18, 19, 20, 21, 22, 23, 24, 25, 26], [0, 1, 2, 3, 4, 5, 6, 7, 8, 9, 10, 11, 12, 13, 14, 15, 16, 17, 18, 19, 20, 21, 22, 23, 24, 25, 26, 27], [0, 1, 2, 3, 4, 5, 6, 7, 8, 9, 10, 11, 12, 13, 14, 15, 16, 17, 18, 19, 20, 21, 22, 23, 24, 25, 26, 27, 28], [0, 1, 2, 3, 4, 5, 6, 7, 8, 9, 10, 11, 12, 13, 14, 15, 16, 17, 18, 19, 20, 21, 22, 23, 24, 25, 26, 27, 28, 29], [0, 1, 2, 3, 4, 5, 6, 7, 8, 9, 10, 11, 12, 13, 14, 15, 16, 17, 18, 19, 20, 21, 22, 23, 24, 25], [0, 1, 2, 3, 4, 5, 6, 7, 8, 9, 10, 11, 12, 13, 14, 15, 16, 17, 18, 19, 20, 21, 22, 23, 24, 25, 31], [0, 1, 2, 3, 4, 5, 6, 7, 8, 9, 10, 11, 12, 13, 14, 15, 16, 17, 18, 19, 20, 21, 22, 23, 24, 25, 31, 32], [0, 1, 2, 3, 4, 5, 6, 7, 8, 9, 10, 11, 12, 13, 14, 15, 16, 17, 18, 19, 20, 21, 22, 23, 24, 25, 31, 32, 33], [0, 1, 2, 3, 4, 5, 6, 7, 8, 9, 10, 11, 12, 13, 14, 15, 16, 17, 18, 19, 20, 21, 22, 23, 24, 25, 31, 32, 33, 34], [0, 1, 2, 3, 4, 5, 6, 7, 8, 9, 10, 11, 12, 13, 14, 15, 16, 17, 18, 19, 20, 21, 22, 23, 24, 25, 26, 27, 28, 29, 30, 31, 32, 33, 34, 35], [0, 1, 2, 3, 4, 5, 6, 7, 8, 9, 10, 11, 12, 13, 14, 15, 16, 17, 18, 19, 20, 21, 22, 23, 24, 25, 26, 27, 28, 29, 30, 31, 32, 33, 34, 35, 36]]
            [fun v' _ => v' = .slice A2 (AddF z y).length c2, fun v' _ => v' = .slice Az z.length cz, fun v' _ => v' = .slice Ay y.length cy, ZVr (AddF (z) (y)), fun v' _ => v' = .bool true, fun v' _ => v' = .bool false, fun v' _ => v' = .bool false, fun v' _ => v' = .slice Az z.length cz, fun v' _ => v' = .bool true, fun v' _ => v' = .bool false, fun v' _ => v' = .bool false, fun v' _ => v' = .bool false, fun v' _ => v' = .slice Ay y.length cy, fun v' _ => v' = .bool true, fun v' _ => v' = .bool false, fun v' _ => v' = .bool false, fun v' _ => v' = .bool false, fun v' _ => v' = .slice Az z.length cz, fun v' _ => v' = .int .i64 ((z.length : Nat)), fun v' _ => v' = .bool true, fun v' _ => v' = .bool true, fun v' _ => v' = .slice Ay y.length cy, fun v' _ => v' = .int .i64 ((y.length : Nat)), fun v' _ => v' = .bool false, fun v' _ => v' = .bool false, fun v' _ => v' = .bool false, fun v' _ => v' = undef, fun v' _ => v' = undef, fun v' _ => v' = undef, fun v' _ => v' = undef, fun v' _ => v' = undef, fun v' _ => v' = undef, fun v' _ => v' = undef, fun v' _ => v' = undef, fun v' _ => v' = undef, fun v' _ => v' = undef, fun v' _ => v' = undef, fun v' _ => v' = .bool false]
            (by kernel_rfl) (by kernel_rfl) rfl ⟨stable_pure _, stable_pure _, stable_pure _, stable_zVr _, stable_pure _, stable_pure _, stable_pure _, stable_pure _, stable_pure _, stable_pure _, stable_pure _, stable_pure _, stable_pure _, stable_pure _, stable_pure _, stable_pure _, stable_pure _, stable_pure _, stable_pure _, stable_pure _, stable_pure _, stable_pure _, stable_pure _, stable_pure _, stable_pure _, stable_pure _, stable_pure _, stable_pure _, stable_pure _, stable_pure _, stable_pure _, stable_pure _, stable_pure _, stable_pure _, stable_pure _, stable_pure _, stable_pure _, stable_pure _, trivial⟩ ?_
          refine wf_stepK [] [] (by kernel_rfl) (by kernel_rfl) (fun wf hb hf => ?_) (fun t0 => ?_)
          · refine ⟨?_⟩
            go_wp2
            exact ⟨rfl, .slice A2 (AddF z y).length c2, by kernel_rfl, Below.refl _ _, rfl⟩
          refine wf_stepK [] [] (by kernel_rfl) (by kernel_rfl) (fun wf hb hf => ?_) (fun t1 => ?_)
          · refine ⟨?_⟩
            go_wp2
            exact ⟨rfl, .slice Az z.length cz, by kernel_rfl, Below.refl _ _, rfl⟩
          refine wf_stepK [] [] (by kernel_rfl) (by kernel_rfl) (fun wf hb hf => ?_) (fun t2 => ?_)
          · refine ⟨?_⟩
            go_wp2
            exact ⟨rfl, .slice Ay y.length cy, by kernel_rfl, Below.refl _ _, rfl⟩
          refine wf_stepK [1, 2] [fun _ => t1 = .slice Az z.length cz, fun _ => t2 = .slice Ay y.length cy] (by kernel_rfl) (by kernel_rfl) (fun wf hb hf => ?_) (fun t3 => ?_)
          · obtain ⟨rfl, rfl, -⟩ := hf
            refine ⟨?_⟩
            go_wp2_with (go_at_call 28; refine (Add_s _ _ (z) _ _ (y) _ (((SlOw.at_ entO hz.1).below entR b2).below entR hb) (((SlOw.at_ entO hy.1).below entR b2).below entR hb) nz rz ny ry).mono ?_; rintro e w2 ⟨AN, cN, rfl, oN, hb2⟩)
            exact ⟨rfl, .slice AN (AddF (z) (y)).length cN, by kernel_rfl, hb2, AN, cN, rfl, SlOw.at_ entO oN, EntsOw.cap oN⟩
          refine wf_stepK [0, 3] [fun _ => t0 = .slice A2 (AddF z y).length c2, ZVr (AddF (z) (y)) t3] (by kernel_rfl) (by kernel_rfl) (fun wf hb hf => ?_) (fun t4 => ?_)
          · obtain ⟨rfl, ⟨XS1, xs1, rfl, hS1⟩, -⟩ := hf
            refine ⟨?_⟩
            go_wp2_with (go_at_call 15; refine (equalZ (xs := AddF (z) (y)) (ys := AddF (z) (y)) true (decide_eq_true rfl) (a2.below entR hb) hS1.1 (Nat.le_trans (AddF_len' _ _) (by decide)) (Nat.le_trans (AddF_len' _ _) (by decide)) (rows_big (AddF_row' _ _) (by decide)) (rows_big (AddF_row' _ _) (by decide))).mono ?_; rintro e w2 ⟨rfl, hb2⟩)
            exact ⟨rfl, .bool true, by kernel_rfl, hb2, rfl⟩
          refine wf_stepK [4] [fun _ => t4 = .bool true] (by kernel_rfl) (by kernel_rfl) (fun wf hb hf => ?_) (fun t5 => ?_)
          · obtain ⟨rfl, -⟩ := hf
            refine ⟨?_⟩
            go_wp2
            exact ⟨rfl, .bool false, by kernel_rfl, Below.refl _ _, rfl⟩
          refine wf_stepK [5] [fun _ => t5 = .bool false] (by kernel_rfl) (by kernel_rfl) (fun wf hb hf => ?_) (fun t6 => ?_)
          · obtain ⟨rfl, -⟩ := hf
            refine ⟨?_⟩
            go_wp2
            exact ⟨rfl, .bool false, by kernel_rfl, Below.refl _ _, rfl⟩
          refine wf_stepK [6] [fun _ => t6 = .bool false] (by kernel_rfl) (by kernel_rfl) (fun wf hb hf => ?_) (fun t7 => ?_)
          · obtain ⟨rfl, -⟩ := hf
            refine WfOp.yes (by kernel_rfl) ?_
            dsimp only
            go_wp2
            exact ⟨rfl, .slice Az z.length cz, by kernel_rfl, Below.refl _ _, rfl⟩
          refine wf_stepK [6, 7] [fun _ => t6 = .bool false, fun _ => t7 = .slice Az z.length cz] (by kernel_rfl) (by kernel_rfl) (fun wf hb hf => ?_) (fun t8 => ?_)
          · obtain ⟨rfl, rfl, -⟩ := hf
            refine WfOp.yes (by kernel_rfl) ?_
            dsimp only
            go_wp2_with (go_at_call 21; refine (smallZ true HS.out (((SlOw.at_ entO hz.1).below entR b2).below entR hb) nz rz).mono ?_; rintro e w2 ⟨rfl, hb2⟩)
            exact ⟨rfl, .bool true, by kernel_rfl, hb2, rfl⟩
          refine wf_stepK [6, 8] [fun _ => t6 = .bool false, fun _ => t8 = .bool true] (by kernel_rfl) (by kernel_rfl) (fun wf hb hf => ?_) (fun t9 => ?_)
          · obtain ⟨rfl, rfl, -⟩ := hf
            refine WfOp.yes (by kernel_rfl) ?_
            dsimp only
            go_wp2
            exact ⟨rfl, .bool false, by kernel_rfl, Below.refl _ _, rfl⟩
          refine wf_stepK [6, 9] [fun _ => t6 = .bool false, fun _ => t9 = .bool false] (by kernel_rfl) (by kernel_rfl) (fun wf hb hf => ?_) (fun t10 => ?_)
          · obtain ⟨rfl, rfl, -⟩ := hf
            refine ⟨?_⟩
            go_wp2
            exact ⟨rfl, .bool false, by kernel_rfl, Below.refl _ _, rfl⟩
          refine wf_stepK [10] [fun _ => t10 = .bool false] (by kernel_rfl) (by kernel_rfl) (fun wf hb hf => ?_) (fun t11 => ?_)
          · obtain ⟨rfl, -⟩ := hf
            refine ⟨?_⟩
            go_wp2
            exact ⟨rfl, .bool false, by kernel_rfl, Below.refl _ _, rfl⟩
          refine wf_stepK [11] [fun _ => t11 = .bool false] (by kernel_rfl) (by kernel_rfl) (fun wf hb hf => ?_) (fun t12 => ?_)
          · obtain ⟨rfl, -⟩ := hf
            refine WfOp.yes (by kernel_rfl) ?_
            dsimp only
            go_wp2
            exact ⟨rfl, .slice Ay y.length cy, by kernel_rfl, Below.refl _ _, rfl⟩
          refine wf_stepK [11, 12] [fun _ => t11 = .bool false, fun _ => t12 = .slice Ay y.length cy] (by kernel_rfl) (by kernel_rfl) (fun wf hb hf => ?_) (fun t13 => ?_)
          · obtain ⟨rfl, rfl, -⟩ := hf
            refine WfOp.yes (by kernel_rfl) ?_
            dsimp only
            go_wp2_with (go_at_call 21; refine (smallZ true HT.out (((SlOw.at_ entO hy.1).below entR b2).below entR hb) ny ry).mono ?_; rintro e w2 ⟨rfl, hb2⟩)
            exact ⟨rfl, .bool true, by kernel_rfl, hb2, rfl⟩
          refine wf_stepK [11, 13] [fun _ => t11 = .bool false, fun _ => t13 = .bool true] (by kernel_rfl) (by kernel_rfl) (fun wf hb hf => ?_) (fun t14 => ?_)
          · obtain ⟨rfl, rfl, -⟩ := hf
            refine WfOp.yes (by kernel_rfl) ?_
            dsimp only
            go_wp2
            exact ⟨rfl, .bool false, by kernel_rfl, Below.refl _ _, rfl⟩
          refine wf_stepK [11, 14] [fun _ => t11 = .bool false, fun _ => t14 = .bool false] (by kernel_rfl) (by kernel_rfl) (fun wf hb hf => ?_) (fun t15 => ?_)
          · obtain ⟨rfl, rfl, -⟩ := hf
            refine ⟨?_⟩
            go_wp2
            exact ⟨rfl, .bool false, by kernel_rfl, Below.refl _ _, rfl⟩
          refine wf_stepK [15] [fun _ => t15 = .bool false] (by kernel_rfl) (by kernel_rfl) (fun wf hb hf => ?_) (fun t16 => ?_)
          · obtain ⟨rfl, -⟩ := hf
            refine ⟨?_⟩
            go_wp2
            exact ⟨rfl, .bool false, by kernel_rfl, Below.refl _ _, rfl⟩
          refine wf_stepK [16] [fun _ => t16 = .bool false] (by kernel_rfl) (by kernel_rfl) (fun wf hb hf => ?_) (fun t17 => ?_)
          · obtain ⟨rfl, -⟩ := hf
            refine WfOp.yes (by kernel_rfl) ?_
            dsimp only
            go_wp2
            exact ⟨rfl, .slice Az z.length cz, by kernel_rfl, Below.refl _ _, rfl⟩
          refine wf_stepK [16, 17] [fun _ => t16 = .bool false, fun _ => t17 = .slice Az z.length cz] (by kernel_rfl) (by kernel_rfl) (fun wf hb hf => ?_) (fun t18 => ?_)
          · obtain ⟨rfl, rfl, -⟩ := hf
            refine WfOp.yes (by kernel_rfl) ?_
            dsimp only
            go_wp2
            exact ⟨rfl, .int .i64 ((z.length : Nat)), by kernel_rfl, Below.refl _ _, rfl⟩
          refine wf_stepK [16, 18] [fun _ => t16 = .bool false, fun _ => t18 = .int .i64 ((z.length : Nat))] (by kernel_rfl) (by kernel_rfl) (fun wf hb hf => ?_) (fun t19 => ?_)
          · obtain ⟨rfl, rfl, -⟩ := hf
            refine WfOp.yes (by kernel_rfl) ?_
            dsimp only
            go_wp2
            exact ⟨rfl, .bool true, by kernel_rfl, Below.refl _ _, rfl⟩
          refine wf_stepK [16, 19] [fun _ => t16 = .bool false, fun _ => t19 = .bool true] (by kernel_rfl) (by kernel_rfl) (fun wf hb hf => ?_) (fun t20 => ?_)
          · obtain ⟨rfl, rfl, -⟩ := hf
            refine WfOp.yes (by kernel_rfl) ?_
            dsimp only
            go_wp2
            exact ⟨rfl, .bool true, by kernel_rfl, Below.refl _ _, rfl⟩
          refine wf_stepK [20] [fun _ => t20 = .bool true] (by kernel_rfl) (by kernel_rfl) (fun wf hb hf => ?_) (fun t21 => ?_)
          · obtain ⟨rfl, -⟩ := hf
            refine WfOp.yes (by kernel_rfl) ?_
            dsimp only
            go_wp2
            exact ⟨rfl, .slice Ay y.length cy, by kernel_rfl, Below.refl _ _, rfl⟩
          refine wf_stepK [20, 21] [fun _ => t20 = .bool true, fun _ => t21 = .slice Ay y.length cy] (by kernel_rfl) (by kernel_rfl) (fun wf hb hf => ?_) (fun t22 => ?_)
          · obtain ⟨rfl, rfl, -⟩ := hf
            refine WfOp.yes (by kernel_rfl) ?_
            dsimp only
            go_wp2
            exact ⟨rfl, .int .i64 ((y.length : Nat)), by kernel_rfl, Below.refl _ _, rfl⟩
          refine wf_stepK [20, 22] [fun _ => t20 = .bool true, fun _ => t22 = .int .i64 ((y.length : Nat))] (by kernel_rfl) (by kernel_rfl) (fun wf hb hf => ?_) (fun t23 => ?_)
          · obtain ⟨rfl, rfl, -⟩ := hf
            refine WfOp.yes (by kernel_rfl) ?_
            dsimp only
            go_wp2
            exact ⟨rfl, .bool (decide (0 < y.length)), by kernel_rfl, Below.refl _ _, congrArg Value.bool (decide_eq_false HGY.out)⟩
          refine wf_stepK [16, 20, 23] [fun _ => t16 = .bool false, fun _ => t20 = .bool true, fun _ => t23 = .bool false] (by kernel_rfl) (by kernel_rfl) (fun wf hb hf => ?_) (fun t24 => ?_)
          · obtain ⟨rfl, rfl, rfl, -⟩ := hf
            refine WfOp.yes (by kernel_rfl) ?_
            dsimp only
            go_wp2
            exact ⟨rfl, .bool false, by kernel_rfl, Below.refl _ _, rfl⟩
          refine wf_stepK [16, 24] [fun _ => t16 = .bool false, fun _ => t24 = .bool false] (by kernel_rfl) (by kernel_rfl) (fun wf hb hf => ?_) (fun t25 => ?_)
          · obtain ⟨rfl, rfl, -⟩ := hf
            refine WfOp.yes (by kernel_rfl) ?_
            dsimp only
            go_wp2
            exact ⟨rfl, .bool false, by kernel_rfl, Below.refl _ _, rfl⟩
          refine wf_stepK [25] [fun _ => t25 = .bool false] (by kernel_rfl) (by kernel_rfl) (fun wf hb hf => ?_) (fun t26 => ?_)
          · obtain ⟨rfl, -⟩ := hf
            exact WfOp.no (by kernel_rfl) rfl
          refine wf_stepK [25, 26] [fun _ => t25 = .bool false, fun _ => t26 = undef] (by kernel_rfl) (by kernel_rfl) (fun wf hb hf => ?_) (fun t27 => ?_)
          · obtain ⟨rfl, rfl, -⟩ := hf
            exact WfOp.no (by kernel_rfl) rfl
          refine wf_stepK [25, 27] [fun _ => t25 = .bool false, fun _ => t27 = undef] (by kernel_rfl) (by kernel_rfl) (fun wf hb hf => ?_) (fun t28 => ?_)
          · obtain ⟨rfl, rfl, -⟩ := hf
            exact WfOp.no (by kernel_rfl) rfl
          refine wf_stepK [25, 28] [fun _ => t25 = .bool false, fun _ => t28 = undef] (by kernel_rfl) (by kernel_rfl) (fun wf hb hf => ?_) (fun t29 => ?_)
          · obtain ⟨rfl, rfl, -⟩ := hf
            exact WfOp.no (by kernel_rfl) rfl
          refine wf_stepK [25, 29] [fun _ => t25 = .bool false, fun _ => t29 = undef] (by kernel_rfl) (by kernel_rfl) (fun wf hb hf => ?_) (fun t30 => ?_)
          · obtain ⟨rfl, rfl, -⟩ := hf
            exact WfOp.no (by kernel_rfl) rfl
          refine wf_stepK [25] [fun _ => t25 = .bool false] (by kernel_rfl) (by kernel_rfl) (fun wf hb hf => ?_) (fun t31 => ?_)
          · obtain ⟨rfl, -⟩ := hf
            exact WfOp.no (by kernel_rfl) rfl
          refine wf_stepK [25, 31] [fun _ => t25 = .bool false, fun _ => t31 = undef] (by kernel_rfl) (by kernel_rfl) (fun wf hb hf => ?_) (fun t32 => ?_)
          · obtain ⟨rfl, rfl, -⟩ := hf
            exact WfOp.no (by kernel_rfl) rfl
          refine wf_stepK [25, 32] [fun _ => t25 = .bool false, fun _ => t32 = undef] (by kernel_rfl) (by kernel_rfl) (fun wf hb hf => ?_) (fun t33 => ?_)
          · obtain ⟨rfl, rfl, -⟩ := hf
            exact WfOp.no (by kernel_rfl) rfl
          refine wf_stepK [25, 33] [fun _ => t25 = .bool false, fun _ => t33 = undef] (by kernel_rfl) (by kernel_rfl) (fun wf hb hf => ?_) (fun t34 => ?_)
          · obtain ⟨rfl, rfl, -⟩ := hf
            exact WfOp.no (by kernel_rfl) rfl
          refine wf_stepK [25, 34] [fun _ => t25 = .bool false, fun _ => t34 = undef] (by kernel_rfl) (by kernel_rfl) (fun wf hb hf => ?_) (fun t35 => ?_)
          · obtain ⟨rfl, rfl, -⟩ := hf
            exact WfOp.no (by kernel_rfl) rfl
          refine wf_stepK [25, 30, 35] [fun _ => t25 = .bool false, fun _ => t30 = undef, fun _ => t35 = undef] (by kernel_rfl) (by kernel_rfl) (fun wf hb hf => ?_) (fun t36 => ?_)
          · obtain ⟨rfl, rfl, rfl, -⟩ := hf
            exact WfOp.no (by kernel_rfl) rfl
          refine wf_stepK [16, 25, 36] [fun _ => t16 = .bool false, fun _ => t25 = .bool false, fun _ => t36 = undef] (by kernel_rfl) (by kernel_rfl) (fun wf hb hf => ?_) (fun t37 => ?_)
          · obtain ⟨rfl, rfl, rfl, -⟩ := hf
            refine WfOp.yes (by kernel_rfl) ?_
            dsimp only
            go_wp2
            exact ⟨rfl, .bool false, by kernel_rfl, Below.refl _ _, rfl⟩
          refine wf_doneK [16, 37] [fun _ => t16 = .bool false, fun _ => t37 = .bool false] (by kernel_rfl) (by kernel_rfl) (fun w3 b3 hf => ?_)
          obtain ⟨rfl, rfl, -⟩ := hf
          show wpList _ _ _ [_] _ _
          refine wpList_frame (by simp [Act.put]; rfl) ?_
          have B3 := btr B2 b3
          have hatz : EntsAt w3 Az z := ((SlOw.at_ entO hz.1).below entR (btr b2 b3))
          have haty : EntsAt w3 Ay y := ((SlOw.at_ entO hy.1).below entR (btr b2 b3))
          have hatn : EntsAt w3 A2 (AddF z y) := (a2.below entR b3)
          have HWA := Lib.hid (W_add SX SY)
          have HWN : Hid (∀ k (h : k < (AddF z y).length), WeightF (AddF z y) (AddF z y)[k].1 = (AddF z y)[k].2) := fun k h => W_at (SX.add SY (by omega) (by omega) (by omega) (by omega)).zs h
          have hnl := AddF_len' z y
          have HNR := Lib.hid (AddF_row' z y)
          clear SX SY
          generalize AddF z y = N at *
          go_wp2
          go_loopw [6, 7] (fun i row wr => ∃ k : Nat, k ≤ z.length + y.length ∧ i = .int .i64 k ∧ Below w3.heap.size w3 wr) (fun i _ _ => z.length + y.length - (intOf i).toNat)
          case atStart => exact ⟨0, by omega, rfl, Below.refl _ _⟩
          case round =>
            obtain ⟨k, hk, rfl, bm⟩ := hrel
            by_cases hlt : k < z.length + y.length
            · have hlt1 : (k : Int) < (z.length : Int) + y.length := by omega
              have hba : Below wr.heap.size wr (wr.alloc (.cells #[] 3)) := bal (Below.refl _ _) _
              by_cases hkz : k < z.length
              · have hkz1 : (k : Int) < z.length := by omega
                obtain ⟨b, off, RA, rc, hAe, hbl, hc0, -, -, hrow⟩ := hatz.get k hkz
                have q0 := (hba.cell (p := ⟨b, off + k * 2, none⟩) (Nat.lt_of_lt_of_le hbl bm.size)).trans ((bm.cell (p := ⟨b, off + k * 2, none⟩) hbl).trans hc0)
                have hrl := rz.get hkz
                first | subst hAe | (injection hAe with hAe; injection hAe with hA1 hA2; subst hA1; subst hA2)
                have hw := HWA.out z[k].1
                obtain ⟨x, hx⟩ : ∃ x, WeightF z z[k].1 = x := ⟨_, rfl⟩
                obtain ⟨v, hv⟩ : ∃ v, WeightF y z[k].1 = v := ⟨_, rfl⟩
                rw [hx, hv] at hw
                have HW1 := Lib.hid hw.1
                have HX := Lib.hid hx
                have HV := Lib.hid hv
                have hxb := hw.2.1
                have hvb := hw.2.2
                have hne : ((x + v) != (x + v)) = false := by simp
                have bma := btr bm hba
                clear hw hx hv hc0
                go_wp2_with fail
                refine (weightZ (x + v) HW1.out (hatn.below entR bma) (hrow.below bma) (Nat.le_trans hnl (by decide)) (rows_big HNR.out (by decide)) hrl).mono ?_
                rintro e wa ⟨rfl, ba⟩
                go_wp2_with fail
                refine (weightZ x HX.out (hatz.below entR (btr bma ba)) (hrow.below (btr bma ba)) nz rz hrl).mono ?_
                rintro e wb ⟨rfl, bb⟩
                go_wp2_with fail
                refine (weightZ v HV.out (haty.below entR (btr (btr bma ba) bb)) (hrow.below (btr (btr bma ba) bb)) ny ry hrl).mono ?_
                rintro e wc ⟨rfl, bc⟩
                have hbc := btr (btr (btr bma ba) bb) bc
                clear q0 ba bb bc
                go_wp2
                go_roundw
                case rel => exact ⟨k + 1, by omega, by go_num, hbc⟩
                case measure => simp [intOf]; omega
              · have hkz1 : ¬ k < z.length := hkz
                obtain ⟨m, rfl⟩ : ∃ m, k = z.length + m := ⟨k - z.length, by omega⟩
                have hm : m < y.length := by omega
                have hm1 : ((z.length + m : Nat) : Int) - (z.length : Int) = m := by omega
                have hm2 : (z.length : Int) + (m : Int) - z.length = m := by omega
                obtain ⟨b, off, RA, rc, hAe, hbl, hc0, -, -, hrow⟩ := haty.get m hm
                have q0 := (hba.cell (p := ⟨b, off + m * 2, none⟩) (Nat.lt_of_lt_of_le hbl bm.size)).trans ((bm.cell (p := ⟨b, off + m * 2, none⟩) hbl).trans hc0)
                have hrl := ry.get hm
                first | subst hAe | (injection hAe with hAe; injection hAe with hA1 hA2; subst hA1; subst hA2)
                have hw := HWA.out y[m].1
                obtain ⟨x, hx⟩ : ∃ x, WeightF z y[m].1 = x := ⟨_, rfl⟩
                obtain ⟨v, hv⟩ : ∃ v, WeightF y y[m].1 = v := ⟨_, rfl⟩
                rw [hx, hv] at hw
                have HW1 := Lib.hid hw.1
                have HX := Lib.hid hx
                have HV := Lib.hid hv
                have hxb := hw.2.1
                have hvb := hw.2.2
                have hne : ((x + v) != (x + v)) = false := by simp
                have bma := btr bm hba
                clear hw hx hv hc0
                go_wp2_with fail
                refine (weightZ (x + v) HW1.out (hatn.below entR bma) (hrow.below bma) (Nat.le_trans hnl (by decide)) (rows_big HNR.out (by decide)) hrl).mono ?_
                rintro e wa ⟨rfl, ba⟩
                go_wp2_with fail
                refine (weightZ x HX.out (hatz.below entR (btr bma ba)) (hrow.below (btr bma ba)) nz rz hrl).mono ?_
                rintro e wb ⟨rfl, bb⟩
                go_wp2_with fail
                refine (weightZ v HV.out (haty.below entR (btr (btr bma ba) bb)) (hrow.below (btr (btr bma ba) bb)) ny ry hrl).mono ?_
                rintro e wc ⟨rfl, bc⟩
                have hbc := btr (btr (btr bma ba) bb) bc
                clear q0 ba bb bc
                go_wp2
                go_roundw
                case rel => exact ⟨z.length + m + 1, by omega, by go_num, hbc⟩
                case measure => simp [intOf]; omega
            · obtain rfl : k = z.length + y.length := by omega
              have hlt1 : ¬ ((z.length : Int) + y.length < (z.length : Int) + y.length) := by omega
              obtain ⟨V, rfl⟩ : ∃ V : World, V = wr := ⟨wr, rfl⟩
              have BV := btr B3 bm
              have hatv := hatn.below entR bm
              go_wp2
              go_loopw [8] (fun i wr => ∃ k : Nat, k ≤ N.length ∧ i = .int .i64 k ∧ Below V.heap.size V wr) (fun i _ => N.length - (intOf i).toNat)
              case atStart => exact ⟨0, by omega, rfl, Below.refl _ _⟩
              case round =>
                obtain ⟨i, hi, rfl, bi⟩ := hrel
                by_cases hit : i < N.length
                · obtain ⟨b, off, RA, rc, hAe, hbl, hc0, hc1, -, hrow⟩ := EntsAt.get (hatv.below entR bi) i hit
                  first | subst hAe | (injection hAe with hAe; injection hAe with hA1 hA2; subst hA1; subst hA2)
                  have q0 := cgrowZ hc0
                  have q1 := cgrowZ hc1
                  have hrl := (rows_big HNR.out (show 6 ≤ 4194304 by decide)).get hit
                  have hit' : (i : Int) < N.length := by omega
                  have hne : (N[i].2 != N[i].2) = false := by simp
                  have hcon := fun W (hW : Below wr.heap.size wr W) => weightZ (c := c2) (d := rc) N[i].2 (HWN.out i hit) ((hatv.below entR bi).below entR hW) (hrow.below hW) (Nat.le_trans hnl (by decide)) (rows_big HNR.out (by decide)) hrl
                  clear hc0 hc1
                  go_wp2_with fail
                  refine wp_region_quiet_below (by kernel_rfl) (by kernel_rfl) ?_
                  repeat (go_big_quiet_step (exact Calls.regrown_of (hcon _ (below_regrown _ _ _))))
                  refine wpQuiet_nil ?_
                  intro wq hwq
                  obtain ⟨⟨dq, osq⟩, rfl⟩ := hwq
                  have hbq := below_regrown wr dq osq
                  generalize grow (redrawn wr dq) osq = wx at hbq
                  have hbx := btr bi hbq
                  clear q0 q1 hbq hcon
                  go_wp2
                  go_roundw
                  case rel => exact ⟨i + 1, by omega, by go_num, hbx⟩
                  case measure => simp [intOf]; omega
                · obtain rfl : i = N.length := by omega
                  go_wp2
                  go_ret
                  exact ⟨rfl, btr BV bi⟩
        · have hgy : (0 : Int) < y.length := by omega
          by_cases hw : wid z = wid y
          · have hwz := wid_get hpz
            have hwy := wid_get hpy
            rw [← hw] at SY
            have hne : ((z[0].1.length : Int) != (y[0].1.length : Int)) = false := by rw [← hwz, ← hwy, hw]; simp
            clear hw hwz hwy
            obtain ⟨bbz, ooz, RRz, ssz, hAz, hblz, hcz, -, -, hrz⟩ := (EntsAt.get (SlOw.at_ entO hz.1) 0 hpz)
            simp only [Nat.zero_mul, Nat.add_zero] at hcz
            subst hAz
            obtain ⟨bby, ooy, RRy, ssy, hAy, hbly, hcy, -, -, hry⟩ := (EntsAt.get (SlOw.at_ entO hy.1) 0 hpy)
            simp only [Nat.zero_mul, Nat.add_zero] at hcy
            subst hAy
            go_wp2_with fail
            refine (Add_i _ _ (z) _ _ (y) _ (SlOw.at_ entO hz.1) (SlOw.at_ entO hy.1) (EntsOw.cap hz.1) (EntsOw.cap hy.1) nz rz ny ry).mono ?_
            rintro e w2 ⟨A2, c2, rfl, o2, b2⟩
            have B2 := btr B1 b2
            have a2 : EntsAt w2 A2 (AddF (z) (y)) := SlOw.at_ entO o2
            go_wp2_with fail
            refine wp_region_facts [[], [], [], [1, 2], [0, 1, 2, 3], [0, 1, 2, 3, 4], [0, 1, 2, 3, 4, 5], [0, 1, 2, 3, 4, 5, 6], [0, 1, 2, 3, 4, 5, 6, 7], [0, 1, 2, 3, 4, 5, 6, 7, 8], [0, 1, 2, 3, 4, 5, 6, 7, 8, 9], [0, 1, 2, 3, 4, 5, 6, 7, 8, 9, 10], [0, 1, 2, 3, 4, 5, 6, 7, 8, 9, 10, 11], [0, 1, 2, 3, 4, 5, 6, 7, 8, 9, 10, 11, 12], [0, 1, 2, 3, 4, 5, 6, 7, 8, 9, 10, 11, 12, 13], [0, 1, 2, 3, 4, 5, 6, 7, 8, 9, 10, 11, 12, 13, 14], [0, 1, 2, 3, 4, 5, 6, 7, 8, 9, 10, 11, 12, 13, 14, 15], [0, 1, 2, 3, 4, 5, 6, 7, 8, 9, 10, 11, 12, 13, 14, 15, 16], [0, 1, 2, 3, 4, 5, 6, 7, 8, 9, 10, 11, 12, 13, 14, 15, 16, 17], [0, 1, 2, 3, 4, 5, 6, 7, 8, 9, 10, 11, 12, 13, 14, 15, 16, 17, 18], [0, 1, 2, 3, 4, 5, 6, 7, 8, 9, 10, 11, 12, 13, 14, 15, 16, 17, 18, 19], [0, 1, 2, 3, 4, 5, 6, 7, 8, 9, 10, 11, 12, 13, 14, 15, 16, 17, 18, 19, 20], [0, 1, 2, 3, 4, 5, 6, 7, 8, 9, 10, 11, 12, 13, 14, 15, 16, 17, 18, 19, 20, 21], [0, 1, 2, 3, 4, 5, 6, 7, 8, 9, 10, 11, 12, 13, 14, 15, 16, 17, 18, 19, 20, 21, 22], [0, 1, 2, 3, 4, 5, 6, 7, 8, 9, 10, 11, 12, 13, 14, 15, 16, 17, 18, 19, 20, 21, 22, 23], [0, 1, 2, 3, 4, 5, 6, 7, 8, 9, 10, 11, 12, 13, 14, 15, 16, 17, 18, 19, 20, 21, 22, 23, 24], [0, 1, 2, 3, 4, 5, 6, 7, 8, 9, 10, 11, 12, 13, 14, 15, 16, 17, 18, 19, 20, 21, 22, 23, 24, 25], [0, 1, 2, 3, 4, 5, 6, 7, 8, 9, 10, 11, 12, 13, 14, 15, 16, 17, 18, 19, 20, 21, 22, 23, 24, 25, 26], [0, 1, 2, 3, 4, 5, 6, 7, 8, 9, 10, 11, 12, 13, 14, 15, 16, 17, 18, 19, 20, 21, 22, 23, 24, 25, 26, 27], [0, 1, 2, 3, 4, 5, 6, 7, 8, 9, 10, 11, 12, 13, 14, 15, 16, 17, 18, 19, 20, 21, 22, 23, 24, 25, 26, 27, 28], [0, 1, 2, 3, 4, 5, 6, 7, 8, 9, 10, 11, 12, 13, 14, 15, 16, 17, 18, 19, 20, 21, 22, 23, 24, 25, 26, 27, 28, 29], [0, 1, 2, 3, 4, 5, 6, 7, 8, 9, 10, 11, 12, 13, 14, 15, 16, 17, 18, 19, 20, 21, 22, 23, 24, 25], [0, 1, 2, 3, 4, 5, 6, 7, 8, 9, 10, 11, 12, 13, 14, 15, 16, 17, 18, 19, 20, 21, 22, 23, 24, 25, 31], [0, 1, 2, 3, 4, 5, 6, 7, 8, 9, 10, 11, 12, 13, 14, 15, 16, 17, 18, 19, 20, 21, 22, 23, 24, 25, 31, 32], [0, 1, 2, 3, 4, 5, 6, 7, 8, 9, 10, 11, 12, 13, 14, 15, 16, 17, 18, 19, 20, 21, 22, 23, 24, 25, 31, 32, 33], [0, 1, 2, 3, 4, 5, 6, 7, 8, 9, 10, 11, 12, 13, 14, 15, 16, 17, 18, 19, 20, 21, 22, 23, 24, 25, 31, 32, 33, 34], [0, 1, 2, 3, 4, 5, 6, 7, 8, 9, 10, 11, 12, 13, 14, 15, 16, 17, 18, 19, 20, 21, 22, 23, 24, 25, 26, 27, 28, 29, 30, 31, 32, 33, 34, 35], [0, 1, 2, 3, 4, 5, 6, 7, 8, 9, 10, 11, 12, 13, 14, 15, 16, 17, 18, 19, 20, 21, 22, 23, 24, 25, 26, 27, 28, 29, 30, 31, 32, 33, 34, 35, 36]]
              [fun v' _ => v' = .slice A2 (AddF z y).length c2, fun v' _ => v' = .slice (some ⟨bbz, ooz, none⟩) z.length cz, fun v' _ => v' = .slice (some ⟨bby, ooy, none⟩) y.length cy, ZVr (AddF (z) (y)), fun v' _ => v' = .bool true, fun v' _ => v' = .bool false, fun v' _ => v' = .bool false, fun v' _ => v' = .slice (some ⟨bbz, ooz, none⟩) z.length cz, fun v' _ => v' = .bool true, fun v' _ => v' = .bool false, fun v' _ => v' = .bool false, fun v' _ => v' = .bool false, fun v' _ => v' = .slice (some ⟨bby, ooy, none⟩) y.length cy, fun v' _ => v' = .bool true, fun v' _ => v' = .bool false, fun v' _ => v' = .bool false, fun v' _ => v' = .bool false, fun v' _ => v' = .slice (some ⟨bbz, ooz, none⟩) z.length cz, fun v' _ => v' = .int .i64 ((z.length : Nat)), fun v' _ => v' = .bool true, fun v' _ => v' = .bool true, fun v' _ => v' = .slice (some ⟨bby, ooy, none⟩) y.length cy, fun v' _ => v' = .int .i64 ((y.length : Nat)), fun v' _ => v' = .bool true, fun v' _ => v' = .bool true, fun v' _ => v' = .bool true, fun v' _ => v' = .slice (some ⟨bbz, ooz, none⟩) z.length cz, fun v' _ => v' = .pointer (some ⟨bbz, ooz, none⟩), fun v' _ => v' = .pointer (some ⟨bbz, ooz, none⟩), fun v' _ => v' = .slice RRz z[0].1.length ssz, fun v' _ => v' = .int .i64 ((z[0].1.length : Nat)), fun v' _ => v' = .slice (some ⟨bby, ooy, none⟩) y.length cy, fun v' _ => v' = .pointer (some ⟨bby, ooy, none⟩), fun v' _ => v' = .pointer (some ⟨bby, ooy, none⟩), fun v' _ => v' = .slice RRy y[0].1.length ssy, fun v' _ => v' = .int .i64 ((y[0].1.length : Nat)), fun v' _ => v' = .bool false, fun v' _ => v' = .bool false]
              (by kernel_rfl) (by kernel_rfl) rfl ⟨stable_pure _, stable_pure _, stable_pure _, stable_zVr _, stable_pure _, stable_pure _, stable_pure _, stable_pure _, stable_pure _, stable_pure _, stable_pure _, stable_pure _, stable_pure _, stable_pure _, stable_pure _, stable_pure _, stable_pure _, stable_pure _, stable_pure _, stable_pure _, stable_pure _, stable_pure _, stable_pure _, stable_pure _, stable_pure _, stable_pure _, stable_pure _, stable_pure _, stable_pure _, stable_pure _, stable_pure _, stable_pure _, stable_pure _, stable_pure _, stable_pure _, stable_pure _, stable_pure _, stable_pure _, trivial⟩ ?_
            refine wf_stepK [] [] (by kernel_rfl) (by kernel_rfl) (fun wf hb hf => ?_) (fun t0 => ?_)
            · refine ⟨?_⟩
              go_wp2
              exact ⟨rfl, .slice A2 (AddF z y).length c2, by kernel_rfl, Below.refl _ _, rfl⟩
            refine wf_stepK [] [] (by kernel_rfl) (by kernel_rfl) (fun wf hb hf => ?_) (fun t1 => ?_)
            · refine ⟨?_⟩
              go_wp2
              exact ⟨rfl, .slice (some ⟨bbz, ooz, none⟩) z.length cz, by kernel_rfl, Below.refl _ _, rfl⟩
            refine wf_stepK [] [] (by kernel_rfl) (by kernel_rfl) (fun wf hb hf => ?_) (fun t2 => ?_)
            · refine ⟨?_⟩
              go_wp2
              exact ⟨rfl, .slice (some ⟨bby, ooy, none⟩) y.length cy, by kernel_rfl, Below.refl _ _, rfl⟩
            refine wf_stepK [1, 2] [fun _ => t1 = .slice (some ⟨bbz, ooz, none⟩) z.length cz, fun _ => t2 = .slice (some ⟨bby, ooy, none⟩) y.length cy] (by kernel_rfl) (by kernel_rfl) (fun wf hb hf => ?_) (fun t3 => ?_)
            · obtain ⟨rfl, rfl, -⟩ := hf
              refine ⟨?_⟩
              go_wp2_with (go_at_call 28; refine (Add_s _ _ (z) _ _ (y) _ (((SlOw.at_ entO hz.1).below entR b2).below entR hb) (((SlOw.at_ entO hy.1).below entR b2).below entR hb) nz rz ny ry).mono ?_; rintro e w2 ⟨AN, cN, rfl, oN, hb2⟩)
              exact ⟨rfl, .slice AN (AddF (z) (y)).length cN, by kernel_rfl, hb2, AN, cN, rfl, SlOw.at_ entO oN, EntsOw.cap oN⟩
            refine wf_stepK [0, 3] [fun _ => t0 = .slice A2 (AddF z y).length c2, ZVr (AddF (z) (y)) t3] (by kernel_rfl) (by kernel_rfl) (fun wf hb hf => ?_) (fun t4 => ?_)
            · obtain ⟨rfl, ⟨XS1, xs1, rfl, hS1⟩, -⟩ := hf
              refine ⟨?_⟩
              go_wp2_with (go_at_call 15; refine (equalZ (xs := AddF (z) (y)) (ys := AddF (z) (y)) true (decide_eq_true rfl) (a2.below entR hb) hS1.1 (Nat.le_trans (AddF_len' _ _) (by decide)) (Nat.le_trans (AddF_len' _ _) (by decide)) (rows_big (AddF_row' _ _) (by decide)) (rows_big (AddF_row' _ _) (by decide))).mono ?_; rintro e w2 ⟨rfl, hb2⟩)
              exact ⟨rfl, .bool true, by kernel_rfl, hb2, rfl⟩
            refine wf_stepK [4] [fun _ => t4 = .bool true] (by kernel_rfl) (by kernel_rfl) (fun wf hb hf => ?_) (fun t5 => ?_)
            · obtain ⟨rfl, -⟩ := hf
              refine ⟨?_⟩
              go_wp2
              exact ⟨rfl, .bool false, by kernel_rfl, Below.refl _ _, rfl⟩
            refine wf_stepK [5] [fun _ => t5 = .bool false] (by kernel_rfl) (by kernel_rfl) (fun wf hb hf => ?_) (fun t6 => ?_)
            · obtain ⟨rfl, -⟩ := hf
              refine ⟨?_⟩
              go_wp2
              exact ⟨rfl, .bool false, by kernel_rfl, Below.refl _ _, rfl⟩
            refine wf_stepK [6] [fun _ => t6 = .bool false] (by kernel_rfl) (by kernel_rfl) (fun wf hb hf => ?_) (fun t7 => ?_)
            · obtain ⟨rfl, -⟩ := hf
              refine WfOp.yes (by kernel_rfl) ?_
              dsimp only
              go_wp2
              exact ⟨rfl, .slice (some ⟨bbz, ooz, none⟩) z.length cz, by kernel_rfl, Below.refl _ _, rfl⟩
            refine wf_stepK [6, 7] [fun _ => t6 = .bool false, fun _ => t7 = .slice (some ⟨bbz, ooz, none⟩) z.length cz] (by kernel_rfl) (by kernel_rfl) (fun wf hb hf => ?_) (fun t8 => ?_)
            · obtain ⟨rfl, rfl, -⟩ := hf
              refine WfOp.yes (by kernel_rfl) ?_
              dsimp only
              go_wp2_with (go_at_call 21; refine (smallZ true HS.out (((SlOw.at_ entO hz.1).below entR b2).below entR hb) nz rz).mono ?_; rintro e w2 ⟨rfl, hb2⟩)
              exact ⟨rfl, .bool true, by kernel_rfl, hb2, rfl⟩
            refine wf_stepK [6, 8] [fun _ => t6 = .bool false, fun _ => t8 = .bool true] (by kernel_rfl) (by kernel_rfl) (fun wf hb hf => ?_) (fun t9 => ?_)
            · obtain ⟨rfl, rfl, -⟩ := hf
              refine WfOp.yes (by kernel_rfl) ?_
              dsimp only
              go_wp2
              exact ⟨rfl, .bool false, by kernel_rfl, Below.refl _ _, rfl⟩
            refine wf_stepK [6, 9] [fun _ => t6 = .bool false, fun _ => t9 = .bool false] (by kernel_rfl) (by kernel_rfl) (fun wf hb hf => ?_) (fun t10 => ?_)
            · obtain ⟨rfl, rfl, -⟩ := hf
              refine ⟨?_⟩
              go_wp2
              exact ⟨rfl, .bool false, by kernel_rfl, Below.refl _ _, rfl⟩
            refine wf_stepK [10] [fun _ => t10 = .bool false] (by kernel_rfl) (by kernel_rfl) (fun wf hb hf => ?_) (fun t11 => ?_)
            · obtain ⟨rfl, -⟩ := hf
              refine ⟨?_⟩
              go_wp2
              exact ⟨rfl, .bool false, by kernel_rfl, Below.refl _ _, rfl⟩
            refine wf_stepK [11] [fun _ => t11 = .bool false] (by kernel_rfl) (by kernel_rfl) (fun wf hb hf => ?_) (fun t12 => ?_)
            · obtain ⟨rfl, -⟩ := hf
              refine WfOp.yes (by kernel_rfl) ?_
              dsimp only
              go_wp2
              exact ⟨rfl, .slice (some ⟨bby, ooy, none⟩) y.length cy, by kernel_rfl, Below.refl _ _, rfl⟩
            refine wf_stepK [11, 12] [fun _ => t11 = .bool false, fun _ => t12 = .slice (some ⟨bby, ooy, none⟩) y.length cy] (by kernel_rfl) (by kernel_rfl) (fun wf hb hf => ?_) (fun t13 => ?_)
            · obtain ⟨rfl, rfl, -⟩ := hf
              refine WfOp.yes (by kernel_rfl) ?_
              dsimp only
              go_wp2_with (go_at_call 21; refine (smallZ true HT.out (((SlOw.at_ entO hy.1).below entR b2).below entR hb) ny ry).mono ?_; rintro e w2 ⟨rfl, hb2⟩)
              exact ⟨rfl, .bool true, by kernel_rfl, hb2, rfl⟩
            refine wf_stepK [11, 13] [fun _ => t11 = .bool false, fun _ => t13 = .bool true] (by kernel_rfl) (by kernel_rfl) (fun wf hb hf => ?_) (fun t14 => ?_)
            · obtain ⟨rfl, rfl, -⟩ := hf
              refine WfOp.yes (by kernel_rfl) ?_
              dsimp only
              go_wp2
              exact ⟨rfl, .bool false, by kernel_rfl, Below.refl _ _, rfl⟩
            refine wf_stepK [11, 14] [fun _ => t11 = .bool false, fun _ => t14 = .bool false] (by kernel_rfl) (by kernel_rfl) (fun wf hb hf => ?_) (fun t15 => ?_)
            · obtain ⟨rfl, rfl, -⟩ := hf
              refine ⟨?_⟩
              go_wp2
              exact ⟨rfl, .bool false, by kernel_rfl, Below.refl _ _, rfl⟩
            refine wf_stepK [15] [fun _ => t15 = .bool false] (by kernel_rfl) (by kernel_rfl) (fun wf hb hf => ?_) (fun t16 => ?_)
            · obtain ⟨rfl, -⟩ := hf
              refine ⟨?_⟩
              go_wp2
              exact ⟨rfl, .bool false, by kernel_rfl, Below.refl _ _, rfl⟩
            refine wf_stepK [16] [fun _ => t16 = .bool false] (by kernel_rfl) (by kernel_rfl) (fun wf hb hf => ?_) (fun t17 => ?_)
            · obtain ⟨rfl, -⟩ := hf
              refine WfOp.yes (by kernel_rfl) ?_
              dsimp only
              go_wp2
              exact ⟨rfl, .slice (some ⟨bbz, ooz, none⟩) z.length cz, by kernel_rfl, Below.refl _ _, rfl⟩
            refine wf_stepK [16, 17] [fun _ => t16 = .bool false, fun _ => t17 = .slice (some ⟨bbz, ooz, none⟩) z.length cz] (by kernel_rfl) (by kernel_rfl) (fun wf hb hf => ?_) (fun t18 => ?_)
            · obtain ⟨rfl, rfl, -⟩ := hf
              refine WfOp.yes (by kernel_rfl) ?_
              dsimp only
              go_wp2
              exact ⟨rfl, .int .i64 ((z.length : Nat)), by kernel_rfl, Below.refl _ _, rfl⟩
            refine wf_stepK [16, 18] [fun _ => t16 = .bool false, fun _ => t18 = .int .i64 ((z.length : Nat))] (by kernel_rfl) (by kernel_rfl) (fun wf hb hf => ?_) (fun t19 => ?_)
            · obtain ⟨rfl, rfl, -⟩ := hf
              refine WfOp.yes (by kernel_rfl) ?_
              dsimp only
              go_wp2
              exact ⟨rfl, .bool true, by kernel_rfl, Below.refl _ _, rfl⟩
            refine wf_stepK [16, 19] [fun _ => t16 = .bool false, fun _ => t19 = .bool true] (by kernel_rfl) (by kernel_rfl) (fun wf hb hf => ?_) (fun t20 => ?_)
            · obtain ⟨rfl, rfl, -⟩ := hf
              refine WfOp.yes (by kernel_rfl) ?_
              dsimp only
              go_wp2
              exact ⟨rfl, .bool true, by kernel_rfl, Below.refl _ _, rfl⟩
            refine wf_stepK [20] [fun _ => t20 = .bool true] (by kernel_rfl) (by kernel_rfl) (fun wf hb hf => ?_) (fun t21 => ?_)
            · obtain ⟨rfl, -⟩ := hf
              refine WfOp.yes (by kernel_rfl) ?_
              dsimp only
              go_wp2
              exact ⟨rfl, .slice (some ⟨bby, ooy, none⟩) y.length cy, by kernel_rfl, Below.refl _ _, rfl⟩
            refine wf_stepK [20, 21] [fun _ => t20 = .bool true, fun _ => t21 = .slice (some ⟨bby, ooy, none⟩) y.length cy] (by kernel_rfl) (by kernel_rfl) (fun wf hb hf => ?_) (fun t22 => ?_)
            · obtain ⟨rfl, rfl, -⟩ := hf
              refine WfOp.yes (by kernel_rfl) ?_
              dsimp only
              go_wp2
              exact ⟨rfl, .int .i64 ((y.length : Nat)), by kernel_rfl, Below.refl _ _, rfl⟩
            refine wf_stepK [20, 22] [fun _ => t20 = .bool true, fun _ => t22 = .int .i64 ((y.length : Nat))] (by kernel_rfl) (by kernel_rfl) (fun wf hb hf => ?_) (fun t23 => ?_)
            · obtain ⟨rfl, rfl, -⟩ := hf
              refine WfOp.yes (by kernel_rfl) ?_
              dsimp only
              go_wp2
              exact ⟨rfl, .bool true, by kernel_rfl, Below.refl _ _, rfl⟩
            refine wf_stepK [16, 20, 23] [fun _ => t16 = .bool false, fun _ => t20 = .bool true, fun _ => t23 = .bool true] (by kernel_rfl) (by kernel_rfl) (fun wf hb hf => ?_) (fun t24 => ?_)
            · obtain ⟨rfl, rfl, rfl, -⟩ := hf
              refine WfOp.yes (by kernel_rfl) ?_
              dsimp only
              go_wp2
              exact ⟨rfl, .bool true, by kernel_rfl, Below.refl _ _, rfl⟩
            refine wf_stepK [16, 24] [fun _ => t16 = .bool false, fun _ => t24 = .bool true] (by kernel_rfl) (by kernel_rfl) (fun wf hb hf => ?_) (fun t25 => ?_)
            · obtain ⟨rfl, rfl, -⟩ := hf
              refine WfOp.yes (by kernel_rfl) ?_
              dsimp only
              go_wp2
              exact ⟨rfl, .bool true, by kernel_rfl, Below.refl _ _, rfl⟩
            refine wf_stepK [25] [fun _ => t25 = .bool true] (by kernel_rfl) (by kernel_rfl) (fun wf hb hf => ?_) (fun t26 => ?_)
            · obtain ⟨rfl, -⟩ := hf
              refine WfOp.yes (by kernel_rfl) ?_
              dsimp only
              go_wp2
              exact ⟨rfl, .slice (some ⟨bbz, ooz, none⟩) z.length cz, by kernel_rfl, Below.refl _ _, rfl⟩
            refine wf_stepK [25, 26] [fun _ => t25 = .bool true, fun _ => t26 = .slice (some ⟨bbz, ooz, none⟩) z.length cz] (by kernel_rfl) (by kernel_rfl) (fun wf hb hf => ?_) (fun t27 => ?_)
            · obtain ⟨rfl, rfl, -⟩ := hf
              refine WfOp.yes (by kernel_rfl) ?_
              dsimp only
              go_wp2
              exact ⟨rfl, .pointer (some ⟨bbz, ooz, none⟩), by kernel_rfl, Below.refl _ _, rfl⟩
            refine wf_stepK [25, 27] [fun _ => t25 = .bool true, fun _ => t27 = .pointer (some ⟨bbz, ooz, none⟩)] (by kernel_rfl) (by kernel_rfl) (fun wf hb hf => ?_) (fun t28 => ?_)
            · obtain ⟨rfl, rfl, -⟩ := hf
              refine WfOp.yes (by kernel_rfl) ?_
              dsimp only
              go_wp2
              exact ⟨rfl, .pointer (some ⟨bbz, ooz, none⟩), by kernel_rfl, Below.refl _ _, rfl⟩
            refine wf_stepK [25, 28] [fun _ => t25 = .bool true, fun _ => t28 = .pointer (some ⟨bbz, ooz, none⟩)] (by kernel_rfl) (by kernel_rfl) (fun wf hb hf => ?_) (fun t29 => ?_)
            · obtain ⟨rfl, rfl, -⟩ := hf
              refine WfOp.yes (by kernel_rfl) ?_
              dsimp only
              have cz := (Below.cell (p := ⟨bbz, ooz, none⟩) (btr b2 hb) hblz).trans hcz
              go_wp2
              exact ⟨rfl, .slice RRz z[0].1.length ssz, by kernel_rfl, Below.refl _ _, rfl⟩
            refine wf_stepK [25, 29] [fun _ => t25 = .bool true, fun _ => t29 = .slice RRz z[0].1.length ssz] (by kernel_rfl) (by kernel_rfl) (fun wf hb hf => ?_) (fun t30 => ?_)
            · obtain ⟨rfl, rfl, -⟩ := hf
              refine WfOp.yes (by kernel_rfl) ?_
              dsimp only
              go_wp2
              exact ⟨rfl, .int .i64 ((z[0].1.length : Nat)), by kernel_rfl, Below.refl _ _, rfl⟩
            refine wf_stepK [25] [fun _ => t25 = .bool true] (by kernel_rfl) (by kernel_rfl) (fun wf hb hf => ?_) (fun t31 => ?_)
            · obtain ⟨rfl, -⟩ := hf
              refine WfOp.yes (by kernel_rfl) ?_
              dsimp only
              go_wp2
              exact ⟨rfl, .slice (some ⟨bby, ooy, none⟩) y.length cy, by kernel_rfl, Below.refl _ _, rfl⟩
            refine wf_stepK [25, 31] [fun _ => t25 = .bool true, fun _ => t31 = .slice (some ⟨bby, ooy, none⟩) y.length cy] (by kernel_rfl) (by kernel_rfl) (fun wf hb hf => ?_) (fun t32 => ?_)
            · obtain ⟨rfl, rfl, -⟩ := hf
              refine WfOp.yes (by kernel_rfl) ?_
              dsimp only
              go_wp2
              exact ⟨rfl, .pointer (some ⟨bby, ooy, none⟩), by kernel_rfl, Below.refl _ _, rfl⟩
            refine wf_stepK [25, 32] [fun _ => t25 = .bool true, fun _ => t32 = .pointer (some ⟨bby, ooy, none⟩)] (by kernel_rfl) (by kernel_rfl) (fun wf hb hf => ?_) (fun t33 => ?_)
            · obtain ⟨rfl, rfl, -⟩ := hf
              refine WfOp.yes (by kernel_rfl) ?_
              dsimp only
              go_wp2
              exact ⟨rfl, .pointer (some ⟨bby, ooy, none⟩), by kernel_rfl, Below.refl _ _, rfl⟩
            refine wf_stepK [25, 33] [fun _ => t25 = .bool true, fun _ => t33 = .pointer (some ⟨bby, ooy, none⟩)] (by kernel_rfl) (by kernel_rfl) (fun wf hb hf => ?_) (fun t34 => ?_)
            · obtain ⟨rfl, rfl, -⟩ := hf
              refine WfOp.yes (by kernel_rfl) ?_
              dsimp only
              have cz := (Below.cell (p := ⟨bby, ooy, none⟩) (btr b2 hb) hbly).trans hcy
              go_wp2
              exact ⟨rfl, .slice RRy y[0].1.length ssy, by kernel_rfl, Below.refl _ _, rfl⟩
            refine wf_stepK [25, 34] [fun _ => t25 = .bool true, fun _ => t34 = .slice RRy y[0].1.length ssy] (by kernel_rfl) (by kernel_rfl) (fun wf hb hf => ?_) (fun t35 => ?_)
            · obtain ⟨rfl, rfl, -⟩ := hf
              refine WfOp.yes (by kernel_rfl) ?_
              dsimp only
              go_wp2
              exact ⟨rfl, .int .i64 ((y[0].1.length : Nat)), by kernel_rfl, Below.refl _ _, rfl⟩
            refine wf_stepK [25, 30, 35] [fun _ => t25 = .bool true, fun _ => t30 = .int .i64 ((z[0].1.length : Nat)), fun _ => t35 = .int .i64 ((y[0].1.length : Nat))] (by kernel_rfl) (by kernel_rfl) (fun wf hb hf => ?_) (fun t36 => ?_)
            · obtain ⟨rfl, rfl, rfl, -⟩ := hf
              refine WfOp.yes (by kernel_rfl) ?_
              dsimp only
              go_wp2
              exact ⟨rfl, .bool false, by kernel_rfl, Below.refl _ _, rfl⟩
            refine wf_stepK [16, 25, 36] [fun _ => t16 = .bool false, fun _ => t25 = .bool true, fun _ => t36 = .bool false] (by kernel_rfl) (by kernel_rfl) (fun wf hb hf => ?_) (fun t37 => ?_)
            · obtain ⟨rfl, rfl, rfl, -⟩ := hf
              refine WfOp.yes (by kernel_rfl) ?_
              dsimp only
              go_wp2
              exact ⟨rfl, .bool false, by kernel_rfl, Below.refl _ _, rfl⟩
            refine wf_doneK [16, 37] [fun _ => t16 = .bool false, fun _ => t37 = .bool false] (by kernel_rfl) (by kernel_rfl) (fun w3 b3 hf => ?_)
            obtain ⟨rfl, rfl, -⟩ := hf
            show wpList _ _ _ [_] _ _
            refine wpList_frame (by simp [Act.put]; rfl) ?_
            have B3 := btr B2 b3
            have hatz : EntsAt w3 (some ⟨bbz, ooz, none⟩) z := ((SlOw.at_ entO hz.1).below entR (btr b2 b3))
            have haty : EntsAt w3 (some ⟨bby, ooy, none⟩) y := ((SlOw.at_ entO hy.1).below entR (btr b2 b3))
            have hatn : EntsAt w3 A2 (AddF z y) := (a2.below entR b3)
            have HWA := Lib.hid (W_add SX SY)
            have HWN : Hid (∀ k (h : k < (AddF z y).length), WeightF (AddF z y) (AddF z y)[k].1 = (AddF z y)[k].2) := fun k h => W_at (SX.add SY (by omega) (by omega) (by omega) (by omega)).zs h
            have hnl := AddF_len' z y
            have HNR := Lib.hid (AddF_row' z y)
            clear SX SY
            generalize AddF z y = N at *
            go_wp2
            go_loopw [6, 7] (fun i row wr => ∃ k : Nat, k ≤ z.length + y.length ∧ i = .int .i64 k ∧ Below w3.heap.size w3 wr) (fun i _ _ => z.length + y.length - (intOf i).toNat)
            case atStart => exact ⟨0, by omega, rfl, Below.refl _ _⟩
            case round =>
              obtain ⟨k, hk, rfl, bm⟩ := hrel
              by_cases hlt : k < z.length + y.length
              · have hlt1 : (k : Int) < (z.length : Int) + y.length := by omega
                have hba : Below wr.heap.size wr (wr.alloc (.cells #[] 3)) := bal (Below.refl _ _) _
                by_cases hkz : k < z.length
                · have hkz1 : (k : Int) < z.length := by omega
                  obtain ⟨b, off, RA, rc, hAe, hbl, hc0, -, -, hrow⟩ := hatz.get k hkz
                  have q0 := (hba.cell (p := ⟨b, off + k * 2, none⟩) (Nat.lt_of_lt_of_le hbl bm.size)).trans ((bm.cell (p := ⟨b, off + k * 2, none⟩) hbl).trans hc0)
                  have hrl := rz.get hkz
                  first | subst hAe | (injection hAe with hAe; injection hAe with hA1 hA2; subst hA1; subst hA2)
                  have hw := HWA.out z[k].1
                  obtain ⟨x, hx⟩ : ∃ x, WeightF z z[k].1 = x := ⟨_, rfl⟩
                  obtain ⟨v, hv⟩ : ∃ v, WeightF y z[k].1 = v := ⟨_, rfl⟩
                  rw [hx, hv] at hw
                  have HW1 := Lib.hid hw.1
                  have HX := Lib.hid hx
                  have HV := Lib.hid hv
                  have hxb := hw.2.1
                  have hvb := hw.2.2
                  have hne : ((x + v) != (x + v)) = false := by simp
                  have bma := btr bm hba
                  clear hw hx hv hc0
                  go_wp2_with fail
                  refine (weightZ (x + v) HW1.out (hatn.below entR bma) (hrow.below bma) (Nat.le_trans hnl (by decide)) (rows_big HNR.out (by decide)) hrl).mono ?_
                  rintro e wa ⟨rfl, ba⟩
                  go_wp2_with fail
                  refine (weightZ x HX.out (hatz.below entR (btr bma ba)) (hrow.below (btr bma ba)) nz rz hrl).mono ?_
                  rintro e wb ⟨rfl, bb⟩
                  go_wp2_with fail
                  refine (weightZ v HV.out (haty.below entR (btr (btr bma ba) bb)) (hrow.below (btr (btr bma ba) bb)) ny ry hrl).mono ?_
                  rintro e wc ⟨rfl, bc⟩
                  have hbc := btr (btr (btr bma ba) bb) bc
                  clear q0 ba bb bc
                  go_wp2
                  go_roundw
                  case rel => exact ⟨k + 1, by omega, by go_num, hbc⟩
                  case measure => simp [intOf]; omega
                · have hkz1 : ¬ k < z.length := hkz
                  obtain ⟨m, rfl⟩ : ∃ m, k = z.length + m := ⟨k - z.length, by omega⟩
                  have hm : m < y.length := by omega
                  have hm1 : ((z.length + m : Nat) : Int) - (z.length : Int) = m := by omega
                  have hm2 : (z.length : Int) + (m : Int) - z.length = m := by omega
                  obtain ⟨b, off, RA, rc, hAe, hbl, hc0, -, -, hrow⟩ := haty.get m hm
                  have q0 := (hba.cell (p := ⟨b, off + m * 2, none⟩) (Nat.lt_of_lt_of_le hbl bm.size)).trans ((bm.cell (p := ⟨b, off + m * 2, none⟩) hbl).trans hc0)
                  have hrl := ry.get hm
                  first | subst hAe | (injection hAe with hAe; injection hAe with hA1 hA2; subst hA1; subst hA2)
                  have hw := HWA.out y[m].1
                  obtain ⟨x, hx⟩ : ∃ x, WeightF z y[m].1 = x := ⟨_, rfl⟩
                  obtain ⟨v, hv⟩ : ∃ v, WeightF y y[m].1 = v := ⟨_, rfl⟩
                  rw [hx, hv] at hw
                  have HW1 := Lib.hid hw.1
                  have HX := Lib.hid hx
                  have HV := Lib.hid hv
                  have hxb := hw.2.1
                  have hvb := hw.2.2
                  have hne : ((x + v) != (x + v)) = false := by simp
                  have bma := btr bm hba
                  clear hw hx hv hc0
                  go_wp2_with fail
                  refine (weightZ (x + v) HW1.out (hatn.below entR bma) (hrow.below bma) (Nat.le_trans hnl (by decide)) (rows_big HNR.out (by decide)) hrl).mono ?_
                  rintro e wa ⟨rfl, ba⟩
                  go_wp2_with fail
                  refine (weightZ x HX.out (hatz.below entR (btr bma ba)) (hrow.below (btr bma ba)) nz rz hrl).mono ?_
                  rintro e wb ⟨rfl, bb⟩
                  go_wp2_with fail
                  refine (weightZ v HV.out (haty.below entR (btr (btr bma ba) bb)) (hrow.below (btr (btr bma ba) bb)) ny ry hrl).mono ?_
                  rintro e wc ⟨rfl, bc⟩
                  have hbc := btr (btr (btr bma ba) bb) bc
                  clear q0 ba bb bc
                  go_wp2
                  go_roundw
                  case rel => exact ⟨z.length + m + 1, by omega, by go_num, hbc⟩
                  case measure => simp [intOf]; omega
              · obtain rfl : k = z.length + y.length := by omega
                have hlt1 : ¬ ((z.length : Int) + y.length < (z.length : Int) + y.length) := by omega
                obtain ⟨V, rfl⟩ : ∃ V : World, V = wr := ⟨wr, rfl⟩
                have BV := btr B3 bm
                have hatv := hatn.below entR bm
                go_wp2
                go_loopw [8] (fun i wr => ∃ k : Nat, k ≤ N.length ∧ i = .int .i64 k ∧ Below V.heap.size V wr) (fun i _ => N.length - (intOf i).toNat)
                case atStart => exact ⟨0, by omega, rfl, Below.refl _ _⟩
                case round =>
                  obtain ⟨i, hi, rfl, bi⟩ := hrel
                  by_cases hit : i < N.length
                  · obtain ⟨b, off, RA, rc, hAe, hbl, hc0, hc1, -, hrow⟩ := EntsAt.get (hatv.below entR bi) i hit
                    first | subst hAe | (injection hAe with hAe; injection hAe with hA1 hA2; subst hA1; subst hA2)
                    have q0 := cgrowZ hc0
                    have q1 := cgrowZ hc1
                    have hrl := (rows_big HNR.out (show 6 ≤ 4194304 by decide)).get hit
                    have hit' : (i : Int) < N.length := by omega
                    have hne : (N[i].2 != N[i].2) = false := by simp
                    have hcon := fun W (hW : Below wr.heap.size wr W) => weightZ (c := c2) (d := rc) N[i].2 (HWN.out i hit) ((hatv.below entR bi).below entR hW) (hrow.below hW) (Nat.le_trans hnl (by decide)) (rows_big HNR.out (by decide)) hrl
                    clear hc0 hc1
                    go_wp2_with fail
                    refine wp_region_quiet_below (by kernel_rfl) (by kernel_rfl) ?_
                    repeat (go_big_quiet_step (exact Calls.regrown_of (hcon _ (below_regrown _ _ _))))
                    refine wpQuiet_nil ?_
                    intro wq hwq
                    obtain ⟨⟨dq, osq⟩, rfl⟩ := hwq
                    have hbq := below_regrown wr dq osq
                    generalize grow (redrawn wr dq) osq = wx at hbq
                    have hbx := btr bi hbq
                    clear q0 q1 hbq hcon
                    go_wp2
                    go_roundw
                    case rel => exact ⟨i + 1, by omega, by go_num, hbx⟩
                    case measure => simp [intOf]; omega
                  · obtain rfl : i = N.length := by omega
                    go_wp2
                    go_ret
                    exact ⟨rfl, btr BV bi⟩
          · have hwz := wid_get hpz
            have hwy := wid_get hpy
            have hne : ((z[0].1.length : Int) != (y[0].1.length : Int)) = true := by rw [← hwz, ← hwy]; simp; omega
            clear hw hwz hwy SX SY
            obtain ⟨bbz, ooz, RRz, ssz, hAz, hblz, hcz, -, -, hrz⟩ := (EntsAt.get (SlOw.at_ entO hz.1) 0 hpz)
            simp only [Nat.zero_mul, Nat.add_zero] at hcz
            subst hAz
            obtain ⟨bby, ooy, RRy, ssy, hAy, hbly, hcy, -, -, hry⟩ := (EntsAt.get (SlOw.at_ entO hy.1) 0 hpy)
            simp only [Nat.zero_mul, Nat.add_zero] at hcy
            subst hAy
            go_wp2_with fail
            refine (Add_i _ _ (z) _ _ (y) _ (SlOw.at_ entO hz.1) (SlOw.at_ entO hy.1) (EntsOw.cap hz.1) (EntsOw.cap hy.1) nz rz ny ry).mono ?_
            rintro e w2 ⟨A2, c2, rfl, o2, b2⟩
            have B2 := btr B1 b2
            have a2 : EntsAt w2 A2 (AddF (z) (y)) := SlOw.at_ entO o2
            go_wp2_with fail
            refine wp_region_facts [[], [], [], [1, 2], [0, 1, 2, 3], [0, 1, 2, 3, 4], [0, 1, 2, 3, 4, 5], [0, 1, 2, 3, 4, 5, 6], [0, 1, 2, 3, 4, 5, 6, 7], [0, 1, 2, 3, 4, 5, 6, 7, 8], [0, 1, 2, 3, 4, 5, 6, 7, 8, 9], [0, 1, 2, 3, 4, 5, 6, 7, 8, 9, 10], [0, 1, 2, 3, 4, 5, 6, 7, 8, 9, 10, 11], [0, 1, 2, 3, 4, 5, 6, 7, 8, 9, 10, 11, 12], [0, 1, 2, 3, 4, 5, 6, 7, 8, 9, 10, 11, 12, 13], [0, 1, 2, 3, 4, 5, 6, 7, 8, 9, 10, 11, 12, 13, 14], [0, 1, 2, 3, 4, 5, 6, 7, 8, 9, 10, 11, 12, 13, 14, 15], [0, 1, 2, 3, 4, 5, 6, 7, 8, 9, 10, 11, 12, 13, 14, 15, 16], [0, 1, 2, 3, 4, 5, 6, 7, 8, 9, 10, 11, 12, 13, 14, 15, 16, 17], [0, 1, 2, 3, 4, 5, 6, 7, 8, 9, 10, 11, 12, 13, 14, 15, 16, 17, 18], [0, 1, 2, 3, 4, 5, 6, 7, 8, 9, 10, 11, 12, 13, 14, 15, 16, 17, 18, 19], [0, 1, 2, 3, 4, 5, 6, 7, 8, 9, 10, 11, 12, 13, 14, 15, 16, 17, 18, 19, 20], [0, 1, 2, 3, 4, 5, 6, 7, 8, 9, 10, 11, 12, 13, 14, 15, 16, 17, 18, 19, 20, 21], [0, 1, 2, 3, 4, 5, 6, 7, 8, 9, 10, 11, 12, 13, 14, 15, 16, 17, 18, 19, 20, 21, 22], [0, 1, 2, 3, 4, 5, 6, 7, 8, 9, 10, 11, 12, 13, 14, 15, 16, 17, 18, 19, 20, 21, 22, 23], [0, 1, 2, 3, 4, 5, 6, 7, 8, 9, 10, 11, 12, 13, 14, 15, 16, 17, 18, 19, 20, 21, 22, 23, 24], [0, 1, 2, 3, 4, 5, 6, 7, 8, 9, 10, 11, 12, 13, 14, 15, 16, 17, 18, 19, 20, 21, 22, 23, 24, 25], [0, 1, 2, 3, 4, 5, 6, 7, 8, 9, 10, 11, 12, 13, 14, 15, 16, 17, 18, 19, 20, 21, 22, 23, 24, 25, 26], [0, 1, 2, 3, 4, 5, 6, 7, 8, 9, 10, 11, 12, 13, 14, 15, 16, 17, 18, 19, 20, 21, 22, 23, 24, 25, 26, 27], [0, 1, 2, 3, 4, 5, 6, 7, 8, 9, 10, 11, 12, 13, 14, 15, 16, 17, 18, 19, 20, 21, 22, 23, 24, 25, 26, 27, 28], [0, 1, 2, 3, 4, 5, 6, 7, 8, 9, 10, 11, 12, 13, 14, 15, 16, 17, 18, 19, 20, 21, 22, 23, 24, 25, 26, 27, 28, 29], [0, 1, 2, 3, 4, 5, 6, 7, 8, 9, 10, 11, 12, 13, 14, 15, 16, 17, 18, 19, 20, 21, 22, 23, 24, 25], [0, 1, 2, 3, 4, 5, 6, 7, 8, 9, 10, 11, 12, 13, 14, 15, 16, 17, 18, 19, 20, 21, 22, 23, 24, 25, 31], [0, 1, 2, 3, 4, 5, 6, 7, 8, 9, 10, 11, 12, 13, 14, 15, 16, 17, 18, 19, 20, 21, 22, 23, 24, 25, 31, 32], [0, 1, 2, 3, 4, 5, 6, 7, 8, 9, 10, 11, 12, 13, 14, 15, 16, 17, 18, 19, 20, 21, 22, 23, 24, 25, 31, 32, 33], [0, 1, 2, 3, 4, 5, 6, 7, 8, 9, 10, 11, 12, 13, 14, 15, 16, 17, 18, 19, 20, 21, 22, 23, 24, 25, 31, 32, 33, 34], [0, 1, 2, 3, 4, 5, 6, 7, 8, 9, 10, 11, 12, 13, 14, 15, 16, 17, 18, 19, 20, 21, 22, 23, 24, 25, 26, 27, 28, 29, 30, 31, 32, 33, 34, 35], [0, 1, 2, 3, 4, 5, 6, 7, 8, 9, 10, 11, 12, 13, 14, 15, 16, 17, 18, 19, 20, 21, 22, 23, 24, 25, 26, 27, 28, 29, 30, 31, 32, 33, 34, 35, 36]]
              [fun v' _ => v' = .slice A2 (AddF z y).length c2, fun v' _ => v' = .slice (some ⟨bbz, ooz, none⟩) z.length cz, fun v' _ => v' = .slice (some ⟨bby, ooy, none⟩) y.length cy, ZVr (AddF (z) (y)), fun v' _ => v' = .bool true, fun v' _ => v' = .bool false, fun v' _ => v' = .bool false, fun v' _ => v' = .slice (some ⟨bbz, ooz, none⟩) z.length cz, fun v' _ => v' = .bool true, fun v' _ => v' = .bool false, fun v' _ => v' = .bool false, fun v' _ => v' = .bool false, fun v' _ => v' = .slice (some ⟨bby, ooy, none⟩) y.length cy, fun v' _ => v' = .bool true, fun v' _ => v' = .bool false, fun v' _ => v' = .bool false, fun v' _ => v' = .bool false, fun v' _ => v' = .slice (some ⟨bbz, ooz, none⟩) z.length cz, fun v' _ => v' = .int .i64 ((z.length : Nat)), fun v' _ => v' = .bool true, fun v' _ => v' = .bool true, fun v' _ => v' = .slice (some ⟨bby, ooy, none⟩) y.length cy, fun v' _ => v' = .int .i64 ((y.length : Nat)), fun v' _ => v' = .bool true, fun v' _ => v' = .bool true, fun v' _ => v' = .bool true, fun v' _ => v' = .slice (some ⟨bbz, ooz, none⟩) z.length cz, fun v' _ => v' = .pointer (some ⟨bbz, ooz, none⟩), fun v' _ => v' = .pointer (some ⟨bbz, ooz, none⟩), fun v' _ => v' = .slice RRz z[0].1.length ssz, fun v' _ => v' = .int .i64 ((z[0].1.length : Nat)), fun v' _ => v' = .slice (some ⟨bby, ooy, none⟩) y.length cy, fun v' _ => v' = .pointer (some ⟨bby, ooy, none⟩), fun v' _ => v' = .pointer (some ⟨bby, ooy, none⟩), fun v' _ => v' = .slice RRy y[0].1.length ssy, fun v' _ => v' = .int .i64 ((y[0].1.length : Nat)), fun v' _ => v' = .bool true, fun v' _ => v' = .bool true]
              (by kernel_rfl) (by kernel_rfl) rfl ⟨stable_pure _, stable_pure _, stable_pure _, stable_zVr _, stable_pure _, stable_pure _, stable_pure _, stable_pure _, stable_pure _, stable_pure _, stable_pure _, stable_pure _, stable_pure _, stable_pure _, stable_pure _, stable_pure _, stable_pure _, stable_pure _, stable_pure _, stable_pure _, stable_pure _, stable_pure _, stable_pure _, stable_pure _, stable_pure _, stable_pure _, stable_pure _, stable_pure _, stable_pure _, stable_pure _, stable_pure _, stable_pure _, stable_pure _, stable_pure _, stable_pure _, stable_pure _, stable_pure _, stable_pure _, trivial⟩ ?_
            refine wf_stepK [] [] (by kernel_rfl) (by kernel_rfl) (fun wf hb hf => ?_) (fun t0 => ?_)
            · refine ⟨?_⟩
              go_wp2
              exact ⟨rfl, .slice A2 (AddF z y).length c2, by kernel_rfl, Below.refl _ _, rfl⟩
            refine wf_stepK [] [] (by kernel_rfl) (by kernel_rfl) (fun wf hb hf => ?_) (fun t1 => ?_)
            · refine ⟨?_⟩
              go_wp2
              exact ⟨rfl, .slice (some ⟨bbz, ooz, none⟩) z.length cz, by kernel_rfl, Below.refl _ _, rfl⟩
            refine wf_stepK [] [] (by kernel_rfl) (by kernel_rfl) (fun wf hb hf => ?_) (fun t2 => ?_)
            · refine ⟨?_⟩
              go_wp2
              exact ⟨rfl, .slice (some ⟨bby, ooy, none⟩) y.length cy, by kernel_rfl, Below.refl _ _, rfl⟩
            refine wf_stepK [1, 2] [fun _ => t1 = .slice (some ⟨bbz, ooz, none⟩) z.length cz, fun _ => t2 = .slice (some ⟨bby, ooy, none⟩) y.length cy] (by kernel_rfl) (by kernel_rfl) (fun wf hb hf => ?_) (fun t3 => ?_)
            · obtain ⟨rfl, rfl, -⟩ := hf
              refine ⟨?_⟩
              go_wp2_with (go_at_call 28; refine (Add_s _ _ (z) _ _ (y) _ (((SlOw.at_ entO hz.1).below entR b2).below entR hb) (((SlOw.at_ entO hy.1).below entR b2).below entR hb) nz rz ny ry).mono ?_; rintro e w2 ⟨AN, cN, rfl, oN, hb2⟩)
              exact ⟨rfl, .slice AN (AddF (z) (y)).length cN, by kernel_rfl, hb2, AN, cN, rfl, SlOw.at_ entO oN, EntsOw.cap oN⟩
            refine wf_stepK [0, 3] [fun _ => t0 = .slice A2 (AddF z y).length c2, ZVr (AddF (z) (y)) t3] (by kernel_rfl) (by kernel_rfl) (fun wf hb hf => ?_) (fun t4 => ?_)
            · obtain ⟨rfl, ⟨XS1, xs1, rfl, hS1⟩, -⟩ := hf
              refine ⟨?_⟩
              go_wp2_with (go_at_call 15; refine (equalZ (xs := AddF (z) (y)) (ys := AddF (z) (y)) true (decide_eq_true rfl) (a2.below entR hb) hS1.1 (Nat.le_trans (AddF_len' _ _) (by decide)) (Nat.le_trans (AddF_len' _ _) (by decide)) (rows_big (AddF_row' _ _) (by decide)) (rows_big (AddF_row' _ _) (by decide))).mono ?_; rintro e w2 ⟨rfl, hb2⟩)
              exact ⟨rfl, .bool true, by kernel_rfl, hb2, rfl⟩
            refine wf_stepK [4] [fun _ => t4 = .bool true] (by kernel_rfl) (by kernel_rfl) (fun wf hb hf => ?_) (fun t5 => ?_)
            · obtain ⟨rfl, -⟩ := hf
              refine ⟨?_⟩
              go_wp2
              exact ⟨rfl, .bool false, by kernel_rfl, Below.refl _ _, rfl⟩
            refine wf_stepK [5] [fun _ => t5 = .bool false] (by kernel_rfl) (by kernel_rfl) (fun wf hb hf => ?_) (fun t6 => ?_)
            · obtain ⟨rfl, -⟩ := hf
              refine ⟨?_⟩
              go_wp2
              exact ⟨rfl, .bool false, by kernel_rfl, Below.refl _ _, rfl⟩
            refine wf_stepK [6] [fun _ => t6 = .bool false] (by kernel_rfl) (by kernel_rfl) (fun wf hb hf => ?_) (fun t7 => ?_)
            · obtain ⟨rfl, -⟩ := hf
              refine WfOp.yes (by kernel_rfl) ?_
              dsimp only
              go_wp2
              exact ⟨rfl, .slice (some ⟨bbz, ooz, none⟩) z.length cz, by kernel_rfl, Below.refl _ _, rfl⟩
            refine wf_stepK [6, 7] [fun _ => t6 = .bool false, fun _ => t7 = .slice (some ⟨bbz, ooz, none⟩) z.length cz] (by kernel_rfl) (by kernel_rfl) (fun wf hb hf => ?_) (fun t8 => ?_)
            · obtain ⟨rfl, rfl, -⟩ := hf
              refine WfOp.yes (by kernel_rfl) ?_
              dsimp only
              go_wp2_with (go_at_call 21; refine (smallZ true HS.out (((SlOw.at_ entO hz.1).below entR b2).below entR hb) nz rz).mono ?_; rintro e w2 ⟨rfl, hb2⟩)
              exact ⟨rfl, .bool true, by kernel_rfl, hb2, rfl⟩
            refine wf_stepK [6, 8] [fun _ => t6 = .bool false, fun _ => t8 = .bool true] (by kernel_rfl) (by kernel_rfl) (fun wf hb hf => ?_) (fun t9 => ?_)
            · obtain ⟨rfl, rfl, -⟩ := hf
              refine WfOp.yes (by kernel_rfl) ?_
              dsimp only
              go_wp2
              exact ⟨rfl, .bool false, by kernel_rfl, Below.refl _ _, rfl⟩
            refine wf_stepK [6, 9] [fun _ => t6 = .bool false, fun _ => t9 = .bool false] (by kernel_rfl) (by kernel_rfl) (fun wf hb hf => ?_) (fun t10 => ?_)
            · obtain ⟨rfl, rfl, -⟩ := hf
              refine ⟨?_⟩
              go_wp2
              exact ⟨rfl, .bool false, by kernel_rfl, Below.refl _ _, rfl⟩
            refine wf_stepK [10] [fun _ => t10 = .bool false] (by kernel_rfl) (by kernel_rfl) (fun wf hb hf => ?_) (fun t11 => ?_)
            · obtain ⟨rfl, -⟩ := hf
              refine ⟨?_⟩
              go_wp2
              exact ⟨rfl, .bool false, by kernel_rfl, Below.refl _ _, rfl⟩
            refine wf_stepK [11] [fun _ => t11 = .bool false] (by kernel_rfl) (by kernel_rfl) (fun wf hb hf => ?_) (fun t12 => ?_)
            · obtain ⟨rfl, -⟩ := hf
              refine WfOp.yes (by kernel_rfl) ?_
              dsimp only
              go_wp2
              exact ⟨rfl, .slice (some ⟨bby, ooy, none⟩) y.length cy, by kernel_rfl, Below.refl _ _, rfl⟩
            refine wf_stepK [11, 12] [fun _ => t11 = .bool false, fun _ => t12 = .slice (some ⟨bby, ooy, none⟩) y.length cy] (by kernel_rfl) (by kernel_rfl) (fun wf hb hf => ?_) (fun t13 => ?_)
            · obtain ⟨rfl, rfl, -⟩ := hf
              refine WfOp.yes (by kernel_rfl) ?_
              dsimp only
              go_wp2_with (go_at_call 21; refine (smallZ true HT.out (((SlOw.at_ entO hy.1).below entR b2).below entR hb) ny ry).mono ?_; rintro e w2 ⟨rfl, hb2⟩)
              exact ⟨rfl, .bool true, by kernel_rfl, hb2, rfl⟩
            refine wf_stepK [11, 13] [fun _ => t11 = .bool false, fun _ => t13 = .bool true] (by kernel_rfl) (by kernel_rfl) (fun wf hb hf => ?_) (fun t14 => ?_)
            · obtain ⟨rfl, rfl, -⟩ := hf
              refine WfOp.yes (by kernel_rfl) ?_
              dsimp only
              go_wp2
              exact ⟨rfl, .bool false, by kernel_rfl, Below.refl _ _, rfl⟩
            refine wf_stepK [11, 14] [fun _ => t11 = .bool false, fun _ => t14 = .bool false] (by kernel_rfl) (by kernel_rfl) (fun wf hb hf => ?_) (fun t15 => ?_)
            · obtain ⟨rfl, rfl, -⟩ := hf
              refine ⟨?_⟩
              go_wp2
              exact ⟨rfl, .bool false, by kernel_rfl, Below.refl _ _, rfl⟩
            refine wf_stepK [15] [fun _ => t15 = .bool false] (by kernel_rfl) (by kernel_rfl) (fun wf hb hf => ?_) (fun t16 => ?_)
            · obtain ⟨rfl, -⟩ := hf
              refine ⟨?_⟩
              go_wp2
              exact ⟨rfl, .bool false, by kernel_rfl, Below.refl _ _, rfl⟩
            refine wf_stepK [16] [fun _ => t16 = .bool false] (by kernel_rfl) (by kernel_rfl) (fun wf hb hf => ?_) (fun t17 => ?_)
            · obtain ⟨rfl, -⟩ := hf
              refine WfOp.yes (by kernel_rfl) ?_
              dsimp only
              go_wp2
              exact ⟨rfl, .slice (some ⟨bbz, ooz, none⟩) z.length cz, by kernel_rfl, Below.refl _ _, rfl⟩
            refine wf_stepK [16, 17] [fun _ => t16 = .bool false, fun _ => t17 = .slice (some ⟨bbz, ooz, none⟩) z.length cz] (by kernel_rfl) (by kernel_rfl) (fun wf hb hf => ?_) (fun t18 => ?_)
            · obtain ⟨rfl, rfl, -⟩ := hf
              refine WfOp.yes (by kernel_rfl) ?_
              dsimp only
              go_wp2
              exact ⟨rfl, .int .i64 ((z.length : Nat)), by kernel_rfl, Below.refl _ _, rfl⟩
            refine wf_stepK [16, 18] [fun _ => t16 = .bool false, fun _ => t18 = .int .i64 ((z.length : Nat))] (by kernel_rfl) (by kernel_rfl) (fun wf hb hf => ?_) (fun t19 => ?_)
            · obtain ⟨rfl, rfl, -⟩ := hf
              refine WfOp.yes (by kernel_rfl) ?_
              dsimp only
              go_wp2
              exact ⟨rfl, .bool true, by kernel_rfl, Below.refl _ _, rfl⟩
            refine wf_stepK [16, 19] [fun _ => t16 = .bool false, fun _ => t19 = .bool true] (by kernel_rfl) (by kernel_rfl) (fun wf hb hf => ?_) (fun t20 => ?_)
            · obtain ⟨rfl, rfl, -⟩ := hf
              refine WfOp.yes (by kernel_rfl) ?_
              dsimp only
              go_wp2
              exact ⟨rfl, .bool true, by kernel_rfl, Below.refl _ _, rfl⟩
            refine wf_stepK [20] [fun _ => t20 = .bool true] (by kernel_rfl) (by kernel_rfl) (fun wf hb hf => ?_) (fun t21 => ?_)
            · obtain ⟨rfl, -⟩ := hf
              refine WfOp.yes (by kernel_rfl) ?_
              dsimp only
              go_wp2
              exact ⟨rfl, .slice (some ⟨bby, ooy, none⟩) y.length cy, by kernel_rfl, Below.refl _ _, rfl⟩
            refine wf_stepK [20, 21] [fun _ => t20 = .bool true, fun _ => t21 = .slice (some ⟨bby, ooy, none⟩) y.length cy] (by kernel_rfl) (by kernel_rfl) (fun wf hb hf => ?_) (fun t22 => ?_)
            · obtain ⟨rfl, rfl, -⟩ := hf
              refine WfOp.yes (by kernel_rfl) ?_
              dsimp only
              go_wp2
              exact ⟨rfl, .int .i64 ((y.length : Nat)), by kernel_rfl, Below.refl _ _, rfl⟩
            refine wf_stepK [20, 22] [fun _ => t20 = .bool true, fun _ => t22 = .int .i64 ((y.length : Nat))] (by kernel_rfl) (by kernel_rfl) (fun wf hb hf => ?_) (fun t23 => ?_)
            · obtain ⟨rfl, rfl, -⟩ := hf
              refine WfOp.yes (by kernel_rfl) ?_
              dsimp only
              go_wp2
              exact ⟨rfl, .bool true, by kernel_rfl, Below.refl _ _, rfl⟩
            refine wf_stepK [16, 20, 23] [fun _ => t16 = .bool false, fun _ => t20 = .bool true, fun _ => t23 = .bool true] (by kernel_rfl) (by kernel_rfl) (fun wf hb hf => ?_) (fun t24 => ?_)
            · obtain ⟨rfl, rfl, rfl, -⟩ := hf
              refine WfOp.yes (by kernel_rfl) ?_
              dsimp only
              go_wp2
              exact ⟨rfl, .bool true, by kernel_rfl, Below.refl _ _, rfl⟩
            refine wf_stepK [16, 24] [fun _ => t16 = .bool false, fun _ => t24 = .bool true] (by kernel_rfl) (by kernel_rfl) (fun wf hb hf => ?_) (fun t25 => ?_)
            · obtain ⟨rfl, rfl, -⟩ := hf
              refine WfOp.yes (by kernel_rfl) ?_
              dsimp only
              go_wp2
              exact ⟨rfl, .bool true, by kernel_rfl, Below.refl _ _, rfl⟩
            refine wf_stepK [25] [fun _ => t25 = .bool true] (by kernel_rfl) (by kernel_rfl) (fun wf hb hf => ?_) (fun t26 => ?_)
            · obtain ⟨rfl, -⟩ := hf
              refine WfOp.yes (by kernel_rfl) ?_
              dsimp only
              go_wp2
              exact ⟨rfl, .slice (some ⟨bbz, ooz, none⟩) z.length cz, by kernel_rfl, Below.refl _ _, rfl⟩
            refine wf_stepK [25, 26] [fun _ => t25 = .bool true, fun _ => t26 = .slice (some ⟨bbz, ooz, none⟩) z.length cz] (by kernel_rfl) (by kernel_rfl) (fun wf hb hf => ?_) (fun t27 => ?_)
            · obtain ⟨rfl, rfl, -⟩ := hf
              refine WfOp.yes (by kernel_rfl) ?_
              dsimp only
              go_wp2
              exact ⟨rfl, .pointer (some ⟨bbz, ooz, none⟩), by kernel_rfl, Below.refl _ _, rfl⟩
            refine wf_stepK [25, 27] [fun _ => t25 = .bool true, fun _ => t27 = .pointer (some ⟨bbz, ooz, none⟩)] (by kernel_rfl) (by kernel_rfl) (fun wf hb hf => ?_) (fun t28 => ?_)
            · obtain ⟨rfl, rfl, -⟩ := hf
              refine WfOp.yes (by kernel_rfl) ?_
              dsimp only
              go_wp2
              exact ⟨rfl, .pointer (some ⟨bbz, ooz, none⟩), by kernel_rfl, Below.refl _ _, rfl⟩
            refine wf_stepK [25, 28] [fun _ => t25 = .bool true, fun _ => t28 = .pointer (some ⟨bbz, ooz, none⟩)] (by kernel_rfl) (by kernel_rfl) (fun wf hb hf => ?_) (fun t29 => ?_)
            · obtain ⟨rfl, rfl, -⟩ := hf
              refine WfOp.yes (by kernel_rfl) ?_
              dsimp only
              have cz := (Below.cell (p := ⟨bbz, ooz, none⟩) (btr b2 hb) hblz).trans hcz
              go_wp2
              exact ⟨rfl, .slice RRz z[0].1.length ssz, by kernel_rfl, Below.refl _ _, rfl⟩
            refine wf_stepK [25, 29] [fun _ => t25 = .bool true, fun _ => t29 = .slice RRz z[0].1.length ssz] (by kernel_rfl) (by kernel_rfl) (fun wf hb hf => ?_) (fun t30 => ?_)
            · obtain ⟨rfl, rfl, -⟩ := hf
              refine WfOp.yes (by kernel_rfl) ?_
              dsimp only
              go_wp2
              exact ⟨rfl, .int .i64 ((z[0].1.length : Nat)), by kernel_rfl, Below.refl _ _, rfl⟩
            refine wf_stepK [25] [fun _ => t25 = .bool true] (by kernel_rfl) (by kernel_rfl) (fun wf hb hf => ?_) (fun t31 => ?_)
            · obtain ⟨rfl, -⟩ := hf
              refine WfOp.yes (by kernel_rfl) ?_
              dsimp only
              go_wp2
              exact ⟨rfl, .slice (some ⟨bby, ooy, none⟩) y.length cy, by kernel_rfl, Below.refl _ _, rfl⟩
            refine wf_stepK [25, 31] [fun _ => t25 = .bool true, fun _ => t31 = .slice (some ⟨bby, ooy, none⟩) y.length cy] (by kernel_rfl) (by kernel_rfl) (fun wf hb hf => ?_) (fun t32 => ?_)
            · obtain ⟨rfl, rfl, -⟩ := hf
              refine WfOp.yes (by kernel_rfl) ?_
              dsimp only
              go_wp2
              exact ⟨rfl, .pointer (some ⟨bby, ooy, none⟩), by kernel_rfl, Below.refl _ _, rfl⟩
            refine wf_stepK [25, 32] [fun _ => t25 = .bool true, fun _ => t32 = .pointer (some ⟨bby, ooy, none⟩)] (by kernel_rfl) (by kernel_rfl) (fun wf hb hf => ?_) (fun t33 => ?_)
            · obtain ⟨rfl, rfl, -⟩ := hf
              refine WfOp.yes (by kernel_rfl) ?_
              dsimp only
              go_wp2
              exact ⟨rfl, .pointer (some ⟨bby, ooy, none⟩), by kernel_rfl, Below.refl _ _, rfl⟩
            refine wf_stepK [25, 33] [fun _ => t25 = .bool true, fun _ => t33 = .pointer (some ⟨bby, ooy, none⟩)] (by kernel_rfl) (by kernel_rfl) (fun wf hb hf => ?_) (fun t34 => ?_)
            · obtain ⟨rfl, rfl, -⟩ := hf
              refine WfOp.yes (by kernel_rfl) ?_
              dsimp only
              have cz := (Below.cell (p := ⟨bby, ooy, none⟩) (btr b2 hb) hbly).trans hcy
              go_wp2
              exact ⟨rfl, .slice RRy y[0].1.length ssy, by kernel_rfl, Below.refl _ _, rfl⟩
            refine wf_stepK [25, 34] [fun _ => t25 = .bool true, fun _ => t34 = .slice RRy y[0].1.length ssy] (by kernel_rfl) (by kernel_rfl) (fun wf hb hf => ?_) (fun t35 => ?_)
            · obtain ⟨rfl, rfl, -⟩ := hf
              refine WfOp.yes (by kernel_rfl) ?_
              dsimp only
              go_wp2
              exact ⟨rfl, .int .i64 ((y[0].1.length : Nat)), by kernel_rfl, Below.refl _ _, rfl⟩
            refine wf_stepK [25, 30, 35] [fun _ => t25 = .bool true, fun _ => t30 = .int .i64 ((z[0].1.length : Nat)), fun _ => t35 = .int .i64 ((y[0].1.length : Nat))] (by kernel_rfl) (by kernel_rfl) (fun wf hb hf => ?_) (fun t36 => ?_)
            · obtain ⟨rfl, rfl, rfl, -⟩ := hf
              refine WfOp.yes (by kernel_rfl) ?_
              dsimp only
              go_wp2
              exact ⟨rfl, .bool true, by kernel_rfl, Below.refl _ _, rfl⟩
            refine wf_stepK [16, 25, 36] [fun _ => t16 = .bool false, fun _ => t25 = .bool true, fun _ => t36 = .bool true] (by kernel_rfl) (by kernel_rfl) (fun wf hb hf => ?_) (fun t37 => ?_)
            · obtain ⟨rfl, rfl, rfl, -⟩ := hf
              refine WfOp.yes (by kernel_rfl) ?_
              dsimp only
              go_wp2
              exact ⟨rfl, .bool true, by kernel_rfl, Below.refl _ _, rfl⟩
            refine wf_doneK [16, 37] [fun _ => t16 = .bool false, fun _ => t37 = .bool true] (by kernel_rfl) (by kernel_rfl) (fun w3 b3 hf => ?_)
            obtain ⟨rfl, rfl, -⟩ := hf
            show wpList _ _ _ [_] _ _
            refine wpList_frame (by simp [Act.put]; rfl) ?_
            have B3 := btr B2 b3
            go_wp2_with fail
            refine (Add_s _ _ (z) _ _ (y) _ ((SlOw.at_ entO hz.1).below entR (btr b2 b3)) ((SlOw.at_ entO hy.1).below entR (btr b2 b3)) nz rz ny ry).mono ?_
            rintro e w4 ⟨A4, c4, rfl, o4, b4⟩
            have B4 := btr B3 b4
            have a4 : EntsAt w4 A4 (AddF (z) (y)) := SlOw.at_ entO o4
            go_wp2_with fail
            refine (equalZ (xs := AddF (z) (y)) (ys := AddF (z) (y)) true (decide_eq_true rfl) (a2.below entR (btr b3 b4)) a4 (Nat.le_trans (AddF_len' _ _) (by decide)) (Nat.le_trans (AddF_len' _ _) (by decide)) (rows_big (AddF_row' _ _) (by decide)) (rows_big (AddF_row' _ _) (by decide))).mono ?_
            rintro e w5 ⟨rfl, b5⟩
            have B5 := btr B4 b5
            go_wp2_with fail
            go_ret
            exact ⟨rfl, B5⟩

namespace lawFnWeightOf
theorem own : ownKnob Try.prog.godebug = none := by kernel_rfl
theorem laidOut : laidOutB Try.prog = true := clo_laid
set_option maxRecDepth 100000 in
theorem lifted (os : Os) (started : os.Started) (H : Type) (enc : TypeId × Value → H) :
    ReturnsInHanded {} Try.checked os 6 .any (Rows.fnWeightOfSpec.pre6 enc Try.prog Try.f6 Rows.fnWeightOfRow.domain false) (Rows.fnWeightOfSpec.post enc Try.prog Try.f6 false true false false) := by
  refine returnsInHanded_of_change (C := Try.checked) own started (by kernel_rfl) Try.func6
    (ChangeSpec.witness6 (enc := enc) (C := Try.checked) false ⟨#[], #[.slice none 0 0], []⟩ 8 (by kernel_rfl) (by kernel_rfl) (by kernel_rfl) (by kernel_rfl)) ?_
  intro W base args ds gs before hval0 hW hcnd _
  have hval : ∀ (j : Nat) t v, Try.f6.params[j]? = some t → args[j]? = some v → Value.okWide Try.prog W .any base t v := hval0
  have hW' := hW
  obtain ⟨p, q, hA0, hV, rfl, hfz, hnd⟩ := hW
  have hA : DataW.TrodAll enc Try.prog W 0 (fun _ => true) true Try.f6.params.toList args.toList ds p := hA0
  rw [Try.params6] at hA hval
  obtain ⟨v0, vs0, d0, ds0, p0, q0, hargs, rfl, rfl, h0, r0⟩ := trodAll_cons hA
  obtain ⟨rfl, rfl, rfl⟩ := trodAll_nil r0
  obtain rfl : args = #[v0] := by cases args; simp_all
  obtain ⟨rfl, rfl⟩ := trodVars_none hV
  have k0 := h0
  have lt0 : ∀ x ∈ p0, x.block < W.heap.size := by obtain ⟨m, hm⟩ := k0; exact DataW.trod_lt m _ _ _ hm
  obtain ⟨a0, len0, cap0, rfl⟩ := okWide_slice Try.underlying22 (hval 0 22 v0 rfl rfl)
  obtain ⟨l0, m0, w0⟩ := bytes_of Try.underlying22 Try.underlying5 (by kernel_rfl) h0
  clear hA0 hval0
  refine (FnWeightOf_walk a0 len0 cap0 W l0 m0 w0).mono fun e W' ⟨he, bel⟩ => ?_
  subst he
  exact ⟨_, rfl, _, _, _, [], _, [], hW', trodAll_mk1 (shut_bool Try.underlying4 _), (trodAll_cons_mk (Below.trod laidOut (by kernel_rfl) (of_decide_eq_true (by kernel_rfl)) k0 bel lt0) trodAll_mk0), rfl, bel.frame _, fun h => by cases h⟩
theorem andTT {a b : Bool} (h1 : a = true) (h2 : b = true) : (a && b) = true := by rw [h1, h2]; rfl
set_option maxHeartbeats 8000000 in
theorem closed : joinedFacts Try.prog 6 Try.f6 Rows.fnWeightOfSpec Rows.fnWeightOfRow = true := by
  unfold joinedFacts
  repeat' (with_reducible refine andTT ?_ ?_)
  all_goals (first | (with_reducible exact clo_laid) | (with_reducible exact clo_maps) | (with_reducible exact clo_heard) | (with_reducible exact clo_enter) | ((with_reducible refine clo_plain _ ?_); rfl) | ((with_reducible refine clo_lifts _ ?_); rfl) | (as_aux_lemma => kernel_rfl))

theorem over : Rows.fnWeightOfRow.holds Try.pinned (OpenSpec.ofChange Rows.fnWeightOfSpec) :=
  OpenClaim.holds_of_wide 6 Try.f6 rfl rfl rfl rfl rfl rfl rfl ⟨rfl, rfl, rfl, rfl, rfl⟩ rfl rfl rfl rfl rfl (by kernel_rfl) Try.func6 closed
    (of_decide_eq_true (by kernel_rfl)) (by unfold Func.isWrapper; first | (rw [if_pos (by decide +kernel)]; kernel_rfl) | (rw [if_neg (by decide +kernel)]; exact ⟨rfl, rfl⟩))
    (fun os started H enc _ => lifted os started H enc)

/-- THE STATEMENT. -/
theorem proved : Rows.FnWeightOfSaid := over
end lawFnWeightOf
end Go.Proofs.Ytjlpkfcdkmcjnaa
