/- The law FnAddAssociative returns true at every two codes; no condition. -/
import Derived.Test.YtjlpkfcdkmcjnaaDrawE
import Derived.Test.YtjlpkfcdkmcjnaaGrd
import Derived.Test.YtjlpkfcdkmcjnaaEntO
import Derived.Test.YtjlpkfcdkmcjnaaClo
import Derived.Carry
import Derived.ChangeOld
import Derived.Lib.SmallJoins
import Derived.Lib.QuietBelow
namespace Go.Proofs.Ytjlpkfcdkmcjnaa
open Go.ChangeShapes Go.WideShapes Go.ChangeAt Go.RowKit Go.Sort
set_option linter.unusedVariables false
set_option linter.unusedSimpArgs false

set_option maxRecDepth 100000 in
set_option maxHeartbeats 6400000 in
theorem FnAddAssociative_walk (A : Option Addr) (n c : Nat) (AA : Option Addr) (nn cc : Nat) (w : World) (hc : n ≤ c) (hl : n ≤ maxLen) (hb : BytesAt w w.heap.size A n) (hcc : nn ≤ cc) (hll : nn ≤ maxLen) (hbb : BytesAt w w.heap.size AA nn) :
    Calls Try.prog 7 #[.slice A n c, .slice AA nn cc] w fun e w' => e = .returned (.bool true) ∧ Below w.heap.size w w' := by
  unfold maxLen at hl hll
  by_cases hbign : 1048576 < n
  · have hb' : (1048576 : Int) < n := by omega
    go_enter Try.func7, Try.ntmps7
    go_wp2
    go_ret
    exact ⟨rfl, Below.refl _ _⟩
  have hbn' : (n : Int) ≤ 1048576 := by omega
  by_cases hbignn : 1048576 < nn
  · have hb' : (1048576 : Int) < nn := by omega
    go_enter Try.func7, Try.ntmps7
    go_wp2
    go_ret
    exact ⟨rfl, Below.refl _ _⟩
  have hbnn' : (nn : Int) ≤ 1048576 := by omega
  have HB := Lib.hid hb
  clear hb hbign
  have HBB := Lib.hid hbb
  clear hbb hbignn
  go_enter Try.func7, Try.ntmps7
  go_wp2_with fail
  refine (DrawAdd_r _ _ _ _ HB.out hc (by omega)).mono ?_
  rintro e w1 ⟨x, y, Ax, Ay, cx, cy, rfl, hx, hy, B1⟩
  have nx : x.length ≤ 4194304 := by have := hx.2.1; omega
  have rx : rowsIn x 4194304 := rows_big hx.2.2.1 (by decide)
  have ny : y.length ≤ 4194304 := by have := hy.2.1; omega
  have ry : rowsIn y 4194304 := rows_big hy.2.2.1 (by decide)
  go_wp2_with fail
  refine (Add_i _ _ (x) _ _ (y) _ (SlOw.at_ entO hx.1) (SlOw.at_ entO hy.1) (EntsOw.cap hx.1) (EntsOw.cap hy.1) nx rx ny ry).mono ?_
  rintro e w2 ⟨A2, c2, rfl, o2, b2⟩
  have B2 := btr B1 b2
  have a2 : EntsAt w2 A2 (AddF (x) (y)) := SlOw.at_ entO o2
  have hbb2 : BytesAt w2 w2.heap.size AA nn := fun hp => by
    obtain ⟨b, off, e, h1, h2⟩ := (HBB.out.below B2 (Nat.le_refl _)) hp
    exact ⟨b, off, e, by have := B2.size; omega, h2⟩
  go_wp2_with fail
  refine (DrawNegate_r _ _ _ _ hbb2 hcc (by omega)).mono ?_
  rintro e w3 ⟨v, Av, cv, rfl, hv, b3⟩
  have B3 := btr B2 b3
  have nv : v.length ≤ 4194304 := by have := hv.2.1; omega
  have rv : rowsIn v 4194304 := rows_big hv.2.2.1 (by decide)
  cases hSx : smB x
  · have HSx := Lib.hid hSx
    clear hSx
    go_wp2_with fail
    refine wp_region_facts [[], [], [], [1, 2], List.range 4, List.range 5, List.range 6, List.range 7, List.range 8, List.range 9, List.range 10, List.range 11, List.range 12, List.range 13, List.range 14, List.range 15, List.range 16, List.range 17, List.range 18, List.range 19, List.range 20, List.range 21, List.range 22, List.range 23, List.range 24, List.range 25, List.range 26, List.range 27, List.range 28, List.range 29, List.range 30, List.range 31, List.range 32, List.range 33, List.range 34, List.range 35, List.range 36, List.range 37, List.range 38, List.range 39, List.range 40, List.range 41, List.range 37, [0, 1, 2, 3, 4, 5, 6, 7, 8, 9, 10, 11, 12, 13, 14, 15, 16, 17, 18, 19, 20, 21, 22, 23, 24, 25, 26, 27, 28, 29, 30, 31, 32, 33, 34, 35, 36, 42], [0, 1, 2, 3, 4, 5, 6, 7, 8, 9, 10, 11, 12, 13, 14, 15, 16, 17, 18, 19, 20, 21, 22, 23, 24, 25, 26, 27, 28, 29, 30, 31, 32, 33, 34, 35, 36, 42, 43], [0, 1, 2, 3, 4, 5, 6, 7, 8, 9, 10, 11, 12, 13, 14, 15, 16, 17, 18, 19, 20, 21, 22, 23, 24, 25, 26, 27, 28, 29, 30, 31, 32, 33, 34, 35, 36, 42, 43, 44], [0, 1, 2, 3, 4, 5, 6, 7, 8, 9, 10, 11, 12, 13, 14, 15, 16, 17, 18, 19, 20, 21, 22, 23, 24, 25, 26, 27, 28, 29, 30, 31, 32, 33, 34, 35, 36, 42, 43, 44, 45], List.range 47, List.range 48, List.range 49, List.range 50, List.range 51, List.range 52, List.range 53, List.range 54, List.range 50, [0, 1, 2, 3, 4, 5, 6, 7, 8, 9, 10, 11, 12, 13, 14, 15, 16, 17, 18, 19, 20, 21, 22, 23, 24, 25, 26, 27, 28, 29, 30, 31, 32, 33, 34, 35, 36, 37, 38, 39, 40, 41, 42, 43, 44, 45, 46, 47, 48, 49, 55], [0, 1, 2, 3, 4, 5, 6, 7, 8, 9, 10, 11, 12, 13, 14, 15, 16, 17, 18, 19, 20, 21, 22, 23, 24, 25, 26, 27, 28, 29, 30, 31, 32, 33, 34, 35, 36, 37, 38, 39, 40, 41, 42, 43, 44, 45, 46, 47, 48, 49, 55, 56], [0, 1, 2, 3, 4, 5, 6, 7, 8, 9, 10, 11, 12, 13, 14, 15, 16, 17, 18, 19, 20, 21, 22, 23, 24, 25, 26, 27, 28, 29, 30, 31, 32, 33, 34, 35, 36, 37, 38, 39, 40, 41, 42, 43, 44, 45, 46, 47, 48, 49, 55, 56, 57], [0, 1, 2, 3, 4, 5, 6, 7, 8, 9, 10, 11, 12, 13, 14, 15, 16, 17, 18, 19, 20, 21, 22, 23, 24, 25, 26, 27, 28, 29, 30, 31, 32, 33, 34, 35, 36, 37, 38, 39, 40, 41, 42, 43, 44, 45, 46, 47, 48, 49, 55, 56, 57, 58], List.range 60]
      [fun v' _ => v' = .slice A2 (AddF (x) (y)).length c2, fun v' _ => v' = .slice Ax x.length cx, fun v' _ => v' = .slice Ay y.length cy, ZVr (AddF (x) (y)), fun v' _ => v' = .bool true, fun v' _ => v' = .bool false, fun v' _ => v' = .bool false, fun v' _ => v' = .slice Ax x.length cx, fun v' _ => v' = .bool false, fun v' _ => v' = .bool true, fun v' _ => v' = .bool true, fun v' _ => v' = .bool true, fun v' _ => v' = undef, fun v' _ => v' = undef, fun v' _ => v' = undef, fun v' _ => v' = .bool true, fun v' _ => v' = .bool true, fun v' _ => v' = undef, fun v' _ => v' = undef, fun v' _ => v' = undef, fun v' _ => v' = .bool true, fun v' _ => v' = .bool true, fun v' _ => v' = undef, fun v' _ => v' = undef, fun v' _ => v' = undef, fun v' _ => v' = .bool true, fun v' _ => v' = .bool true, fun v' _ => v' = undef, fun v' _ => v' = undef, fun v' _ => v' = undef, fun v' _ => v' = .bool true, fun v' _ => v' = .bool true, fun v' _ => v' = undef, fun v' _ => v' = undef, fun v' _ => v' = undef, fun v' _ => v' = .bool true, fun v' _ => v' = .bool true, fun v' _ => v' = undef, fun v' _ => v' = undef, fun v' _ => v' = undef, fun v' _ => v' = undef, fun v' _ => v' = undef, fun v' _ => v' = undef, fun v' _ => v' = undef, fun v' _ => v' = undef, fun v' _ => v' = undef, fun v' _ => v' = undef, fun v' _ => v' = undef, fun v' _ => v' = .bool true, fun v' _ => v' = .bool true, fun v' _ => v' = undef, fun v' _ => v' = undef, fun v' _ => v' = undef, fun v' _ => v' = undef, fun v' _ => v' = undef, fun v' _ => v' = undef, fun v' _ => v' = undef, fun v' _ => v' = undef, fun v' _ => v' = undef, fun v' _ => v' = undef, fun v' _ => v' = undef]
      (by kernel_rfl) (by kernel_rfl) rfl ⟨stable_pure _, stable_pure _, stable_pure _, stable_zVr _, stable_pure _, stable_pure _, stable_pure _, stable_pure _, stable_pure _, stable_pure _, stable_pure _, stable_pure _, stable_pure _, stable_pure _, stable_pure _, stable_pure _, stable_pure _, stable_pure _, stable_pure _, stable_pure _, stable_pure _, stable_pure _, stable_pure _, stable_pure _, stable_pure _, stable_pure _, stable_pure _, stable_pure _, stable_pure _, stable_pure _, stable_pure _, stable_pure _, stable_pure _, stable_pure _, stable_pure _, stable_pure _, stable_pure _, stable_pure _, stable_pure _, stable_pure _, stable_pure _, stable_pure _, stable_pure _, stable_pure _, stable_pure _, stable_pure _, stable_pure _, stable_pure _, stable_pure _, stable_pure _, stable_pure _, stable_pure _, stable_pure _, stable_pure _, stable_pure _, stable_pure _, stable_pure _, stable_pure _, stable_pure _, stable_pure _, stable_pure _, trivial⟩ ?_
    refine wf_stepK [] [] (by kernel_rfl) (by kernel_rfl) (fun wf hb hf => ?_) (fun t0 => ?_)
    · refine ⟨?_⟩
      go_wp2
      exact ⟨rfl, .slice A2 (AddF (x) (y)).length c2, by kernel_rfl, Below.refl _ _, rfl⟩
    refine wf_stepK [] [] (by kernel_rfl) (by kernel_rfl) (fun wf hb hf => ?_) (fun t1 => ?_)
    · refine ⟨?_⟩
      go_wp2
      exact ⟨rfl, .slice Ax x.length cx, by kernel_rfl, Below.refl _ _, rfl⟩
    refine wf_stepK [] [] (by kernel_rfl) (by kernel_rfl) (fun wf hb hf => ?_) (fun t2 => ?_)
    · refine ⟨?_⟩
      go_wp2
      exact ⟨rfl, .slice Ay y.length cy, by kernel_rfl, Below.refl _ _, rfl⟩
    refine wf_stepK [1, 2] [fun _ => t1 = .slice Ax x.length cx, fun _ => t2 = .slice Ay y.length cy] (by kernel_rfl) (by kernel_rfl) (fun wf hb hf => ?_) (fun t3 => ?_)
    · obtain ⟨rfl, rfl, -⟩ := hf
      refine ⟨?_⟩
      go_wp2_with (go_at_call 28; refine (Add_s _ _ (x) _ _ (y) _ (((SlOw.at_ entO hx.1).below entR (btr b2 b3)).below entR hb) (((SlOw.at_ entO hy.1).below entR (btr b2 b3)).below entR hb) nx rx ny ry).mono ?_; rintro e w2 ⟨AN, cN, rfl, oN, hb2⟩)
      exact ⟨rfl, .slice AN (AddF (x) (y)).length cN, by kernel_rfl, hb2, AN, cN, rfl, SlOw.at_ entO oN, EntsOw.cap oN⟩
    refine wf_stepK [0, 3] [fun _ => t0 = .slice A2 (AddF (x) (y)).length c2, ZVr (AddF (x) (y)) t3] (by kernel_rfl) (by kernel_rfl) (fun wf hb hf => ?_) (fun t4 => ?_)
    · obtain ⟨rfl, ⟨XS1, xs1, rfl, hS1⟩, -⟩ := hf
      refine ⟨?_⟩
      go_wp2_with (go_at_call 15; refine (equalZ (xs := AddF (x) (y)) (ys := AddF (x) (y)) true (decide_eq_true rfl) ((a2.below entR b3).below entR hb) hS1.1 (Nat.le_trans (AddF_len' _ _) (by decide)) (Nat.le_trans (AddF_len' _ _) (by decide)) (rows_big (AddF_row' _ _) (by decide)) (rows_big (AddF_row' _ _) (by decide))).mono ?_; rintro e w2 ⟨rfl, hb2⟩)
      exact ⟨rfl, .bool true, by kernel_rfl, hb2, rfl⟩
    refine wf_stepK [4] [fun _ => t4 = .bool true] (by kernel_rfl) (by kernel_rfl) (fun wf hb hf => ?_) (fun t5 => ?_)
    · obtain ⟨rfl, -⟩ := hf
      refine ⟨?_⟩
      go_wp2
      exact ⟨rfl, .bool false, by kernel_rfl, Below.refl _ _, rfl⟩
    refine wf_stepK [5] [fun _ => t5 = .bool false] (by kernel_rfl) (by kernel_rfl) (fun wf hb hf => ?_) (fun t6 => ?_)
    · obtain ⟨rfl, -⟩ := hf
      refine ⟨?_⟩
      go_wp2
      exact ⟨rfl, .bool false, by kernel_rfl, Below.refl _ _, rfl⟩
    refine wf_stepK [6] [fun _ => t6 = .bool false] (by kernel_rfl) (by kernel_rfl) (fun wf hb hf => ?_) (fun t7 => ?_)
    · obtain ⟨rfl, -⟩ := hf
      refine WfOp.yes (by kernel_rfl) ?_
      dsimp only
      go_wp2
      exact ⟨rfl, .slice Ax x.length cx, by kernel_rfl, Below.refl _ _, rfl⟩
    refine wf_stepK [6, 7] [fun _ => t6 = .bool false, fun _ => t7 = .slice Ax x.length cx] (by kernel_rfl) (by kernel_rfl) (fun wf hb hf => ?_) (fun t8 => ?_)
    · obtain ⟨rfl, rfl, -⟩ := hf
      refine WfOp.yes (by kernel_rfl) ?_
      dsimp only
      go_wp2_with (go_at_call 21; refine (smallZ false HSx.out (((SlOw.at_ entO hx.1).below entR (btr b2 b3)).below entR hb) nx rx).mono ?_; rintro e w2 ⟨rfl, hb2⟩)
      exact ⟨rfl, .bool false, by kernel_rfl, hb2, rfl⟩
    refine wf_stepK [6, 8] [fun _ => t6 = .bool false, fun _ => t8 = .bool false] (by kernel_rfl) (by kernel_rfl) (fun wf hb hf => ?_) (fun t9 => ?_)
    · obtain ⟨rfl, rfl, -⟩ := hf
      refine WfOp.yes (by kernel_rfl) ?_
      dsimp only
      go_wp2
      exact ⟨rfl, .bool true, by kernel_rfl, Below.refl _ _, rfl⟩
    refine wf_stepK [6, 9] [fun _ => t6 = .bool false, fun _ => t9 = .bool true] (by kernel_rfl) (by kernel_rfl) (fun wf hb hf => ?_) (fun t10 => ?_)
    · obtain ⟨rfl, rfl, -⟩ := hf
      refine ⟨?_⟩
      go_wp2
      exact ⟨rfl, .bool true, by kernel_rfl, Below.refl _ _, rfl⟩
    refine wf_stepK [10] [fun _ => t10 = .bool true] (by kernel_rfl) (by kernel_rfl) (fun wf hb hf => ?_) (fun t11 => ?_)
    · obtain ⟨rfl, -⟩ := hf
      refine ⟨?_⟩
      go_wp2
      exact ⟨rfl, .bool true, by kernel_rfl, Below.refl _ _, rfl⟩
    refine wf_stepK [11] [fun _ => t11 = .bool true] (by kernel_rfl) (by kernel_rfl) (fun wf hb hf => ?_) (fun t12 => ?_)
    · obtain ⟨rfl, -⟩ := hf
      exact WfOp.no (by kernel_rfl) rfl
    refine wf_stepK [11, 12] [fun _ => t11 = .bool true, fun _ => t12 = undef] (by kernel_rfl) (by kernel_rfl) (fun wf hb hf => ?_) (fun t13 => ?_)
    · obtain ⟨rfl, rfl, -⟩ := hf
      exact WfOp.no (by kernel_rfl) rfl
    refine wf_stepK [11, 13] [fun _ => t11 = .bool true, fun _ => t13 = undef] (by kernel_rfl) (by kernel_rfl) (fun wf hb hf => ?_) (fun t14 => ?_)
    · obtain ⟨rfl, rfl, -⟩ := hf
      exact WfOp.no (by kernel_rfl) rfl
    refine wf_stepK [11, 14] [fun _ => t11 = .bool true, fun _ => t14 = undef] (by kernel_rfl) (by kernel_rfl) (fun wf hb hf => ?_) (fun t15 => ?_)
    · obtain ⟨rfl, rfl, -⟩ := hf
      refine ⟨?_⟩
      go_wp2
      exact ⟨rfl, .bool true, by kernel_rfl, Below.refl _ _, rfl⟩
    refine wf_stepK [15] [fun _ => t15 = .bool true] (by kernel_rfl) (by kernel_rfl) (fun wf hb hf => ?_) (fun t16 => ?_)
    · obtain ⟨rfl, -⟩ := hf
      refine ⟨?_⟩
      go_wp2
      exact ⟨rfl, .bool true, by kernel_rfl, Below.refl _ _, rfl⟩
    refine wf_stepK [16] [fun _ => t16 = .bool true] (by kernel_rfl) (by kernel_rfl) (fun wf hb hf => ?_) (fun t17 => ?_)
    · obtain ⟨rfl, -⟩ := hf
      exact WfOp.no (by kernel_rfl) rfl
    refine wf_stepK [16, 17] [fun _ => t16 = .bool true, fun _ => t17 = undef] (by kernel_rfl) (by kernel_rfl) (fun wf hb hf => ?_) (fun t18 => ?_)
    · obtain ⟨rfl, rfl, -⟩ := hf
      exact WfOp.no (by kernel_rfl) rfl
    refine wf_stepK [16, 18] [fun _ => t16 = .bool true, fun _ => t18 = undef] (by kernel_rfl) (by kernel_rfl) (fun wf hb hf => ?_) (fun t19 => ?_)
    · obtain ⟨rfl, rfl, -⟩ := hf
      exact WfOp.no (by kernel_rfl) rfl
    refine wf_stepK [16, 19] [fun _ => t16 = .bool true, fun _ => t19 = undef] (by kernel_rfl) (by kernel_rfl) (fun wf hb hf => ?_) (fun t20 => ?_)
    · obtain ⟨rfl, rfl, -⟩ := hf
      refine ⟨?_⟩
      go_wp2
      exact ⟨rfl, .bool true, by kernel_rfl, Below.refl _ _, rfl⟩
    refine wf_stepK [20] [fun _ => t20 = .bool true] (by kernel_rfl) (by kernel_rfl) (fun wf hb hf => ?_) (fun t21 => ?_)
    · obtain ⟨rfl, -⟩ := hf
      refine ⟨?_⟩
      go_wp2
      exact ⟨rfl, .bool true, by kernel_rfl, Below.refl _ _, rfl⟩
    refine wf_stepK [21] [fun _ => t21 = .bool true] (by kernel_rfl) (by kernel_rfl) (fun wf hb hf => ?_) (fun t22 => ?_)
    · obtain ⟨rfl, -⟩ := hf
      exact WfOp.no (by kernel_rfl) rfl
    refine wf_stepK [21, 22] [fun _ => t21 = .bool true, fun _ => t22 = undef] (by kernel_rfl) (by kernel_rfl) (fun wf hb hf => ?_) (fun t23 => ?_)
    · obtain ⟨rfl, rfl, -⟩ := hf
      exact WfOp.no (by kernel_rfl) rfl
    refine wf_stepK [21, 23] [fun _ => t21 = .bool true, fun _ => t23 = undef] (by kernel_rfl) (by kernel_rfl) (fun wf hb hf => ?_) (fun t24 => ?_)
    · obtain ⟨rfl, rfl, -⟩ := hf
      exact WfOp.no (by kernel_rfl) rfl
    refine wf_stepK [21, 24] [fun _ => t21 = .bool true, fun _ => t24 = undef] (by kernel_rfl) (by kernel_rfl) (fun wf hb hf => ?_) (fun t25 => ?_)
    · obtain ⟨rfl, rfl, -⟩ := hf
      refine ⟨?_⟩
      go_wp2
      exact ⟨rfl, .bool true, by kernel_rfl, Below.refl _ _, rfl⟩
    refine wf_stepK [25] [fun _ => t25 = .bool true] (by kernel_rfl) (by kernel_rfl) (fun wf hb hf => ?_) (fun t26 => ?_)
    · obtain ⟨rfl, -⟩ := hf
      refine ⟨?_⟩
      go_wp2
      exact ⟨rfl, .bool true, by kernel_rfl, Below.refl _ _, rfl⟩
    refine wf_stepK [26] [fun _ => t26 = .bool true] (by kernel_rfl) (by kernel_rfl) (fun wf hb hf => ?_) (fun t27 => ?_)
    · obtain ⟨rfl, -⟩ := hf
      exact WfOp.no (by kernel_rfl) rfl
    refine wf_stepK [26, 27] [fun _ => t26 = .bool true, fun _ => t27 = undef] (by kernel_rfl) (by kernel_rfl) (fun wf hb hf => ?_) (fun t28 => ?_)
    · obtain ⟨rfl, rfl, -⟩ := hf
      exact WfOp.no (by kernel_rfl) rfl
    refine wf_stepK [26, 28] [fun _ => t26 = .bool true, fun _ => t28 = undef] (by kernel_rfl) (by kernel_rfl) (fun wf hb hf => ?_) (fun t29 => ?_)
    · obtain ⟨rfl, rfl, -⟩ := hf
      exact WfOp.no (by kernel_rfl) rfl
    refine wf_stepK [26, 29] [fun _ => t26 = .bool true, fun _ => t29 = undef] (by kernel_rfl) (by kernel_rfl) (fun wf hb hf => ?_) (fun t30 => ?_)
    · obtain ⟨rfl, rfl, -⟩ := hf
      refine ⟨?_⟩
      go_wp2
      exact ⟨rfl, .bool true, by kernel_rfl, Below.refl _ _, rfl⟩
    refine wf_stepK [30] [fun _ => t30 = .bool true] (by kernel_rfl) (by kernel_rfl) (fun wf hb hf => ?_) (fun t31 => ?_)
    · obtain ⟨rfl, -⟩ := hf
      refine ⟨?_⟩
      go_wp2
      exact ⟨rfl, .bool true, by kernel_rfl, Below.refl _ _, rfl⟩
    refine wf_stepK [31] [fun _ => t31 = .bool true] (by kernel_rfl) (by kernel_rfl) (fun wf hb hf => ?_) (fun t32 => ?_)
    · obtain ⟨rfl, -⟩ := hf
      exact WfOp.no (by kernel_rfl) rfl
    refine wf_stepK [31, 32] [fun _ => t31 = .bool true, fun _ => t32 = undef] (by kernel_rfl) (by kernel_rfl) (fun wf hb hf => ?_) (fun t33 => ?_)
    · obtain ⟨rfl, rfl, -⟩ := hf
      exact WfOp.no (by kernel_rfl) rfl
    refine wf_stepK [31, 33] [fun _ => t31 = .bool true, fun _ => t33 = undef] (by kernel_rfl) (by kernel_rfl) (fun wf hb hf => ?_) (fun t34 => ?_)
    · obtain ⟨rfl, rfl, -⟩ := hf
      exact WfOp.no (by kernel_rfl) rfl
    refine wf_stepK [31, 34] [fun _ => t31 = .bool true, fun _ => t34 = undef] (by kernel_rfl) (by kernel_rfl) (fun wf hb hf => ?_) (fun t35 => ?_)
    · obtain ⟨rfl, rfl, -⟩ := hf
      refine ⟨?_⟩
      go_wp2
      exact ⟨rfl, .bool true, by kernel_rfl, Below.refl _ _, rfl⟩
    refine wf_stepK [35] [fun _ => t35 = .bool true] (by kernel_rfl) (by kernel_rfl) (fun wf hb hf => ?_) (fun t36 => ?_)
    · obtain ⟨rfl, -⟩ := hf
      refine ⟨?_⟩
      go_wp2
      exact ⟨rfl, .bool true, by kernel_rfl, Below.refl _ _, rfl⟩
    refine wf_stepK [36] [fun _ => t36 = .bool true] (by kernel_rfl) (by kernel_rfl) (fun wf hb hf => ?_) (fun t37 => ?_)
    · obtain ⟨rfl, -⟩ := hf
      exact WfOp.no (by kernel_rfl) rfl
    refine wf_stepK [36, 37] [fun _ => t36 = .bool true, fun _ => t37 = undef] (by kernel_rfl) (by kernel_rfl) (fun wf hb hf => ?_) (fun t38 => ?_)
    · obtain ⟨rfl, rfl, -⟩ := hf
      exact WfOp.no (by kernel_rfl) rfl
    refine wf_stepK [36, 38] [fun _ => t36 = .bool true, fun _ => t38 = undef] (by kernel_rfl) (by kernel_rfl) (fun wf hb hf => ?_) (fun t39 => ?_)
    · obtain ⟨rfl, rfl, -⟩ := hf
      exact WfOp.no (by kernel_rfl) rfl
    refine wf_stepK [36, 39] [fun _ => t36 = .bool true, fun _ => t39 = undef] (by kernel_rfl) (by kernel_rfl) (fun wf hb hf => ?_) (fun t40 => ?_)
    · obtain ⟨rfl, rfl, -⟩ := hf
      exact WfOp.no (by kernel_rfl) rfl
    refine wf_stepK [36, 40] [fun _ => t36 = .bool true, fun _ => t40 = undef] (by kernel_rfl) (by kernel_rfl) (fun wf hb hf => ?_) (fun t41 => ?_)
    · obtain ⟨rfl, rfl, -⟩ := hf
      exact WfOp.no (by kernel_rfl) rfl
    refine wf_stepK [36] [fun _ => t36 = .bool true] (by kernel_rfl) (by kernel_rfl) (fun wf hb hf => ?_) (fun t42 => ?_)
    · obtain ⟨rfl, -⟩ := hf
      exact WfOp.no (by kernel_rfl) rfl
    refine wf_stepK [36, 42] [fun _ => t36 = .bool true, fun _ => t42 = undef] (by kernel_rfl) (by kernel_rfl) (fun wf hb hf => ?_) (fun t43 => ?_)
    · obtain ⟨rfl, rfl, -⟩ := hf
      exact WfOp.no (by kernel_rfl) rfl
    refine wf_stepK [36, 43] [fun _ => t36 = .bool true, fun _ => t43 = undef] (by kernel_rfl) (by kernel_rfl) (fun wf hb hf => ?_) (fun t44 => ?_)
    · obtain ⟨rfl, rfl, -⟩ := hf
      exact WfOp.no (by kernel_rfl) rfl
    refine wf_stepK [36, 44] [fun _ => t36 = .bool true, fun _ => t44 = undef] (by kernel_rfl) (by kernel_rfl) (fun wf hb hf => ?_) (fun t45 => ?_)
    · obtain ⟨rfl, rfl, -⟩ := hf
      exact WfOp.no (by kernel_rfl) rfl
    refine wf_stepK [36, 45] [fun _ => t36 = .bool true, fun _ => t45 = undef] (by kernel_rfl) (by kernel_rfl) (fun wf hb hf => ?_) (fun t46 => ?_)
    · obtain ⟨rfl, rfl, -⟩ := hf
      exact WfOp.no (by kernel_rfl) rfl
    refine wf_stepK [36, 41, 46] [fun _ => t36 = .bool true, fun _ => t41 = undef, fun _ => t46 = undef] (by kernel_rfl) (by kernel_rfl) (fun wf hb hf => ?_) (fun t47 => ?_)
    · obtain ⟨rfl, rfl, rfl, -⟩ := hf
      exact WfOp.no (by kernel_rfl) rfl
    refine wf_stepK [36, 47] [fun _ => t36 = .bool true, fun _ => t47 = undef] (by kernel_rfl) (by kernel_rfl) (fun wf hb hf => ?_) (fun t48 => ?_)
    · obtain ⟨rfl, rfl, -⟩ := hf
      refine ⟨?_⟩
      go_wp2
      exact ⟨rfl, .bool true, by kernel_rfl, Below.refl _ _, rfl⟩
    refine wf_stepK [48] [fun _ => t48 = .bool true] (by kernel_rfl) (by kernel_rfl) (fun wf hb hf => ?_) (fun t49 => ?_)
    · obtain ⟨rfl, -⟩ := hf
      refine ⟨?_⟩
      go_wp2
      exact ⟨rfl, .bool true, by kernel_rfl, Below.refl _ _, rfl⟩
    refine wf_stepK [49] [fun _ => t49 = .bool true] (by kernel_rfl) (by kernel_rfl) (fun wf hb hf => ?_) (fun t50 => ?_)
    · obtain ⟨rfl, -⟩ := hf
      exact WfOp.no (by kernel_rfl) rfl
    refine wf_stepK [49, 50] [fun _ => t49 = .bool true, fun _ => t50 = undef] (by kernel_rfl) (by kernel_rfl) (fun wf hb hf => ?_) (fun t51 => ?_)
    · obtain ⟨rfl, rfl, -⟩ := hf
      exact WfOp.no (by kernel_rfl) rfl
    refine wf_stepK [49, 51] [fun _ => t49 = .bool true, fun _ => t51 = undef] (by kernel_rfl) (by kernel_rfl) (fun wf hb hf => ?_) (fun t52 => ?_)
    · obtain ⟨rfl, rfl, -⟩ := hf
      exact WfOp.no (by kernel_rfl) rfl
    refine wf_stepK [49, 52] [fun _ => t49 = .bool true, fun _ => t52 = undef] (by kernel_rfl) (by kernel_rfl) (fun wf hb hf => ?_) (fun t53 => ?_)
    · obtain ⟨rfl, rfl, -⟩ := hf
      exact WfOp.no (by kernel_rfl) rfl
    refine wf_stepK [49, 53] [fun _ => t49 = .bool true, fun _ => t53 = undef] (by kernel_rfl) (by kernel_rfl) (fun wf hb hf => ?_) (fun t54 => ?_)
    · obtain ⟨rfl, rfl, -⟩ := hf
      exact WfOp.no (by kernel_rfl) rfl
    refine wf_stepK [49] [fun _ => t49 = .bool true] (by kernel_rfl) (by kernel_rfl) (fun wf hb hf => ?_) (fun t55 => ?_)
    · obtain ⟨rfl, -⟩ := hf
      exact WfOp.no (by kernel_rfl) rfl
    refine wf_stepK [49, 55] [fun _ => t49 = .bool true, fun _ => t55 = undef] (by kernel_rfl) (by kernel_rfl) (fun wf hb hf => ?_) (fun t56 => ?_)
    · obtain ⟨rfl, rfl, -⟩ := hf
      exact WfOp.no (by kernel_rfl) rfl
    refine wf_stepK [49, 56] [fun _ => t49 = .bool true, fun _ => t56 = undef] (by kernel_rfl) (by kernel_rfl) (fun wf hb hf => ?_) (fun t57 => ?_)
    · obtain ⟨rfl, rfl, -⟩ := hf
      exact WfOp.no (by kernel_rfl) rfl
    refine wf_stepK [49, 57] [fun _ => t49 = .bool true, fun _ => t57 = undef] (by kernel_rfl) (by kernel_rfl) (fun wf hb hf => ?_) (fun t58 => ?_)
    · obtain ⟨rfl, rfl, -⟩ := hf
      exact WfOp.no (by kernel_rfl) rfl
    refine wf_stepK [49, 58] [fun _ => t49 = .bool true, fun _ => t58 = undef] (by kernel_rfl) (by kernel_rfl) (fun wf hb hf => ?_) (fun t59 => ?_)
    · obtain ⟨rfl, rfl, -⟩ := hf
      exact WfOp.no (by kernel_rfl) rfl
    refine wf_stepK [49, 54, 59] [fun _ => t49 = .bool true, fun _ => t54 = undef, fun _ => t59 = undef] (by kernel_rfl) (by kernel_rfl) (fun wf hb hf => ?_) (fun t60 => ?_)
    · obtain ⟨rfl, rfl, rfl, -⟩ := hf
      exact WfOp.no (by kernel_rfl) rfl
    refine wf_doneK [49, 60] [fun _ => t49 = .bool true, fun _ => t60 = undef] (by kernel_rfl) (by kernel_rfl) (fun w4 b4 hf => ?_)
    obtain ⟨rfl, rfl, -⟩ := hf
    show wpList _ _ _ [_] _ _
    refine wpList_frame (by simp [Act.put]; rfl) ?_
    have B4 := btr B3 b4
    go_wp2_with fail
    refine (Add_s _ _ (x) _ _ (y) _ ((SlOw.at_ entO hx.1).below entR (btr (btr b2 b3) b4)) ((SlOw.at_ entO hy.1).below entR (btr (btr b2 b3) b4)) nx rx ny ry).mono ?_
    rintro e w5 ⟨A5, c5, rfl, o5, b5⟩
    have B5 := btr B4 b5
    have a5 : EntsAt w5 A5 (AddF (x) (y)) := SlOw.at_ entO o5
    go_wp2_with fail
    refine (equalZ (xs := AddF (x) (y)) (ys := AddF (x) (y)) true (decide_eq_true rfl) (a2.below entR (btr (btr b3 b4) b5)) a5 (Nat.le_trans (AddF_len' _ _) (by decide)) (Nat.le_trans (AddF_len' _ _) (by decide)) (rows_big (AddF_row' _ _) (by decide)) (rows_big (AddF_row' _ _) (by decide))).mono ?_
    rintro e w6 ⟨rfl, b6⟩
    have B6 := btr B5 b6
    go_wp2_with fail
    go_ret
    exact ⟨rfl, B6⟩
  · have Sx := smB_Sm hSx
    have HSx := Lib.hid hSx
    clear hSx
    cases hSy : smB y
    · have HSy := Lib.hid hSy
      clear hSy
      go_wp2_with fail
      refine wp_region_facts [[], [], [], [1, 2], List.range 4, List.range 5, List.range 6, List.range 7, List.range 8, List.range 9, List.range 10, List.range 11, List.range 12, List.range 13, List.range 14, List.range 15, List.range 16, List.range 17, List.range 18, List.range 19, List.range 20, List.range 21, List.range 22, List.range 23, List.range 24, List.range 25, List.range 26, List.range 27, List.range 28, List.range 29, List.range 30, List.range 31, List.range 32, List.range 33, List.range 34, List.range 35, List.range 36, List.range 37, List.range 38, List.range 39, List.range 40, List.range 41, List.range 37, [0, 1, 2, 3, 4, 5, 6, 7, 8, 9, 10, 11, 12, 13, 14, 15, 16, 17, 18, 19, 20, 21, 22, 23, 24, 25, 26, 27, 28, 29, 30, 31, 32, 33, 34, 35, 36, 42], [0, 1, 2, 3, 4, 5, 6, 7, 8, 9, 10, 11, 12, 13, 14, 15, 16, 17, 18, 19, 20, 21, 22, 23, 24, 25, 26, 27, 28, 29, 30, 31, 32, 33, 34, 35, 36, 42, 43], [0, 1, 2, 3, 4, 5, 6, 7, 8, 9, 10, 11, 12, 13, 14, 15, 16, 17, 18, 19, 20, 21, 22, 23, 24, 25, 26, 27, 28, 29, 30, 31, 32, 33, 34, 35, 36, 42, 43, 44], [0, 1, 2, 3, 4, 5, 6, 7, 8, 9, 10, 11, 12, 13, 14, 15, 16, 17, 18, 19, 20, 21, 22, 23, 24, 25, 26, 27, 28, 29, 30, 31, 32, 33, 34, 35, 36, 42, 43, 44, 45], List.range 47, List.range 48, List.range 49, List.range 50, List.range 51, List.range 52, List.range 53, List.range 54, List.range 50, [0, 1, 2, 3, 4, 5, 6, 7, 8, 9, 10, 11, 12, 13, 14, 15, 16, 17, 18, 19, 20, 21, 22, 23, 24, 25, 26, 27, 28, 29, 30, 31, 32, 33, 34, 35, 36, 37, 38, 39, 40, 41, 42, 43, 44, 45, 46, 47, 48, 49, 55], [0, 1, 2, 3, 4, 5, 6, 7, 8, 9, 10, 11, 12, 13, 14, 15, 16, 17, 18, 19, 20, 21, 22, 23, 24, 25, 26, 27, 28, 29, 30, 31, 32, 33, 34, 35, 36, 37, 38, 39, 40, 41, 42, 43, 44, 45, 46, 47, 48, 49, 55, 56], [0, 1, 2, 3, 4, 5, 6, 7, 8, 9, 10, 11, 12, 13, 14, 15, 16, 17, 18, 19, 20, 21, 22, 23, 24, 25, 26, 27, 28, 29, 30, 31, 32, 33, 34, 35, 36, 37, 38, 39, 40, 41, 42, 43, 44, 45, 46, 47, 48, 49, 55, 56, 57], [0, 1, 2, 3, 4, 5, 6, 7, 8, 9, 10, 11, 12, 13, 14, 15, 16, 17, 18, 19, 20, 21, 22, 23, 24, 25, 26, 27, 28, 29, 30, 31, 32, 33, 34, 35, 36, 37, 38, 39, 40, 41, 42, 43, 44, 45, 46, 47, 48, 49, 55, 56, 57, 58], List.range 60]
        [fun v' _ => v' = .slice A2 (AddF (x) (y)).length c2, fun v' _ => v' = .slice Ax x.length cx, fun v' _ => v' = .slice Ay y.length cy, ZVr (AddF (x) (y)), fun v' _ => v' = .bool true, fun v' _ => v' = .bool false, fun v' _ => v' = .bool false, fun v' _ => v' = .slice Ax x.length cx, fun v' _ => v' = .bool true, fun v' _ => v' = .bool false, fun v' _ => v' = .bool false, fun v' _ => v' = .bool false, fun v' _ => v' = .slice Ay y.length cy, fun v' _ => v' = .bool false, fun v' _ => v' = .bool true, fun v' _ => v' = .bool true, fun v' _ => v' = .bool true, fun v' _ => v' = undef, fun v' _ => v' = undef, fun v' _ => v' = undef, fun v' _ => v' = .bool true, fun v' _ => v' = .bool true, fun v' _ => v' = undef, fun v' _ => v' = undef, fun v' _ => v' = undef, fun v' _ => v' = .bool true, fun v' _ => v' = .bool true, fun v' _ => v' = undef, fun v' _ => v' = undef, fun v' _ => v' = undef, fun v' _ => v' = .bool true, fun v' _ => v' = .bool true, fun v' _ => v' = undef, fun v' _ => v' = undef, fun v' _ => v' = undef, fun v' _ => v' = .bool true, fun v' _ => v' = .bool true, fun v' _ => v' = undef, fun v' _ => v' = undef, fun v' _ => v' = undef, fun v' _ => v' = undef, fun v' _ => v' = undef, fun v' _ => v' = undef, fun v' _ => v' = undef, fun v' _ => v' = undef, fun v' _ => v' = undef, fun v' _ => v' = undef, fun v' _ => v' = undef, fun v' _ => v' = .bool true, fun v' _ => v' = .bool true, fun v' _ => v' = undef, fun v' _ => v' = undef, fun v' _ => v' = undef, fun v' _ => v' = undef, fun v' _ => v' = undef, fun v' _ => v' = undef, fun v' _ => v' = undef, fun v' _ => v' = undef, fun v' _ => v' = undef, fun v' _ => v' = undef, fun v' _ => v' = undef]
        (by kernel_rfl) (by kernel_rfl) rfl ⟨stable_pure _, stable_pure _, stable_pure _, stable_zVr _, stable_pure _, stable_pure _, stable_pure _, stable_pure _, stable_pure _, stable_pure _, stable_pure _, stable_pure _, stable_pure _, stable_pure _, stable_pure _, stable_pure _, stable_pure _, stable_pure _, stable_pure _, stable_pure _, stable_pure _, stable_pure _, stable_pure _, stable_pure _, stable_pure _, stable_pure _, stable_pure _, stable_pure _, stable_pure _, stable_pure _, stable_pure _, stable_pure _, stable_pure _, stable_pure _, stable_pure _, stable_pure _, stable_pure _, stable_pure _, stable_pure _, stable_pure _, stable_pure _, stable_pure _, stable_pure _, stable_pure _, stable_pure _, stable_pure _, stable_pure _, stable_pure _, stable_pure _, stable_pure _, stable_pure _, stable_pure _, stable_pure _, stable_pure _, stable_pure _, stable_pure _, stable_pure _, stable_pure _, stable_pure _, stable_pure _, stable_pure _, trivial⟩ ?_
      refine wf_stepK [] [] (by kernel_rfl) (by kernel_rfl) (fun wf hb hf => ?_) (fun t0 => ?_)
      · refine ⟨?_⟩
        go_wp2
        exact ⟨rfl, .slice A2 (AddF (x) (y)).length c2, by kernel_rfl, Below.refl _ _, rfl⟩
      refine wf_stepK [] [] (by kernel_rfl) (by kernel_rfl) (fun wf hb hf => ?_) (fun t1 => ?_)
      · refine ⟨?_⟩
        go_wp2
        exact ⟨rfl, .slice Ax x.length cx, by kernel_rfl, Below.refl _ _, rfl⟩
      refine wf_stepK [] [] (by kernel_rfl) (by kernel_rfl) (fun wf hb hf => ?_) (fun t2 => ?_)
      · refine ⟨?_⟩
        go_wp2
        exact ⟨rfl, .slice Ay y.length cy, by kernel_rfl, Below.refl _ _, rfl⟩
      refine wf_stepK [1, 2] [fun _ => t1 = .slice Ax x.length cx, fun _ => t2 = .slice Ay y.length cy] (by kernel_rfl) (by kernel_rfl) (fun wf hb hf => ?_) (fun t3 => ?_)
      · obtain ⟨rfl, rfl, -⟩ := hf
        refine ⟨?_⟩
        go_wp2_with (go_at_call 28; refine (Add_s _ _ (x) _ _ (y) _ (((SlOw.at_ entO hx.1).below entR (btr b2 b3)).below entR hb) (((SlOw.at_ entO hy.1).below entR (btr b2 b3)).below entR hb) nx rx ny ry).mono ?_; rintro e w2 ⟨AN, cN, rfl, oN, hb2⟩)
        exact ⟨rfl, .slice AN (AddF (x) (y)).length cN, by kernel_rfl, hb2, AN, cN, rfl, SlOw.at_ entO oN, EntsOw.cap oN⟩
      refine wf_stepK [0, 3] [fun _ => t0 = .slice A2 (AddF (x) (y)).length c2, ZVr (AddF (x) (y)) t3] (by kernel_rfl) (by kernel_rfl) (fun wf hb hf => ?_) (fun t4 => ?_)
      · obtain ⟨rfl, ⟨XS1, xs1, rfl, hS1⟩, -⟩ := hf
        refine ⟨?_⟩
        go_wp2_with (go_at_call 15; refine (equalZ (xs := AddF (x) (y)) (ys := AddF (x) (y)) true (decide_eq_true rfl) ((a2.below entR b3).below entR hb) hS1.1 (Nat.le_trans (AddF_len' _ _) (by decide)) (Nat.le_trans (AddF_len' _ _) (by decide)) (rows_big (AddF_row' _ _) (by decide)) (rows_big (AddF_row' _ _) (by decide))).mono ?_; rintro e w2 ⟨rfl, hb2⟩)
        exact ⟨rfl, .bool true, by kernel_rfl, hb2, rfl⟩
      refine wf_stepK [4] [fun _ => t4 = .bool true] (by kernel_rfl) (by kernel_rfl) (fun wf hb hf => ?_) (fun t5 => ?_)
      · obtain ⟨rfl, -⟩ := hf
        refine ⟨?_⟩
        go_wp2
        exact ⟨rfl, .bool false, by kernel_rfl, Below.refl _ _, rfl⟩
      refine wf_stepK [5] [fun _ => t5 = .bool false] (by kernel_rfl) (by kernel_rfl) (fun wf hb hf => ?_) (fun t6 => ?_)
      · obtain ⟨rfl, -⟩ := hf
        refine ⟨?_⟩
        go_wp2
        exact ⟨rfl, .bool false, by kernel_rfl, Below.refl _ _, rfl⟩
      refine wf_stepK [6] [fun _ => t6 = .bool false] (by kernel_rfl) (by kernel_rfl) (fun wf hb hf => ?_) (fun t7 => ?_)
      · obtain ⟨rfl, -⟩ := hf
        refine WfOp.yes (by kernel_rfl) ?_
        dsimp only
        go_wp2
        exact ⟨rfl, .slice Ax x.length cx, by kernel_rfl, Below.refl _ _, rfl⟩
      refine wf_stepK [6, 7] [fun _ => t6 = .bool false, fun _ => t7 = .slice Ax x.length cx] (by kernel_rfl) (by kernel_rfl) (fun wf hb hf => ?_) (fun t8 => ?_)
      · obtain ⟨rfl, rfl, -⟩ := hf
        refine WfOp.yes (by kernel_rfl) ?_
        dsimp only
        go_wp2_with (go_at_call 21; refine (smallZ true HSx.out (((SlOw.at_ entO hx.1).below entR (btr b2 b3)).below entR hb) nx rx).mono ?_; rintro e w2 ⟨rfl, hb2⟩)
        exact ⟨rfl, .bool true, by kernel_rfl, hb2, rfl⟩
      refine wf_stepK [6, 8] [fun _ => t6 = .bool false, fun _ => t8 = .bool true] (by kernel_rfl) (by kernel_rfl) (fun wf hb hf => ?_) (fun t9 => ?_)
      · obtain ⟨rfl, rfl, -⟩ := hf
        refine WfOp.yes (by kernel_rfl) ?_
        dsimp only
        go_wp2
        exact ⟨rfl, .bool false, by kernel_rfl, Below.refl _ _, rfl⟩
      refine wf_stepK [6, 9] [fun _ => t6 = .bool false, fun _ => t9 = .bool false] (by kernel_rfl) (by kernel_rfl) (fun wf hb hf => ?_) (fun t10 => ?_)
      · obtain ⟨rfl, rfl, -⟩ := hf
        refine ⟨?_⟩
        go_wp2
        exact ⟨rfl, .bool false, by kernel_rfl, Below.refl _ _, rfl⟩
      refine wf_stepK [10] [fun _ => t10 = .bool false] (by kernel_rfl) (by kernel_rfl) (fun wf hb hf => ?_) (fun t11 => ?_)
      · obtain ⟨rfl, -⟩ := hf
        refine ⟨?_⟩
        go_wp2
        exact ⟨rfl, .bool false, by kernel_rfl, Below.refl _ _, rfl⟩
      refine wf_stepK [11] [fun _ => t11 = .bool false] (by kernel_rfl) (by kernel_rfl) (fun wf hb hf => ?_) (fun t12 => ?_)
      · obtain ⟨rfl, -⟩ := hf
        refine WfOp.yes (by kernel_rfl) ?_
        dsimp only
        go_wp2
        exact ⟨rfl, .slice Ay y.length cy, by kernel_rfl, Below.refl _ _, rfl⟩
      refine wf_stepK [11, 12] [fun _ => t11 = .bool false, fun _ => t12 = .slice Ay y.length cy] (by kernel_rfl) (by kernel_rfl) (fun wf hb hf => ?_) (fun t13 => ?_)
      · obtain ⟨rfl, rfl, -⟩ := hf
        refine WfOp.yes (by kernel_rfl) ?_
        dsimp only
        go_wp2_with (go_at_call 21; refine (smallZ false HSy.out (((SlOw.at_ entO hy.1).below entR (btr b2 b3)).below entR hb) ny ry).mono ?_; rintro e w2 ⟨rfl, hb2⟩)
        exact ⟨rfl, .bool false, by kernel_rfl, hb2, rfl⟩
      refine wf_stepK [11, 13] [fun _ => t11 = .bool false, fun _ => t13 = .bool false] (by kernel_rfl) (by kernel_rfl) (fun wf hb hf => ?_) (fun t14 => ?_)
      · obtain ⟨rfl, rfl, -⟩ := hf
        refine WfOp.yes (by kernel_rfl) ?_
        dsimp only
        go_wp2
        exact ⟨rfl, .bool true, by kernel_rfl, Below.refl _ _, rfl⟩
      refine wf_stepK [11, 14] [fun _ => t11 = .bool false, fun _ => t14 = .bool true] (by kernel_rfl) (by kernel_rfl) (fun wf hb hf => ?_) (fun t15 => ?_)
      · obtain ⟨rfl, rfl, -⟩ := hf
        refine ⟨?_⟩
        go_wp2
        exact ⟨rfl, .bool true, by kernel_rfl, Below.refl _ _, rfl⟩
      refine wf_stepK [15] [fun _ => t15 = .bool true] (by kernel_rfl) (by kernel_rfl) (fun wf hb hf => ?_) (fun t16 => ?_)
      · obtain ⟨rfl, -⟩ := hf
        refine ⟨?_⟩
        go_wp2
        exact ⟨rfl, .bool true, by kernel_rfl, Below.refl _ _, rfl⟩
      refine wf_stepK [16] [fun _ => t16 = .bool true] (by kernel_rfl) (by kernel_rfl) (fun wf hb hf => ?_) (fun t17 => ?_)
      · obtain ⟨rfl, -⟩ := hf
        exact WfOp.no (by kernel_rfl) rfl
      refine wf_stepK [16, 17] [fun _ => t16 = .bool true, fun _ => t17 = undef] (by kernel_rfl) (by kernel_rfl) (fun wf hb hf => ?_) (fun t18 => ?_)
      · obtain ⟨rfl, rfl, -⟩ := hf
        exact WfOp.no (by kernel_rfl) rfl
      refine wf_stepK [16, 18] [fun _ => t16 = .bool true, fun _ => t18 = undef] (by kernel_rfl) (by kernel_rfl) (fun wf hb hf => ?_) (fun t19 => ?_)
      · obtain ⟨rfl, rfl, -⟩ := hf
        exact WfOp.no (by kernel_rfl) rfl
      refine wf_stepK [16, 19] [fun _ => t16 = .bool true, fun _ => t19 = undef] (by kernel_rfl) (by kernel_rfl) (fun wf hb hf => ?_) (fun t20 => ?_)
      · obtain ⟨rfl, rfl, -⟩ := hf
        refine ⟨?_⟩
        go_wp2
        exact ⟨rfl, .bool true, by kernel_rfl, Below.refl _ _, rfl⟩
      refine wf_stepK [20] [fun _ => t20 = .bool true] (by kernel_rfl) (by kernel_rfl) (fun wf hb hf => ?_) (fun t21 => ?_)
      · obtain ⟨rfl, -⟩ := hf
        refine ⟨?_⟩
        go_wp2
        exact ⟨rfl, .bool true, by kernel_rfl, Below.refl _ _, rfl⟩
      refine wf_stepK [21] [fun _ => t21 = .bool true] (by kernel_rfl) (by kernel_rfl) (fun wf hb hf => ?_) (fun t22 => ?_)
      · obtain ⟨rfl, -⟩ := hf
        exact WfOp.no (by kernel_rfl) rfl
      refine wf_stepK [21, 22] [fun _ => t21 = .bool true, fun _ => t22 = undef] (by kernel_rfl) (by kernel_rfl) (fun wf hb hf => ?_) (fun t23 => ?_)
      · obtain ⟨rfl, rfl, -⟩ := hf
        exact WfOp.no (by kernel_rfl) rfl
      refine wf_stepK [21, 23] [fun _ => t21 = .bool true, fun _ => t23 = undef] (by kernel_rfl) (by kernel_rfl) (fun wf hb hf => ?_) (fun t24 => ?_)
      · obtain ⟨rfl, rfl, -⟩ := hf
        exact WfOp.no (by kernel_rfl) rfl
      refine wf_stepK [21, 24] [fun _ => t21 = .bool true, fun _ => t24 = undef] (by kernel_rfl) (by kernel_rfl) (fun wf hb hf => ?_) (fun t25 => ?_)
      · obtain ⟨rfl, rfl, -⟩ := hf
        refine ⟨?_⟩
        go_wp2
        exact ⟨rfl, .bool true, by kernel_rfl, Below.refl _ _, rfl⟩
      refine wf_stepK [25] [fun _ => t25 = .bool true] (by kernel_rfl) (by kernel_rfl) (fun wf hb hf => ?_) (fun t26 => ?_)
      · obtain ⟨rfl, -⟩ := hf
        refine ⟨?_⟩
        go_wp2
        exact ⟨rfl, .bool true, by kernel_rfl, Below.refl _ _, rfl⟩
      refine wf_stepK [26] [fun _ => t26 = .bool true] (by kernel_rfl) (by kernel_rfl) (fun wf hb hf => ?_) (fun t27 => ?_)
      · obtain ⟨rfl, -⟩ := hf
        exact WfOp.no (by kernel_rfl) rfl
      refine wf_stepK [26, 27] [fun _ => t26 = .bool true, fun _ => t27 = undef] (by kernel_rfl) (by kernel_rfl) (fun wf hb hf => ?_) (fun t28 => ?_)
      · obtain ⟨rfl, rfl, -⟩ := hf
        exact WfOp.no (by kernel_rfl) rfl
      refine wf_stepK [26, 28] [fun _ => t26 = .bool true, fun _ => t28 = undef] (by kernel_rfl) (by kernel_rfl) (fun wf hb hf => ?_) (fun t29 => ?_)
      · obtain ⟨rfl, rfl, -⟩ := hf
        exact WfOp.no (by kernel_rfl) rfl
      refine wf_stepK [26, 29] [fun _ => t26 = .bool true, fun _ => t29 = undef] (by kernel_rfl) (by kernel_rfl) (fun wf hb hf => ?_) (fun t30 => ?_)
      · obtain ⟨rfl, rfl, -⟩ := hf
        refine ⟨?_⟩
        go_wp2
        exact ⟨rfl, .bool true, by kernel_rfl, Below.refl _ _, rfl⟩
      refine wf_stepK [30] [fun _ => t30 = .bool true] (by kernel_rfl) (by kernel_rfl) (fun wf hb hf => ?_) (fun t31 => ?_)
      · obtain ⟨rfl, -⟩ := hf
        refine ⟨?_⟩
        go_wp2
        exact ⟨rfl, .bool true, by kernel_rfl, Below.refl _ _, rfl⟩
      refine wf_stepK [31] [fun _ => t31 = .bool true] (by kernel_rfl) (by kernel_rfl) (fun wf hb hf => ?_) (fun t32 => ?_)
      · obtain ⟨rfl, -⟩ := hf
        exact WfOp.no (by kernel_rfl) rfl
      refine wf_stepK [31, 32] [fun _ => t31 = .bool true, fun _ => t32 = undef] (by kernel_rfl) (by kernel_rfl) (fun wf hb hf => ?_) (fun t33 => ?_)
      · obtain ⟨rfl, rfl, -⟩ := hf
        exact WfOp.no (by kernel_rfl) rfl
      refine wf_stepK [31, 33] [fun _ => t31 = .bool true, fun _ => t33 = undef] (by kernel_rfl) (by kernel_rfl) (fun wf hb hf => ?_) (fun t34 => ?_)
      · obtain ⟨rfl, rfl, -⟩ := hf
        exact WfOp.no (by kernel_rfl) rfl
      refine wf_stepK [31, 34] [fun _ => t31 = .bool true, fun _ => t34 = undef] (by kernel_rfl) (by kernel_rfl) (fun wf hb hf => ?_) (fun t35 => ?_)
      · obtain ⟨rfl, rfl, -⟩ := hf
        refine ⟨?_⟩
        go_wp2
        exact ⟨rfl, .bool true, by kernel_rfl, Below.refl _ _, rfl⟩
      refine wf_stepK [35] [fun _ => t35 = .bool true] (by kernel_rfl) (by kernel_rfl) (fun wf hb hf => ?_) (fun t36 => ?_)
      · obtain ⟨rfl, -⟩ := hf
        refine ⟨?_⟩
        go_wp2
        exact ⟨rfl, .bool true, by kernel_rfl, Below.refl _ _, rfl⟩
      refine wf_stepK [36] [fun _ => t36 = .bool true] (by kernel_rfl) (by kernel_rfl) (fun wf hb hf => ?_) (fun t37 => ?_)
      · obtain ⟨rfl, -⟩ := hf
        exact WfOp.no (by kernel_rfl) rfl
      refine wf_stepK [36, 37] [fun _ => t36 = .bool true, fun _ => t37 = undef] (by kernel_rfl) (by kernel_rfl) (fun wf hb hf => ?_) (fun t38 => ?_)
      · obtain ⟨rfl, rfl, -⟩ := hf
        exact WfOp.no (by kernel_rfl) rfl
      refine wf_stepK [36, 38] [fun _ => t36 = .bool true, fun _ => t38 = undef] (by kernel_rfl) (by kernel_rfl) (fun wf hb hf => ?_) (fun t39 => ?_)
      · obtain ⟨rfl, rfl, -⟩ := hf
        exact WfOp.no (by kernel_rfl) rfl
      refine wf_stepK [36, 39] [fun _ => t36 = .bool true, fun _ => t39 = undef] (by kernel_rfl) (by kernel_rfl) (fun wf hb hf => ?_) (fun t40 => ?_)
      · obtain ⟨rfl, rfl, -⟩ := hf
        exact WfOp.no (by kernel_rfl) rfl
      refine wf_stepK [36, 40] [fun _ => t36 = .bool true, fun _ => t40 = undef] (by kernel_rfl) (by kernel_rfl) (fun wf hb hf => ?_) (fun t41 => ?_)
      · obtain ⟨rfl, rfl, -⟩ := hf
        exact WfOp.no (by kernel_rfl) rfl
      refine wf_stepK [36] [fun _ => t36 = .bool true] (by kernel_rfl) (by kernel_rfl) (fun wf hb hf => ?_) (fun t42 => ?_)
      · obtain ⟨rfl, -⟩ := hf
        exact WfOp.no (by kernel_rfl) rfl
      refine wf_stepK [36, 42] [fun _ => t36 = .bool true, fun _ => t42 = undef] (by kernel_rfl) (by kernel_rfl) (fun wf hb hf => ?_) (fun t43 => ?_)
      · obtain ⟨rfl, rfl, -⟩ := hf
        exact WfOp.no (by kernel_rfl) rfl
      refine wf_stepK [36, 43] [fun _ => t36 = .bool true, fun _ => t43 = undef] (by kernel_rfl) (by kernel_rfl) (fun wf hb hf => ?_) (fun t44 => ?_)
      · obtain ⟨rfl, rfl, -⟩ := hf
        exact WfOp.no (by kernel_rfl) rfl
      refine wf_stepK [36, 44] [fun _ => t36 = .bool true, fun _ => t44 = undef] (by kernel_rfl) (by kernel_rfl) (fun wf hb hf => ?_) (fun t45 => ?_)
      · obtain ⟨rfl, rfl, -⟩ := hf
        exact WfOp.no (by kernel_rfl) rfl
      refine wf_stepK [36, 45] [fun _ => t36 = .bool true, fun _ => t45 = undef] (by kernel_rfl) (by kernel_rfl) (fun wf hb hf => ?_) (fun t46 => ?_)
      · obtain ⟨rfl, rfl, -⟩ := hf
        exact WfOp.no (by kernel_rfl) rfl
      refine wf_stepK [36, 41, 46] [fun _ => t36 = .bool true, fun _ => t41 = undef, fun _ => t46 = undef] (by kernel_rfl) (by kernel_rfl) (fun wf hb hf => ?_) (fun t47 => ?_)
      · obtain ⟨rfl, rfl, rfl, -⟩ := hf
        exact WfOp.no (by kernel_rfl) rfl
      refine wf_stepK [36, 47] [fun _ => t36 = .bool true, fun _ => t47 = undef] (by kernel_rfl) (by kernel_rfl) (fun wf hb hf => ?_) (fun t48 => ?_)
      · obtain ⟨rfl, rfl, -⟩ := hf
        refine ⟨?_⟩
        go_wp2
        exact ⟨rfl, .bool true, by kernel_rfl, Below.refl _ _, rfl⟩
      refine wf_stepK [48] [fun _ => t48 = .bool true] (by kernel_rfl) (by kernel_rfl) (fun wf hb hf => ?_) (fun t49 => ?_)
      · obtain ⟨rfl, -⟩ := hf
        refine ⟨?_⟩
        go_wp2
        exact ⟨rfl, .bool true, by kernel_rfl, Below.refl _ _, rfl⟩
      refine wf_stepK [49] [fun _ => t49 = .bool true] (by kernel_rfl) (by kernel_rfl) (fun wf hb hf => ?_) (fun t50 => ?_)
      · obtain ⟨rfl, -⟩ := hf
        exact WfOp.no (by kernel_rfl) rfl
      refine wf_stepK [49, 50] [fun _ => t49 = .bool true, fun _ => t50 = undef] (by kernel_rfl) (by kernel_rfl) (fun wf hb hf => ?_) (fun t51 => ?_)
      · obtain ⟨rfl, rfl, -⟩ := hf
        exact WfOp.no (by kernel_rfl) rfl
      refine wf_stepK [49, 51] [fun _ => t49 = .bool true, fun _ => t51 = undef] (by kernel_rfl) (by kernel_rfl) (fun wf hb hf => ?_) (fun t52 => ?_)
      · obtain ⟨rfl, rfl, -⟩ := hf
        exact WfOp.no (by kernel_rfl) rfl
      refine wf_stepK [49, 52] [fun _ => t49 = .bool true, fun _ => t52 = undef] (by kernel_rfl) (by kernel_rfl) (fun wf hb hf => ?_) (fun t53 => ?_)
      · obtain ⟨rfl, rfl, -⟩ := hf
        exact WfOp.no (by kernel_rfl) rfl
      refine wf_stepK [49, 53] [fun _ => t49 = .bool true, fun _ => t53 = undef] (by kernel_rfl) (by kernel_rfl) (fun wf hb hf => ?_) (fun t54 => ?_)
      · obtain ⟨rfl, rfl, -⟩ := hf
        exact WfOp.no (by kernel_rfl) rfl
      refine wf_stepK [49] [fun _ => t49 = .bool true] (by kernel_rfl) (by kernel_rfl) (fun wf hb hf => ?_) (fun t55 => ?_)
      · obtain ⟨rfl, -⟩ := hf
        exact WfOp.no (by kernel_rfl) rfl
      refine wf_stepK [49, 55] [fun _ => t49 = .bool true, fun _ => t55 = undef] (by kernel_rfl) (by kernel_rfl) (fun wf hb hf => ?_) (fun t56 => ?_)
      · obtain ⟨rfl, rfl, -⟩ := hf
        exact WfOp.no (by kernel_rfl) rfl
      refine wf_stepK [49, 56] [fun _ => t49 = .bool true, fun _ => t56 = undef] (by kernel_rfl) (by kernel_rfl) (fun wf hb hf => ?_) (fun t57 => ?_)
      · obtain ⟨rfl, rfl, -⟩ := hf
        exact WfOp.no (by kernel_rfl) rfl
      refine wf_stepK [49, 57] [fun _ => t49 = .bool true, fun _ => t57 = undef] (by kernel_rfl) (by kernel_rfl) (fun wf hb hf => ?_) (fun t58 => ?_)
      · obtain ⟨rfl, rfl, -⟩ := hf
        exact WfOp.no (by kernel_rfl) rfl
      refine wf_stepK [49, 58] [fun _ => t49 = .bool true, fun _ => t58 = undef] (by kernel_rfl) (by kernel_rfl) (fun wf hb hf => ?_) (fun t59 => ?_)
      · obtain ⟨rfl, rfl, -⟩ := hf
        exact WfOp.no (by kernel_rfl) rfl
      refine wf_stepK [49, 54, 59] [fun _ => t49 = .bool true, fun _ => t54 = undef, fun _ => t59 = undef] (by kernel_rfl) (by kernel_rfl) (fun wf hb hf => ?_) (fun t60 => ?_)
      · obtain ⟨rfl, rfl, rfl, -⟩ := hf
        exact WfOp.no (by kernel_rfl) rfl
      refine wf_doneK [49, 60] [fun _ => t49 = .bool true, fun _ => t60 = undef] (by kernel_rfl) (by kernel_rfl) (fun w4 b4 hf => ?_)
      obtain ⟨rfl, rfl, -⟩ := hf
      show wpList _ _ _ [_] _ _
      refine wpList_frame (by simp [Act.put]; rfl) ?_
      have B4 := btr B3 b4
      go_wp2_with fail
      refine (Add_s _ _ (x) _ _ (y) _ ((SlOw.at_ entO hx.1).below entR (btr (btr b2 b3) b4)) ((SlOw.at_ entO hy.1).below entR (btr (btr b2 b3) b4)) nx rx ny ry).mono ?_
      rintro e w5 ⟨A5, c5, rfl, o5, b5⟩
      have B5 := btr B4 b5
      have a5 : EntsAt w5 A5 (AddF (x) (y)) := SlOw.at_ entO o5
      go_wp2_with fail
      refine (equalZ (xs := AddF (x) (y)) (ys := AddF (x) (y)) true (decide_eq_true rfl) (a2.below entR (btr (btr b3 b4) b5)) a5 (Nat.le_trans (AddF_len' _ _) (by decide)) (Nat.le_trans (AddF_len' _ _) (by decide)) (rows_big (AddF_row' _ _) (by decide)) (rows_big (AddF_row' _ _) (by decide))).mono ?_
      rintro e w6 ⟨rfl, b6⟩
      have B6 := btr B5 b6
      go_wp2_with fail
      go_ret
      exact ⟨rfl, B6⟩
    · have Sy := smB_Sm hSy
      have HSy := Lib.hid hSy
      clear hSy
      cases hSv : smB v
      · have HSv := Lib.hid hSv
        clear hSv
        go_wp2_with fail
        refine wp_region_facts [[], [], [], [1, 2], List.range 4, List.range 5, List.range 6, List.range 7, List.range 8, List.range 9, List.range 10, List.range 11, List.range 12, List.range 13, List.range 14, List.range 15, List.range 16, List.range 17, List.range 18, List.range 19, List.range 20, List.range 21, List.range 22, List.range 23, List.range 24, List.range 25, List.range 26, List.range 27, List.range 28, List.range 29, List.range 30, List.range 31, List.range 32, List.range 33, List.range 34, List.range 35, List.range 36, List.range 37, List.range 38, List.range 39, List.range 40, List.range 41, List.range 37, [0, 1, 2, 3, 4, 5, 6, 7, 8, 9, 10, 11, 12, 13, 14, 15, 16, 17, 18, 19, 20, 21, 22, 23, 24, 25, 26, 27, 28, 29, 30, 31, 32, 33, 34, 35, 36, 42], [0, 1, 2, 3, 4, 5, 6, 7, 8, 9, 10, 11, 12, 13, 14, 15, 16, 17, 18, 19, 20, 21, 22, 23, 24, 25, 26, 27, 28, 29, 30, 31, 32, 33, 34, 35, 36, 42, 43], [0, 1, 2, 3, 4, 5, 6, 7, 8, 9, 10, 11, 12, 13, 14, 15, 16, 17, 18, 19, 20, 21, 22, 23, 24, 25, 26, 27, 28, 29, 30, 31, 32, 33, 34, 35, 36, 42, 43, 44], [0, 1, 2, 3, 4, 5, 6, 7, 8, 9, 10, 11, 12, 13, 14, 15, 16, 17, 18, 19, 20, 21, 22, 23, 24, 25, 26, 27, 28, 29, 30, 31, 32, 33, 34, 35, 36, 42, 43, 44, 45], List.range 47, List.range 48, List.range 49, List.range 50, List.range 51, List.range 52, List.range 53, List.range 54, List.range 50, [0, 1, 2, 3, 4, 5, 6, 7, 8, 9, 10, 11, 12, 13, 14, 15, 16, 17, 18, 19, 20, 21, 22, 23, 24, 25, 26, 27, 28, 29, 30, 31, 32, 33, 34, 35, 36, 37, 38, 39, 40, 41, 42, 43, 44, 45, 46, 47, 48, 49, 55], [0, 1, 2, 3, 4, 5, 6, 7, 8, 9, 10, 11, 12, 13, 14, 15, 16, 17, 18, 19, 20, 21, 22, 23, 24, 25, 26, 27, 28, 29, 30, 31, 32, 33, 34, 35, 36, 37, 38, 39, 40, 41, 42, 43, 44, 45, 46, 47, 48, 49, 55, 56], [0, 1, 2, 3, 4, 5, 6, 7, 8, 9, 10, 11, 12, 13, 14, 15, 16, 17, 18, 19, 20, 21, 22, 23, 24, 25, 26, 27, 28, 29, 30, 31, 32, 33, 34, 35, 36, 37, 38, 39, 40, 41, 42, 43, 44, 45, 46, 47, 48, 49, 55, 56, 57], [0, 1, 2, 3, 4, 5, 6, 7, 8, 9, 10, 11, 12, 13, 14, 15, 16, 17, 18, 19, 20, 21, 22, 23, 24, 25, 26, 27, 28, 29, 30, 31, 32, 33, 34, 35, 36, 37, 38, 39, 40, 41, 42, 43, 44, 45, 46, 47, 48, 49, 55, 56, 57, 58], List.range 60]
          [fun v' _ => v' = .slice A2 (AddF (x) (y)).length c2, fun v' _ => v' = .slice Ax x.length cx, fun v' _ => v' = .slice Ay y.length cy, ZVr (AddF (x) (y)), fun v' _ => v' = .bool true, fun v' _ => v' = .bool false, fun v' _ => v' = .bool false, fun v' _ => v' = .slice Ax x.length cx, fun v' _ => v' = .bool true, fun v' _ => v' = .bool false, fun v' _ => v' = .bool false, fun v' _ => v' = .bool false, fun v' _ => v' = .slice Ay y.length cy, fun v' _ => v' = .bool true, fun v' _ => v' = .bool false, fun v' _ => v' = .bool false, fun v' _ => v' = .bool false, fun v' _ => v' = .slice Av v.length cv, fun v' _ => v' = .bool false, fun v' _ => v' = .bool true, fun v' _ => v' = .bool true, fun v' _ => v' = .bool true, fun v' _ => v' = undef, fun v' _ => v' = undef, fun v' _ => v' = undef, fun v' _ => v' = .bool true, fun v' _ => v' = .bool true, fun v' _ => v' = undef, fun v' _ => v' = undef, fun v' _ => v' = undef, fun v' _ => v' = .bool true, fun v' _ => v' = .bool true, fun v' _ => v' = undef, fun v' _ => v' = undef, fun v' _ => v' = undef, fun v' _ => v' = .bool true, fun v' _ => v' = .bool true, fun v' _ => v' = undef, fun v' _ => v' = undef, fun v' _ => v' = undef, fun v' _ => v' = undef, fun v' _ => v' = undef, fun v' _ => v' = undef, fun v' _ => v' = undef, fun v' _ => v' = undef, fun v' _ => v' = undef, fun v' _ => v' = undef, fun v' _ => v' = undef, fun v' _ => v' = .bool true, fun v' _ => v' = .bool true, fun v' _ => v' = undef, fun v' _ => v' = undef, fun v' _ => v' = undef, fun v' _ => v' = undef, fun v' _ => v' = undef, fun v' _ => v' = undef, fun v' _ => v' = undef, fun v' _ => v' = undef, fun v' _ => v' = undef, fun v' _ => v' = undef, fun v' _ => v' = undef]
          (by kernel_rfl) (by kernel_rfl) rfl ⟨stable_pure _, stable_pure _, stable_pure _, stable_zVr _, stable_pure _, stable_pure _, stable_pure _, stable_pure _, stable_pure _, stable_pure _, stable_pure _, stable_pure _, stable_pure _, stable_pure _, stable_pure _, stable_pure _, stable_pure _, stable_pure _, stable_pure _, stable_pure _, stable_pure _, stable_pure _, stable_pure _, stable_pure _, stable_pure _, stable_pure _, stable_pure _, stable_pure _, stable_pure _, stable_pure _, stable_pure _, stable_pure _, stable_pure _, stable_pure _, stable_pure _, stable_pure _, stable_pure _, stable_pure _, stable_pure _, stable_pure _, stable_pure _, stable_pure _, stable_pure _, stable_pure _, stable_pure _, stable_pure _, stable_pure _, stable_pure _, stable_pure _, stable_pure _, stable_pure _, stable_pure _, stable_pure _, stable_pure _, stable_pure _, stable_pure _, stable_pure _, stable_pure _, stable_pure _, stable_pure _, stable_pure _, trivial⟩ ?_
        refine wf_stepK [] [] (by kernel_rfl) (by kernel_rfl) (fun wf hb hf => ?_) (fun t0 => ?_)
        · refine ⟨?_⟩
          go_wp2
          exact ⟨rfl, .slice A2 (AddF (x) (y)).length c2, by kernel_rfl, Below.refl _ _, rfl⟩
        refine wf_stepK [] [] (by kernel_rfl) (by kernel_rfl) (fun wf hb hf => ?_) (fun t1 => ?_)
        · refine ⟨?_⟩
          go_wp2
          exact ⟨rfl, .slice Ax x.length cx, by kernel_rfl, Below.refl _ _, rfl⟩
        refine wf_stepK [] [] (by kernel_rfl) (by kernel_rfl) (fun wf hb hf => ?_) (fun t2 => ?_)
        · refine ⟨?_⟩
          go_wp2
          exact ⟨rfl, .slice Ay y.length cy, by kernel_rfl, Below.refl _ _, rfl⟩
        refine wf_stepK [1, 2] [fun _ => t1 = .slice Ax x.length cx, fun _ => t2 = .slice Ay y.length cy] (by kernel_rfl) (by kernel_rfl) (fun wf hb hf => ?_) (fun t3 => ?_)
        · obtain ⟨rfl, rfl, -⟩ := hf
          refine ⟨?_⟩
          go_wp2_with (go_at_call 28; refine (Add_s _ _ (x) _ _ (y) _ (((SlOw.at_ entO hx.1).below entR (btr b2 b3)).below entR hb) (((SlOw.at_ entO hy.1).below entR (btr b2 b3)).below entR hb) nx rx ny ry).mono ?_; rintro e w2 ⟨AN, cN, rfl, oN, hb2⟩)
          exact ⟨rfl, .slice AN (AddF (x) (y)).length cN, by kernel_rfl, hb2, AN, cN, rfl, SlOw.at_ entO oN, EntsOw.cap oN⟩
        refine wf_stepK [0, 3] [fun _ => t0 = .slice A2 (AddF (x) (y)).length c2, ZVr (AddF (x) (y)) t3] (by kernel_rfl) (by kernel_rfl) (fun wf hb hf => ?_) (fun t4 => ?_)
        · obtain ⟨rfl, ⟨XS1, xs1, rfl, hS1⟩, -⟩ := hf
          refine ⟨?_⟩
          go_wp2_with (go_at_call 15; refine (equalZ (xs := AddF (x) (y)) (ys := AddF (x) (y)) true (decide_eq_true rfl) ((a2.below entR b3).below entR hb) hS1.1 (Nat.le_trans (AddF_len' _ _) (by decide)) (Nat.le_trans (AddF_len' _ _) (by decide)) (rows_big (AddF_row' _ _) (by decide)) (rows_big (AddF_row' _ _) (by decide))).mono ?_; rintro e w2 ⟨rfl, hb2⟩)
          exact ⟨rfl, .bool true, by kernel_rfl, hb2, rfl⟩
        refine wf_stepK [4] [fun _ => t4 = .bool true] (by kernel_rfl) (by kernel_rfl) (fun wf hb hf => ?_) (fun t5 => ?_)
        · obtain ⟨rfl, -⟩ := hf
          refine ⟨?_⟩
          go_wp2
          exact ⟨rfl, .bool false, by kernel_rfl, Below.refl _ _, rfl⟩
        refine wf_stepK [5] [fun _ => t5 = .bool false] (by kernel_rfl) (by kernel_rfl) (fun wf hb hf => ?_) (fun t6 => ?_)
        · obtain ⟨rfl, -⟩ := hf
          refine ⟨?_⟩
          go_wp2
          exact ⟨rfl, .bool false, by kernel_rfl, Below.refl _ _, rfl⟩
        refine wf_stepK [6] [fun _ => t6 = .bool false] (by kernel_rfl) (by kernel_rfl) (fun wf hb hf => ?_) (fun t7 => ?_)
        · obtain ⟨rfl, -⟩ := hf
          refine WfOp.yes (by kernel_rfl) ?_
          dsimp only
          go_wp2
          exact ⟨rfl, .slice Ax x.length cx, by kernel_rfl, Below.refl _ _, rfl⟩
        refine wf_stepK [6, 7] [fun _ => t6 = .bool false, fun _ => t7 = .slice Ax x.length cx] (by kernel_rfl) (by kernel_rfl) (fun wf hb hf => ?_) (fun t8 => ?_)
        · obtain ⟨rfl, rfl, -⟩ := hf
          refine WfOp.yes (by kernel_rfl) ?_
          dsimp only
          go_wp2_with (go_at_call 21; refine (smallZ true HSx.out (((SlOw.at_ entO hx.1).below entR (btr b2 b3)).below entR hb) nx rx).mono ?_; rintro e w2 ⟨rfl, hb2⟩)
          exact ⟨rfl, .bool true, by kernel_rfl, hb2, rfl⟩
        refine wf_stepK [6, 8] [fun _ => t6 = .bool false, fun _ => t8 = .bool true] (by kernel_rfl) (by kernel_rfl) (fun wf hb hf => ?_) (fun t9 => ?_)
        · obtain ⟨rfl, rfl, -⟩ := hf
          refine WfOp.yes (by kernel_rfl) ?_
          dsimp only
          go_wp2
          exact ⟨rfl, .bool false, by kernel_rfl, Below.refl _ _, rfl⟩
        refine wf_stepK [6, 9] [fun _ => t6 = .bool false, fun _ => t9 = .bool false] (by kernel_rfl) (by kernel_rfl) (fun wf hb hf => ?_) (fun t10 => ?_)
        · obtain ⟨rfl, rfl, -⟩ := hf
          refine ⟨?_⟩
          go_wp2
          exact ⟨rfl, .bool false, by kernel_rfl, Below.refl _ _, rfl⟩
        refine wf_stepK [10] [fun _ => t10 = .bool false] (by kernel_rfl) (by kernel_rfl) (fun wf hb hf => ?_) (fun t11 => ?_)
        · obtain ⟨rfl, -⟩ := hf
          refine ⟨?_⟩
          go_wp2
          exact ⟨rfl, .bool false, by kernel_rfl, Below.refl _ _, rfl⟩
        refine wf_stepK [11] [fun _ => t11 = .bool false] (by kernel_rfl) (by kernel_rfl) (fun wf hb hf => ?_) (fun t12 => ?_)
        · obtain ⟨rfl, -⟩ := hf
          refine WfOp.yes (by kernel_rfl) ?_
          dsimp only
          go_wp2
          exact ⟨rfl, .slice Ay y.length cy, by kernel_rfl, Below.refl _ _, rfl⟩
        refine wf_stepK [11, 12] [fun _ => t11 = .bool false, fun _ => t12 = .slice Ay y.length cy] (by kernel_rfl) (by kernel_rfl) (fun wf hb hf => ?_) (fun t13 => ?_)
        · obtain ⟨rfl, rfl, -⟩ := hf
          refine WfOp.yes (by kernel_rfl) ?_
          dsimp only
          go_wp2_with (go_at_call 21; refine (smallZ true HSy.out (((SlOw.at_ entO hy.1).below entR (btr b2 b3)).below entR hb) ny ry).mono ?_; rintro e w2 ⟨rfl, hb2⟩)
          exact ⟨rfl, .bool true, by kernel_rfl, hb2, rfl⟩
        refine wf_stepK [11, 13] [fun _ => t11 = .bool false, fun _ => t13 = .bool true] (by kernel_rfl) (by kernel_rfl) (fun wf hb hf => ?_) (fun t14 => ?_)
        · obtain ⟨rfl, rfl, -⟩ := hf
          refine WfOp.yes (by kernel_rfl) ?_
          dsimp only
          go_wp2
          exact ⟨rfl, .bool false, by kernel_rfl, Below.refl _ _, rfl⟩
        refine wf_stepK [11, 14] [fun _ => t11 = .bool false, fun _ => t14 = .bool false] (by kernel_rfl) (by kernel_rfl) (fun wf hb hf => ?_) (fun t15 => ?_)
        · obtain ⟨rfl, rfl, -⟩ := hf
          refine ⟨?_⟩
          go_wp2
          exact ⟨rfl, .bool false, by kernel_rfl, Below.refl _ _, rfl⟩
        refine wf_stepK [15] [fun _ => t15 = .bool false] (by kernel_rfl) (by kernel_rfl) (fun wf hb hf => ?_) (fun t16 => ?_)
        · obtain ⟨rfl, -⟩ := hf
          refine ⟨?_⟩
          go_wp2
          exact ⟨rfl, .bool false, by kernel_rfl, Below.refl _ _, rfl⟩
        refine wf_stepK [16] [fun _ => t16 = .bool false] (by kernel_rfl) (by kernel_rfl) (fun wf hb hf => ?_) (fun t17 => ?_)
        · obtain ⟨rfl, -⟩ := hf
          refine WfOp.yes (by kernel_rfl) ?_
          dsimp only
          go_wp2
          exact ⟨rfl, .slice Av v.length cv, by kernel_rfl, Below.refl _ _, rfl⟩
        refine wf_stepK [16, 17] [fun _ => t16 = .bool false, fun _ => t17 = .slice Av v.length cv] (by kernel_rfl) (by kernel_rfl) (fun wf hb hf => ?_) (fun t18 => ?_)
        · obtain ⟨rfl, rfl, -⟩ := hf
          refine WfOp.yes (by kernel_rfl) ?_
          dsimp only
          go_wp2_with (go_at_call 21; refine (smallZ false HSv.out ((SlOw.at_ entO hv.1).below entR hb) nv rv).mono ?_; rintro e w2 ⟨rfl, hb2⟩)
          exact ⟨rfl, .bool false, by kernel_rfl, hb2, rfl⟩
        refine wf_stepK [16, 18] [fun _ => t16 = .bool false, fun _ => t18 = .bool false] (by kernel_rfl) (by kernel_rfl) (fun wf hb hf => ?_) (fun t19 => ?_)
        · obtain ⟨rfl, rfl, -⟩ := hf
          refine WfOp.yes (by kernel_rfl) ?_
          dsimp only
          go_wp2
          exact ⟨rfl, .bool true, by kernel_rfl, Below.refl _ _, rfl⟩
        refine wf_stepK [16, 19] [fun _ => t16 = .bool false, fun _ => t19 = .bool true] (by kernel_rfl) (by kernel_rfl) (fun wf hb hf => ?_) (fun t20 => ?_)
        · obtain ⟨rfl, rfl, -⟩ := hf
          refine ⟨?_⟩
          go_wp2
          exact ⟨rfl, .bool true, by kernel_rfl, Below.refl _ _, rfl⟩
        refine wf_stepK [20] [fun _ => t20 = .bool true] (by kernel_rfl) (by kernel_rfl) (fun wf hb hf => ?_) (fun t21 => ?_)
        · obtain ⟨rfl, -⟩ := hf
          refine ⟨?_⟩
          go_wp2
          exact ⟨rfl, .bool true, by kernel_rfl, Below.refl _ _, rfl⟩
        refine wf_stepK [21] [fun _ => t21 = .bool true] (by kernel_rfl) (by kernel_rfl) (fun wf hb hf => ?_) (fun t22 => ?_)
        · obtain ⟨rfl, -⟩ := hf
          exact WfOp.no (by kernel_rfl) rfl
        refine wf_stepK [21, 22] [fun _ => t21 = .bool true, fun _ => t22 = undef] (by kernel_rfl) (by kernel_rfl) (fun wf hb hf => ?_) (fun t23 => ?_)
        · obtain ⟨rfl, rfl, -⟩ := hf
          exact WfOp.no (by kernel_rfl) rfl
        refine wf_stepK [21, 23] [fun _ => t21 = .bool true, fun _ => t23 = undef] (by kernel_rfl) (by kernel_rfl) (fun wf hb hf => ?_) (fun t24 => ?_)
        · obtain ⟨rfl, rfl, -⟩ := hf
          exact WfOp.no (by kernel_rfl) rfl
        refine wf_stepK [21, 24] [fun _ => t21 = .bool true, fun _ => t24 = undef] (by kernel_rfl) (by kernel_rfl) (fun wf hb hf => ?_) (fun t25 => ?_)
        · obtain ⟨rfl, rfl, -⟩ := hf
          refine ⟨?_⟩
          go_wp2
          exact ⟨rfl, .bool true, by kernel_rfl, Below.refl _ _, rfl⟩
        refine wf_stepK [25] [fun _ => t25 = .bool true] (by kernel_rfl) (by kernel_rfl) (fun wf hb hf => ?_) (fun t26 => ?_)
        · obtain ⟨rfl, -⟩ := hf
          refine ⟨?_⟩
          go_wp2
          exact ⟨rfl, .bool true, by kernel_rfl, Below.refl _ _, rfl⟩
        refine wf_stepK [26] [fun _ => t26 = .bool true] (by kernel_rfl) (by kernel_rfl) (fun wf hb hf => ?_) (fun t27 => ?_)
        · obtain ⟨rfl, -⟩ := hf
          exact WfOp.no (by kernel_rfl) rfl
        refine wf_stepK [26, 27] [fun _ => t26 = .bool true, fun _ => t27 = undef] (by kernel_rfl) (by kernel_rfl) (fun wf hb hf => ?_) (fun t28 => ?_)
        · obtain ⟨rfl, rfl, -⟩ := hf
          exact WfOp.no (by kernel_rfl) rfl
        refine wf_stepK [26, 28] [fun _ => t26 = .bool true, fun _ => t28 = undef] (by kernel_rfl) (by kernel_rfl) (fun wf hb hf => ?_) (fun t29 => ?_)
        · obtain ⟨rfl, rfl, -⟩ := hf
          exact WfOp.no (by kernel_rfl) rfl
        refine wf_stepK [26, 29] [fun _ => t26 = .bool true, fun _ => t29 = undef] (by kernel_rfl) (by kernel_rfl) (fun wf hb hf => ?_) (fun t30 => ?_)
        · obtain ⟨rfl, rfl, -⟩ := hf
          refine ⟨?_⟩
          go_wp2
          exact ⟨rfl, .bool true, by kernel_rfl, Below.refl _ _, rfl⟩
        refine wf_stepK [30] [fun _ => t30 = .bool true] (by kernel_rfl) (by kernel_rfl) (fun wf hb hf => ?_) (fun t31 => ?_)
        · obtain ⟨rfl, -⟩ := hf
          refine ⟨?_⟩
          go_wp2
          exact ⟨rfl, .bool true, by kernel_rfl, Below.refl _ _, rfl⟩
        refine wf_stepK [31] [fun _ => t31 = .bool true] (by kernel_rfl) (by kernel_rfl) (fun wf hb hf => ?_) (fun t32 => ?_)
        · obtain ⟨rfl, -⟩ := hf
          exact WfOp.no (by kernel_rfl) rfl
        refine wf_stepK [31, 32] [fun _ => t31 = .bool true, fun _ => t32 = undef] (by kernel_rfl) (by kernel_rfl) (fun wf hb hf => ?_) (fun t33 => ?_)
        · obtain ⟨rfl, rfl, -⟩ := hf
          exact WfOp.no (by kernel_rfl) rfl
        refine wf_stepK [31, 33] [fun _ => t31 = .bool true, fun _ => t33 = undef] (by kernel_rfl) (by kernel_rfl) (fun wf hb hf => ?_) (fun t34 => ?_)
        · obtain ⟨rfl, rfl, -⟩ := hf
          exact WfOp.no (by kernel_rfl) rfl
        refine wf_stepK [31, 34] [fun _ => t31 = .bool true, fun _ => t34 = undef] (by kernel_rfl) (by kernel_rfl) (fun wf hb hf => ?_) (fun t35 => ?_)
        · obtain ⟨rfl, rfl, -⟩ := hf
          refine ⟨?_⟩
          go_wp2
          exact ⟨rfl, .bool true, by kernel_rfl, Below.refl _ _, rfl⟩
        refine wf_stepK [35] [fun _ => t35 = .bool true] (by kernel_rfl) (by kernel_rfl) (fun wf hb hf => ?_) (fun t36 => ?_)
        · obtain ⟨rfl, -⟩ := hf
          refine ⟨?_⟩
          go_wp2
          exact ⟨rfl, .bool true, by kernel_rfl, Below.refl _ _, rfl⟩
        refine wf_stepK [36] [fun _ => t36 = .bool true] (by kernel_rfl) (by kernel_rfl) (fun wf hb hf => ?_) (fun t37 => ?_)
        · obtain ⟨rfl, -⟩ := hf
          exact WfOp.no (by kernel_rfl) rfl
        refine wf_stepK [36, 37] [fun _ => t36 = .bool true, fun _ => t37 = undef] (by kernel_rfl) (by kernel_rfl) (fun wf hb hf => ?_) (fun t38 => ?_)
        · obtain ⟨rfl, rfl, -⟩ := hf
          exact WfOp.no (by kernel_rfl) rfl
        refine wf_stepK [36, 38] [fun _ => t36 = .bool true, fun _ => t38 = undef] (by kernel_rfl) (by kernel_rfl) (fun wf hb hf => ?_) (fun t39 => ?_)
        · obtain ⟨rfl, rfl, -⟩ := hf
          exact WfOp.no (by kernel_rfl) rfl
        refine wf_stepK [36, 39] [fun _ => t36 = .bool true, fun _ => t39 = undef] (by kernel_rfl) (by kernel_rfl) (fun wf hb hf => ?_) (fun t40 => ?_)
        · obtain ⟨rfl, rfl, -⟩ := hf
          exact WfOp.no (by kernel_rfl) rfl
        refine wf_stepK [36, 40] [fun _ => t36 = .bool true, fun _ => t40 = undef] (by kernel_rfl) (by kernel_rfl) (fun wf hb hf => ?_) (fun t41 => ?_)
        · obtain ⟨rfl, rfl, -⟩ := hf
          exact WfOp.no (by kernel_rfl) rfl
        refine wf_stepK [36] [fun _ => t36 = .bool true] (by kernel_rfl) (by kernel_rfl) (fun wf hb hf => ?_) (fun t42 => ?_)
        · obtain ⟨rfl, -⟩ := hf
          exact WfOp.no (by kernel_rfl) rfl
        refine wf_stepK [36, 42] [fun _ => t36 = .bool true, fun _ => t42 = undef] (by kernel_rfl) (by kernel_rfl) (fun wf hb hf => ?_) (fun t43 => ?_)
        · obtain ⟨rfl, rfl, -⟩ := hf
          exact WfOp.no (by kernel_rfl) rfl
        refine wf_stepK [36, 43] [fun _ => t36 = .bool true, fun _ => t43 = undef] (by kernel_rfl) (by kernel_rfl) (fun wf hb hf => ?_) (fun t44 => ?_)
        · obtain ⟨rfl, rfl, -⟩ := hf
          exact WfOp.no (by kernel_rfl) rfl
        refine wf_stepK [36, 44] [fun _ => t36 = .bool true, fun _ => t44 = undef] (by kernel_rfl) (by kernel_rfl) (fun wf hb hf => ?_) (fun t45 => ?_)
        · obtain ⟨rfl, rfl, -⟩ := hf
          exact WfOp.no (by kernel_rfl) rfl
        refine wf_stepK [36, 45] [fun _ => t36 = .bool true, fun _ => t45 = undef] (by kernel_rfl) (by kernel_rfl) (fun wf hb hf => ?_) (fun t46 => ?_)
        · obtain ⟨rfl, rfl, -⟩ := hf
          exact WfOp.no (by kernel_rfl) rfl
        refine wf_stepK [36, 41, 46] [fun _ => t36 = .bool true, fun _ => t41 = undef, fun _ => t46 = undef] (by kernel_rfl) (by kernel_rfl) (fun wf hb hf => ?_) (fun t47 => ?_)
        · obtain ⟨rfl, rfl, rfl, -⟩ := hf
          exact WfOp.no (by kernel_rfl) rfl
        refine wf_stepK [36, 47] [fun _ => t36 = .bool true, fun _ => t47 = undef] (by kernel_rfl) (by kernel_rfl) (fun wf hb hf => ?_) (fun t48 => ?_)
        · obtain ⟨rfl, rfl, -⟩ := hf
          refine ⟨?_⟩
          go_wp2
          exact ⟨rfl, .bool true, by kernel_rfl, Below.refl _ _, rfl⟩
        refine wf_stepK [48] [fun _ => t48 = .bool true] (by kernel_rfl) (by kernel_rfl) (fun wf hb hf => ?_) (fun t49 => ?_)
        · obtain ⟨rfl, -⟩ := hf
          refine ⟨?_⟩
          go_wp2
          exact ⟨rfl, .bool true, by kernel_rfl, Below.refl _ _, rfl⟩
        refine wf_stepK [49] [fun _ => t49 = .bool true] (by kernel_rfl) (by kernel_rfl) (fun wf hb hf => ?_) (fun t50 => ?_)
        · obtain ⟨rfl, -⟩ := hf
          exact WfOp.no (by kernel_rfl) rfl
        refine wf_stepK [49, 50] [fun _ => t49 = .bool true, fun _ => t50 = undef] (by kernel_rfl) (by kernel_rfl) (fun wf hb hf => ?_) (fun t51 => ?_)
        · obtain ⟨rfl, rfl, -⟩ := hf
          exact WfOp.no (by kernel_rfl) rfl
        refine wf_stepK [49, 51] [fun _ => t49 = .bool true, fun _ => t51 = undef] (by kernel_rfl) (by kernel_rfl) (fun wf hb hf => ?_) (fun t52 => ?_)
        · obtain ⟨rfl, rfl, -⟩ := hf
          exact WfOp.no (by kernel_rfl) rfl
        refine wf_stepK [49, 52] [fun _ => t49 = .bool true, fun _ => t52 = undef] (by kernel_rfl) (by kernel_rfl) (fun wf hb hf => ?_) (fun t53 => ?_)
        · obtain ⟨rfl, rfl, -⟩ := hf
          exact WfOp.no (by kernel_rfl) rfl
        refine wf_stepK [49, 53] [fun _ => t49 = .bool true, fun _ => t53 = undef] (by kernel_rfl) (by kernel_rfl) (fun wf hb hf => ?_) (fun t54 => ?_)
        · obtain ⟨rfl, rfl, -⟩ := hf
          exact WfOp.no (by kernel_rfl) rfl
        refine wf_stepK [49] [fun _ => t49 = .bool true] (by kernel_rfl) (by kernel_rfl) (fun wf hb hf => ?_) (fun t55 => ?_)
        · obtain ⟨rfl, -⟩ := hf
          exact WfOp.no (by kernel_rfl) rfl
        refine wf_stepK [49, 55] [fun _ => t49 = .bool true, fun _ => t55 = undef] (by kernel_rfl) (by kernel_rfl) (fun wf hb hf => ?_) (fun t56 => ?_)
        · obtain ⟨rfl, rfl, -⟩ := hf
          exact WfOp.no (by kernel_rfl) rfl
        refine wf_stepK [49, 56] [fun _ => t49 = .bool true, fun _ => t56 = undef] (by kernel_rfl) (by kernel_rfl) (fun wf hb hf => ?_) (fun t57 => ?_)
        · obtain ⟨rfl, rfl, -⟩ := hf
          exact WfOp.no (by kernel_rfl) rfl
        refine wf_stepK [49, 57] [fun _ => t49 = .bool true, fun _ => t57 = undef] (by kernel_rfl) (by kernel_rfl) (fun wf hb hf => ?_) (fun t58 => ?_)
        · obtain ⟨rfl, rfl, -⟩ := hf
          exact WfOp.no (by kernel_rfl) rfl
        refine wf_stepK [49, 58] [fun _ => t49 = .bool true, fun _ => t58 = undef] (by kernel_rfl) (by kernel_rfl) (fun wf hb hf => ?_) (fun t59 => ?_)
        · obtain ⟨rfl, rfl, -⟩ := hf
          exact WfOp.no (by kernel_rfl) rfl
        refine wf_stepK [49, 54, 59] [fun _ => t49 = .bool true, fun _ => t54 = undef, fun _ => t59 = undef] (by kernel_rfl) (by kernel_rfl) (fun wf hb hf => ?_) (fun t60 => ?_)
        · obtain ⟨rfl, rfl, rfl, -⟩ := hf
          exact WfOp.no (by kernel_rfl) rfl
        refine wf_doneK [49, 60] [fun _ => t49 = .bool true, fun _ => t60 = undef] (by kernel_rfl) (by kernel_rfl) (fun w4 b4 hf => ?_)
        obtain ⟨rfl, rfl, -⟩ := hf
        show wpList _ _ _ [_] _ _
        refine wpList_frame (by simp [Act.put]; rfl) ?_
        have B4 := btr B3 b4
        go_wp2_with fail
        refine (Add_s _ _ (x) _ _ (y) _ ((SlOw.at_ entO hx.1).below entR (btr (btr b2 b3) b4)) ((SlOw.at_ entO hy.1).below entR (btr (btr b2 b3) b4)) nx rx ny ry).mono ?_
        rintro e w5 ⟨A5, c5, rfl, o5, b5⟩
        have B5 := btr B4 b5
        have a5 : EntsAt w5 A5 (AddF (x) (y)) := SlOw.at_ entO o5
        go_wp2_with fail
        refine (equalZ (xs := AddF (x) (y)) (ys := AddF (x) (y)) true (decide_eq_true rfl) (a2.below entR (btr (btr b3 b4) b5)) a5 (Nat.le_trans (AddF_len' _ _) (by decide)) (Nat.le_trans (AddF_len' _ _) (by decide)) (rows_big (AddF_row' _ _) (by decide)) (rows_big (AddF_row' _ _) (by decide))).mono ?_
        rintro e w6 ⟨rfl, b6⟩
        have B6 := btr B5 b6
        go_wp2_with fail
        go_ret
        exact ⟨rfl, B6⟩
      · have Sv := smB_Sm hSv
        have HSv := Lib.hid hSv
        clear hSv
        rcases Nat.eq_zero_or_pos x.length with h0x | hpx
        · have hzx : ((x.length : Int) == 0) = true := by rw [h0x]; rfl
          clear h0x
          go_wp2_with fail
          refine wp_region_facts [[], [], [], [1, 2], List.range 4, List.range 5, List.range 6, List.range 7, List.range 8, List.range 9, List.range 10, List.range 11, List.range 12, List.range 13, List.range 14, List.range 15, List.range 16, List.range 17, List.range 18, List.range 19, List.range 20, List.range 21, List.range 22, List.range 23, List.range 24, List.range 25, List.range 26, List.range 27, List.range 28, List.range 29, List.range 30, List.range 31, List.range 32, List.range 33, List.range 34, List.range 35, List.range 36, List.range 37, List.range 38, List.range 39, List.range 40, List.range 41, List.range 37, [0, 1, 2, 3, 4, 5, 6, 7, 8, 9, 10, 11, 12, 13, 14, 15, 16, 17, 18, 19, 20, 21, 22, 23, 24, 25, 26, 27, 28, 29, 30, 31, 32, 33, 34, 35, 36, 42], [0, 1, 2, 3, 4, 5, 6, 7, 8, 9, 10, 11, 12, 13, 14, 15, 16, 17, 18, 19, 20, 21, 22, 23, 24, 25, 26, 27, 28, 29, 30, 31, 32, 33, 34, 35, 36, 42, 43], [0, 1, 2, 3, 4, 5, 6, 7, 8, 9, 10, 11, 12, 13, 14, 15, 16, 17, 18, 19, 20, 21, 22, 23, 24, 25, 26, 27, 28, 29, 30, 31, 32, 33, 34, 35, 36, 42, 43, 44], [0, 1, 2, 3, 4, 5, 6, 7, 8, 9, 10, 11, 12, 13, 14, 15, 16, 17, 18, 19, 20, 21, 22, 23, 24, 25, 26, 27, 28, 29, 30, 31, 32, 33, 34, 35, 36, 42, 43, 44, 45], List.range 47, List.range 48, List.range 49, List.range 50, List.range 51, List.range 52, List.range 53, List.range 54, List.range 50, [0, 1, 2, 3, 4, 5, 6, 7, 8, 9, 10, 11, 12, 13, 14, 15, 16, 17, 18, 19, 20, 21, 22, 23, 24, 25, 26, 27, 28, 29, 30, 31, 32, 33, 34, 35, 36, 37, 38, 39, 40, 41, 42, 43, 44, 45, 46, 47, 48, 49, 55], [0, 1, 2, 3, 4, 5, 6, 7, 8, 9, 10, 11, 12, 13, 14, 15, 16, 17, 18, 19, 20, 21, 22, 23, 24, 25, 26, 27, 28, 29, 30, 31, 32, 33, 34, 35, 36, 37, 38, 39, 40, 41, 42, 43, 44, 45, 46, 47, 48, 49, 55, 56], [0, 1, 2, 3, 4, 5, 6, 7, 8, 9, 10, 11, 12, 13, 14, 15, 16, 17, 18, 19, 20, 21, 22, 23, 24, 25, 26, 27, 28, 29, 30, 31, 32, 33, 34, 35, 36, 37, 38, 39, 40, 41, 42, 43, 44, 45, 46, 47, 48, 49, 55, 56, 57], [0, 1, 2, 3, 4, 5, 6, 7, 8, 9, 10, 11, 12, 13, 14, 15, 16, 17, 18, 19, 20, 21, 22, 23, 24, 25, 26, 27, 28, 29, 30, 31, 32, 33, 34, 35, 36, 37, 38, 39, 40, 41, 42, 43, 44, 45, 46, 47, 48, 49, 55, 56, 57, 58], List.range 60]
            [fun v' _ => v' = .slice A2 (AddF (x) (y)).length c2, fun v' _ => v' = .slice Ax x.length cx, fun v' _ => v' = .slice Ay y.length cy, ZVr (AddF (x) (y)), fun v' _ => v' = .bool true, fun v' _ => v' = .bool false, fun v' _ => v' = .bool false, fun v' _ => v' = .slice Ax x.length cx, fun v' _ => v' = .bool true, fun v' _ => v' = .bool false, fun v' _ => v' = .bool false, fun v' _ => v' = .bool false, fun v' _ => v' = .slice Ay y.length cy, fun v' _ => v' = .bool true, fun v' _ => v' = .bool false, fun v' _ => v' = .bool false, fun v' _ => v' = .bool false, fun v' _ => v' = .slice Av v.length cv, fun v' _ => v' = .bool true, fun v' _ => v' = .bool false, fun v' _ => v' = .bool false, fun v' _ => v' = .bool false, fun v' _ => v' = .slice Ax x.length cx, fun v' _ => v' = .int .i64 ((x.length : Nat)), fun v' _ => v' = .bool true, fun v' _ => v' = .bool true, fun v' _ => v' = .bool true, fun v' _ => v' = undef, fun v' _ => v' = undef, fun v' _ => v' = undef, fun v' _ => v' = .bool true, fun v' _ => v' = .bool true, fun v' _ => v' = undef, fun v' _ => v' = undef, fun v' _ => v' = undef, fun v' _ => v' = .bool true, fun v' _ => v' = .bool true, fun v' _ => v' = undef, fun v' _ => v' = undef, fun v' _ => v' = undef, fun v' _ => v' = undef, fun v' _ => v' = undef, fun v' _ => v' = undef, fun v' _ => v' = undef, fun v' _ => v' = undef, fun v' _ => v' = undef, fun v' _ => v' = undef, fun v' _ => v' = undef, fun v' _ => v' = .bool true, fun v' _ => v' = .bool true, fun v' _ => v' = undef, fun v' _ => v' = undef, fun v' _ => v' = undef, fun v' _ => v' = undef, fun v' _ => v' = undef, fun v' _ => v' = undef, fun v' _ => v' = undef, fun v' _ => v' = undef, fun v' _ => v' = undef, fun v' _ => v' = undef, fun v' _ => v' = undef]
            (by kernel_rfl) (by kernel_rfl) rfl ⟨stable_pure _, stable_pure _, stable_pure _, stable_zVr _, stable_pure _, stable_pure _, stable_pure _, stable_pure _, stable_pure _, stable_pure _, stable_pure _, stable_pure _, stable_pure _, stable_pure _, stable_pure _, stable_pure _, stable_pure _, stable_pure _, stable_pure _, stable_pure _, stable_pure _, stable_pure _, stable_pure _, stable_pure _, stable_pure _, stable_pure _, stable_pure _, stable_pure _, stable_pure _, stable_pure _, stable_pure _, stable_pure _, stable_pure _, stable_pure _, stable_pure _, stable_pure _, stable_pure _, stable_pure _, stable_pure _, stable_pure _, stable_pure _, stable_pure _, stable_pure _, stable_pure _, stable_pure _, stable_pure _, stable_pure _, stable_pure _, stable_pure _, stable_pure _, stable_pure _, stable_pure _, stable_pure _, stable_pure _, stable_pure _, stable_pure _, stable_pure _, stable_pure _, stable_pure _, stable_pure _, stable_pure _, trivial⟩ ?_
          refine wf_stepK [] [] (by kernel_rfl) (by kernel_rfl) (fun wf hb hf => ?_) (fun t0 => ?_)
          · refine ⟨?_⟩
            go_wp2
            exact ⟨rfl, .slice A2 (AddF (x) (y)).length c2, by kernel_rfl, Below.refl _ _, rfl⟩
          refine wf_stepK [] [] (by kernel_rfl) (by kernel_rfl) (fun wf hb hf => ?_) (fun t1 => ?_)
          · refine ⟨?_⟩
            go_wp2
            exact ⟨rfl, .slice Ax x.length cx, by kernel_rfl, Below.refl _ _, rfl⟩
          refine wf_stepK [] [] (by kernel_rfl) (by kernel_rfl) (fun wf hb hf => ?_) (fun t2 => ?_)
          · refine ⟨?_⟩
            go_wp2
            exact ⟨rfl, .slice Ay y.length cy, by kernel_rfl, Below.refl _ _, rfl⟩
          refine wf_stepK [1, 2] [fun _ => t1 = .slice Ax x.length cx, fun _ => t2 = .slice Ay y.length cy] (by kernel_rfl) (by kernel_rfl) (fun wf hb hf => ?_) (fun t3 => ?_)
          · obtain ⟨rfl, rfl, -⟩ := hf
            refine ⟨?_⟩
            go_wp2_with (go_at_call 28; refine (Add_s _ _ (x) _ _ (y) _ (((SlOw.at_ entO hx.1).below entR (btr b2 b3)).below entR hb) (((SlOw.at_ entO hy.1).below entR (btr b2 b3)).below entR hb) nx rx ny ry).mono ?_; rintro e w2 ⟨AN, cN, rfl, oN, hb2⟩)
            exact ⟨rfl, .slice AN (AddF (x) (y)).length cN, by kernel_rfl, hb2, AN, cN, rfl, SlOw.at_ entO oN, EntsOw.cap oN⟩
          refine wf_stepK [0, 3] [fun _ => t0 = .slice A2 (AddF (x) (y)).length c2, ZVr (AddF (x) (y)) t3] (by kernel_rfl) (by kernel_rfl) (fun wf hb hf => ?_) (fun t4 => ?_)
          · obtain ⟨rfl, ⟨XS1, xs1, rfl, hS1⟩, -⟩ := hf
            refine ⟨?_⟩
            go_wp2_with (go_at_call 15; refine (equalZ (xs := AddF (x) (y)) (ys := AddF (x) (y)) true (decide_eq_true rfl) ((a2.below entR b3).below entR hb) hS1.1 (Nat.le_trans (AddF_len' _ _) (by decide)) (Nat.le_trans (AddF_len' _ _) (by decide)) (rows_big (AddF_row' _ _) (by decide)) (rows_big (AddF_row' _ _) (by decide))).mono ?_; rintro e w2 ⟨rfl, hb2⟩)
            exact ⟨rfl, .bool true, by kernel_rfl, hb2, rfl⟩
          refine wf_stepK [4] [fun _ => t4 = .bool true] (by kernel_rfl) (by kernel_rfl) (fun wf hb hf => ?_) (fun t5 => ?_)
          · obtain ⟨rfl, -⟩ := hf
            refine ⟨?_⟩
            go_wp2
            exact ⟨rfl, .bool false, by kernel_rfl, Below.refl _ _, rfl⟩
          refine wf_stepK [5] [fun _ => t5 = .bool false] (by kernel_rfl) (by kernel_rfl) (fun wf hb hf => ?_) (fun t6 => ?_)
          · obtain ⟨rfl, -⟩ := hf
            refine ⟨?_⟩
            go_wp2
            exact ⟨rfl, .bool false, by kernel_rfl, Below.refl _ _, rfl⟩
          refine wf_stepK [6] [fun _ => t6 = .bool false] (by kernel_rfl) (by kernel_rfl) (fun wf hb hf => ?_) (fun t7 => ?_)
          · obtain ⟨rfl, -⟩ := hf
            refine WfOp.yes (by kernel_rfl) ?_
            dsimp only
            go_wp2
            exact ⟨rfl, .slice Ax x.length cx, by kernel_rfl, Below.refl _ _, rfl⟩
          refine wf_stepK [6, 7] [fun _ => t6 = .bool false, fun _ => t7 = .slice Ax x.length cx] (by kernel_rfl) (by kernel_rfl) (fun wf hb hf => ?_) (fun t8 => ?_)
          · obtain ⟨rfl, rfl, -⟩ := hf
            refine WfOp.yes (by kernel_rfl) ?_
            dsimp only
            go_wp2_with (go_at_call 21; refine (smallZ true HSx.out (((SlOw.at_ entO hx.1).below entR (btr b2 b3)).below entR hb) nx rx).mono ?_; rintro e w2 ⟨rfl, hb2⟩)
            exact ⟨rfl, .bool true, by kernel_rfl, hb2, rfl⟩
          refine wf_stepK [6, 8] [fun _ => t6 = .bool false, fun _ => t8 = .bool true] (by kernel_rfl) (by kernel_rfl) (fun wf hb hf => ?_) (fun t9 => ?_)
          · obtain ⟨rfl, rfl, -⟩ := hf
            refine WfOp.yes (by kernel_rfl) ?_
            dsimp only
            go_wp2
            exact ⟨rfl, .bool false, by kernel_rfl, Below.refl _ _, rfl⟩
          refine wf_stepK [6, 9] [fun _ => t6 = .bool false, fun _ => t9 = .bool false] (by kernel_rfl) (by kernel_rfl) (fun wf hb hf => ?_) (fun t10 => ?_)
          · obtain ⟨rfl, rfl, -⟩ := hf
            refine ⟨?_⟩
            go_wp2
            exact ⟨rfl, .bool false, by kernel_rfl, Below.refl _ _, rfl⟩
          refine wf_stepK [10] [fun _ => t10 = .bool false] (by kernel_rfl) (by kernel_rfl) (fun wf hb hf => ?_) (fun t11 => ?_)
          · obtain ⟨rfl, -⟩ := hf
            refine ⟨?_⟩
            go_wp2
            exact ⟨rfl, .bool false, by kernel_rfl, Below.refl _ _, rfl⟩
          refine wf_stepK [11] [fun _ => t11 = .bool false] (by kernel_rfl) (by kernel_rfl) (fun wf hb hf => ?_) (fun t12 => ?_)
          · obtain ⟨rfl, -⟩ := hf
            refine WfOp.yes (by kernel_rfl) ?_
            dsimp only
            go_wp2
            exact ⟨rfl, .slice Ay y.length cy, by kernel_rfl, Below.refl _ _, rfl⟩
          refine wf_stepK [11, 12] [fun _ => t11 = .bool false, fun _ => t12 = .slice Ay y.length cy] (by kernel_rfl) (by kernel_rfl) (fun wf hb hf => ?_) (fun t13 => ?_)
          · obtain ⟨rfl, rfl, -⟩ := hf
            refine WfOp.yes (by kernel_rfl) ?_
            dsimp only
            go_wp2_with (go_at_call 21; refine (smallZ true HSy.out (((SlOw.at_ entO hy.1).below entR (btr b2 b3)).below entR hb) ny ry).mono ?_; rintro e w2 ⟨rfl, hb2⟩)
            exact ⟨rfl, .bool true, by kernel_rfl, hb2, rfl⟩
          refine wf_stepK [11, 13] [fun _ => t11 = .bool false, fun _ => t13 = .bool true] (by kernel_rfl) (by kernel_rfl) (fun wf hb hf => ?_) (fun t14 => ?_)
          · obtain ⟨rfl, rfl, -⟩ := hf
            refine WfOp.yes (by kernel_rfl) ?_
            dsimp only
            go_wp2
            exact ⟨rfl, .bool false, by kernel_rfl, Below.refl _ _, rfl⟩
          refine wf_stepK [11, 14] [fun _ => t11 = .bool false, fun _ => t14 = .bool false] (by kernel_rfl) (by kernel_rfl) (fun wf hb hf => ?_) (fun t15 => ?_)
          · obtain ⟨rfl, rfl, -⟩ := hf
            refine ⟨?_⟩
            go_wp2
            exact ⟨rfl, .bool false, by kernel_rfl, Below.refl _ _, rfl⟩
          refine wf_stepK [15] [fun _ => t15 = .bool false] (by kernel_rfl) (by kernel_rfl) (fun wf hb hf => ?_) (fun t16 => ?_)
          · obtain ⟨rfl, -⟩ := hf
            refine ⟨?_⟩
            go_wp2
            exact ⟨rfl, .bool false, by kernel_rfl, Below.refl _ _, rfl⟩
          refine wf_stepK [16] [fun _ => t16 = .bool false] (by kernel_rfl) (by kernel_rfl) (fun wf hb hf => ?_) (fun t17 => ?_)
          · obtain ⟨rfl, -⟩ := hf
            refine WfOp.yes (by kernel_rfl) ?_
            dsimp only
            go_wp2
            exact ⟨rfl, .slice Av v.length cv, by kernel_rfl, Below.refl _ _, rfl⟩
          refine wf_stepK [16, 17] [fun _ => t16 = .bool false, fun _ => t17 = .slice Av v.length cv] (by kernel_rfl) (by kernel_rfl) (fun wf hb hf => ?_) (fun t18 => ?_)
          · obtain ⟨rfl, rfl, -⟩ := hf
            refine WfOp.yes (by kernel_rfl) ?_
            dsimp only
            go_wp2_with (go_at_call 21; refine (smallZ true HSv.out ((SlOw.at_ entO hv.1).below entR hb) nv rv).mono ?_; rintro e w2 ⟨rfl, hb2⟩)
            exact ⟨rfl, .bool true, by kernel_rfl, hb2, rfl⟩
          refine wf_stepK [16, 18] [fun _ => t16 = .bool false, fun _ => t18 = .bool true] (by kernel_rfl) (by kernel_rfl) (fun wf hb hf => ?_) (fun t19 => ?_)
          · obtain ⟨rfl, rfl, -⟩ := hf
            refine WfOp.yes (by kernel_rfl) ?_
            dsimp only
            go_wp2
            exact ⟨rfl, .bool false, by kernel_rfl, Below.refl _ _, rfl⟩
          refine wf_stepK [16, 19] [fun _ => t16 = .bool false, fun _ => t19 = .bool false] (by kernel_rfl) (by kernel_rfl) (fun wf hb hf => ?_) (fun t20 => ?_)
          · obtain ⟨rfl, rfl, -⟩ := hf
            refine ⟨?_⟩
            go_wp2
            exact ⟨rfl, .bool false, by kernel_rfl, Below.refl _ _, rfl⟩
          refine wf_stepK [20] [fun _ => t20 = .bool false] (by kernel_rfl) (by kernel_rfl) (fun wf hb hf => ?_) (fun t21 => ?_)
          · obtain ⟨rfl, -⟩ := hf
            refine ⟨?_⟩
            go_wp2
            exact ⟨rfl, .bool false, by kernel_rfl, Below.refl _ _, rfl⟩
          refine wf_stepK [21] [fun _ => t21 = .bool false] (by kernel_rfl) (by kernel_rfl) (fun wf hb hf => ?_) (fun t22 => ?_)
          · obtain ⟨rfl, -⟩ := hf
            refine WfOp.yes (by kernel_rfl) ?_
            dsimp only
            go_wp2
            exact ⟨rfl, .slice Ax x.length cx, by kernel_rfl, Below.refl _ _, rfl⟩
          refine wf_stepK [21, 22] [fun _ => t21 = .bool false, fun _ => t22 = .slice Ax x.length cx] (by kernel_rfl) (by kernel_rfl) (fun wf hb hf => ?_) (fun t23 => ?_)
          · obtain ⟨rfl, rfl, -⟩ := hf
            refine WfOp.yes (by kernel_rfl) ?_
            dsimp only
            go_wp2
            exact ⟨rfl, .int .i64 ((x.length : Nat)), by kernel_rfl, Below.refl _ _, rfl⟩
          refine wf_stepK [21, 23] [fun _ => t21 = .bool false, fun _ => t23 = .int .i64 ((x.length : Nat))] (by kernel_rfl) (by kernel_rfl) (fun wf hb hf => ?_) (fun t24 => ?_)
          · obtain ⟨rfl, rfl, -⟩ := hf
            refine WfOp.yes (by kernel_rfl) ?_
            dsimp only
            go_wp2
            exact ⟨rfl, .bool true, by kernel_rfl, Below.refl _ _, rfl⟩
          refine wf_stepK [21, 24] [fun _ => t21 = .bool false, fun _ => t24 = .bool true] (by kernel_rfl) (by kernel_rfl) (fun wf hb hf => ?_) (fun t25 => ?_)
          · obtain ⟨rfl, rfl, -⟩ := hf
            refine ⟨?_⟩
            go_wp2
            exact ⟨rfl, .bool true, by kernel_rfl, Below.refl _ _, rfl⟩
          refine wf_stepK [25] [fun _ => t25 = .bool true] (by kernel_rfl) (by kernel_rfl) (fun wf hb hf => ?_) (fun t26 => ?_)
          · obtain ⟨rfl, -⟩ := hf
            refine ⟨?_⟩
            go_wp2
            exact ⟨rfl, .bool true, by kernel_rfl, Below.refl _ _, rfl⟩
          refine wf_stepK [26] [fun _ => t26 = .bool true] (by kernel_rfl) (by kernel_rfl) (fun wf hb hf => ?_) (fun t27 => ?_)
          · obtain ⟨rfl, -⟩ := hf
            exact WfOp.no (by kernel_rfl) rfl
          refine wf_stepK [26, 27] [fun _ => t26 = .bool true, fun _ => t27 = undef] (by kernel_rfl) (by kernel_rfl) (fun wf hb hf => ?_) (fun t28 => ?_)
          · obtain ⟨rfl, rfl, -⟩ := hf
            exact WfOp.no (by kernel_rfl) rfl
          refine wf_stepK [26, 28] [fun _ => t26 = .bool true, fun _ => t28 = undef] (by kernel_rfl) (by kernel_rfl) (fun wf hb hf => ?_) (fun t29 => ?_)
          · obtain ⟨rfl, rfl, -⟩ := hf
            exact WfOp.no (by kernel_rfl) rfl
          refine wf_stepK [26, 29] [fun _ => t26 = .bool true, fun _ => t29 = undef] (by kernel_rfl) (by kernel_rfl) (fun wf hb hf => ?_) (fun t30 => ?_)
          · obtain ⟨rfl, rfl, -⟩ := hf
            refine ⟨?_⟩
            go_wp2
            exact ⟨rfl, .bool true, by kernel_rfl, Below.refl _ _, rfl⟩
          refine wf_stepK [30] [fun _ => t30 = .bool true] (by kernel_rfl) (by kernel_rfl) (fun wf hb hf => ?_) (fun t31 => ?_)
          · obtain ⟨rfl, -⟩ := hf
            refine ⟨?_⟩
            go_wp2
            exact ⟨rfl, .bool true, by kernel_rfl, Below.refl _ _, rfl⟩
          refine wf_stepK [31] [fun _ => t31 = .bool true] (by kernel_rfl) (by kernel_rfl) (fun wf hb hf => ?_) (fun t32 => ?_)
          · obtain ⟨rfl, -⟩ := hf
            exact WfOp.no (by kernel_rfl) rfl
          refine wf_stepK [31, 32] [fun _ => t31 = .bool true, fun _ => t32 = undef] (by kernel_rfl) (by kernel_rfl) (fun wf hb hf => ?_) (fun t33 => ?_)
          · obtain ⟨rfl, rfl, -⟩ := hf
            exact WfOp.no (by kernel_rfl) rfl
          refine wf_stepK [31, 33] [fun _ => t31 = .bool true, fun _ => t33 = undef] (by kernel_rfl) (by kernel_rfl) (fun wf hb hf => ?_) (fun t34 => ?_)
          · obtain ⟨rfl, rfl, -⟩ := hf
            exact WfOp.no (by kernel_rfl) rfl
          refine wf_stepK [31, 34] [fun _ => t31 = .bool true, fun _ => t34 = undef] (by kernel_rfl) (by kernel_rfl) (fun wf hb hf => ?_) (fun t35 => ?_)
          · obtain ⟨rfl, rfl, -⟩ := hf
            refine ⟨?_⟩
            go_wp2
            exact ⟨rfl, .bool true, by kernel_rfl, Below.refl _ _, rfl⟩
          refine wf_stepK [35] [fun _ => t35 = .bool true] (by kernel_rfl) (by kernel_rfl) (fun wf hb hf => ?_) (fun t36 => ?_)
          · obtain ⟨rfl, -⟩ := hf
            refine ⟨?_⟩
            go_wp2
            exact ⟨rfl, .bool true, by kernel_rfl, Below.refl _ _, rfl⟩
          refine wf_stepK [36] [fun _ => t36 = .bool true] (by kernel_rfl) (by kernel_rfl) (fun wf hb hf => ?_) (fun t37 => ?_)
          · obtain ⟨rfl, -⟩ := hf
            exact WfOp.no (by kernel_rfl) rfl
          refine wf_stepK [36, 37] [fun _ => t36 = .bool true, fun _ => t37 = undef] (by kernel_rfl) (by kernel_rfl) (fun wf hb hf => ?_) (fun t38 => ?_)
          · obtain ⟨rfl, rfl, -⟩ := hf
            exact WfOp.no (by kernel_rfl) rfl
          refine wf_stepK [36, 38] [fun _ => t36 = .bool true, fun _ => t38 = undef] (by kernel_rfl) (by kernel_rfl) (fun wf hb hf => ?_) (fun t39 => ?_)
          · obtain ⟨rfl, rfl, -⟩ := hf
            exact WfOp.no (by kernel_rfl) rfl
          refine wf_stepK [36, 39] [fun _ => t36 = .bool true, fun _ => t39 = undef] (by kernel_rfl) (by kernel_rfl) (fun wf hb hf => ?_) (fun t40 => ?_)
          · obtain ⟨rfl, rfl, -⟩ := hf
            exact WfOp.no (by kernel_rfl) rfl
          refine wf_stepK [36, 40] [fun _ => t36 = .bool true, fun _ => t40 = undef] (by kernel_rfl) (by kernel_rfl) (fun wf hb hf => ?_) (fun t41 => ?_)
          · obtain ⟨rfl, rfl, -⟩ := hf
            exact WfOp.no (by kernel_rfl) rfl
          refine wf_stepK [36] [fun _ => t36 = .bool true] (by kernel_rfl) (by kernel_rfl) (fun wf hb hf => ?_) (fun t42 => ?_)
          · obtain ⟨rfl, -⟩ := hf
            exact WfOp.no (by kernel_rfl) rfl
          refine wf_stepK [36, 42] [fun _ => t36 = .bool true, fun _ => t42 = undef] (by kernel_rfl) (by kernel_rfl) (fun wf hb hf => ?_) (fun t43 => ?_)
          · obtain ⟨rfl, rfl, -⟩ := hf
            exact WfOp.no (by kernel_rfl) rfl
          refine wf_stepK [36, 43] [fun _ => t36 = .bool true, fun _ => t43 = undef] (by kernel_rfl) (by kernel_rfl) (fun wf hb hf => ?_) (fun t44 => ?_)
          · obtain ⟨rfl, rfl, -⟩ := hf
            exact WfOp.no (by kernel_rfl) rfl
          refine wf_stepK [36, 44] [fun _ => t36 = .bool true, fun _ => t44 = undef] (by kernel_rfl) (by kernel_rfl) (fun wf hb hf => ?_) (fun t45 => ?_)
          · obtain ⟨rfl, rfl, -⟩ := hf
            exact WfOp.no (by kernel_rfl) rfl
          refine wf_stepK [36, 45] [fun _ => t36 = .bool true, fun _ => t45 = undef] (by kernel_rfl) (by kernel_rfl) (fun wf hb hf => ?_) (fun t46 => ?_)
          · obtain ⟨rfl, rfl, -⟩ := hf
            exact WfOp.no (by kernel_rfl) rfl
          refine wf_stepK [36, 41, 46] [fun _ => t36 = .bool true, fun _ => t41 = undef, fun _ => t46 = undef] (by kernel_rfl) (by kernel_rfl) (fun wf hb hf => ?_) (fun t47 => ?_)
          · obtain ⟨rfl, rfl, rfl, -⟩ := hf
            exact WfOp.no (by kernel_rfl) rfl
          refine wf_stepK [36, 47] [fun _ => t36 = .bool true, fun _ => t47 = undef] (by kernel_rfl) (by kernel_rfl) (fun wf hb hf => ?_) (fun t48 => ?_)
          · obtain ⟨rfl, rfl, -⟩ := hf
            refine ⟨?_⟩
            go_wp2
            exact ⟨rfl, .bool true, by kernel_rfl, Below.refl _ _, rfl⟩
          refine wf_stepK [48] [fun _ => t48 = .bool true] (by kernel_rfl) (by kernel_rfl) (fun wf hb hf => ?_) (fun t49 => ?_)
          · obtain ⟨rfl, -⟩ := hf
            refine ⟨?_⟩
            go_wp2
            exact ⟨rfl, .bool true, by kernel_rfl, Below.refl _ _, rfl⟩
          refine wf_stepK [49] [fun _ => t49 = .bool true] (by kernel_rfl) (by kernel_rfl) (fun wf hb hf => ?_) (fun t50 => ?_)
          · obtain ⟨rfl, -⟩ := hf
            exact WfOp.no (by kernel_rfl) rfl
          refine wf_stepK [49, 50] [fun _ => t49 = .bool true, fun _ => t50 = undef] (by kernel_rfl) (by kernel_rfl) (fun wf hb hf => ?_) (fun t51 => ?_)
          · obtain ⟨rfl, rfl, -⟩ := hf
            exact WfOp.no (by kernel_rfl) rfl
          refine wf_stepK [49, 51] [fun _ => t49 = .bool true, fun _ => t51 = undef] (by kernel_rfl) (by kernel_rfl) (fun wf hb hf => ?_) (fun t52 => ?_)
          · obtain ⟨rfl, rfl, -⟩ := hf
            exact WfOp.no (by kernel_rfl) rfl
          refine wf_stepK [49, 52] [fun _ => t49 = .bool true, fun _ => t52 = undef] (by kernel_rfl) (by kernel_rfl) (fun wf hb hf => ?_) (fun t53 => ?_)
          · obtain ⟨rfl, rfl, -⟩ := hf
            exact WfOp.no (by kernel_rfl) rfl
          refine wf_stepK [49, 53] [fun _ => t49 = .bool true, fun _ => t53 = undef] (by kernel_rfl) (by kernel_rfl) (fun wf hb hf => ?_) (fun t54 => ?_)
          · obtain ⟨rfl, rfl, -⟩ := hf
            exact WfOp.no (by kernel_rfl) rfl
          refine wf_stepK [49] [fun _ => t49 = .bool true] (by kernel_rfl) (by kernel_rfl) (fun wf hb hf => ?_) (fun t55 => ?_)
          · obtain ⟨rfl, -⟩ := hf
            exact WfOp.no (by kernel_rfl) rfl
          refine wf_stepK [49, 55] [fun _ => t49 = .bool true, fun _ => t55 = undef] (by kernel_rfl) (by kernel_rfl) (fun wf hb hf => ?_) (fun t56 => ?_)
          · obtain ⟨rfl, rfl, -⟩ := hf
            exact WfOp.no (by kernel_rfl) rfl
          refine wf_stepK [49, 56] [fun _ => t49 = .bool true, fun _ => t56 = undef] (by kernel_rfl) (by kernel_rfl) (fun wf hb hf => ?_) (fun t57 => ?_)
          · obtain ⟨rfl, rfl, -⟩ := hf
            exact WfOp.no (by kernel_rfl) rfl
          refine wf_stepK [49, 57] [fun _ => t49 = .bool true, fun _ => t57 = undef] (by kernel_rfl) (by kernel_rfl) (fun wf hb hf => ?_) (fun t58 => ?_)
          · obtain ⟨rfl, rfl, -⟩ := hf
            exact WfOp.no (by kernel_rfl) rfl
          refine wf_stepK [49, 58] [fun _ => t49 = .bool true, fun _ => t58 = undef] (by kernel_rfl) (by kernel_rfl) (fun wf hb hf => ?_) (fun t59 => ?_)
          · obtain ⟨rfl, rfl, -⟩ := hf
            exact WfOp.no (by kernel_rfl) rfl
          refine wf_stepK [49, 54, 59] [fun _ => t49 = .bool true, fun _ => t54 = undef, fun _ => t59 = undef] (by kernel_rfl) (by kernel_rfl) (fun wf hb hf => ?_) (fun t60 => ?_)
          · obtain ⟨rfl, rfl, rfl, -⟩ := hf
            exact WfOp.no (by kernel_rfl) rfl
          refine wf_doneK [49, 60] [fun _ => t49 = .bool true, fun _ => t60 = undef] (by kernel_rfl) (by kernel_rfl) (fun w4 b4 hf => ?_)
          obtain ⟨rfl, rfl, -⟩ := hf
          show wpList _ _ _ [_] _ _
          refine wpList_frame (by simp [Act.put]; rfl) ?_
          have B4 := btr B3 b4
          go_wp2_with fail
          refine (Add_s _ _ (x) _ _ (y) _ ((SlOw.at_ entO hx.1).below entR (btr (btr b2 b3) b4)) ((SlOw.at_ entO hy.1).below entR (btr (btr b2 b3) b4)) nx rx ny ry).mono ?_
          rintro e w5 ⟨A5, c5, rfl, o5, b5⟩
          have B5 := btr B4 b5
          have a5 : EntsAt w5 A5 (AddF (x) (y)) := SlOw.at_ entO o5
          go_wp2_with fail
          refine (equalZ (xs := AddF (x) (y)) (ys := AddF (x) (y)) true (decide_eq_true rfl) (a2.below entR (btr (btr b3 b4) b5)) a5 (Nat.le_trans (AddF_len' _ _) (by decide)) (Nat.le_trans (AddF_len' _ _) (by decide)) (rows_big (AddF_row' _ _) (by decide)) (rows_big (AddF_row' _ _) (by decide))).mono ?_
          rintro e w6 ⟨rfl, b6⟩
          have B6 := btr B5 b6
          go_wp2_with fail
          go_ret
          exact ⟨rfl, B6⟩
        · have hzx : ((x.length : Int) == 0) = false := by rw [beq_eq_false_iff_ne]; omega
          have hqx : (0 : Int) < x.length := by omega
          rcases Nat.eq_zero_or_pos y.length with h0y | hpy
          · have hzy : ((y.length : Int) == 0) = true := by rw [h0y]; rfl
            clear h0y
            go_wp2_with fail
            refine wp_region_facts [[], [], [], [1, 2], List.range 4, List.range 5, List.range 6, List.range 7, List.range 8, List.range 9, List.range 10, List.range 11, List.range 12, List.range 13, List.range 14, List.range 15, List.range 16, List.range 17, List.range 18, List.range 19, List.range 20, List.range 21, List.range 22, List.range 23, List.range 24, List.range 25, List.range 26, List.range 27, List.range 28, List.range 29, List.range 30, List.range 31, List.range 32, List.range 33, List.range 34, List.range 35, List.range 36, List.range 37, List.range 38, List.range 39, List.range 40, List.range 41, List.range 37, [0, 1, 2, 3, 4, 5, 6, 7, 8, 9, 10, 11, 12, 13, 14, 15, 16, 17, 18, 19, 20, 21, 22, 23, 24, 25, 26, 27, 28, 29, 30, 31, 32, 33, 34, 35, 36, 42], [0, 1, 2, 3, 4, 5, 6, 7, 8, 9, 10, 11, 12, 13, 14, 15, 16, 17, 18, 19, 20, 21, 22, 23, 24, 25, 26, 27, 28, 29, 30, 31, 32, 33, 34, 35, 36, 42, 43], [0, 1, 2, 3, 4, 5, 6, 7, 8, 9, 10, 11, 12, 13, 14, 15, 16, 17, 18, 19, 20, 21, 22, 23, 24, 25, 26, 27, 28, 29, 30, 31, 32, 33, 34, 35, 36, 42, 43, 44], [0, 1, 2, 3, 4, 5, 6, 7, 8, 9, 10, 11, 12, 13, 14, 15, 16, 17, 18, 19, 20, 21, 22, 23, 24, 25, 26, 27, 28, 29, 30, 31, 32, 33, 34, 35, 36, 42, 43, 44, 45], List.range 47, List.range 48, List.range 49, List.range 50, List.range 51, List.range 52, List.range 53, List.range 54, List.range 50, [0, 1, 2, 3, 4, 5, 6, 7, 8, 9, 10, 11, 12, 13, 14, 15, 16, 17, 18, 19, 20, 21, 22, 23, 24, 25, 26, 27, 28, 29, 30, 31, 32, 33, 34, 35, 36, 37, 38, 39, 40, 41, 42, 43, 44, 45, 46, 47, 48, 49, 55], [0, 1, 2, 3, 4, 5, 6, 7, 8, 9, 10, 11, 12, 13, 14, 15, 16, 17, 18, 19, 20, 21, 22, 23, 24, 25, 26, 27, 28, 29, 30, 31, 32, 33, 34, 35, 36, 37, 38, 39, 40, 41, 42, 43, 44, 45, 46, 47, 48, 49, 55, 56], [0, 1, 2, 3, 4, 5, 6, 7, 8, 9, 10, 11, 12, 13, 14, 15, 16, 17, 18, 19, 20, 21, 22, 23, 24, 25, 26, 27, 28, 29, 30, 31, 32, 33, 34, 35, 36, 37, 38, 39, 40, 41, 42, 43, 44, 45, 46, 47, 48, 49, 55, 56, 57], [0, 1, 2, 3, 4, 5, 6, 7, 8, 9, 10, 11, 12, 13, 14, 15, 16, 17, 18, 19, 20, 21, 22, 23, 24, 25, 26, 27, 28, 29, 30, 31, 32, 33, 34, 35, 36, 37, 38, 39, 40, 41, 42, 43, 44, 45, 46, 47, 48, 49, 55, 56, 57, 58], List.range 60]
              [fun v' _ => v' = .slice A2 (AddF (x) (y)).length c2, fun v' _ => v' = .slice Ax x.length cx, fun v' _ => v' = .slice Ay y.length cy, ZVr (AddF (x) (y)), fun v' _ => v' = .bool true, fun v' _ => v' = .bool false, fun v' _ => v' = .bool false, fun v' _ => v' = .slice Ax x.length cx, fun v' _ => v' = .bool true, fun v' _ => v' = .bool false, fun v' _ => v' = .bool false, fun v' _ => v' = .bool false, fun v' _ => v' = .slice Ay y.length cy, fun v' _ => v' = .bool true, fun v' _ => v' = .bool false, fun v' _ => v' = .bool false, fun v' _ => v' = .bool false, fun v' _ => v' = .slice Av v.length cv, fun v' _ => v' = .bool true, fun v' _ => v' = .bool false, fun v' _ => v' = .bool false, fun v' _ => v' = .bool false, fun v' _ => v' = .slice Ax x.length cx, fun v' _ => v' = .int .i64 ((x.length : Nat)), fun v' _ => v' = .bool false, fun v' _ => v' = .bool false, fun v' _ => v' = .bool false, fun v' _ => v' = .slice Ay y.length cy, fun v' _ => v' = .int .i64 ((y.length : Nat)), fun v' _ => v' = .bool true, fun v' _ => v' = .bool true, fun v' _ => v' = .bool true, fun v' _ => v' = undef, fun v' _ => v' = undef, fun v' _ => v' = undef, fun v' _ => v' = .bool true, fun v' _ => v' = .bool true, fun v' _ => v' = undef, fun v' _ => v' = undef, fun v' _ => v' = undef, fun v' _ => v' = undef, fun v' _ => v' = undef, fun v' _ => v' = undef, fun v' _ => v' = undef, fun v' _ => v' = undef, fun v' _ => v' = undef, fun v' _ => v' = undef, fun v' _ => v' = undef, fun v' _ => v' = .bool true, fun v' _ => v' = .bool true, fun v' _ => v' = undef, fun v' _ => v' = undef, fun v' _ => v' = undef, fun v' _ => v' = undef, fun v' _ => v' = undef, fun v' _ => v' = undef, fun v' _ => v' = undef, fun v' _ => v' = undef, fun v' _ => v' = undef, fun v' _ => v' = undef, fun v' _ => v' = undef]
              (by kernel_rfl) (by kernel_rfl) rfl ⟨stable_pure _, stable_pure _, stable_pure _, stable_zVr _, stable_pure _, stable_pure _, stable_pure _, stable_pure _, stable_pure _, stable_pure _, stable_pure _, stable_pure _, stable_pure _, stable_pure _, stable_pure _, stable_pure _, stable_pure _, stable_pure _, stable_pure _, stable_pure _, stable_pure _, stable_pure _, stable_pure _, stable_pure _, stable_pure _, stable_pure _, stable_pure _, stable_pure _, stable_pure _, stable_pure _, stable_pure _, stable_pure _, stable_pure _, stable_pure _, stable_pure _, stable_pure _, stable_pure _, stable_pure _, stable_pure _, stable_pure _, stable_pure _, stable_pure _, stable_pure _, stable_pure _, stable_pure _, stable_pure _, stable_pure _, stable_pure _, stable_pure _, stable_pure _, stable_pure _, stable_pure _, stable_pure _, stable_pure _, stable_pure _, stable_pure _, stable_pure _, stable_pure _, stable_pure _, stable_pure _, stable_pure _, trivial⟩ ?_
            refine wf_stepK [] [] (by kernel_rfl) (by kernel_rfl) (fun wf hb hf => ?_) (fun t0 => ?_)
            · refine ⟨?_⟩
              go_wp2
              exact ⟨rfl, .slice A2 (AddF (x) (y)).length c2, by kernel_rfl, Below.refl _ _, rfl⟩
            refine wf_stepK [] [] (by kernel_rfl) (by kernel_rfl) (fun wf hb hf => ?_) (fun t1 => ?_)
            · refine ⟨?_⟩
              go_wp2
              exact ⟨rfl, .slice Ax x.length cx, by kernel_rfl, Below.refl _ _, rfl⟩
            refine wf_stepK [] [] (by kernel_rfl) (by kernel_rfl) (fun wf hb hf => ?_) (fun t2 => ?_)
            · refine ⟨?_⟩
              go_wp2
              exact ⟨rfl, .slice Ay y.length cy, by kernel_rfl, Below.refl _ _, rfl⟩
            refine wf_stepK [1, 2] [fun _ => t1 = .slice Ax x.length cx, fun _ => t2 = .slice Ay y.length cy] (by kernel_rfl) (by kernel_rfl) (fun wf hb hf => ?_) (fun t3 => ?_)
            · obtain ⟨rfl, rfl, -⟩ := hf
              refine ⟨?_⟩
              go_wp2_with (go_at_call 28; refine (Add_s _ _ (x) _ _ (y) _ (((SlOw.at_ entO hx.1).below entR (btr b2 b3)).below entR hb) (((SlOw.at_ entO hy.1).below entR (btr b2 b3)).below entR hb) nx rx ny ry).mono ?_; rintro e w2 ⟨AN, cN, rfl, oN, hb2⟩)
              exact ⟨rfl, .slice AN (AddF (x) (y)).length cN, by kernel_rfl, hb2, AN, cN, rfl, SlOw.at_ entO oN, EntsOw.cap oN⟩
            refine wf_stepK [0, 3] [fun _ => t0 = .slice A2 (AddF (x) (y)).length c2, ZVr (AddF (x) (y)) t3] (by kernel_rfl) (by kernel_rfl) (fun wf hb hf => ?_) (fun t4 => ?_)
            · obtain ⟨rfl, ⟨XS1, xs1, rfl, hS1⟩, -⟩ := hf
              refine ⟨?_⟩
              go_wp2_with (go_at_call 15; refine (equalZ (xs := AddF (x) (y)) (ys := AddF (x) (y)) true (decide_eq_true rfl) ((a2.below entR b3).below entR hb) hS1.1 (Nat.le_trans (AddF_len' _ _) (by decide)) (Nat.le_trans (AddF_len' _ _) (by decide)) (rows_big (AddF_row' _ _) (by decide)) (rows_big (AddF_row' _ _) (by decide))).mono ?_; rintro e w2 ⟨rfl, hb2⟩)
              exact ⟨rfl, .bool true, by kernel_rfl, hb2, rfl⟩
            refine wf_stepK [4] [fun _ => t4 = .bool true] (by kernel_rfl) (by kernel_rfl) (fun wf hb hf => ?_) (fun t5 => ?_)
            · obtain ⟨rfl, -⟩ := hf
              refine ⟨?_⟩
              go_wp2
              exact ⟨rfl, .bool false, by kernel_rfl, Below.refl _ _, rfl⟩
            refine wf_stepK [5] [fun _ => t5 = .bool false] (by kernel_rfl) (by kernel_rfl) (fun wf hb hf => ?_) (fun t6 => ?_)
            · obtain ⟨rfl, -⟩ := hf
              refine ⟨?_⟩
              go_wp2
              exact ⟨rfl, .bool false, by kernel_rfl, Below.refl _ _, rfl⟩
            refine wf_stepK [6] [fun _ => t6 = .bool false] (by kernel_rfl) (by kernel_rfl) (fun wf hb hf => ?_) (fun t7 => ?_)
            · obtain ⟨rfl, -⟩ := hf
              refine WfOp.yes (by kernel_rfl) ?_
              dsimp only
              go_wp2
              exact ⟨rfl, .slice Ax x.length cx, by kernel_rfl, Below.refl _ _, rfl⟩
            refine wf_stepK [6, 7] [fun _ => t6 = .bool false, fun _ => t7 = .slice Ax x.length cx] (by kernel_rfl) (by kernel_rfl) (fun wf hb hf => ?_) (fun t8 => ?_)
            · obtain ⟨rfl, rfl, -⟩ := hf
              refine WfOp.yes (by kernel_rfl) ?_
              dsimp only
              go_wp2_with (go_at_call 21; refine (smallZ true HSx.out (((SlOw.at_ entO hx.1).below entR (btr b2 b3)).below entR hb) nx rx).mono ?_; rintro e w2 ⟨rfl, hb2⟩)
              exact ⟨rfl, .bool true, by kernel_rfl, hb2, rfl⟩
            refine wf_stepK [6, 8] [fun _ => t6 = .bool false, fun _ => t8 = .bool true] (by kernel_rfl) (by kernel_rfl) (fun wf hb hf => ?_) (fun t9 => ?_)
            · obtain ⟨rfl, rfl, -⟩ := hf
              refine WfOp.yes (by kernel_rfl) ?_
              dsimp only
              go_wp2
              exact ⟨rfl, .bool false, by kernel_rfl, Below.refl _ _, rfl⟩
            refine wf_stepK [6, 9] [fun _ => t6 = .bool false, fun _ => t9 = .bool false] (by kernel_rfl) (by kernel_rfl) (fun wf hb hf => ?_) (fun t10 => ?_)
            · obtain ⟨rfl, rfl, -⟩ := hf
              refine ⟨?_⟩
              go_wp2
              exact ⟨rfl, .bool false, by kernel_rfl, Below.refl _ _, rfl⟩
            refine wf_stepK [10] [fun _ => t10 = .bool false] (by kernel_rfl) (by kernel_rfl) (fun wf hb hf => ?_) (fun t11 => ?_)
            · obtain ⟨rfl, -⟩ := hf
              refine ⟨?_⟩
              go_wp2
              exact ⟨rfl, .bool false, by kernel_rfl, Below.refl _ _, rfl⟩
            refine wf_stepK [11] [fun _ => t11 = .bool false] (by kernel_rfl) (by kernel_rfl) (fun wf hb hf => ?_) (fun t12 => ?_)
            · obtain ⟨rfl, -⟩ := hf
              refine WfOp.yes (by kernel_rfl) ?_
              dsimp only
              go_wp2
              exact ⟨rfl, .slice Ay y.length cy, by kernel_rfl, Below.refl _ _, rfl⟩
            refine wf_stepK [11, 12] [fun _ => t11 = .bool false, fun _ => t12 = .slice Ay y.length cy] (by kernel_rfl) (by kernel_rfl) (fun wf hb hf => ?_) (fun t13 => ?_)
            · obtain ⟨rfl, rfl, -⟩ := hf
              refine WfOp.yes (by kernel_rfl) ?_
              dsimp only
              go_wp2_with (go_at_call 21; refine (smallZ true HSy.out (((SlOw.at_ entO hy.1).below entR (btr b2 b3)).below entR hb) ny ry).mono ?_; rintro e w2 ⟨rfl, hb2⟩)
              exact ⟨rfl, .bool true, by kernel_rfl, hb2, rfl⟩
            refine wf_stepK [11, 13] [fun _ => t11 = .bool false, fun _ => t13 = .bool true] (by kernel_rfl) (by kernel_rfl) (fun wf hb hf => ?_) (fun t14 => ?_)
            · obtain ⟨rfl, rfl, -⟩ := hf
              refine WfOp.yes (by kernel_rfl) ?_
              dsimp only
              go_wp2
              exact ⟨rfl, .bool false, by kernel_rfl, Below.refl _ _, rfl⟩
            refine wf_stepK [11, 14] [fun _ => t11 = .bool false, fun _ => t14 = .bool false] (by kernel_rfl) (by kernel_rfl) (fun wf hb hf => ?_) (fun t15 => ?_)
            · obtain ⟨rfl, rfl, -⟩ := hf
              refine ⟨?_⟩
              go_wp2
              exact ⟨rfl, .bool false, by kernel_rfl, Below.refl _ _, rfl⟩
            refine wf_stepK [15] [fun _ => t15 = .bool false] (by kernel_rfl) (by kernel_rfl) (fun wf hb hf => ?_) (fun t16 => ?_)
            · obtain ⟨rfl, -⟩ := hf
              refine ⟨?_⟩
              go_wp2
              exact ⟨rfl, .bool false, by kernel_rfl, Below.refl _ _, rfl⟩
            refine wf_stepK [16] [fun _ => t16 = .bool false] (by kernel_rfl) (by kernel_rfl) (fun wf hb hf => ?_) (fun t17 => ?_)
            · obtain ⟨rfl, -⟩ := hf
              refine WfOp.yes (by kernel_rfl) ?_
              dsimp only
              go_wp2
              exact ⟨rfl, .slice Av v.length cv, by kernel_rfl, Below.refl _ _, rfl⟩
            refine wf_stepK [16, 17] [fun _ => t16 = .bool false, fun _ => t17 = .slice Av v.length cv] (by kernel_rfl) (by kernel_rfl) (fun wf hb hf => ?_) (fun t18 => ?_)
            · obtain ⟨rfl, rfl, -⟩ := hf
              refine WfOp.yes (by kernel_rfl) ?_
              dsimp only
              go_wp2_with (go_at_call 21; refine (smallZ true HSv.out ((SlOw.at_ entO hv.1).below entR hb) nv rv).mono ?_; rintro e w2 ⟨rfl, hb2⟩)
              exact ⟨rfl, .bool true, by kernel_rfl, hb2, rfl⟩
            refine wf_stepK [16, 18] [fun _ => t16 = .bool false, fun _ => t18 = .bool true] (by kernel_rfl) (by kernel_rfl) (fun wf hb hf => ?_) (fun t19 => ?_)
            · obtain ⟨rfl, rfl, -⟩ := hf
              refine WfOp.yes (by kernel_rfl) ?_
              dsimp only
              go_wp2
              exact ⟨rfl, .bool false, by kernel_rfl, Below.refl _ _, rfl⟩
            refine wf_stepK [16, 19] [fun _ => t16 = .bool false, fun _ => t19 = .bool false] (by kernel_rfl) (by kernel_rfl) (fun wf hb hf => ?_) (fun t20 => ?_)
            · obtain ⟨rfl, rfl, -⟩ := hf
              refine ⟨?_⟩
              go_wp2
              exact ⟨rfl, .bool false, by kernel_rfl, Below.refl _ _, rfl⟩
            refine wf_stepK [20] [fun _ => t20 = .bool false] (by kernel_rfl) (by kernel_rfl) (fun wf hb hf => ?_) (fun t21 => ?_)
            · obtain ⟨rfl, -⟩ := hf
              refine ⟨?_⟩
              go_wp2
              exact ⟨rfl, .bool false, by kernel_rfl, Below.refl _ _, rfl⟩
            refine wf_stepK [21] [fun _ => t21 = .bool false] (by kernel_rfl) (by kernel_rfl) (fun wf hb hf => ?_) (fun t22 => ?_)
            · obtain ⟨rfl, -⟩ := hf
              refine WfOp.yes (by kernel_rfl) ?_
              dsimp only
              go_wp2
              exact ⟨rfl, .slice Ax x.length cx, by kernel_rfl, Below.refl _ _, rfl⟩
            refine wf_stepK [21, 22] [fun _ => t21 = .bool false, fun _ => t22 = .slice Ax x.length cx] (by kernel_rfl) (by kernel_rfl) (fun wf hb hf => ?_) (fun t23 => ?_)
            · obtain ⟨rfl, rfl, -⟩ := hf
              refine WfOp.yes (by kernel_rfl) ?_
              dsimp only
              go_wp2
              exact ⟨rfl, .int .i64 ((x.length : Nat)), by kernel_rfl, Below.refl _ _, rfl⟩
            refine wf_stepK [21, 23] [fun _ => t21 = .bool false, fun _ => t23 = .int .i64 ((x.length : Nat))] (by kernel_rfl) (by kernel_rfl) (fun wf hb hf => ?_) (fun t24 => ?_)
            · obtain ⟨rfl, rfl, -⟩ := hf
              refine WfOp.yes (by kernel_rfl) ?_
              dsimp only
              go_wp2
              exact ⟨rfl, .bool false, by kernel_rfl, Below.refl _ _, rfl⟩
            refine wf_stepK [21, 24] [fun _ => t21 = .bool false, fun _ => t24 = .bool false] (by kernel_rfl) (by kernel_rfl) (fun wf hb hf => ?_) (fun t25 => ?_)
            · obtain ⟨rfl, rfl, -⟩ := hf
              refine ⟨?_⟩
              go_wp2
              exact ⟨rfl, .bool false, by kernel_rfl, Below.refl _ _, rfl⟩
            refine wf_stepK [25] [fun _ => t25 = .bool false] (by kernel_rfl) (by kernel_rfl) (fun wf hb hf => ?_) (fun t26 => ?_)
            · obtain ⟨rfl, -⟩ := hf
              refine ⟨?_⟩
              go_wp2
              exact ⟨rfl, .bool false, by kernel_rfl, Below.refl _ _, rfl⟩
            refine wf_stepK [26] [fun _ => t26 = .bool false] (by kernel_rfl) (by kernel_rfl) (fun wf hb hf => ?_) (fun t27 => ?_)
            · obtain ⟨rfl, -⟩ := hf
              refine WfOp.yes (by kernel_rfl) ?_
              dsimp only
              go_wp2
              exact ⟨rfl, .slice Ay y.length cy, by kernel_rfl, Below.refl _ _, rfl⟩
            refine wf_stepK [26, 27] [fun _ => t26 = .bool false, fun _ => t27 = .slice Ay y.length cy] (by kernel_rfl) (by kernel_rfl) (fun wf hb hf => ?_) (fun t28 => ?_)
            · obtain ⟨rfl, rfl, -⟩ := hf
              refine WfOp.yes (by kernel_rfl) ?_
              dsimp only
              go_wp2
              exact ⟨rfl, .int .i64 ((y.length : Nat)), by kernel_rfl, Below.refl _ _, rfl⟩
            refine wf_stepK [26, 28] [fun _ => t26 = .bool false, fun _ => t28 = .int .i64 ((y.length : Nat))] (by kernel_rfl) (by kernel_rfl) (fun wf hb hf => ?_) (fun t29 => ?_)
            · obtain ⟨rfl, rfl, -⟩ := hf
              refine WfOp.yes (by kernel_rfl) ?_
              dsimp only
              go_wp2
              exact ⟨rfl, .bool true, by kernel_rfl, Below.refl _ _, rfl⟩
            refine wf_stepK [26, 29] [fun _ => t26 = .bool false, fun _ => t29 = .bool true] (by kernel_rfl) (by kernel_rfl) (fun wf hb hf => ?_) (fun t30 => ?_)
            · obtain ⟨rfl, rfl, -⟩ := hf
              refine ⟨?_⟩
              go_wp2
              exact ⟨rfl, .bool true, by kernel_rfl, Below.refl _ _, rfl⟩
            refine wf_stepK [30] [fun _ => t30 = .bool true] (by kernel_rfl) (by kernel_rfl) (fun wf hb hf => ?_) (fun t31 => ?_)
            · obtain ⟨rfl, -⟩ := hf
              refine ⟨?_⟩
              go_wp2
              exact ⟨rfl, .bool true, by kernel_rfl, Below.refl _ _, rfl⟩
            refine wf_stepK [31] [fun _ => t31 = .bool true] (by kernel_rfl) (by kernel_rfl) (fun wf hb hf => ?_) (fun t32 => ?_)
            · obtain ⟨rfl, -⟩ := hf
              exact WfOp.no (by kernel_rfl) rfl
            refine wf_stepK [31, 32] [fun _ => t31 = .bool true, fun _ => t32 = undef] (by kernel_rfl) (by kernel_rfl) (fun wf hb hf => ?_) (fun t33 => ?_)
            · obtain ⟨rfl, rfl, -⟩ := hf
              exact WfOp.no (by kernel_rfl) rfl
            refine wf_stepK [31, 33] [fun _ => t31 = .bool true, fun _ => t33 = undef] (by kernel_rfl) (by kernel_rfl) (fun wf hb hf => ?_) (fun t34 => ?_)
            · obtain ⟨rfl, rfl, -⟩ := hf
              exact WfOp.no (by kernel_rfl) rfl
            refine wf_stepK [31, 34] [fun _ => t31 = .bool true, fun _ => t34 = undef] (by kernel_rfl) (by kernel_rfl) (fun wf hb hf => ?_) (fun t35 => ?_)
            · obtain ⟨rfl, rfl, -⟩ := hf
              refine ⟨?_⟩
              go_wp2
              exact ⟨rfl, .bool true, by kernel_rfl, Below.refl _ _, rfl⟩
            refine wf_stepK [35] [fun _ => t35 = .bool true] (by kernel_rfl) (by kernel_rfl) (fun wf hb hf => ?_) (fun t36 => ?_)
            · obtain ⟨rfl, -⟩ := hf
              refine ⟨?_⟩
              go_wp2
              exact ⟨rfl, .bool true, by kernel_rfl, Below.refl _ _, rfl⟩
            refine wf_stepK [36] [fun _ => t36 = .bool true] (by kernel_rfl) (by kernel_rfl) (fun wf hb hf => ?_) (fun t37 => ?_)
            · obtain ⟨rfl, -⟩ := hf
              exact WfOp.no (by kernel_rfl) rfl
            refine wf_stepK [36, 37] [fun _ => t36 = .bool true, fun _ => t37 = undef] (by kernel_rfl) (by kernel_rfl) (fun wf hb hf => ?_) (fun t38 => ?_)
            · obtain ⟨rfl, rfl, -⟩ := hf
              exact WfOp.no (by kernel_rfl) rfl
            refine wf_stepK [36, 38] [fun _ => t36 = .bool true, fun _ => t38 = undef] (by kernel_rfl) (by kernel_rfl) (fun wf hb hf => ?_) (fun t39 => ?_)
            · obtain ⟨rfl, rfl, -⟩ := hf
              exact WfOp.no (by kernel_rfl) rfl
            refine wf_stepK [36, 39] [fun _ => t36 = .bool true, fun _ => t39 = undef] (by kernel_rfl) (by kernel_rfl) (fun wf hb hf => ?_) (fun t40 => ?_)
            · obtain ⟨rfl, rfl, -⟩ := hf
              exact WfOp.no (by kernel_rfl) rfl
            refine wf_stepK [36, 40] [fun _ => t36 = .bool true, fun _ => t40 = undef] (by kernel_rfl) (by kernel_rfl) (fun wf hb hf => ?_) (fun t41 => ?_)
            · obtain ⟨rfl, rfl, -⟩ := hf
              exact WfOp.no (by kernel_rfl) rfl
            refine wf_stepK [36] [fun _ => t36 = .bool true] (by kernel_rfl) (by kernel_rfl) (fun wf hb hf => ?_) (fun t42 => ?_)
            · obtain ⟨rfl, -⟩ := hf
              exact WfOp.no (by kernel_rfl) rfl
            refine wf_stepK [36, 42] [fun _ => t36 = .bool true, fun _ => t42 = undef] (by kernel_rfl) (by kernel_rfl) (fun wf hb hf => ?_) (fun t43 => ?_)
            · obtain ⟨rfl, rfl, -⟩ := hf
              exact WfOp.no (by kernel_rfl) rfl
            refine wf_stepK [36, 43] [fun _ => t36 = .bool true, fun _ => t43 = undef] (by kernel_rfl) (by kernel_rfl) (fun wf hb hf => ?_) (fun t44 => ?_)
            · obtain ⟨rfl, rfl, -⟩ := hf
              exact WfOp.no (by kernel_rfl) rfl
            refine wf_stepK [36, 44] [fun _ => t36 = .bool true, fun _ => t44 = undef] (by kernel_rfl) (by kernel_rfl) (fun wf hb hf => ?_) (fun t45 => ?_)
            · obtain ⟨rfl, rfl, -⟩ := hf
              exact WfOp.no (by kernel_rfl) rfl
            refine wf_stepK [36, 45] [fun _ => t36 = .bool true, fun _ => t45 = undef] (by kernel_rfl) (by kernel_rfl) (fun wf hb hf => ?_) (fun t46 => ?_)
            · obtain ⟨rfl, rfl, -⟩ := hf
              exact WfOp.no (by kernel_rfl) rfl
            refine wf_stepK [36, 41, 46] [fun _ => t36 = .bool true, fun _ => t41 = undef, fun _ => t46 = undef] (by kernel_rfl) (by kernel_rfl) (fun wf hb hf => ?_) (fun t47 => ?_)
            · obtain ⟨rfl, rfl, rfl, -⟩ := hf
              exact WfOp.no (by kernel_rfl) rfl
            refine wf_stepK [36, 47] [fun _ => t36 = .bool true, fun _ => t47 = undef] (by kernel_rfl) (by kernel_rfl) (fun wf hb hf => ?_) (fun t48 => ?_)
            · obtain ⟨rfl, rfl, -⟩ := hf
              refine ⟨?_⟩
              go_wp2
              exact ⟨rfl, .bool true, by kernel_rfl, Below.refl _ _, rfl⟩
            refine wf_stepK [48] [fun _ => t48 = .bool true] (by kernel_rfl) (by kernel_rfl) (fun wf hb hf => ?_) (fun t49 => ?_)
            · obtain ⟨rfl, -⟩ := hf
              refine ⟨?_⟩
              go_wp2
              exact ⟨rfl, .bool true, by kernel_rfl, Below.refl _ _, rfl⟩
            refine wf_stepK [49] [fun _ => t49 = .bool true] (by kernel_rfl) (by kernel_rfl) (fun wf hb hf => ?_) (fun t50 => ?_)
            · obtain ⟨rfl, -⟩ := hf
              exact WfOp.no (by kernel_rfl) rfl
            refine wf_stepK [49, 50] [fun _ => t49 = .bool true, fun _ => t50 = undef] (by kernel_rfl) (by kernel_rfl) (fun wf hb hf => ?_) (fun t51 => ?_)
            · obtain ⟨rfl, rfl, -⟩ := hf
              exact WfOp.no (by kernel_rfl) rfl
            refine wf_stepK [49, 51] [fun _ => t49 = .bool true, fun _ => t51 = undef] (by kernel_rfl) (by kernel_rfl) (fun wf hb hf => ?_) (fun t52 => ?_)
            · obtain ⟨rfl, rfl, -⟩ := hf
              exact WfOp.no (by kernel_rfl) rfl
            refine wf_stepK [49, 52] [fun _ => t49 = .bool true, fun _ => t52 = undef] (by kernel_rfl) (by kernel_rfl) (fun wf hb hf => ?_) (fun t53 => ?_)
            · obtain ⟨rfl, rfl, -⟩ := hf
              exact WfOp.no (by kernel_rfl) rfl
            refine wf_stepK [49, 53] [fun _ => t49 = .bool true, fun _ => t53 = undef] (by kernel_rfl) (by kernel_rfl) (fun wf hb hf => ?_) (fun t54 => ?_)
            · obtain ⟨rfl, rfl, -⟩ := hf
              exact WfOp.no (by kernel_rfl) rfl
            refine wf_stepK [49] [fun _ => t49 = .bool true] (by kernel_rfl) (by kernel_rfl) (fun wf hb hf => ?_) (fun t55 => ?_)
            · obtain ⟨rfl, -⟩ := hf
              exact WfOp.no (by kernel_rfl) rfl
            refine wf_stepK [49, 55] [fun _ => t49 = .bool true, fun _ => t55 = undef] (by kernel_rfl) (by kernel_rfl) (fun wf hb hf => ?_) (fun t56 => ?_)
            · obtain ⟨rfl, rfl, -⟩ := hf
              exact WfOp.no (by kernel_rfl) rfl
            refine wf_stepK [49, 56] [fun _ => t49 = .bool true, fun _ => t56 = undef] (by kernel_rfl) (by kernel_rfl) (fun wf hb hf => ?_) (fun t57 => ?_)
            · obtain ⟨rfl, rfl, -⟩ := hf
              exact WfOp.no (by kernel_rfl) rfl
            refine wf_stepK [49, 57] [fun _ => t49 = .bool true, fun _ => t57 = undef] (by kernel_rfl) (by kernel_rfl) (fun wf hb hf => ?_) (fun t58 => ?_)
            · obtain ⟨rfl, rfl, -⟩ := hf
              exact WfOp.no (by kernel_rfl) rfl
            refine wf_stepK [49, 58] [fun _ => t49 = .bool true, fun _ => t58 = undef] (by kernel_rfl) (by kernel_rfl) (fun wf hb hf => ?_) (fun t59 => ?_)
            · obtain ⟨rfl, rfl, -⟩ := hf
              exact WfOp.no (by kernel_rfl) rfl
            refine wf_stepK [49, 54, 59] [fun _ => t49 = .bool true, fun _ => t54 = undef, fun _ => t59 = undef] (by kernel_rfl) (by kernel_rfl) (fun wf hb hf => ?_) (fun t60 => ?_)
            · obtain ⟨rfl, rfl, rfl, -⟩ := hf
              exact WfOp.no (by kernel_rfl) rfl
            refine wf_doneK [49, 60] [fun _ => t49 = .bool true, fun _ => t60 = undef] (by kernel_rfl) (by kernel_rfl) (fun w4 b4 hf => ?_)
            obtain ⟨rfl, rfl, -⟩ := hf
            show wpList _ _ _ [_] _ _
            refine wpList_frame (by simp [Act.put]; rfl) ?_
            have B4 := btr B3 b4
            go_wp2_with fail
            refine (Add_s _ _ (x) _ _ (y) _ ((SlOw.at_ entO hx.1).below entR (btr (btr b2 b3) b4)) ((SlOw.at_ entO hy.1).below entR (btr (btr b2 b3) b4)) nx rx ny ry).mono ?_
            rintro e w5 ⟨A5, c5, rfl, o5, b5⟩
            have B5 := btr B4 b5
            have a5 : EntsAt w5 A5 (AddF (x) (y)) := SlOw.at_ entO o5
            go_wp2_with fail
            refine (equalZ (xs := AddF (x) (y)) (ys := AddF (x) (y)) true (decide_eq_true rfl) (a2.below entR (btr (btr b3 b4) b5)) a5 (Nat.le_trans (AddF_len' _ _) (by decide)) (Nat.le_trans (AddF_len' _ _) (by decide)) (rows_big (AddF_row' _ _) (by decide)) (rows_big (AddF_row' _ _) (by decide))).mono ?_
            rintro e w6 ⟨rfl, b6⟩
            have B6 := btr B5 b6
            go_wp2_with fail
            go_ret
            exact ⟨rfl, B6⟩
          · have hzy : ((y.length : Int) == 0) = false := by rw [beq_eq_false_iff_ne]; omega
            have hqy : (0 : Int) < y.length := by omega
            rcases Nat.eq_zero_or_pos v.length with h0v | hpv
            · have hzv : ((v.length : Int) == 0) = true := by rw [h0v]; rfl
              clear h0v
              go_wp2_with fail
              refine wp_region_facts [[], [], [], [1, 2], List.range 4, List.range 5, List.range 6, List.range 7, List.range 8, List.range 9, List.range 10, List.range 11, List.range 12, List.range 13, List.range 14, List.range 15, List.range 16, List.range 17, List.range 18, List.range 19, List.range 20, List.range 21, List.range 22, List.range 23, List.range 24, List.range 25, List.range 26, List.range 27, List.range 28, List.range 29, List.range 30, List.range 31, List.range 32, List.range 33, List.range 34, List.range 35, List.range 36, List.range 37, List.range 38, List.range 39, List.range 40, List.range 41, List.range 37, [0, 1, 2, 3, 4, 5, 6, 7, 8, 9, 10, 11, 12, 13, 14, 15, 16, 17, 18, 19, 20, 21, 22, 23, 24, 25, 26, 27, 28, 29, 30, 31, 32, 33, 34, 35, 36, 42], [0, 1, 2, 3, 4, 5, 6, 7, 8, 9, 10, 11, 12, 13, 14, 15, 16, 17, 18, 19, 20, 21, 22, 23, 24, 25, 26, 27, 28, 29, 30, 31, 32, 33, 34, 35, 36, 42, 43], [0, 1, 2, 3, 4, 5, 6, 7, 8, 9, 10, 11, 12, 13, 14, 15, 16, 17, 18, 19, 20, 21, 22, 23, 24, 25, 26, 27, 28, 29, 30, 31, 32, 33, 34, 35, 36, 42, 43, 44], [0, 1, 2, 3, 4, 5, 6, 7, 8, 9, 10, 11, 12, 13, 14, 15, 16, 17, 18, 19, 20, 21, 22, 23, 24, 25, 26, 27, 28, 29, 30, 31, 32, 33, 34, 35, 36, 42, 43, 44, 45], List.range 47, List.range 48, List.range 49, List.range 50, List.range 51, List.range 52, List.range 53, List.range 54, List.range 50, [0, 1, 2, 3, 4, 5, 6, 7, 8, 9, 10, 11, 12, 13, 14, 15, 16, 17, 18, 19, 20, 21, 22, 23, 24, 25, 26, 27, 28, 29, 30, 31, 32, 33, 34, 35, 36, 37, 38, 39, 40, 41, 42, 43, 44, 45, 46, 47, 48, 49, 55], [0, 1, 2, 3, 4, 5, 6, 7, 8, 9, 10, 11, 12, 13, 14, 15, 16, 17, 18, 19, 20, 21, 22, 23, 24, 25, 26, 27, 28, 29, 30, 31, 32, 33, 34, 35, 36, 37, 38, 39, 40, 41, 42, 43, 44, 45, 46, 47, 48, 49, 55, 56], [0, 1, 2, 3, 4, 5, 6, 7, 8, 9, 10, 11, 12, 13, 14, 15, 16, 17, 18, 19, 20, 21, 22, 23, 24, 25, 26, 27, 28, 29, 30, 31, 32, 33, 34, 35, 36, 37, 38, 39, 40, 41, 42, 43, 44, 45, 46, 47, 48, 49, 55, 56, 57], [0, 1, 2, 3, 4, 5, 6, 7, 8, 9, 10, 11, 12, 13, 14, 15, 16, 17, 18, 19, 20, 21, 22, 23, 24, 25, 26, 27, 28, 29, 30, 31, 32, 33, 34, 35, 36, 37, 38, 39, 40, 41, 42, 43, 44, 45, 46, 47, 48, 49, 55, 56, 57, 58], List.range 60]
                [fun v' _ => v' = .slice A2 (AddF (x) (y)).length c2, fun v' _ => v' = .slice Ax x.length cx, fun v' _ => v' = .slice Ay y.length cy, ZVr (AddF (x) (y)), fun v' _ => v' = .bool true, fun v' _ => v' = .bool false, fun v' _ => v' = .bool false, fun v' _ => v' = .slice Ax x.length cx, fun v' _ => v' = .bool true, fun v' _ => v' = .bool false, fun v' _ => v' = .bool false, fun v' _ => v' = .bool false, fun v' _ => v' = .slice Ay y.length cy, fun v' _ => v' = .bool true, fun v' _ => v' = .bool false, fun v' _ => v' = .bool false, fun v' _ => v' = .bool false, fun v' _ => v' = .slice Av v.length cv, fun v' _ => v' = .bool true, fun v' _ => v' = .bool false, fun v' _ => v' = .bool false, fun v' _ => v' = .bool false, fun v' _ => v' = .slice Ax x.length cx, fun v' _ => v' = .int .i64 ((x.length : Nat)), fun v' _ => v' = .bool false, fun v' _ => v' = .bool false, fun v' _ => v' = .bool false, fun v' _ => v' = .slice Ay y.length cy, fun v' _ => v' = .int .i64 ((y.length : Nat)), fun v' _ => v' = .bool false, fun v' _ => v' = .bool false, fun v' _ => v' = .bool false, fun v' _ => v' = .slice Av v.length cv, fun v' _ => v' = .int .i64 ((v.length : Nat)), fun v' _ => v' = .bool true, fun v' _ => v' = .bool true, fun v' _ => v' = .bool true, fun v' _ => v' = undef, fun v' _ => v' = undef, fun v' _ => v' = undef, fun v' _ => v' = undef, fun v' _ => v' = undef, fun v' _ => v' = undef, fun v' _ => v' = undef, fun v' _ => v' = undef, fun v' _ => v' = undef, fun v' _ => v' = undef, fun v' _ => v' = undef, fun v' _ => v' = .bool true, fun v' _ => v' = .bool true, fun v' _ => v' = undef, fun v' _ => v' = undef, fun v' _ => v' = undef, fun v' _ => v' = undef, fun v' _ => v' = undef, fun v' _ => v' = undef, fun v' _ => v' = undef, fun v' _ => v' = undef, fun v' _ => v' = undef, fun v' _ => v' = undef, fun v' _ => v' = undef]
                (by kernel_rfl) (by kernel_rfl) rfl ⟨stable_pure _, stable_pure _, stable_pure _, stable_zVr _, stable_pure _, stable_pure _, stable_pure _, stable_pure _, stable_pure _, stable_pure _, stable_pure _, stable_pure _, stable_pure _, stable_pure _, stable_pure _, stable_pure _, stable_pure _, stable_pure _, stable_pure _, stable_pure _, stable_pure _, stable_pure _, stable_pure _, stable_pure _, stable_pure _, stable_pure _, stable_pure _, stable_pure _, stable_pure _, stable_pure _, stable_pure _, stable_pure _, stable_pure _, stable_pure _, stable_pure _, stable_pure _, stable_pure _, stable_pure _, stable_pure _, stable_pure _, stable_pure _, stable_pure _, stable_pure _, stable_pure _, stable_pure _, stable_pure _, stable_pure _, stable_pure _, stable_pure _, stable_pure _, stable_pure _, stable_pure _, stable_pure _, stable_pure _, stable_pure _, stable_pure _, stable_pure _, stable_pure _, stable_pure _, stable_pure _, stable_pure _, trivial⟩ ?_
              refine wf_stepK [] [] (by kernel_rfl) (by kernel_rfl) (fun wf hb hf => ?_) (fun t0 => ?_)
              · refine ⟨?_⟩
                go_wp2
                exact ⟨rfl, .slice A2 (AddF (x) (y)).length c2, by kernel_rfl, Below.refl _ _, rfl⟩
              refine wf_stepK [] [] (by kernel_rfl) (by kernel_rfl) (fun wf hb hf => ?_) (fun t1 => ?_)
              · refine ⟨?_⟩
                go_wp2
                exact ⟨rfl, .slice Ax x.length cx, by kernel_rfl, Below.refl _ _, rfl⟩
              refine wf_stepK [] [] (by kernel_rfl) (by kernel_rfl) (fun wf hb hf => ?_) (fun t2 => ?_)
              · refine ⟨?_⟩
                go_wp2
                exact ⟨rfl, .slice Ay y.length cy, by kernel_rfl, Below.refl _ _, rfl⟩
              refine wf_stepK [1, 2] [fun _ => t1 = .slice Ax x.length cx, fun _ => t2 = .slice Ay y.length cy] (by kernel_rfl) (by kernel_rfl) (fun wf hb hf => ?_) (fun t3 => ?_)
              · obtain ⟨rfl, rfl, -⟩ := hf
                refine ⟨?_⟩
                go_wp2_with (go_at_call 28; refine (Add_s _ _ (x) _ _ (y) _ (((SlOw.at_ entO hx.1).below entR (btr b2 b3)).below entR hb) (((SlOw.at_ entO hy.1).below entR (btr b2 b3)).below entR hb) nx rx ny ry).mono ?_; rintro e w2 ⟨AN, cN, rfl, oN, hb2⟩)
                exact ⟨rfl, .slice AN (AddF (x) (y)).length cN, by kernel_rfl, hb2, AN, cN, rfl, SlOw.at_ entO oN, EntsOw.cap oN⟩
              refine wf_stepK [0, 3] [fun _ => t0 = .slice A2 (AddF (x) (y)).length c2, ZVr (AddF (x) (y)) t3] (by kernel_rfl) (by kernel_rfl) (fun wf hb hf => ?_) (fun t4 => ?_)
              · obtain ⟨rfl, ⟨XS1, xs1, rfl, hS1⟩, -⟩ := hf
                refine ⟨?_⟩
                go_wp2_with (go_at_call 15; refine (equalZ (xs := AddF (x) (y)) (ys := AddF (x) (y)) true (decide_eq_true rfl) ((a2.below entR b3).below entR hb) hS1.1 (Nat.le_trans (AddF_len' _ _) (by decide)) (Nat.le_trans (AddF_len' _ _) (by decide)) (rows_big (AddF_row' _ _) (by decide)) (rows_big (AddF_row' _ _) (by decide))).mono ?_; rintro e w2 ⟨rfl, hb2⟩)
                exact ⟨rfl, .bool true, by kernel_rfl, hb2, rfl⟩
              refine wf_stepK [4] [fun _ => t4 = .bool true] (by kernel_rfl) (by kernel_rfl) (fun wf hb hf => ?_) (fun t5 => ?_)
              · obtain ⟨rfl, -⟩ := hf
                refine ⟨?_⟩
                go_wp2
                exact ⟨rfl, .bool false, by kernel_rfl, Below.refl _ _, rfl⟩
              refine wf_stepK [5] [fun _ => t5 = .bool false] (by kernel_rfl) (by kernel_rfl) (fun wf hb hf => ?_) (fun t6 => ?_)
              · obtain ⟨rfl, -⟩ := hf
                refine ⟨?_⟩
                go_wp2
                exact ⟨rfl, .bool false, by kernel_rfl, Below.refl _ _, rfl⟩
              refine wf_stepK [6] [fun _ => t6 = .bool false] (by kernel_rfl) (by kernel_rfl) (fun wf hb hf => ?_) (fun t7 => ?_)
              · obtain ⟨rfl, -⟩ := hf
                refine WfOp.yes (by kernel_rfl) ?_
                dsimp only
                go_wp2
                exact ⟨rfl, .slice Ax x.length cx, by kernel_rfl, Below.refl _ _, rfl⟩
              refine wf_stepK [6, 7] [fun _ => t6 = .bool false, fun _ => t7 = .slice Ax x.length cx] (by kernel_rfl) (by kernel_rfl) (fun wf hb hf => ?_) (fun t8 => ?_)
              · obtain ⟨rfl, rfl, -⟩ := hf
                refine WfOp.yes (by kernel_rfl) ?_
                dsimp only
                go_wp2_with (go_at_call 21; refine (smallZ true HSx.out (((SlOw.at_ entO hx.1).below entR (btr b2 b3)).below entR hb) nx rx).mono ?_; rintro e w2 ⟨rfl, hb2⟩)
                exact ⟨rfl, .bool true, by kernel_rfl, hb2, rfl⟩
              refine wf_stepK [6, 8] [fun _ => t6 = .bool false, fun _ => t8 = .bool true] (by kernel_rfl) (by kernel_rfl) (fun wf hb hf => ?_) (fun t9 => ?_)
              · obtain ⟨rfl, rfl, -⟩ := hf
                refine WfOp.yes (by kernel_rfl) ?_
                dsimp only
                go_wp2
                exact ⟨rfl, .bool false, by kernel_rfl, Below.refl _ _, rfl⟩
              refine wf_stepK [6, 9] [fun _ => t6 = .bool false, fun _ => t9 = .bool false] (by kernel_rfl) (by kernel_rfl) (fun wf hb hf => ?_) (fun t10 => ?_)
              · obtain ⟨rfl, rfl, -⟩ := hf
                refine ⟨?_⟩
                go_wp2
                exact ⟨rfl, .bool false, by kernel_rfl, Below.refl _ _, rfl⟩
              refine wf_stepK [10] [fun _ => t10 = .bool false] (by kernel_rfl) (by kernel_rfl) (fun wf hb hf => ?_) (fun t11 => ?_)
              · obtain ⟨rfl, -⟩ := hf
                refine ⟨?_⟩
                go_wp2
                exact ⟨rfl, .bool false, by kernel_rfl, Below.refl _ _, rfl⟩
              refine wf_stepK [11] [fun _ => t11 = .bool false] (by kernel_rfl) (by kernel_rfl) (fun wf hb hf => ?_) (fun t12 => ?_)
              · obtain ⟨rfl, -⟩ := hf
                refine WfOp.yes (by kernel_rfl) ?_
                dsimp only
                go_wp2
                exact ⟨rfl, .slice Ay y.length cy, by kernel_rfl, Below.refl _ _, rfl⟩
              refine wf_stepK [11, 12] [fun _ => t11 = .bool false, fun _ => t12 = .slice Ay y.length cy] (by kernel_rfl) (by kernel_rfl) (fun wf hb hf => ?_) (fun t13 => ?_)
              · obtain ⟨rfl, rfl, -⟩ := hf
                refine WfOp.yes (by kernel_rfl) ?_
                dsimp only
                go_wp2_with (go_at_call 21; refine (smallZ true HSy.out (((SlOw.at_ entO hy.1).below entR (btr b2 b3)).below entR hb) ny ry).mono ?_; rintro e w2 ⟨rfl, hb2⟩)
                exact ⟨rfl, .bool true, by kernel_rfl, hb2, rfl⟩
              refine wf_stepK [11, 13] [fun _ => t11 = .bool false, fun _ => t13 = .bool true] (by kernel_rfl) (by kernel_rfl) (fun wf hb hf => ?_) (fun t14 => ?_)
              · obtain ⟨rfl, rfl, -⟩ := hf
                refine WfOp.yes (by kernel_rfl) ?_
                dsimp only
                go_wp2
                exact ⟨rfl, .bool false, by kernel_rfl, Below.refl _ _, rfl⟩
              refine wf_stepK [11, 14] [fun _ => t11 = .bool false, fun _ => t14 = .bool false] (by kernel_rfl) (by kernel_rfl) (fun wf hb hf => ?_) (fun t15 => ?_)
              · obtain ⟨rfl, rfl, -⟩ := hf
                refine ⟨?_⟩
                go_wp2
                exact ⟨rfl, .bool false, by kernel_rfl, Below.refl _ _, rfl⟩
              refine wf_stepK [15] [fun _ => t15 = .bool false] (by kernel_rfl) (by kernel_rfl) (fun wf hb hf => ?_) (fun t16 => ?_)
              · obtain ⟨rfl, -⟩ := hf
                refine ⟨?_⟩
                go_wp2
                exact ⟨rfl, .bool false, by kernel_rfl, Below.refl _ _, rfl⟩
              refine wf_stepK [16] [fun _ => t16 = .bool false] (by kernel_rfl) (by kernel_rfl) (fun wf hb hf => ?_) (fun t17 => ?_)
              · obtain ⟨rfl, -⟩ := hf
                refine WfOp.yes (by kernel_rfl) ?_
                dsimp only
                go_wp2
                exact ⟨rfl, .slice Av v.length cv, by kernel_rfl, Below.refl _ _, rfl⟩
              refine wf_stepK [16, 17] [fun _ => t16 = .bool false, fun _ => t17 = .slice Av v.length cv] (by kernel_rfl) (by kernel_rfl) (fun wf hb hf => ?_) (fun t18 => ?_)
              · obtain ⟨rfl, rfl, -⟩ := hf
                refine WfOp.yes (by kernel_rfl) ?_
                dsimp only
                go_wp2_with (go_at_call 21; refine (smallZ true HSv.out ((SlOw.at_ entO hv.1).below entR hb) nv rv).mono ?_; rintro e w2 ⟨rfl, hb2⟩)
                exact ⟨rfl, .bool true, by kernel_rfl, hb2, rfl⟩
              refine wf_stepK [16, 18] [fun _ => t16 = .bool false, fun _ => t18 = .bool true] (by kernel_rfl) (by kernel_rfl) (fun wf hb hf => ?_) (fun t19 => ?_)
              · obtain ⟨rfl, rfl, -⟩ := hf
                refine WfOp.yes (by kernel_rfl) ?_
                dsimp only
                go_wp2
                exact ⟨rfl, .bool false, by kernel_rfl, Below.refl _ _, rfl⟩
              refine wf_stepK [16, 19] [fun _ => t16 = .bool false, fun _ => t19 = .bool false] (by kernel_rfl) (by kernel_rfl) (fun wf hb hf => ?_) (fun t20 => ?_)
              · obtain ⟨rfl, rfl, -⟩ := hf
                refine ⟨?_⟩
                go_wp2
                exact ⟨rfl, .bool false, by kernel_rfl, Below.refl _ _, rfl⟩
              refine wf_stepK [20] [fun _ => t20 = .bool false] (by kernel_rfl) (by kernel_rfl) (fun wf hb hf => ?_) (fun t21 => ?_)
              · obtain ⟨rfl, -⟩ := hf
                refine ⟨?_⟩
                go_wp2
                exact ⟨rfl, .bool false, by kernel_rfl, Below.refl _ _, rfl⟩
              refine wf_stepK [21] [fun _ => t21 = .bool false] (by kernel_rfl) (by kernel_rfl) (fun wf hb hf => ?_) (fun t22 => ?_)
              · obtain ⟨rfl, -⟩ := hf
                refine WfOp.yes (by kernel_rfl) ?_
                dsimp only
                go_wp2
                exact ⟨rfl, .slice Ax x.length cx, by kernel_rfl, Below.refl _ _, rfl⟩
              refine wf_stepK [21, 22] [fun _ => t21 = .bool false, fun _ => t22 = .slice Ax x.length cx] (by kernel_rfl) (by kernel_rfl) (fun wf hb hf => ?_) (fun t23 => ?_)
              · obtain ⟨rfl, rfl, -⟩ := hf
                refine WfOp.yes (by kernel_rfl) ?_
                dsimp only
                go_wp2
                exact ⟨rfl, .int .i64 ((x.length : Nat)), by kernel_rfl, Below.refl _ _, rfl⟩
              refine wf_stepK [21, 23] [fun _ => t21 = .bool false, fun _ => t23 = .int .i64 ((x.length : Nat))] (by kernel_rfl) (by kernel_rfl) (fun wf hb hf => ?_) (fun t24 => ?_)
              · obtain ⟨rfl, rfl, -⟩ := hf
                refine WfOp.yes (by kernel_rfl) ?_
                dsimp only
                go_wp2
                exact ⟨rfl, .bool false, by kernel_rfl, Below.refl _ _, rfl⟩
              refine wf_stepK [21, 24] [fun _ => t21 = .bool false, fun _ => t24 = .bool false] (by kernel_rfl) (by kernel_rfl) (fun wf hb hf => ?_) (fun t25 => ?_)
              · obtain ⟨rfl, rfl, -⟩ := hf
                refine ⟨?_⟩
                go_wp2
                exact ⟨rfl, .bool false, by kernel_rfl, Below.refl _ _, rfl⟩
              refine wf_stepK [25] [fun _ => t25 = .bool false] (by kernel_rfl) (by kernel_rfl) (fun wf hb hf => ?_) (fun t26 => ?_)
              · obtain ⟨rfl, -⟩ := hf
                refine ⟨?_⟩
                go_wp2
                exact ⟨rfl, .bool false, by kernel_rfl, Below.refl _ _, rfl⟩
              refine wf_stepK [26] [fun _ => t26 = .bool false] (by kernel_rfl) (by kernel_rfl) (fun wf hb hf => ?_) (fun t27 => ?_)
              · obtain ⟨rfl, -⟩ := hf
                refine WfOp.yes (by kernel_rfl) ?_
                dsimp only
                go_wp2
                exact ⟨rfl, .slice Ay y.length cy, by kernel_rfl, Below.refl _ _, rfl⟩
              refine wf_stepK [26, 27] [fun _ => t26 = .bool false, fun _ => t27 = .slice Ay y.length cy] (by kernel_rfl) (by kernel_rfl) (fun wf hb hf => ?_) (fun t28 => ?_)
              · obtain ⟨rfl, rfl, -⟩ := hf
                refine WfOp.yes (by kernel_rfl) ?_
                dsimp only
                go_wp2
                exact ⟨rfl, .int .i64 ((y.length : Nat)), by kernel_rfl, Below.refl _ _, rfl⟩
              refine wf_stepK [26, 28] [fun _ => t26 = .bool false, fun _ => t28 = .int .i64 ((y.length : Nat))] (by kernel_rfl) (by kernel_rfl) (fun wf hb hf => ?_) (fun t29 => ?_)
              · obtain ⟨rfl, rfl, -⟩ := hf
                refine WfOp.yes (by kernel_rfl) ?_
                dsimp only
                go_wp2
                exact ⟨rfl, .bool false, by kernel_rfl, Below.refl _ _, rfl⟩
              refine wf_stepK [26, 29] [fun _ => t26 = .bool false, fun _ => t29 = .bool false] (by kernel_rfl) (by kernel_rfl) (fun wf hb hf => ?_) (fun t30 => ?_)
              · obtain ⟨rfl, rfl, -⟩ := hf
                refine ⟨?_⟩
                go_wp2
                exact ⟨rfl, .bool false, by kernel_rfl, Below.refl _ _, rfl⟩
              refine wf_stepK [30] [fun _ => t30 = .bool false] (by kernel_rfl) (by kernel_rfl) (fun wf hb hf => ?_) (fun t31 => ?_)
              · obtain ⟨rfl, -⟩ := hf
                refine ⟨?_⟩
                go_wp2
                exact ⟨rfl, .bool false, by kernel_rfl, Below.refl _ _, rfl⟩
              refine wf_stepK [31] [fun _ => t31 = .bool false] (by kernel_rfl) (by kernel_rfl) (fun wf hb hf => ?_) (fun t32 => ?_)
              · obtain ⟨rfl, -⟩ := hf
                refine WfOp.yes (by kernel_rfl) ?_
                dsimp only
                go_wp2
                exact ⟨rfl, .slice Av v.length cv, by kernel_rfl, Below.refl _ _, rfl⟩
              refine wf_stepK [31, 32] [fun _ => t31 = .bool false, fun _ => t32 = .slice Av v.length cv] (by kernel_rfl) (by kernel_rfl) (fun wf hb hf => ?_) (fun t33 => ?_)
              · obtain ⟨rfl, rfl, -⟩ := hf
                refine WfOp.yes (by kernel_rfl) ?_
                dsimp only
                go_wp2
                exact ⟨rfl, .int .i64 ((v.length : Nat)), by kernel_rfl, Below.refl _ _, rfl⟩
              refine wf_stepK [31, 33] [fun _ => t31 = .bool false, fun _ => t33 = .int .i64 ((v.length : Nat))] (by kernel_rfl) (by kernel_rfl) (fun wf hb hf => ?_) (fun t34 => ?_)
              · obtain ⟨rfl, rfl, -⟩ := hf
                refine WfOp.yes (by kernel_rfl) ?_
                dsimp only
                go_wp2
                exact ⟨rfl, .bool true, by kernel_rfl, Below.refl _ _, rfl⟩
              refine wf_stepK [31, 34] [fun _ => t31 = .bool false, fun _ => t34 = .bool true] (by kernel_rfl) (by kernel_rfl) (fun wf hb hf => ?_) (fun t35 => ?_)
              · obtain ⟨rfl, rfl, -⟩ := hf
                refine ⟨?_⟩
                go_wp2
                exact ⟨rfl, .bool true, by kernel_rfl, Below.refl _ _, rfl⟩
              refine wf_stepK [35] [fun _ => t35 = .bool true] (by kernel_rfl) (by kernel_rfl) (fun wf hb hf => ?_) (fun t36 => ?_)
              · obtain ⟨rfl, -⟩ := hf
                refine ⟨?_⟩
                go_wp2
                exact ⟨rfl, .bool true, by kernel_rfl, Below.refl _ _, rfl⟩
              refine wf_stepK [36] [fun _ => t36 = .bool true] (by kernel_rfl) (by kernel_rfl) (fun wf hb hf => ?_) (fun t37 => ?_)
              · obtain ⟨rfl, -⟩ := hf
                exact WfOp.no (by kernel_rfl) rfl
              refine wf_stepK [36, 37] [fun _ => t36 = .bool true, fun _ => t37 = undef] (by kernel_rfl) (by kernel_rfl) (fun wf hb hf => ?_) (fun t38 => ?_)
              · obtain ⟨rfl, rfl, -⟩ := hf
                exact WfOp.no (by kernel_rfl) rfl
              refine wf_stepK [36, 38] [fun _ => t36 = .bool true, fun _ => t38 = undef] (by kernel_rfl) (by kernel_rfl) (fun wf hb hf => ?_) (fun t39 => ?_)
              · obtain ⟨rfl, rfl, -⟩ := hf
                exact WfOp.no (by kernel_rfl) rfl
              refine wf_stepK [36, 39] [fun _ => t36 = .bool true, fun _ => t39 = undef] (by kernel_rfl) (by kernel_rfl) (fun wf hb hf => ?_) (fun t40 => ?_)
              · obtain ⟨rfl, rfl, -⟩ := hf
                exact WfOp.no (by kernel_rfl) rfl
              refine wf_stepK [36, 40] [fun _ => t36 = .bool true, fun _ => t40 = undef] (by kernel_rfl) (by kernel_rfl) (fun wf hb hf => ?_) (fun t41 => ?_)
              · obtain ⟨rfl, rfl, -⟩ := hf
                exact WfOp.no (by kernel_rfl) rfl
              refine wf_stepK [36] [fun _ => t36 = .bool true] (by kernel_rfl) (by kernel_rfl) (fun wf hb hf => ?_) (fun t42 => ?_)
              · obtain ⟨rfl, -⟩ := hf
                exact WfOp.no (by kernel_rfl) rfl
              refine wf_stepK [36, 42] [fun _ => t36 = .bool true, fun _ => t42 = undef] (by kernel_rfl) (by kernel_rfl) (fun wf hb hf => ?_) (fun t43 => ?_)
              · obtain ⟨rfl, rfl, -⟩ := hf
                exact WfOp.no (by kernel_rfl) rfl
              refine wf_stepK [36, 43] [fun _ => t36 = .bool true, fun _ => t43 = undef] (by kernel_rfl) (by kernel_rfl) (fun wf hb hf => ?_) (fun t44 => ?_)
              · obtain ⟨rfl, rfl, -⟩ := hf
                exact WfOp.no (by kernel_rfl) rfl
              refine wf_stepK [36, 44] [fun _ => t36 = .bool true, fun _ => t44 = undef] (by kernel_rfl) (by kernel_rfl) (fun wf hb hf => ?_) (fun t45 => ?_)
              · obtain ⟨rfl, rfl, -⟩ := hf
                exact WfOp.no (by kernel_rfl) rfl
              refine wf_stepK [36, 45] [fun _ => t36 = .bool true, fun _ => t45 = undef] (by kernel_rfl) (by kernel_rfl) (fun wf hb hf => ?_) (fun t46 => ?_)
              · obtain ⟨rfl, rfl, -⟩ := hf
                exact WfOp.no (by kernel_rfl) rfl
              refine wf_stepK [36, 41, 46] [fun _ => t36 = .bool true, fun _ => t41 = undef, fun _ => t46 = undef] (by kernel_rfl) (by kernel_rfl) (fun wf hb hf => ?_) (fun t47 => ?_)
              · obtain ⟨rfl, rfl, rfl, -⟩ := hf
                exact WfOp.no (by kernel_rfl) rfl
              refine wf_stepK [36, 47] [fun _ => t36 = .bool true, fun _ => t47 = undef] (by kernel_rfl) (by kernel_rfl) (fun wf hb hf => ?_) (fun t48 => ?_)
              · obtain ⟨rfl, rfl, -⟩ := hf
                refine ⟨?_⟩
                go_wp2
                exact ⟨rfl, .bool true, by kernel_rfl, Below.refl _ _, rfl⟩
              refine wf_stepK [48] [fun _ => t48 = .bool true] (by kernel_rfl) (by kernel_rfl) (fun wf hb hf => ?_) (fun t49 => ?_)
              · obtain ⟨rfl, -⟩ := hf
                refine ⟨?_⟩
                go_wp2
                exact ⟨rfl, .bool true, by kernel_rfl, Below.refl _ _, rfl⟩
              refine wf_stepK [49] [fun _ => t49 = .bool true] (by kernel_rfl) (by kernel_rfl) (fun wf hb hf => ?_) (fun t50 => ?_)
              · obtain ⟨rfl, -⟩ := hf
                exact WfOp.no (by kernel_rfl) rfl
              refine wf_stepK [49, 50] [fun _ => t49 = .bool true, fun _ => t50 = undef] (by kernel_rfl) (by kernel_rfl) (fun wf hb hf => ?_) (fun t51 => ?_)
              · obtain ⟨rfl, rfl, -⟩ := hf
                exact WfOp.no (by kernel_rfl) rfl
              refine wf_stepK [49, 51] [fun _ => t49 = .bool true, fun _ => t51 = undef] (by kernel_rfl) (by kernel_rfl) (fun wf hb hf => ?_) (fun t52 => ?_)
              · obtain ⟨rfl, rfl, -⟩ := hf
                exact WfOp.no (by kernel_rfl) rfl
              refine wf_stepK [49, 52] [fun _ => t49 = .bool true, fun _ => t52 = undef] (by kernel_rfl) (by kernel_rfl) (fun wf hb hf => ?_) (fun t53 => ?_)
              · obtain ⟨rfl, rfl, -⟩ := hf
                exact WfOp.no (by kernel_rfl) rfl
              refine wf_stepK [49, 53] [fun _ => t49 = .bool true, fun _ => t53 = undef] (by kernel_rfl) (by kernel_rfl) (fun wf hb hf => ?_) (fun t54 => ?_)
              · obtain ⟨rfl, rfl, -⟩ := hf
                exact WfOp.no (by kernel_rfl) rfl
              refine wf_stepK [49] [fun _ => t49 = .bool true] (by kernel_rfl) (by kernel_rfl) (fun wf hb hf => ?_) (fun t55 => ?_)
              · obtain ⟨rfl, -⟩ := hf
                exact WfOp.no (by kernel_rfl) rfl
              refine wf_stepK [49, 55] [fun _ => t49 = .bool true, fun _ => t55 = undef] (by kernel_rfl) (by kernel_rfl) (fun wf hb hf => ?_) (fun t56 => ?_)
              · obtain ⟨rfl, rfl, -⟩ := hf
                exact WfOp.no (by kernel_rfl) rfl
              refine wf_stepK [49, 56] [fun _ => t49 = .bool true, fun _ => t56 = undef] (by kernel_rfl) (by kernel_rfl) (fun wf hb hf => ?_) (fun t57 => ?_)
              · obtain ⟨rfl, rfl, -⟩ := hf
                exact WfOp.no (by kernel_rfl) rfl
              refine wf_stepK [49, 57] [fun _ => t49 = .bool true, fun _ => t57 = undef] (by kernel_rfl) (by kernel_rfl) (fun wf hb hf => ?_) (fun t58 => ?_)
              · obtain ⟨rfl, rfl, -⟩ := hf
                exact WfOp.no (by kernel_rfl) rfl
              refine wf_stepK [49, 58] [fun _ => t49 = .bool true, fun _ => t58 = undef] (by kernel_rfl) (by kernel_rfl) (fun wf hb hf => ?_) (fun t59 => ?_)
              · obtain ⟨rfl, rfl, -⟩ := hf
                exact WfOp.no (by kernel_rfl) rfl
              refine wf_stepK [49, 54, 59] [fun _ => t49 = .bool true, fun _ => t54 = undef, fun _ => t59 = undef] (by kernel_rfl) (by kernel_rfl) (fun wf hb hf => ?_) (fun t60 => ?_)
              · obtain ⟨rfl, rfl, rfl, -⟩ := hf
                exact WfOp.no (by kernel_rfl) rfl
              refine wf_doneK [49, 60] [fun _ => t49 = .bool true, fun _ => t60 = undef] (by kernel_rfl) (by kernel_rfl) (fun w4 b4 hf => ?_)
              obtain ⟨rfl, rfl, -⟩ := hf
              show wpList _ _ _ [_] _ _
              refine wpList_frame (by simp [Act.put]; rfl) ?_
              have B4 := btr B3 b4
              go_wp2_with fail
              refine (Add_s _ _ (x) _ _ (y) _ ((SlOw.at_ entO hx.1).below entR (btr (btr b2 b3) b4)) ((SlOw.at_ entO hy.1).below entR (btr (btr b2 b3) b4)) nx rx ny ry).mono ?_
              rintro e w5 ⟨A5, c5, rfl, o5, b5⟩
              have B5 := btr B4 b5
              have a5 : EntsAt w5 A5 (AddF (x) (y)) := SlOw.at_ entO o5
              go_wp2_with fail
              refine (equalZ (xs := AddF (x) (y)) (ys := AddF (x) (y)) true (decide_eq_true rfl) (a2.below entR (btr (btr b3 b4) b5)) a5 (Nat.le_trans (AddF_len' _ _) (by decide)) (Nat.le_trans (AddF_len' _ _) (by decide)) (rows_big (AddF_row' _ _) (by decide)) (rows_big (AddF_row' _ _) (by decide))).mono ?_
              rintro e w6 ⟨rfl, b6⟩
              have B6 := btr B5 b6
              go_wp2_with fail
              go_ret
              exact ⟨rfl, B6⟩
            · have hzv : ((v.length : Int) == 0) = false := by rw [beq_eq_false_iff_ne]; omega
              have hqv : (0 : Int) < v.length := by omega
              have hwx := wid_get hpx
              have hwy := wid_get hpy
              have hwv := wid_get hpv
              by_cases hwy' : wid x = wid y
              rotate_left
              · have hny : ((x[0].1.length : Int) != (y[0].1.length : Int)) = true := by rw [← hwx, ← hwy]; simp; omega
                clear hwy' hwx hwy hwv Sx Sy Sv
                obtain ⟨bbx, oox, RRx, ssx, hAx, hblx, hcx, -, -, hrx⟩ := (EntsAt.get (SlOw.at_ entO hx.1) 0 hpx)
                simp only [Nat.zero_mul, Nat.add_zero] at hcx
                subst hAx
                obtain ⟨bby, ooy, RRy, ssy, hAy, hbly, hcy, -, -, hry⟩ := (EntsAt.get (SlOw.at_ entO hy.1) 0 hpy)
                simp only [Nat.zero_mul, Nat.add_zero] at hcy
                subst hAy
                obtain ⟨bbv, oov, RRv, ssv, hAv, hblv, hcv, -, -, hrv⟩ := (EntsAt.get (SlOw.at_ entO hv.1) 0 hpv)
                simp only [Nat.zero_mul, Nat.add_zero] at hcv
                subst hAv
                go_wp2_with fail
                refine wp_region_facts [[], [], [], [1, 2], List.range 4, List.range 5, List.range 6, List.range 7, List.range 8, List.range 9, List.range 10, List.range 11, List.range 12, List.range 13, List.range 14, List.range 15, List.range 16, List.range 17, List.range 18, List.range 19, List.range 20, List.range 21, List.range 22, List.range 23, List.range 24, List.range 25, List.range 26, List.range 27, List.range 28, List.range 29, List.range 30, List.range 31, List.range 32, List.range 33, List.range 34, List.range 35, List.range 36, List.range 37, List.range 38, List.range 39, List.range 40, List.range 41, List.range 37, [0, 1, 2, 3, 4, 5, 6, 7, 8, 9, 10, 11, 12, 13, 14, 15, 16, 17, 18, 19, 20, 21, 22, 23, 24, 25, 26, 27, 28, 29, 30, 31, 32, 33, 34, 35, 36, 42], [0, 1, 2, 3, 4, 5, 6, 7, 8, 9, 10, 11, 12, 13, 14, 15, 16, 17, 18, 19, 20, 21, 22, 23, 24, 25, 26, 27, 28, 29, 30, 31, 32, 33, 34, 35, 36, 42, 43], [0, 1, 2, 3, 4, 5, 6, 7, 8, 9, 10, 11, 12, 13, 14, 15, 16, 17, 18, 19, 20, 21, 22, 23, 24, 25, 26, 27, 28, 29, 30, 31, 32, 33, 34, 35, 36, 42, 43, 44], [0, 1, 2, 3, 4, 5, 6, 7, 8, 9, 10, 11, 12, 13, 14, 15, 16, 17, 18, 19, 20, 21, 22, 23, 24, 25, 26, 27, 28, 29, 30, 31, 32, 33, 34, 35, 36, 42, 43, 44, 45], List.range 47, List.range 48, List.range 49, List.range 50, List.range 51, List.range 52, List.range 53, List.range 54, List.range 50, [0, 1, 2, 3, 4, 5, 6, 7, 8, 9, 10, 11, 12, 13, 14, 15, 16, 17, 18, 19, 20, 21, 22, 23, 24, 25, 26, 27, 28, 29, 30, 31, 32, 33, 34, 35, 36, 37, 38, 39, 40, 41, 42, 43, 44, 45, 46, 47, 48, 49, 55], [0, 1, 2, 3, 4, 5, 6, 7, 8, 9, 10, 11, 12, 13, 14, 15, 16, 17, 18, 19, 20, 21, 22, 23, 24, 25, 26, 27, 28, 29, 30, 31, 32, 33, 34, 35, 36, 37, 38, 39, 40, 41, 42, 43, 44, 45, 46, 47, 48, 49, 55, 56], [0, 1, 2, 3, 4, 5, 6, 7, 8, 9, 10, 11, 12, 13, 14, 15, 16, 17, 18, 19, 20, 21, 22, 23, 24, 25, 26, 27, 28, 29, 30, 31, 32, 33, 34, 35, 36, 37, 38, 39, 40, 41, 42, 43, 44, 45, 46, 47, 48, 49, 55, 56, 57], [0, 1, 2, 3, 4, 5, 6, 7, 8, 9, 10, 11, 12, 13, 14, 15, 16, 17, 18, 19, 20, 21, 22, 23, 24, 25, 26, 27, 28, 29, 30, 31, 32, 33, 34, 35, 36, 37, 38, 39, 40, 41, 42, 43, 44, 45, 46, 47, 48, 49, 55, 56, 57, 58], List.range 60]
                  [fun v' _ => v' = .slice A2 (AddF (x) (y)).length c2, fun v' _ => v' = .slice (some ⟨bbx, oox, none⟩) x.length cx, fun v' _ => v' = .slice (some ⟨bby, ooy, none⟩) y.length cy, ZVr (AddF (x) (y)), fun v' _ => v' = .bool true, fun v' _ => v' = .bool false, fun v' _ => v' = .bool false, fun v' _ => v' = .slice (some ⟨bbx, oox, none⟩) x.length cx, fun v' _ => v' = .bool true, fun v' _ => v' = .bool false, fun v' _ => v' = .bool false, fun v' _ => v' = .bool false, fun v' _ => v' = .slice (some ⟨bby, ooy, none⟩) y.length cy, fun v' _ => v' = .bool true, fun v' _ => v' = .bool false, fun v' _ => v' = .bool false, fun v' _ => v' = .bool false, fun v' _ => v' = .slice (some ⟨bbv, oov, none⟩) v.length cv, fun v' _ => v' = .bool true, fun v' _ => v' = .bool false, fun v' _ => v' = .bool false, fun v' _ => v' = .bool false, fun v' _ => v' = .slice (some ⟨bbx, oox, none⟩) x.length cx, fun v' _ => v' = .int .i64 ((x.length : Nat)), fun v' _ => v' = .bool false, fun v' _ => v' = .bool false, fun v' _ => v' = .bool false, fun v' _ => v' = .slice (some ⟨bby, ooy, none⟩) y.length cy, fun v' _ => v' = .int .i64 ((y.length : Nat)), fun v' _ => v' = .bool false, fun v' _ => v' = .bool false, fun v' _ => v' = .bool false, fun v' _ => v' = .slice (some ⟨bbv, oov, none⟩) v.length cv, fun v' _ => v' = .int .i64 ((v.length : Nat)), fun v' _ => v' = .bool false, fun v' _ => v' = .bool false, fun v' _ => v' = .bool false, fun v' _ => v' = .slice (some ⟨bbx, oox, none⟩) x.length cx, fun v' _ => v' = .pointer (some ⟨bbx, oox, none⟩), fun v' _ => v' = .pointer (some ⟨bbx, oox, none⟩), fun v' _ => v' = .slice RRx x[0].1.length ssx, fun v' _ => v' = .int .i64 ((x[0].1.length : Nat)), fun v' _ => v' = .slice (some ⟨bby, ooy, none⟩) y.length cy, fun v' _ => v' = .pointer (some ⟨bby, ooy, none⟩), fun v' _ => v' = .pointer (some ⟨bby, ooy, none⟩), fun v' _ => v' = .slice RRy y[0].1.length ssy, fun v' _ => v' = .int .i64 ((y[0].1.length : Nat)), fun v' _ => v' = .bool true, fun v' _ => v' = .bool true, fun v' _ => v' = .bool true, fun v' _ => v' = undef, fun v' _ => v' = undef, fun v' _ => v' = undef, fun v' _ => v' = undef, fun v' _ => v' = undef, fun v' _ => v' = undef, fun v' _ => v' = undef, fun v' _ => v' = undef, fun v' _ => v' = undef, fun v' _ => v' = undef, fun v' _ => v' = undef]
                  (by kernel_rfl) (by kernel_rfl) rfl ⟨stable_pure _, stable_pure _, stable_pure _, stable_zVr _, stable_pure _, stable_pure _, stable_pure _, stable_pure _, stable_pure _, stable_pure _, stable_pure _, stable_pure _, stable_pure _, stable_pure _, stable_pure _, stable_pure _, stable_pure _, stable_pure _, stable_pure _, stable_pure _, stable_pure _, stable_pure _, stable_pure _, stable_pure _, stable_pure _, stable_pure _, stable_pure _, stable_pure _, stable_pure _, stable_pure _, stable_pure _, stable_pure _, stable_pure _, stable_pure _, stable_pure _, stable_pure _, stable_pure _, stable_pure _, stable_pure _, stable_pure _, stable_pure _, stable_pure _, stable_pure _, stable_pure _, stable_pure _, stable_pure _, stable_pure _, stable_pure _, stable_pure _, stable_pure _, stable_pure _, stable_pure _, stable_pure _, stable_pure _, stable_pure _, stable_pure _, stable_pure _, stable_pure _, stable_pure _, stable_pure _, stable_pure _, trivial⟩ ?_
                refine wf_stepK [] [] (by kernel_rfl) (by kernel_rfl) (fun wf hb hf => ?_) (fun t0 => ?_)
                · refine ⟨?_⟩
                  go_wp2
                  exact ⟨rfl, .slice A2 (AddF (x) (y)).length c2, by kernel_rfl, Below.refl _ _, rfl⟩
                refine wf_stepK [] [] (by kernel_rfl) (by kernel_rfl) (fun wf hb hf => ?_) (fun t1 => ?_)
                · refine ⟨?_⟩
                  go_wp2
                  exact ⟨rfl, .slice (some ⟨bbx, oox, none⟩) x.length cx, by kernel_rfl, Below.refl _ _, rfl⟩
                refine wf_stepK [] [] (by kernel_rfl) (by kernel_rfl) (fun wf hb hf => ?_) (fun t2 => ?_)
                · refine ⟨?_⟩
                  go_wp2
                  exact ⟨rfl, .slice (some ⟨bby, ooy, none⟩) y.length cy, by kernel_rfl, Below.refl _ _, rfl⟩
                refine wf_stepK [1, 2] [fun _ => t1 = .slice (some ⟨bbx, oox, none⟩) x.length cx, fun _ => t2 = .slice (some ⟨bby, ooy, none⟩) y.length cy] (by kernel_rfl) (by kernel_rfl) (fun wf hb hf => ?_) (fun t3 => ?_)
                · obtain ⟨rfl, rfl, -⟩ := hf
                  refine ⟨?_⟩
                  go_wp2_with (go_at_call 28; refine (Add_s _ _ (x) _ _ (y) _ (((SlOw.at_ entO hx.1).below entR (btr b2 b3)).below entR hb) (((SlOw.at_ entO hy.1).below entR (btr b2 b3)).below entR hb) nx rx ny ry).mono ?_; rintro e w2 ⟨AN, cN, rfl, oN, hb2⟩)
                  exact ⟨rfl, .slice AN (AddF (x) (y)).length cN, by kernel_rfl, hb2, AN, cN, rfl, SlOw.at_ entO oN, EntsOw.cap oN⟩
                refine wf_stepK [0, 3] [fun _ => t0 = .slice A2 (AddF (x) (y)).length c2, ZVr (AddF (x) (y)) t3] (by kernel_rfl) (by kernel_rfl) (fun wf hb hf => ?_) (fun t4 => ?_)
                · obtain ⟨rfl, ⟨XS1, xs1, rfl, hS1⟩, -⟩ := hf
                  refine ⟨?_⟩
                  go_wp2_with (go_at_call 15; refine (equalZ (xs := AddF (x) (y)) (ys := AddF (x) (y)) true (decide_eq_true rfl) ((a2.below entR b3).below entR hb) hS1.1 (Nat.le_trans (AddF_len' _ _) (by decide)) (Nat.le_trans (AddF_len' _ _) (by decide)) (rows_big (AddF_row' _ _) (by decide)) (rows_big (AddF_row' _ _) (by decide))).mono ?_; rintro e w2 ⟨rfl, hb2⟩)
                  exact ⟨rfl, .bool true, by kernel_rfl, hb2, rfl⟩
                refine wf_stepK [4] [fun _ => t4 = .bool true] (by kernel_rfl) (by kernel_rfl) (fun wf hb hf => ?_) (fun t5 => ?_)
                · obtain ⟨rfl, -⟩ := hf
                  refine ⟨?_⟩
                  go_wp2
                  exact ⟨rfl, .bool false, by kernel_rfl, Below.refl _ _, rfl⟩
                refine wf_stepK [5] [fun _ => t5 = .bool false] (by kernel_rfl) (by kernel_rfl) (fun wf hb hf => ?_) (fun t6 => ?_)
                · obtain ⟨rfl, -⟩ := hf
                  refine ⟨?_⟩
                  go_wp2
                  exact ⟨rfl, .bool false, by kernel_rfl, Below.refl _ _, rfl⟩
                refine wf_stepK [6] [fun _ => t6 = .bool false] (by kernel_rfl) (by kernel_rfl) (fun wf hb hf => ?_) (fun t7 => ?_)
                · obtain ⟨rfl, -⟩ := hf
                  refine WfOp.yes (by kernel_rfl) ?_
                  dsimp only
                  go_wp2
                  exact ⟨rfl, .slice (some ⟨bbx, oox, none⟩) x.length cx, by kernel_rfl, Below.refl _ _, rfl⟩
                refine wf_stepK [6, 7] [fun _ => t6 = .bool false, fun _ => t7 = .slice (some ⟨bbx, oox, none⟩) x.length cx] (by kernel_rfl) (by kernel_rfl) (fun wf hb hf => ?_) (fun t8 => ?_)
                · obtain ⟨rfl, rfl, -⟩ := hf
                  refine WfOp.yes (by kernel_rfl) ?_
                  dsimp only
                  go_wp2_with (go_at_call 21; refine (smallZ true HSx.out (((SlOw.at_ entO hx.1).below entR (btr b2 b3)).below entR hb) nx rx).mono ?_; rintro e w2 ⟨rfl, hb2⟩)
                  exact ⟨rfl, .bool true, by kernel_rfl, hb2, rfl⟩
                refine wf_stepK [6, 8] [fun _ => t6 = .bool false, fun _ => t8 = .bool true] (by kernel_rfl) (by kernel_rfl) (fun wf hb hf => ?_) (fun t9 => ?_)
                · obtain ⟨rfl, rfl, -⟩ := hf
                  refine WfOp.yes (by kernel_rfl) ?_
                  dsimp only
                  go_wp2
                  exact ⟨rfl, .bool false, by kernel_rfl, Below.refl _ _, rfl⟩
                refine wf_stepK [6, 9] [fun _ => t6 = .bool false, fun _ => t9 = .bool false] (by kernel_rfl) (by kernel_rfl) (fun wf hb hf => ?_) (fun t10 => ?_)
                · obtain ⟨rfl, rfl, -⟩ := hf
                  refine ⟨?_⟩
                  go_wp2
                  exact ⟨rfl, .bool false, by kernel_rfl, Below.refl _ _, rfl⟩
                refine wf_stepK [10] [fun _ => t10 = .bool false] (by kernel_rfl) (by kernel_rfl) (fun wf hb hf => ?_) (fun t11 => ?_)
                · obtain ⟨rfl, -⟩ := hf
                  refine ⟨?_⟩
                  go_wp2
                  exact ⟨rfl, .bool false, by kernel_rfl, Below.refl _ _, rfl⟩
                refine wf_stepK [11] [fun _ => t11 = .bool false] (by kernel_rfl) (by kernel_rfl) (fun wf hb hf => ?_) (fun t12 => ?_)
                · obtain ⟨rfl, -⟩ := hf
                  refine WfOp.yes (by kernel_rfl) ?_
                  dsimp only
                  go_wp2
                  exact ⟨rfl, .slice (some ⟨bby, ooy, none⟩) y.length cy, by kernel_rfl, Below.refl _ _, rfl⟩
                refine wf_stepK [11, 12] [fun _ => t11 = .bool false, fun _ => t12 = .slice (some ⟨bby, ooy, none⟩) y.length cy] (by kernel_rfl) (by kernel_rfl) (fun wf hb hf => ?_) (fun t13 => ?_)
                · obtain ⟨rfl, rfl, -⟩ := hf
                  refine WfOp.yes (by kernel_rfl) ?_
                  dsimp only
                  go_wp2_with (go_at_call 21; refine (smallZ true HSy.out (((SlOw.at_ entO hy.1).below entR (btr b2 b3)).below entR hb) ny ry).mono ?_; rintro e w2 ⟨rfl, hb2⟩)
                  exact ⟨rfl, .bool true, by kernel_rfl, hb2, rfl⟩
                refine wf_stepK [11, 13] [fun _ => t11 = .bool false, fun _ => t13 = .bool true] (by kernel_rfl) (by kernel_rfl) (fun wf hb hf => ?_) (fun t14 => ?_)
                · obtain ⟨rfl, rfl, -⟩ := hf
                  refine WfOp.yes (by kernel_rfl) ?_
                  dsimp only
                  go_wp2
                  exact ⟨rfl, .bool false, by kernel_rfl, Below.refl _ _, rfl⟩
                refine wf_stepK [11, 14] [fun _ => t11 = .bool false, fun _ => t14 = .bool false] (by kernel_rfl) (by kernel_rfl) (fun wf hb hf => ?_) (fun t15 => ?_)
                · obtain ⟨rfl, rfl, -⟩ := hf
                  refine ⟨?_⟩
                  go_wp2
                  exact ⟨rfl, .bool false, by kernel_rfl, Below.refl _ _, rfl⟩
                refine wf_stepK [15] [fun _ => t15 = .bool false] (by kernel_rfl) (by kernel_rfl) (fun wf hb hf => ?_) (fun t16 => ?_)
                · obtain ⟨rfl, -⟩ := hf
                  refine ⟨?_⟩
                  go_wp2
                  exact ⟨rfl, .bool false, by kernel_rfl, Below.refl _ _, rfl⟩
                refine wf_stepK [16] [fun _ => t16 = .bool false] (by kernel_rfl) (by kernel_rfl) (fun wf hb hf => ?_) (fun t17 => ?_)
                · obtain ⟨rfl, -⟩ := hf
                  refine WfOp.yes (by kernel_rfl) ?_
                  dsimp only
                  go_wp2
                  exact ⟨rfl, .slice (some ⟨bbv, oov, none⟩) v.length cv, by kernel_rfl, Below.refl _ _, rfl⟩
                refine wf_stepK [16, 17] [fun _ => t16 = .bool false, fun _ => t17 = .slice (some ⟨bbv, oov, none⟩) v.length cv] (by kernel_rfl) (by kernel_rfl) (fun wf hb hf => ?_) (fun t18 => ?_)
                · obtain ⟨rfl, rfl, -⟩ := hf
                  refine WfOp.yes (by kernel_rfl) ?_
                  dsimp only
                  go_wp2_with (go_at_call 21; refine (smallZ true HSv.out ((SlOw.at_ entO hv.1).below entR hb) nv rv).mono ?_; rintro e w2 ⟨rfl, hb2⟩)
                  exact ⟨rfl, .bool true, by kernel_rfl, hb2, rfl⟩
                refine wf_stepK [16, 18] [fun _ => t16 = .bool false, fun _ => t18 = .bool true] (by kernel_rfl) (by kernel_rfl) (fun wf hb hf => ?_) (fun t19 => ?_)
                · obtain ⟨rfl, rfl, -⟩ := hf
                  refine WfOp.yes (by kernel_rfl) ?_
                  dsimp only
                  go_wp2
                  exact ⟨rfl, .bool false, by kernel_rfl, Below.refl _ _, rfl⟩
                refine wf_stepK [16, 19] [fun _ => t16 = .bool false, fun _ => t19 = .bool false] (by kernel_rfl) (by kernel_rfl) (fun wf hb hf => ?_) (fun t20 => ?_)
                · obtain ⟨rfl, rfl, -⟩ := hf
                  refine ⟨?_⟩
                  go_wp2
                  exact ⟨rfl, .bool false, by kernel_rfl, Below.refl _ _, rfl⟩
                refine wf_stepK [20] [fun _ => t20 = .bool false] (by kernel_rfl) (by kernel_rfl) (fun wf hb hf => ?_) (fun t21 => ?_)
                · obtain ⟨rfl, -⟩ := hf
                  refine ⟨?_⟩
                  go_wp2
                  exact ⟨rfl, .bool false, by kernel_rfl, Below.refl _ _, rfl⟩
                refine wf_stepK [21] [fun _ => t21 = .bool false] (by kernel_rfl) (by kernel_rfl) (fun wf hb hf => ?_) (fun t22 => ?_)
                · obtain ⟨rfl, -⟩ := hf
                  refine WfOp.yes (by kernel_rfl) ?_
                  dsimp only
                  go_wp2
                  exact ⟨rfl, .slice (some ⟨bbx, oox, none⟩) x.length cx, by kernel_rfl, Below.refl _ _, rfl⟩
                refine wf_stepK [21, 22] [fun _ => t21 = .bool false, fun _ => t22 = .slice (some ⟨bbx, oox, none⟩) x.length cx] (by kernel_rfl) (by kernel_rfl) (fun wf hb hf => ?_) (fun t23 => ?_)
                · obtain ⟨rfl, rfl, -⟩ := hf
                  refine WfOp.yes (by kernel_rfl) ?_
                  dsimp only
                  go_wp2
                  exact ⟨rfl, .int .i64 ((x.length : Nat)), by kernel_rfl, Below.refl _ _, rfl⟩
                refine wf_stepK [21, 23] [fun _ => t21 = .bool false, fun _ => t23 = .int .i64 ((x.length : Nat))] (by kernel_rfl) (by kernel_rfl) (fun wf hb hf => ?_) (fun t24 => ?_)
                · obtain ⟨rfl, rfl, -⟩ := hf
                  refine WfOp.yes (by kernel_rfl) ?_
                  dsimp only
                  go_wp2
                  exact ⟨rfl, .bool false, by kernel_rfl, Below.refl _ _, rfl⟩
                refine wf_stepK [21, 24] [fun _ => t21 = .bool false, fun _ => t24 = .bool false] (by kernel_rfl) (by kernel_rfl) (fun wf hb hf => ?_) (fun t25 => ?_)
                · obtain ⟨rfl, rfl, -⟩ := hf
                  refine ⟨?_⟩
                  go_wp2
                  exact ⟨rfl, .bool false, by kernel_rfl, Below.refl _ _, rfl⟩
                refine wf_stepK [25] [fun _ => t25 = .bool false] (by kernel_rfl) (by kernel_rfl) (fun wf hb hf => ?_) (fun t26 => ?_)
                · obtain ⟨rfl, -⟩ := hf
                  refine ⟨?_⟩
                  go_wp2
                  exact ⟨rfl, .bool false, by kernel_rfl, Below.refl _ _, rfl⟩
                refine wf_stepK [26] [fun _ => t26 = .bool false] (by kernel_rfl) (by kernel_rfl) (fun wf hb hf => ?_) (fun t27 => ?_)
                · obtain ⟨rfl, -⟩ := hf
                  refine WfOp.yes (by kernel_rfl) ?_
                  dsimp only
                  go_wp2
                  exact ⟨rfl, .slice (some ⟨bby, ooy, none⟩) y.length cy, by kernel_rfl, Below.refl _ _, rfl⟩
                refine wf_stepK [26, 27] [fun _ => t26 = .bool false, fun _ => t27 = .slice (some ⟨bby, ooy, none⟩) y.length cy] (by kernel_rfl) (by kernel_rfl) (fun wf hb hf => ?_) (fun t28 => ?_)
                · obtain ⟨rfl, rfl, -⟩ := hf
                  refine WfOp.yes (by kernel_rfl) ?_
                  dsimp only
                  go_wp2
                  exact ⟨rfl, .int .i64 ((y.length : Nat)), by kernel_rfl, Below.refl _ _, rfl⟩
                refine wf_stepK [26, 28] [fun _ => t26 = .bool false, fun _ => t28 = .int .i64 ((y.length : Nat))] (by kernel_rfl) (by kernel_rfl) (fun wf hb hf => ?_) (fun t29 => ?_)
                · obtain ⟨rfl, rfl, -⟩ := hf
                  refine WfOp.yes (by kernel_rfl) ?_
                  dsimp only
                  go_wp2
                  exact ⟨rfl, .bool false, by kernel_rfl, Below.refl _ _, rfl⟩
                refine wf_stepK [26, 29] [fun _ => t26 = .bool false, fun _ => t29 = .bool false] (by kernel_rfl) (by kernel_rfl) (fun wf hb hf => ?_) (fun t30 => ?_)
                · obtain ⟨rfl, rfl, -⟩ := hf
                  refine ⟨?_⟩
                  go_wp2
                  exact ⟨rfl, .bool false, by kernel_rfl, Below.refl _ _, rfl⟩
                refine wf_stepK [30] [fun _ => t30 = .bool false] (by kernel_rfl) (by kernel_rfl) (fun wf hb hf => ?_) (fun t31 => ?_)
                · obtain ⟨rfl, -⟩ := hf
                  refine ⟨?_⟩
                  go_wp2
                  exact ⟨rfl, .bool false, by kernel_rfl, Below.refl _ _, rfl⟩
                refine wf_stepK [31] [fun _ => t31 = .bool false] (by kernel_rfl) (by kernel_rfl) (fun wf hb hf => ?_) (fun t32 => ?_)
                · obtain ⟨rfl, -⟩ := hf
                  refine WfOp.yes (by kernel_rfl) ?_
                  dsimp only
                  go_wp2
                  exact ⟨rfl, .slice (some ⟨bbv, oov, none⟩) v.length cv, by kernel_rfl, Below.refl _ _, rfl⟩
                refine wf_stepK [31, 32] [fun _ => t31 = .bool false, fun _ => t32 = .slice (some ⟨bbv, oov, none⟩) v.length cv] (by kernel_rfl) (by kernel_rfl) (fun wf hb hf => ?_) (fun t33 => ?_)
                · obtain ⟨rfl, rfl, -⟩ := hf
                  refine WfOp.yes (by kernel_rfl) ?_
                  dsimp only
                  go_wp2
                  exact ⟨rfl, .int .i64 ((v.length : Nat)), by kernel_rfl, Below.refl _ _, rfl⟩
                refine wf_stepK [31, 33] [fun _ => t31 = .bool false, fun _ => t33 = .int .i64 ((v.length : Nat))] (by kernel_rfl) (by kernel_rfl) (fun wf hb hf => ?_) (fun t34 => ?_)
                · obtain ⟨rfl, rfl, -⟩ := hf
                  refine WfOp.yes (by kernel_rfl) ?_
                  dsimp only
                  go_wp2
                  exact ⟨rfl, .bool false, by kernel_rfl, Below.refl _ _, rfl⟩
                refine wf_stepK [31, 34] [fun _ => t31 = .bool false, fun _ => t34 = .bool false] (by kernel_rfl) (by kernel_rfl) (fun wf hb hf => ?_) (fun t35 => ?_)
                · obtain ⟨rfl, rfl, -⟩ := hf
                  refine ⟨?_⟩
                  go_wp2
                  exact ⟨rfl, .bool false, by kernel_rfl, Below.refl _ _, rfl⟩
                refine wf_stepK [35] [fun _ => t35 = .bool false] (by kernel_rfl) (by kernel_rfl) (fun wf hb hf => ?_) (fun t36 => ?_)
                · obtain ⟨rfl, -⟩ := hf
                  refine ⟨?_⟩
                  go_wp2
                  exact ⟨rfl, .bool false, by kernel_rfl, Below.refl _ _, rfl⟩
                refine wf_stepK [36] [fun _ => t36 = .bool false] (by kernel_rfl) (by kernel_rfl) (fun wf hb hf => ?_) (fun t37 => ?_)
                · obtain ⟨rfl, -⟩ := hf
                  refine WfOp.yes (by kernel_rfl) ?_
                  dsimp only
                  go_wp2
                  exact ⟨rfl, .slice (some ⟨bbx, oox, none⟩) x.length cx, by kernel_rfl, Below.refl _ _, rfl⟩
                refine wf_stepK [36, 37] [fun _ => t36 = .bool false, fun _ => t37 = .slice (some ⟨bbx, oox, none⟩) x.length cx] (by kernel_rfl) (by kernel_rfl) (fun wf hb hf => ?_) (fun t38 => ?_)
                · obtain ⟨rfl, rfl, -⟩ := hf
                  refine WfOp.yes (by kernel_rfl) ?_
                  dsimp only
                  go_wp2
                  exact ⟨rfl, .pointer (some ⟨bbx, oox, none⟩), by kernel_rfl, Below.refl _ _, rfl⟩
                refine wf_stepK [36, 38] [fun _ => t36 = .bool false, fun _ => t38 = .pointer (some ⟨bbx, oox, none⟩)] (by kernel_rfl) (by kernel_rfl) (fun wf hb hf => ?_) (fun t39 => ?_)
                · obtain ⟨rfl, rfl, -⟩ := hf
                  refine WfOp.yes (by kernel_rfl) ?_
                  dsimp only
                  go_wp2
                  exact ⟨rfl, .pointer (some ⟨bbx, oox, none⟩), by kernel_rfl, Below.refl _ _, rfl⟩
                refine wf_stepK [36, 39] [fun _ => t36 = .bool false, fun _ => t39 = .pointer (some ⟨bbx, oox, none⟩)] (by kernel_rfl) (by kernel_rfl) (fun wf hb hf => ?_) (fun t40 => ?_)
                · obtain ⟨rfl, rfl, -⟩ := hf
                  refine WfOp.yes (by kernel_rfl) ?_
                  dsimp only
                  have cz := (Below.cell (p := ⟨bbx, oox, none⟩) (btr (btr b2 b3) hb) hblx).trans hcx
                  go_wp2
                  exact ⟨rfl, .slice RRx x[0].1.length ssx, by kernel_rfl, Below.refl _ _, rfl⟩
                refine wf_stepK [36, 40] [fun _ => t36 = .bool false, fun _ => t40 = .slice RRx x[0].1.length ssx] (by kernel_rfl) (by kernel_rfl) (fun wf hb hf => ?_) (fun t41 => ?_)
                · obtain ⟨rfl, rfl, -⟩ := hf
                  refine WfOp.yes (by kernel_rfl) ?_
                  dsimp only
                  go_wp2
                  exact ⟨rfl, .int .i64 ((x[0].1.length : Nat)), by kernel_rfl, Below.refl _ _, rfl⟩
                refine wf_stepK [36] [fun _ => t36 = .bool false] (by kernel_rfl) (by kernel_rfl) (fun wf hb hf => ?_) (fun t42 => ?_)
                · obtain ⟨rfl, -⟩ := hf
                  refine WfOp.yes (by kernel_rfl) ?_
                  dsimp only
                  go_wp2
                  exact ⟨rfl, .slice (some ⟨bby, ooy, none⟩) y.length cy, by kernel_rfl, Below.refl _ _, rfl⟩
                refine wf_stepK [36, 42] [fun _ => t36 = .bool false, fun _ => t42 = .slice (some ⟨bby, ooy, none⟩) y.length cy] (by kernel_rfl) (by kernel_rfl) (fun wf hb hf => ?_) (fun t43 => ?_)
                · obtain ⟨rfl, rfl, -⟩ := hf
                  refine WfOp.yes (by kernel_rfl) ?_
                  dsimp only
                  go_wp2
                  exact ⟨rfl, .pointer (some ⟨bby, ooy, none⟩), by kernel_rfl, Below.refl _ _, rfl⟩
                refine wf_stepK [36, 43] [fun _ => t36 = .bool false, fun _ => t43 = .pointer (some ⟨bby, ooy, none⟩)] (by kernel_rfl) (by kernel_rfl) (fun wf hb hf => ?_) (fun t44 => ?_)
                · obtain ⟨rfl, rfl, -⟩ := hf
                  refine WfOp.yes (by kernel_rfl) ?_
                  dsimp only
                  go_wp2
                  exact ⟨rfl, .pointer (some ⟨bby, ooy, none⟩), by kernel_rfl, Below.refl _ _, rfl⟩
                refine wf_stepK [36, 44] [fun _ => t36 = .bool false, fun _ => t44 = .pointer (some ⟨bby, ooy, none⟩)] (by kernel_rfl) (by kernel_rfl) (fun wf hb hf => ?_) (fun t45 => ?_)
                · obtain ⟨rfl, rfl, -⟩ := hf
                  refine WfOp.yes (by kernel_rfl) ?_
                  dsimp only
                  have cz := (Below.cell (p := ⟨bby, ooy, none⟩) (btr (btr b2 b3) hb) hbly).trans hcy
                  go_wp2
                  exact ⟨rfl, .slice RRy y[0].1.length ssy, by kernel_rfl, Below.refl _ _, rfl⟩
                refine wf_stepK [36, 45] [fun _ => t36 = .bool false, fun _ => t45 = .slice RRy y[0].1.length ssy] (by kernel_rfl) (by kernel_rfl) (fun wf hb hf => ?_) (fun t46 => ?_)
                · obtain ⟨rfl, rfl, -⟩ := hf
                  refine WfOp.yes (by kernel_rfl) ?_
                  dsimp only
                  go_wp2
                  exact ⟨rfl, .int .i64 ((y[0].1.length : Nat)), by kernel_rfl, Below.refl _ _, rfl⟩
                refine wf_stepK [36, 41, 46] [fun _ => t36 = .bool false, fun _ => t41 = .int .i64 ((x[0].1.length : Nat)), fun _ => t46 = .int .i64 ((y[0].1.length : Nat))] (by kernel_rfl) (by kernel_rfl) (fun wf hb hf => ?_) (fun t47 => ?_)
                · obtain ⟨rfl, rfl, rfl, -⟩ := hf
                  refine WfOp.yes (by kernel_rfl) ?_
                  dsimp only
                  go_wp2
                  exact ⟨rfl, .bool true, by kernel_rfl, Below.refl _ _, rfl⟩
                refine wf_stepK [36, 47] [fun _ => t36 = .bool false, fun _ => t47 = .bool true] (by kernel_rfl) (by kernel_rfl) (fun wf hb hf => ?_) (fun t48 => ?_)
                · obtain ⟨rfl, rfl, -⟩ := hf
                  refine ⟨?_⟩
                  go_wp2
                  exact ⟨rfl, .bool true, by kernel_rfl, Below.refl _ _, rfl⟩
                refine wf_stepK [48] [fun _ => t48 = .bool true] (by kernel_rfl) (by kernel_rfl) (fun wf hb hf => ?_) (fun t49 => ?_)
                · obtain ⟨rfl, -⟩ := hf
                  refine ⟨?_⟩
                  go_wp2
                  exact ⟨rfl, .bool true, by kernel_rfl, Below.refl _ _, rfl⟩
                refine wf_stepK [49] [fun _ => t49 = .bool true] (by kernel_rfl) (by kernel_rfl) (fun wf hb hf => ?_) (fun t50 => ?_)
                · obtain ⟨rfl, -⟩ := hf
                  exact WfOp.no (by kernel_rfl) rfl
                refine wf_stepK [49, 50] [fun _ => t49 = .bool true, fun _ => t50 = undef] (by kernel_rfl) (by kernel_rfl) (fun wf hb hf => ?_) (fun t51 => ?_)
                · obtain ⟨rfl, rfl, -⟩ := hf
                  exact WfOp.no (by kernel_rfl) rfl
                refine wf_stepK [49, 51] [fun _ => t49 = .bool true, fun _ => t51 = undef] (by kernel_rfl) (by kernel_rfl) (fun wf hb hf => ?_) (fun t52 => ?_)
                · obtain ⟨rfl, rfl, -⟩ := hf
                  exact WfOp.no (by kernel_rfl) rfl
                refine wf_stepK [49, 52] [fun _ => t49 = .bool true, fun _ => t52 = undef] (by kernel_rfl) (by kernel_rfl) (fun wf hb hf => ?_) (fun t53 => ?_)
                · obtain ⟨rfl, rfl, -⟩ := hf
                  exact WfOp.no (by kernel_rfl) rfl
                refine wf_stepK [49, 53] [fun _ => t49 = .bool true, fun _ => t53 = undef] (by kernel_rfl) (by kernel_rfl) (fun wf hb hf => ?_) (fun t54 => ?_)
                · obtain ⟨rfl, rfl, -⟩ := hf
                  exact WfOp.no (by kernel_rfl) rfl
                refine wf_stepK [49] [fun _ => t49 = .bool true] (by kernel_rfl) (by kernel_rfl) (fun wf hb hf => ?_) (fun t55 => ?_)
                · obtain ⟨rfl, -⟩ := hf
                  exact WfOp.no (by kernel_rfl) rfl
                refine wf_stepK [49, 55] [fun _ => t49 = .bool true, fun _ => t55 = undef] (by kernel_rfl) (by kernel_rfl) (fun wf hb hf => ?_) (fun t56 => ?_)
                · obtain ⟨rfl, rfl, -⟩ := hf
                  exact WfOp.no (by kernel_rfl) rfl
                refine wf_stepK [49, 56] [fun _ => t49 = .bool true, fun _ => t56 = undef] (by kernel_rfl) (by kernel_rfl) (fun wf hb hf => ?_) (fun t57 => ?_)
                · obtain ⟨rfl, rfl, -⟩ := hf
                  exact WfOp.no (by kernel_rfl) rfl
                refine wf_stepK [49, 57] [fun _ => t49 = .bool true, fun _ => t57 = undef] (by kernel_rfl) (by kernel_rfl) (fun wf hb hf => ?_) (fun t58 => ?_)
                · obtain ⟨rfl, rfl, -⟩ := hf
                  exact WfOp.no (by kernel_rfl) rfl
                refine wf_stepK [49, 58] [fun _ => t49 = .bool true, fun _ => t58 = undef] (by kernel_rfl) (by kernel_rfl) (fun wf hb hf => ?_) (fun t59 => ?_)
                · obtain ⟨rfl, rfl, -⟩ := hf
                  exact WfOp.no (by kernel_rfl) rfl
                refine wf_stepK [49, 54, 59] [fun _ => t49 = .bool true, fun _ => t54 = undef, fun _ => t59 = undef] (by kernel_rfl) (by kernel_rfl) (fun wf hb hf => ?_) (fun t60 => ?_)
                · obtain ⟨rfl, rfl, rfl, -⟩ := hf
                  exact WfOp.no (by kernel_rfl) rfl
                refine wf_doneK [49, 60] [fun _ => t49 = .bool true, fun _ => t60 = undef] (by kernel_rfl) (by kernel_rfl) (fun w4 b4 hf => ?_)
                obtain ⟨rfl, rfl, -⟩ := hf
                show wpList _ _ _ [_] _ _
                refine wpList_frame (by simp [Act.put]; rfl) ?_
                have B4 := btr B3 b4
                go_wp2_with fail
                refine (Add_s _ _ (x) _ _ (y) _ ((SlOw.at_ entO hx.1).below entR (btr (btr b2 b3) b4)) ((SlOw.at_ entO hy.1).below entR (btr (btr b2 b3) b4)) nx rx ny ry).mono ?_
                rintro e w5 ⟨A5, c5, rfl, o5, b5⟩
                have B5 := btr B4 b5
                have a5 : EntsAt w5 A5 (AddF (x) (y)) := SlOw.at_ entO o5
                go_wp2_with fail
                refine (equalZ (xs := AddF (x) (y)) (ys := AddF (x) (y)) true (decide_eq_true rfl) (a2.below entR (btr (btr b3 b4) b5)) a5 (Nat.le_trans (AddF_len' _ _) (by decide)) (Nat.le_trans (AddF_len' _ _) (by decide)) (rows_big (AddF_row' _ _) (by decide)) (rows_big (AddF_row' _ _) (by decide))).mono ?_
                rintro e w6 ⟨rfl, b6⟩
                have B6 := btr B5 b6
                go_wp2_with fail
                go_ret
                exact ⟨rfl, B6⟩
              have hny : ((x[0].1.length : Int) != (y[0].1.length : Int)) = false := by rw [← hwx, ← hwy, hwy']; simp
              by_cases hwv' : wid x = wid v
              · have hnv : ((x[0].1.length : Int) != (v[0].1.length : Int)) = false := by rw [← hwx, ← hwv, hwv']; simp
                have HASS := Lib.hid (AddF_assoc Sx (hwy' ▸ Sy) (hwv' ▸ Sv))
                clear hwy' hwv' hwx hwy hwv Sx Sy Sv
                obtain ⟨bbx, oox, RRx, ssx, hAx, hblx, hcx, -, -, hrx⟩ := (EntsAt.get (SlOw.at_ entO hx.1) 0 hpx)
                simp only [Nat.zero_mul, Nat.add_zero] at hcx
                subst hAx
                obtain ⟨bby, ooy, RRy, ssy, hAy, hbly, hcy, -, -, hry⟩ := (EntsAt.get (SlOw.at_ entO hy.1) 0 hpy)
                simp only [Nat.zero_mul, Nat.add_zero] at hcy
                subst hAy
                obtain ⟨bbv, oov, RRv, ssv, hAv, hblv, hcv, -, -, hrv⟩ := (EntsAt.get (SlOw.at_ entO hv.1) 0 hpv)
                simp only [Nat.zero_mul, Nat.add_zero] at hcv
                subst hAv
                go_wp2_with fail
                refine wp_region_facts [[], [], [], [1, 2], List.range 4, List.range 5, List.range 6, List.range 7, List.range 8, List.range 9, List.range 10, List.range 11, List.range 12, List.range 13, List.range 14, List.range 15, List.range 16, List.range 17, List.range 18, List.range 19, List.range 20, List.range 21, List.range 22, List.range 23, List.range 24, List.range 25, List.range 26, List.range 27, List.range 28, List.range 29, List.range 30, List.range 31, List.range 32, List.range 33, List.range 34, List.range 35, List.range 36, List.range 37, List.range 38, List.range 39, List.range 40, List.range 41, List.range 37, [0, 1, 2, 3, 4, 5, 6, 7, 8, 9, 10, 11, 12, 13, 14, 15, 16, 17, 18, 19, 20, 21, 22, 23, 24, 25, 26, 27, 28, 29, 30, 31, 32, 33, 34, 35, 36, 42], [0, 1, 2, 3, 4, 5, 6, 7, 8, 9, 10, 11, 12, 13, 14, 15, 16, 17, 18, 19, 20, 21, 22, 23, 24, 25, 26, 27, 28, 29, 30, 31, 32, 33, 34, 35, 36, 42, 43], [0, 1, 2, 3, 4, 5, 6, 7, 8, 9, 10, 11, 12, 13, 14, 15, 16, 17, 18, 19, 20, 21, 22, 23, 24, 25, 26, 27, 28, 29, 30, 31, 32, 33, 34, 35, 36, 42, 43, 44], [0, 1, 2, 3, 4, 5, 6, 7, 8, 9, 10, 11, 12, 13, 14, 15, 16, 17, 18, 19, 20, 21, 22, 23, 24, 25, 26, 27, 28, 29, 30, 31, 32, 33, 34, 35, 36, 42, 43, 44, 45], List.range 47, List.range 48, List.range 49, List.range 50, List.range 51, List.range 52, List.range 53, List.range 54, List.range 50, [0, 1, 2, 3, 4, 5, 6, 7, 8, 9, 10, 11, 12, 13, 14, 15, 16, 17, 18, 19, 20, 21, 22, 23, 24, 25, 26, 27, 28, 29, 30, 31, 32, 33, 34, 35, 36, 37, 38, 39, 40, 41, 42, 43, 44, 45, 46, 47, 48, 49, 55], [0, 1, 2, 3, 4, 5, 6, 7, 8, 9, 10, 11, 12, 13, 14, 15, 16, 17, 18, 19, 20, 21, 22, 23, 24, 25, 26, 27, 28, 29, 30, 31, 32, 33, 34, 35, 36, 37, 38, 39, 40, 41, 42, 43, 44, 45, 46, 47, 48, 49, 55, 56], [0, 1, 2, 3, 4, 5, 6, 7, 8, 9, 10, 11, 12, 13, 14, 15, 16, 17, 18, 19, 20, 21, 22, 23, 24, 25, 26, 27, 28, 29, 30, 31, 32, 33, 34, 35, 36, 37, 38, 39, 40, 41, 42, 43, 44, 45, 46, 47, 48, 49, 55, 56, 57], [0, 1, 2, 3, 4, 5, 6, 7, 8, 9, 10, 11, 12, 13, 14, 15, 16, 17, 18, 19, 20, 21, 22, 23, 24, 25, 26, 27, 28, 29, 30, 31, 32, 33, 34, 35, 36, 37, 38, 39, 40, 41, 42, 43, 44, 45, 46, 47, 48, 49, 55, 56, 57, 58], List.range 60]
                  [fun v' _ => v' = .slice A2 (AddF (x) (y)).length c2, fun v' _ => v' = .slice (some ⟨bbx, oox, none⟩) x.length cx, fun v' _ => v' = .slice (some ⟨bby, ooy, none⟩) y.length cy, ZVr (AddF (x) (y)), fun v' _ => v' = .bool true, fun v' _ => v' = .bool false, fun v' _ => v' = .bool false, fun v' _ => v' = .slice (some ⟨bbx, oox, none⟩) x.length cx, fun v' _ => v' = .bool true, fun v' _ => v' = .bool false, fun v' _ => v' = .bool false, fun v' _ => v' = .bool false, fun v' _ => v' = .slice (some ⟨bby, ooy, none⟩) y.length cy, fun v' _ => v' = .bool true, fun v' _ => v' = .bool false, fun v' _ => v' = .bool false, fun v' _ => v' = .bool false, fun v' _ => v' = .slice (some ⟨bbv, oov, none⟩) v.length cv, fun v' _ => v' = .bool true, fun v' _ => v' = .bool false, fun v' _ => v' = .bool false, fun v' _ => v' = .bool false, fun v' _ => v' = .slice (some ⟨bbx, oox, none⟩) x.length cx, fun v' _ => v' = .int .i64 ((x.length : Nat)), fun v' _ => v' = .bool false, fun v' _ => v' = .bool false, fun v' _ => v' = .bool false, fun v' _ => v' = .slice (some ⟨bby, ooy, none⟩) y.length cy, fun v' _ => v' = .int .i64 ((y.length : Nat)), fun v' _ => v' = .bool false, fun v' _ => v' = .bool false, fun v' _ => v' = .bool false, fun v' _ => v' = .slice (some ⟨bbv, oov, none⟩) v.length cv, fun v' _ => v' = .int .i64 ((v.length : Nat)), fun v' _ => v' = .bool false, fun v' _ => v' = .bool false, fun v' _ => v' = .bool false, fun v' _ => v' = .slice (some ⟨bbx, oox, none⟩) x.length cx, fun v' _ => v' = .pointer (some ⟨bbx, oox, none⟩), fun v' _ => v' = .pointer (some ⟨bbx, oox, none⟩), fun v' _ => v' = .slice RRx x[0].1.length ssx, fun v' _ => v' = .int .i64 ((x[0].1.length : Nat)), fun v' _ => v' = .slice (some ⟨bby, ooy, none⟩) y.length cy, fun v' _ => v' = .pointer (some ⟨bby, ooy, none⟩), fun v' _ => v' = .pointer (some ⟨bby, ooy, none⟩), fun v' _ => v' = .slice RRy y[0].1.length ssy, fun v' _ => v' = .int .i64 ((y[0].1.length : Nat)), fun v' _ => v' = .bool false, fun v' _ => v' = .bool false, fun v' _ => v' = .bool false, fun v' _ => v' = .slice (some ⟨bbx, oox, none⟩) x.length cx, fun v' _ => v' = .pointer (some ⟨bbx, oox, none⟩), fun v' _ => v' = .pointer (some ⟨bbx, oox, none⟩), fun v' _ => v' = .slice RRx x[0].1.length ssx, fun v' _ => v' = .int .i64 ((x[0].1.length : Nat)), fun v' _ => v' = .slice (some ⟨bbv, oov, none⟩) v.length cv, fun v' _ => v' = .pointer (some ⟨bbv, oov, none⟩), fun v' _ => v' = .pointer (some ⟨bbv, oov, none⟩), fun v' _ => v' = .slice RRv v[0].1.length ssv, fun v' _ => v' = .int .i64 ((v[0].1.length : Nat)), fun v' _ => v' = .bool false]
                  (by kernel_rfl) (by kernel_rfl) rfl ⟨stable_pure _, stable_pure _, stable_pure _, stable_zVr _, stable_pure _, stable_pure _, stable_pure _, stable_pure _, stable_pure _, stable_pure _, stable_pure _, stable_pure _, stable_pure _, stable_pure _, stable_pure _, stable_pure _, stable_pure _, stable_pure _, stable_pure _, stable_pure _, stable_pure _, stable_pure _, stable_pure _, stable_pure _, stable_pure _, stable_pure _, stable_pure _, stable_pure _, stable_pure _, stable_pure _, stable_pure _, stable_pure _, stable_pure _, stable_pure _, stable_pure _, stable_pure _, stable_pure _, stable_pure _, stable_pure _, stable_pure _, stable_pure _, stable_pure _, stable_pure _, stable_pure _, stable_pure _, stable_pure _, stable_pure _, stable_pure _, stable_pure _, stable_pure _, stable_pure _, stable_pure _, stable_pure _, stable_pure _, stable_pure _, stable_pure _, stable_pure _, stable_pure _, stable_pure _, stable_pure _, stable_pure _, trivial⟩ ?_
                refine wf_stepK [] [] (by kernel_rfl) (by kernel_rfl) (fun wf hb hf => ?_) (fun t0 => ?_)
                · refine ⟨?_⟩
                  go_wp2
                  exact ⟨rfl, .slice A2 (AddF (x) (y)).length c2, by kernel_rfl, Below.refl _ _, rfl⟩
                refine wf_stepK [] [] (by kernel_rfl) (by kernel_rfl) (fun wf hb hf => ?_) (fun t1 => ?_)
                · refine ⟨?_⟩
                  go_wp2
                  exact ⟨rfl, .slice (some ⟨bbx, oox, none⟩) x.length cx, by kernel_rfl, Below.refl _ _, rfl⟩
                refine wf_stepK [] [] (by kernel_rfl) (by kernel_rfl) (fun wf hb hf => ?_) (fun t2 => ?_)
                · refine ⟨?_⟩
                  go_wp2
                  exact ⟨rfl, .slice (some ⟨bby, ooy, none⟩) y.length cy, by kernel_rfl, Below.refl _ _, rfl⟩
                refine wf_stepK [1, 2] [fun _ => t1 = .slice (some ⟨bbx, oox, none⟩) x.length cx, fun _ => t2 = .slice (some ⟨bby, ooy, none⟩) y.length cy] (by kernel_rfl) (by kernel_rfl) (fun wf hb hf => ?_) (fun t3 => ?_)
                · obtain ⟨rfl, rfl, -⟩ := hf
                  refine ⟨?_⟩
                  go_wp2_with (go_at_call 28; refine (Add_s _ _ (x) _ _ (y) _ (((SlOw.at_ entO hx.1).below entR (btr b2 b3)).below entR hb) (((SlOw.at_ entO hy.1).below entR (btr b2 b3)).below entR hb) nx rx ny ry).mono ?_; rintro e w2 ⟨AN, cN, rfl, oN, hb2⟩)
                  exact ⟨rfl, .slice AN (AddF (x) (y)).length cN, by kernel_rfl, hb2, AN, cN, rfl, SlOw.at_ entO oN, EntsOw.cap oN⟩
                refine wf_stepK [0, 3] [fun _ => t0 = .slice A2 (AddF (x) (y)).length c2, ZVr (AddF (x) (y)) t3] (by kernel_rfl) (by kernel_rfl) (fun wf hb hf => ?_) (fun t4 => ?_)
                · obtain ⟨rfl, ⟨XS1, xs1, rfl, hS1⟩, -⟩ := hf
                  refine ⟨?_⟩
                  go_wp2_with (go_at_call 15; refine (equalZ (xs := AddF (x) (y)) (ys := AddF (x) (y)) true (decide_eq_true rfl) ((a2.below entR b3).below entR hb) hS1.1 (Nat.le_trans (AddF_len' _ _) (by decide)) (Nat.le_trans (AddF_len' _ _) (by decide)) (rows_big (AddF_row' _ _) (by decide)) (rows_big (AddF_row' _ _) (by decide))).mono ?_; rintro e w2 ⟨rfl, hb2⟩)
                  exact ⟨rfl, .bool true, by kernel_rfl, hb2, rfl⟩
                refine wf_stepK [4] [fun _ => t4 = .bool true] (by kernel_rfl) (by kernel_rfl) (fun wf hb hf => ?_) (fun t5 => ?_)
                · obtain ⟨rfl, -⟩ := hf
                  refine ⟨?_⟩
                  go_wp2
                  exact ⟨rfl, .bool false, by kernel_rfl, Below.refl _ _, rfl⟩
                refine wf_stepK [5] [fun _ => t5 = .bool false] (by kernel_rfl) (by kernel_rfl) (fun wf hb hf => ?_) (fun t6 => ?_)
                · obtain ⟨rfl, -⟩ := hf
                  refine ⟨?_⟩
                  go_wp2
                  exact ⟨rfl, .bool false, by kernel_rfl, Below.refl _ _, rfl⟩
                refine wf_stepK [6] [fun _ => t6 = .bool false] (by kernel_rfl) (by kernel_rfl) (fun wf hb hf => ?_) (fun t7 => ?_)
                · obtain ⟨rfl, -⟩ := hf
                  refine WfOp.yes (by kernel_rfl) ?_
                  dsimp only
                  go_wp2
                  exact ⟨rfl, .slice (some ⟨bbx, oox, none⟩) x.length cx, by kernel_rfl, Below.refl _ _, rfl⟩
                refine wf_stepK [6, 7] [fun _ => t6 = .bool false, fun _ => t7 = .slice (some ⟨bbx, oox, none⟩) x.length cx] (by kernel_rfl) (by kernel_rfl) (fun wf hb hf => ?_) (fun t8 => ?_)
                · obtain ⟨rfl, rfl, -⟩ := hf
                  refine WfOp.yes (by kernel_rfl) ?_
                  dsimp only
                  go_wp2_with (go_at_call 21; refine (smallZ true HSx.out (((SlOw.at_ entO hx.1).below entR (btr b2 b3)).below entR hb) nx rx).mono ?_; rintro e w2 ⟨rfl, hb2⟩)
                  exact ⟨rfl, .bool true, by kernel_rfl, hb2, rfl⟩
                refine wf_stepK [6, 8] [fun _ => t6 = .bool false, fun _ => t8 = .bool true] (by kernel_rfl) (by kernel_rfl) (fun wf hb hf => ?_) (fun t9 => ?_)
                · obtain ⟨rfl, rfl, -⟩ := hf
                  refine WfOp.yes (by kernel_rfl) ?_
                  dsimp only
                  go_wp2
                  exact ⟨rfl, .bool false, by kernel_rfl, Below.refl _ _, rfl⟩
                refine wf_stepK [6, 9] [fun _ => t6 = .bool false, fun _ => t9 = .bool false] (by kernel_rfl) (by kernel_rfl) (fun wf hb hf => ?_) (fun t10 => ?_)
                · obtain ⟨rfl, rfl, -⟩ := hf
                  refine ⟨?_⟩
                  go_wp2
                  exact ⟨rfl, .bool false, by kernel_rfl, Below.refl _ _, rfl⟩
                refine wf_stepK [10] [fun _ => t10 = .bool false] (by kernel_rfl) (by kernel_rfl) (fun wf hb hf => ?_) (fun t11 => ?_)
                · obtain ⟨rfl, -⟩ := hf
                  refine ⟨?_⟩
                  go_wp2
                  exact ⟨rfl, .bool false, by kernel_rfl, Below.refl _ _, rfl⟩
                refine wf_stepK [11] [fun _ => t11 = .bool false] (by kernel_rfl) (by kernel_rfl) (fun wf hb hf => ?_) (fun t12 => ?_)
                · obtain ⟨rfl, -⟩ := hf
                  refine WfOp.yes (by kernel_rfl) ?_
                  dsimp only
                  go_wp2
                  exact ⟨rfl, .slice (some ⟨bby, ooy, none⟩) y.length cy, by kernel_rfl, Below.refl _ _, rfl⟩
                refine wf_stepK [11, 12] [fun _ => t11 = .bool false, fun _ => t12 = .slice (some ⟨bby, ooy, none⟩) y.length cy] (by kernel_rfl) (by kernel_rfl) (fun wf hb hf => ?_) (fun t13 => ?_)
                · obtain ⟨rfl, rfl, -⟩ := hf
                  refine WfOp.yes (by kernel_rfl) ?_
                  dsimp only
                  go_wp2_with (go_at_call 21; refine (smallZ true HSy.out (((SlOw.at_ entO hy.1).below entR (btr b2 b3)).below entR hb) ny ry).mono ?_; rintro e w2 ⟨rfl, hb2⟩)
                  exact ⟨rfl, .bool true, by kernel_rfl, hb2, rfl⟩
                refine wf_stepK [11, 13] [fun _ => t11 = .bool false, fun _ => t13 = .bool true] (by kernel_rfl) (by kernel_rfl) (fun wf hb hf => ?_) (fun t14 => ?_)
                · obtain ⟨rfl, rfl, -⟩ := hf
                  refine WfOp.yes (by kernel_rfl) ?_
                  dsimp only
                  go_wp2
                  exact ⟨rfl, .bool false, by kernel_rfl, Below.refl _ _, rfl⟩
                refine wf_stepK [11, 14] [fun _ => t11 = .bool false, fun _ => t14 = .bool false] (by kernel_rfl) (by kernel_rfl) (fun wf hb hf => ?_) (fun t15 => ?_)
                · obtain ⟨rfl, rfl, -⟩ := hf
                  refine ⟨?_⟩
                  go_wp2
                  exact ⟨rfl, .bool false, by kernel_rfl, Below.refl _ _, rfl⟩
                refine wf_stepK [15] [fun _ => t15 = .bool false] (by kernel_rfl) (by kernel_rfl) (fun wf hb hf => ?_) (fun t16 => ?_)
                · obtain ⟨rfl, -⟩ := hf
                  refine ⟨?_⟩
                  go_wp2
                  exact ⟨rfl, .bool false, by kernel_rfl, Below.refl _ _, rfl⟩
                refine wf_stepK [16] [fun _ => t16 = .bool false] (by kernel_rfl) (by kernel_rfl) (fun wf hb hf => ?_) (fun t17 => ?_)
                · obtain ⟨rfl, -⟩ := hf
                  refine WfOp.yes (by kernel_rfl) ?_
                  dsimp only
                  go_wp2
                  exact ⟨rfl, .slice (some ⟨bbv, oov, none⟩) v.length cv, by kernel_rfl, Below.refl _ _, rfl⟩
                refine wf_stepK [16, 17] [fun _ => t16 = .bool false, fun _ => t17 = .slice (some ⟨bbv, oov, none⟩) v.length cv] (by kernel_rfl) (by kernel_rfl) (fun wf hb hf => ?_) (fun t18 => ?_)
                · obtain ⟨rfl, rfl, -⟩ := hf
                  refine WfOp.yes (by kernel_rfl) ?_
                  dsimp only
                  go_wp2_with (go_at_call 21; refine (smallZ true HSv.out ((SlOw.at_ entO hv.1).below entR hb) nv rv).mono ?_; rintro e w2 ⟨rfl, hb2⟩)
                  exact ⟨rfl, .bool true, by kernel_rfl, hb2, rfl⟩
                refine wf_stepK [16, 18] [fun _ => t16 = .bool false, fun _ => t18 = .bool true] (by kernel_rfl) (by kernel_rfl) (fun wf hb hf => ?_) (fun t19 => ?_)
                · obtain ⟨rfl, rfl, -⟩ := hf
                  refine WfOp.yes (by kernel_rfl) ?_
                  dsimp only
                  go_wp2
                  exact ⟨rfl, .bool false, by kernel_rfl, Below.refl _ _, rfl⟩
                refine wf_stepK [16, 19] [fun _ => t16 = .bool false, fun _ => t19 = .bool false] (by kernel_rfl) (by kernel_rfl) (fun wf hb hf => ?_) (fun t20 => ?_)
                · obtain ⟨rfl, rfl, -⟩ := hf
                  refine ⟨?_⟩
                  go_wp2
                  exact ⟨rfl, .bool false, by kernel_rfl, Below.refl _ _, rfl⟩
                refine wf_stepK [20] [fun _ => t20 = .bool false] (by kernel_rfl) (by kernel_rfl) (fun wf hb hf => ?_) (fun t21 => ?_)
                · obtain ⟨rfl, -⟩ := hf
                  refine ⟨?_⟩
                  go_wp2
                  exact ⟨rfl, .bool false, by kernel_rfl, Below.refl _ _, rfl⟩
                refine wf_stepK [21] [fun _ => t21 = .bool false] (by kernel_rfl) (by kernel_rfl) (fun wf hb hf => ?_) (fun t22 => ?_)
                · obtain ⟨rfl, -⟩ := hf
                  refine WfOp.yes (by kernel_rfl) ?_
                  dsimp only
                  go_wp2
                  exact ⟨rfl, .slice (some ⟨bbx, oox, none⟩) x.length cx, by kernel_rfl, Below.refl _ _, rfl⟩
                refine wf_stepK [21, 22] [fun _ => t21 = .bool false, fun _ => t22 = .slice (some ⟨bbx, oox, none⟩) x.length cx] (by kernel_rfl) (by kernel_rfl) (fun wf hb hf => ?_) (fun t23 => ?_)
                · obtain ⟨rfl, rfl, -⟩ := hf
                  refine WfOp.yes (by kernel_rfl) ?_
                  dsimp only
                  go_wp2
                  exact ⟨rfl, .int .i64 ((x.length : Nat)), by kernel_rfl, Below.refl _ _, rfl⟩
                refine wf_stepK [21, 23] [fun _ => t21 = .bool false, fun _ => t23 = .int .i64 ((x.length : Nat))] (by kernel_rfl) (by kernel_rfl) (fun wf hb hf => ?_) (fun t24 => ?_)
                · obtain ⟨rfl, rfl, -⟩ := hf
                  refine WfOp.yes (by kernel_rfl) ?_
                  dsimp only
                  go_wp2
                  exact ⟨rfl, .bool false, by kernel_rfl, Below.refl _ _, rfl⟩
                refine wf_stepK [21, 24] [fun _ => t21 = .bool false, fun _ => t24 = .bool false] (by kernel_rfl) (by kernel_rfl) (fun wf hb hf => ?_) (fun t25 => ?_)
                · obtain ⟨rfl, rfl, -⟩ := hf
                  refine ⟨?_⟩
                  go_wp2
                  exact ⟨rfl, .bool false, by kernel_rfl, Below.refl _ _, rfl⟩
                refine wf_stepK [25] [fun _ => t25 = .bool false] (by kernel_rfl) (by kernel_rfl) (fun wf hb hf => ?_) (fun t26 => ?_)
                · obtain ⟨rfl, -⟩ := hf
                  refine ⟨?_⟩
                  go_wp2
                  exact ⟨rfl, .bool false, by kernel_rfl, Below.refl _ _, rfl⟩
                refine wf_stepK [26] [fun _ => t26 = .bool false] (by kernel_rfl) (by kernel_rfl) (fun wf hb hf => ?_) (fun t27 => ?_)
                · obtain ⟨rfl, -⟩ := hf
                  refine WfOp.yes (by kernel_rfl) ?_
                  dsimp only
                  go_wp2
                  exact ⟨rfl, .slice (some ⟨bby, ooy, none⟩) y.length cy, by kernel_rfl, Below.refl _ _, rfl⟩
                refine wf_stepK [26, 27] [fun _ => t26 = .bool false, fun _ => t27 = .slice (some ⟨bby, ooy, none⟩) y.length cy] (by kernel_rfl) (by kernel_rfl) (fun wf hb hf => ?_) (fun t28 => ?_)
                · obtain ⟨rfl, rfl, -⟩ := hf
                  refine WfOp.yes (by kernel_rfl) ?_
                  dsimp only
                  go_wp2
                  exact ⟨rfl, .int .i64 ((y.length : Nat)), by kernel_rfl, Below.refl _ _, rfl⟩
                refine wf_stepK [26, 28] [fun _ => t26 = .bool false, fun _ => t28 = .int .i64 ((y.length : Nat))] (by kernel_rfl) (by kernel_rfl) (fun wf hb hf => ?_) (fun t29 => ?_)
                · obtain ⟨rfl, rfl, -⟩ := hf
                  refine WfOp.yes (by kernel_rfl) ?_
                  dsimp only
                  go_wp2
                  exact ⟨rfl, .bool false, by kernel_rfl, Below.refl _ _, rfl⟩
                refine wf_stepK [26, 29] [fun _ => t26 = .bool false, fun _ => t29 = .bool false] (by kernel_rfl) (by kernel_rfl) (fun wf hb hf => ?_) (fun t30 => ?_)
                · obtain ⟨rfl, rfl, -⟩ := hf
                  refine ⟨?_⟩
                  go_wp2
                  exact ⟨rfl, .bool false, by kernel_rfl, Below.refl _ _, rfl⟩
                refine wf_stepK [30] [fun _ => t30 = .bool false] (by kernel_rfl) (by kernel_rfl) (fun wf hb hf => ?_) (fun t31 => ?_)
                · obtain ⟨rfl, -⟩ := hf
                  refine ⟨?_⟩
                  go_wp2
                  exact ⟨rfl, .bool false, by kernel_rfl, Below.refl _ _, rfl⟩
                refine wf_stepK [31] [fun _ => t31 = .bool false] (by kernel_rfl) (by kernel_rfl) (fun wf hb hf => ?_) (fun t32 => ?_)
                · obtain ⟨rfl, -⟩ := hf
                  refine WfOp.yes (by kernel_rfl) ?_
                  dsimp only
                  go_wp2
                  exact ⟨rfl, .slice (some ⟨bbv, oov, none⟩) v.length cv, by kernel_rfl, Below.refl _ _, rfl⟩
                refine wf_stepK [31, 32] [fun _ => t31 = .bool false, fun _ => t32 = .slice (some ⟨bbv, oov, none⟩) v.length cv] (by kernel_rfl) (by kernel_rfl) (fun wf hb hf => ?_) (fun t33 => ?_)
                · obtain ⟨rfl, rfl, -⟩ := hf
                  refine WfOp.yes (by kernel_rfl) ?_
                  dsimp only
                  go_wp2
                  exact ⟨rfl, .int .i64 ((v.length : Nat)), by kernel_rfl, Below.refl _ _, rfl⟩
                refine wf_stepK [31, 33] [fun _ => t31 = .bool false, fun _ => t33 = .int .i64 ((v.length : Nat))] (by kernel_rfl) (by kernel_rfl) (fun wf hb hf => ?_) (fun t34 => ?_)
                · obtain ⟨rfl, rfl, -⟩ := hf
                  refine WfOp.yes (by kernel_rfl) ?_
                  dsimp only
                  go_wp2
                  exact ⟨rfl, .bool false, by kernel_rfl, Below.refl _ _, rfl⟩
                refine wf_stepK [31, 34] [fun _ => t31 = .bool false, fun _ => t34 = .bool false] (by kernel_rfl) (by kernel_rfl) (fun wf hb hf => ?_) (fun t35 => ?_)
                · obtain ⟨rfl, rfl, -⟩ := hf
                  refine ⟨?_⟩
                  go_wp2
                  exact ⟨rfl, .bool false, by kernel_rfl, Below.refl _ _, rfl⟩
                refine wf_stepK [35] [fun _ => t35 = .bool false] (by kernel_rfl) (by kernel_rfl) (fun wf hb hf => ?_) (fun t36 => ?_)
                · obtain ⟨rfl, -⟩ := hf
                  refine ⟨?_⟩
                  go_wp2
                  exact ⟨rfl, .bool false, by kernel_rfl, Below.refl _ _, rfl⟩
                refine wf_stepK [36] [fun _ => t36 = .bool false] (by kernel_rfl) (by kernel_rfl) (fun wf hb hf => ?_) (fun t37 => ?_)
                · obtain ⟨rfl, -⟩ := hf
                  refine WfOp.yes (by kernel_rfl) ?_
                  dsimp only
                  go_wp2
                  exact ⟨rfl, .slice (some ⟨bbx, oox, none⟩) x.length cx, by kernel_rfl, Below.refl _ _, rfl⟩
                refine wf_stepK [36, 37] [fun _ => t36 = .bool false, fun _ => t37 = .slice (some ⟨bbx, oox, none⟩) x.length cx] (by kernel_rfl) (by kernel_rfl) (fun wf hb hf => ?_) (fun t38 => ?_)
                · obtain ⟨rfl, rfl, -⟩ := hf
                  refine WfOp.yes (by kernel_rfl) ?_
                  dsimp only
                  go_wp2
                  exact ⟨rfl, .pointer (some ⟨bbx, oox, none⟩), by kernel_rfl, Below.refl _ _, rfl⟩
                refine wf_stepK [36, 38] [fun _ => t36 = .bool false, fun _ => t38 = .pointer (some ⟨bbx, oox, none⟩)] (by kernel_rfl) (by kernel_rfl) (fun wf hb hf => ?_) (fun t39 => ?_)
                · obtain ⟨rfl, rfl, -⟩ := hf
                  refine WfOp.yes (by kernel_rfl) ?_
                  dsimp only
                  go_wp2
                  exact ⟨rfl, .pointer (some ⟨bbx, oox, none⟩), by kernel_rfl, Below.refl _ _, rfl⟩
                refine wf_stepK [36, 39] [fun _ => t36 = .bool false, fun _ => t39 = .pointer (some ⟨bbx, oox, none⟩)] (by kernel_rfl) (by kernel_rfl) (fun wf hb hf => ?_) (fun t40 => ?_)
                · obtain ⟨rfl, rfl, -⟩ := hf
                  refine WfOp.yes (by kernel_rfl) ?_
                  dsimp only
                  have cz := (Below.cell (p := ⟨bbx, oox, none⟩) (btr (btr b2 b3) hb) hblx).trans hcx
                  go_wp2
                  exact ⟨rfl, .slice RRx x[0].1.length ssx, by kernel_rfl, Below.refl _ _, rfl⟩
                refine wf_stepK [36, 40] [fun _ => t36 = .bool false, fun _ => t40 = .slice RRx x[0].1.length ssx] (by kernel_rfl) (by kernel_rfl) (fun wf hb hf => ?_) (fun t41 => ?_)
                · obtain ⟨rfl, rfl, -⟩ := hf
                  refine WfOp.yes (by kernel_rfl) ?_
                  dsimp only
                  go_wp2
                  exact ⟨rfl, .int .i64 ((x[0].1.length : Nat)), by kernel_rfl, Below.refl _ _, rfl⟩
                refine wf_stepK [36] [fun _ => t36 = .bool false] (by kernel_rfl) (by kernel_rfl) (fun wf hb hf => ?_) (fun t42 => ?_)
                · obtain ⟨rfl, -⟩ := hf
                  refine WfOp.yes (by kernel_rfl) ?_
                  dsimp only
                  go_wp2
                  exact ⟨rfl, .slice (some ⟨bby, ooy, none⟩) y.length cy, by kernel_rfl, Below.refl _ _, rfl⟩
                refine wf_stepK [36, 42] [fun _ => t36 = .bool false, fun _ => t42 = .slice (some ⟨bby, ooy, none⟩) y.length cy] (by kernel_rfl) (by kernel_rfl) (fun wf hb hf => ?_) (fun t43 => ?_)
                · obtain ⟨rfl, rfl, -⟩ := hf
                  refine WfOp.yes (by kernel_rfl) ?_
                  dsimp only
                  go_wp2
                  exact ⟨rfl, .pointer (some ⟨bby, ooy, none⟩), by kernel_rfl, Below.refl _ _, rfl⟩
                refine wf_stepK [36, 43] [fun _ => t36 = .bool false, fun _ => t43 = .pointer (some ⟨bby, ooy, none⟩)] (by kernel_rfl) (by kernel_rfl) (fun wf hb hf => ?_) (fun t44 => ?_)
                · obtain ⟨rfl, rfl, -⟩ := hf
                  refine WfOp.yes (by kernel_rfl) ?_
                  dsimp only
                  go_wp2
                  exact ⟨rfl, .pointer (some ⟨bby, ooy, none⟩), by kernel_rfl, Below.refl _ _, rfl⟩
                refine wf_stepK [36, 44] [fun _ => t36 = .bool false, fun _ => t44 = .pointer (some ⟨bby, ooy, none⟩)] (by kernel_rfl) (by kernel_rfl) (fun wf hb hf => ?_) (fun t45 => ?_)
                · obtain ⟨rfl, rfl, -⟩ := hf
                  refine WfOp.yes (by kernel_rfl) ?_
                  dsimp only
                  have cz := (Below.cell (p := ⟨bby, ooy, none⟩) (btr (btr b2 b3) hb) hbly).trans hcy
                  go_wp2
                  exact ⟨rfl, .slice RRy y[0].1.length ssy, by kernel_rfl, Below.refl _ _, rfl⟩
                refine wf_stepK [36, 45] [fun _ => t36 = .bool false, fun _ => t45 = .slice RRy y[0].1.length ssy] (by kernel_rfl) (by kernel_rfl) (fun wf hb hf => ?_) (fun t46 => ?_)
                · obtain ⟨rfl, rfl, -⟩ := hf
                  refine WfOp.yes (by kernel_rfl) ?_
                  dsimp only
                  go_wp2
                  exact ⟨rfl, .int .i64 ((y[0].1.length : Nat)), by kernel_rfl, Below.refl _ _, rfl⟩
                refine wf_stepK [36, 41, 46] [fun _ => t36 = .bool false, fun _ => t41 = .int .i64 ((x[0].1.length : Nat)), fun _ => t46 = .int .i64 ((y[0].1.length : Nat))] (by kernel_rfl) (by kernel_rfl) (fun wf hb hf => ?_) (fun t47 => ?_)
                · obtain ⟨rfl, rfl, rfl, -⟩ := hf
                  refine WfOp.yes (by kernel_rfl) ?_
                  dsimp only
                  go_wp2
                  exact ⟨rfl, .bool false, by kernel_rfl, Below.refl _ _, rfl⟩
                refine wf_stepK [36, 47] [fun _ => t36 = .bool false, fun _ => t47 = .bool false] (by kernel_rfl) (by kernel_rfl) (fun wf hb hf => ?_) (fun t48 => ?_)
                · obtain ⟨rfl, rfl, -⟩ := hf
                  refine ⟨?_⟩
                  go_wp2
                  exact ⟨rfl, .bool false, by kernel_rfl, Below.refl _ _, rfl⟩
                refine wf_stepK [48] [fun _ => t48 = .bool false] (by kernel_rfl) (by kernel_rfl) (fun wf hb hf => ?_) (fun t49 => ?_)
                · obtain ⟨rfl, -⟩ := hf
                  refine ⟨?_⟩
                  go_wp2
                  exact ⟨rfl, .bool false, by kernel_rfl, Below.refl _ _, rfl⟩
                refine wf_stepK [49] [fun _ => t49 = .bool false] (by kernel_rfl) (by kernel_rfl) (fun wf hb hf => ?_) (fun t50 => ?_)
                · obtain ⟨rfl, -⟩ := hf
                  refine WfOp.yes (by kernel_rfl) ?_
                  dsimp only
                  go_wp2
                  exact ⟨rfl, .slice (some ⟨bbx, oox, none⟩) x.length cx, by kernel_rfl, Below.refl _ _, rfl⟩
                refine wf_stepK [49, 50] [fun _ => t49 = .bool false, fun _ => t50 = .slice (some ⟨bbx, oox, none⟩) x.length cx] (by kernel_rfl) (by kernel_rfl) (fun wf hb hf => ?_) (fun t51 => ?_)
                · obtain ⟨rfl, rfl, -⟩ := hf
                  refine WfOp.yes (by kernel_rfl) ?_
                  dsimp only
                  go_wp2
                  exact ⟨rfl, .pointer (some ⟨bbx, oox, none⟩), by kernel_rfl, Below.refl _ _, rfl⟩
                refine wf_stepK [49, 51] [fun _ => t49 = .bool false, fun _ => t51 = .pointer (some ⟨bbx, oox, none⟩)] (by kernel_rfl) (by kernel_rfl) (fun wf hb hf => ?_) (fun t52 => ?_)
                · obtain ⟨rfl, rfl, -⟩ := hf
                  refine WfOp.yes (by kernel_rfl) ?_
                  dsimp only
                  go_wp2
                  exact ⟨rfl, .pointer (some ⟨bbx, oox, none⟩), by kernel_rfl, Below.refl _ _, rfl⟩
                refine wf_stepK [49, 52] [fun _ => t49 = .bool false, fun _ => t52 = .pointer (some ⟨bbx, oox, none⟩)] (by kernel_rfl) (by kernel_rfl) (fun wf hb hf => ?_) (fun t53 => ?_)
                · obtain ⟨rfl, rfl, -⟩ := hf
                  refine WfOp.yes (by kernel_rfl) ?_
                  dsimp only
                  have cz := (Below.cell (p := ⟨bbx, oox, none⟩) (btr (btr b2 b3) hb) hblx).trans hcx
                  go_wp2
                  exact ⟨rfl, .slice RRx x[0].1.length ssx, by kernel_rfl, Below.refl _ _, rfl⟩
                refine wf_stepK [49, 53] [fun _ => t49 = .bool false, fun _ => t53 = .slice RRx x[0].1.length ssx] (by kernel_rfl) (by kernel_rfl) (fun wf hb hf => ?_) (fun t54 => ?_)
                · obtain ⟨rfl, rfl, -⟩ := hf
                  refine WfOp.yes (by kernel_rfl) ?_
                  dsimp only
                  go_wp2
                  exact ⟨rfl, .int .i64 ((x[0].1.length : Nat)), by kernel_rfl, Below.refl _ _, rfl⟩
                refine wf_stepK [49] [fun _ => t49 = .bool false] (by kernel_rfl) (by kernel_rfl) (fun wf hb hf => ?_) (fun t55 => ?_)
                · obtain ⟨rfl, -⟩ := hf
                  refine WfOp.yes (by kernel_rfl) ?_
                  dsimp only
                  go_wp2
                  exact ⟨rfl, .slice (some ⟨bbv, oov, none⟩) v.length cv, by kernel_rfl, Below.refl _ _, rfl⟩
                refine wf_stepK [49, 55] [fun _ => t49 = .bool false, fun _ => t55 = .slice (some ⟨bbv, oov, none⟩) v.length cv] (by kernel_rfl) (by kernel_rfl) (fun wf hb hf => ?_) (fun t56 => ?_)
                · obtain ⟨rfl, rfl, -⟩ := hf
                  refine WfOp.yes (by kernel_rfl) ?_
                  dsimp only
                  go_wp2
                  exact ⟨rfl, .pointer (some ⟨bbv, oov, none⟩), by kernel_rfl, Below.refl _ _, rfl⟩
                refine wf_stepK [49, 56] [fun _ => t49 = .bool false, fun _ => t56 = .pointer (some ⟨bbv, oov, none⟩)] (by kernel_rfl) (by kernel_rfl) (fun wf hb hf => ?_) (fun t57 => ?_)
                · obtain ⟨rfl, rfl, -⟩ := hf
                  refine WfOp.yes (by kernel_rfl) ?_
                  dsimp only
                  go_wp2
                  exact ⟨rfl, .pointer (some ⟨bbv, oov, none⟩), by kernel_rfl, Below.refl _ _, rfl⟩
                refine wf_stepK [49, 57] [fun _ => t49 = .bool false, fun _ => t57 = .pointer (some ⟨bbv, oov, none⟩)] (by kernel_rfl) (by kernel_rfl) (fun wf hb hf => ?_) (fun t58 => ?_)
                · obtain ⟨rfl, rfl, -⟩ := hf
                  refine WfOp.yes (by kernel_rfl) ?_
                  dsimp only
                  have cz := (Below.cell (p := ⟨bbv, oov, none⟩) hb hblv).trans hcv
                  go_wp2
                  exact ⟨rfl, .slice RRv v[0].1.length ssv, by kernel_rfl, Below.refl _ _, rfl⟩
                refine wf_stepK [49, 58] [fun _ => t49 = .bool false, fun _ => t58 = .slice RRv v[0].1.length ssv] (by kernel_rfl) (by kernel_rfl) (fun wf hb hf => ?_) (fun t59 => ?_)
                · obtain ⟨rfl, rfl, -⟩ := hf
                  refine WfOp.yes (by kernel_rfl) ?_
                  dsimp only
                  go_wp2
                  exact ⟨rfl, .int .i64 ((v[0].1.length : Nat)), by kernel_rfl, Below.refl _ _, rfl⟩
                refine wf_stepK [49, 54, 59] [fun _ => t49 = .bool false, fun _ => t54 = .int .i64 ((x[0].1.length : Nat)), fun _ => t59 = .int .i64 ((v[0].1.length : Nat))] (by kernel_rfl) (by kernel_rfl) (fun wf hb hf => ?_) (fun t60 => ?_)
                · obtain ⟨rfl, rfl, rfl, -⟩ := hf
                  refine WfOp.yes (by kernel_rfl) ?_
                  dsimp only
                  go_wp2
                  exact ⟨rfl, .bool false, by kernel_rfl, Below.refl _ _, rfl⟩
                refine wf_doneK [49, 60] [fun _ => t49 = .bool false, fun _ => t60 = .bool false] (by kernel_rfl) (by kernel_rfl) (fun w4 b4 hf => ?_)
                obtain ⟨rfl, rfl, -⟩ := hf
                show wpList _ _ _ [_] _ _
                refine wpList_frame (by simp [Act.put]; rfl) ?_
                have B4 := btr B3 b4
                go_wp2_with fail
                refine (Add_i _ _ (AddF (x) (y)) _ _ (v) _ (a2.below entR (btr b3 b4)) ((SlOw.at_ entO hv.1).below entR b4) (EntsOw.cap o2) (EntsOw.cap hv.1) (Nat.le_trans (AddF_len' _ _) (by decide)) (rows_big (AddF_row' _ _) (by decide)) nv rv).mono ?_
                rintro e w5 ⟨A5, c5, rfl, o5, b5⟩
                have B5 := btr B4 b5
                have a5 : EntsAt w5 A5 (AddF (AddF (x) (y)) (v)) := SlOw.at_ entO o5
                go_wp2_with fail
                refine (Add_i _ _ (y) _ _ (v) _ ((SlOw.at_ entO hy.1).below entR (btr (btr (btr b2 b3) b4) b5)) ((SlOw.at_ entO hv.1).below entR (btr b4 b5)) (EntsOw.cap hy.1) (EntsOw.cap hv.1) ny ry nv rv).mono ?_
                rintro e w6 ⟨A6, c6, rfl, o6, b6⟩
                have B6 := btr B5 b6
                have a6 : EntsAt w6 A6 (AddF (y) (v)) := SlOw.at_ entO o6
                go_wp2_with fail
                refine (Add_i _ _ (x) _ _ (AddF (y) (v)) _ ((SlOw.at_ entO hx.1).below entR (btr (btr (btr (btr b2 b3) b4) b5) b6)) a6 (EntsOw.cap hx.1) (EntsOw.cap o6) nx rx (Nat.le_trans (AddF_len' _ _) (by decide)) (rows_big (AddF_row' _ _) (by decide))).mono ?_
                rintro e w7 ⟨A7, c7, rfl, o7, b7⟩
                have B7 := btr B6 b7
                have a7 : EntsAt w7 A7 (AddF (x) (AddF (y) (v))) := SlOw.at_ entO o7
                go_wp2_with fail
                refine (equalZ (xs := AddF (AddF (x) (y)) (v)) (ys := AddF (x) (AddF (y) (v))) true (decide_eq_true HASS.out) (a5.below entR (btr b6 b7)) a7 (Nat.le_trans (AddF_len' _ _) (by decide)) (Nat.le_trans (AddF_len' _ _) (by decide)) (rows_big (AddF_row' _ _) (by decide)) (rows_big (AddF_row' _ _) (by decide))).mono ?_
                rintro e w8 ⟨rfl, b8⟩
                have B8 := btr B7 b8
                go_wp2_with fail
                go_ret
                exact ⟨rfl, B8⟩
              · have hnv : ((x[0].1.length : Int) != (v[0].1.length : Int)) = true := by rw [← hwx, ← hwv]; simp; omega
                clear hwv' hwx hwy hwv Sx Sy Sv
                obtain ⟨bbx, oox, RRx, ssx, hAx, hblx, hcx, -, -, hrx⟩ := (EntsAt.get (SlOw.at_ entO hx.1) 0 hpx)
                simp only [Nat.zero_mul, Nat.add_zero] at hcx
                subst hAx
                obtain ⟨bby, ooy, RRy, ssy, hAy, hbly, hcy, -, -, hry⟩ := (EntsAt.get (SlOw.at_ entO hy.1) 0 hpy)
                simp only [Nat.zero_mul, Nat.add_zero] at hcy
                subst hAy
                obtain ⟨bbv, oov, RRv, ssv, hAv, hblv, hcv, -, -, hrv⟩ := (EntsAt.get (SlOw.at_ entO hv.1) 0 hpv)
                simp only [Nat.zero_mul, Nat.add_zero] at hcv
                subst hAv
                go_wp2_with fail
                refine wp_region_facts [[], [], [], [1, 2], List.range 4, List.range 5, List.range 6, List.range 7, List.range 8, List.range 9, List.range 10, List.range 11, List.range 12, List.range 13, List.range 14, List.range 15, List.range 16, List.range 17, List.range 18, List.range 19, List.range 20, List.range 21, List.range 22, List.range 23, List.range 24, List.range 25, List.range 26, List.range 27, List.range 28, List.range 29, List.range 30, List.range 31, List.range 32, List.range 33, List.range 34, List.range 35, List.range 36, List.range 37, List.range 38, List.range 39, List.range 40, List.range 41, List.range 37, [0, 1, 2, 3, 4, 5, 6, 7, 8, 9, 10, 11, 12, 13, 14, 15, 16, 17, 18, 19, 20, 21, 22, 23, 24, 25, 26, 27, 28, 29, 30, 31, 32, 33, 34, 35, 36, 42], [0, 1, 2, 3, 4, 5, 6, 7, 8, 9, 10, 11, 12, 13, 14, 15, 16, 17, 18, 19, 20, 21, 22, 23, 24, 25, 26, 27, 28, 29, 30, 31, 32, 33, 34, 35, 36, 42, 43], [0, 1, 2, 3, 4, 5, 6, 7, 8, 9, 10, 11, 12, 13, 14, 15, 16, 17, 18, 19, 20, 21, 22, 23, 24, 25, 26, 27, 28, 29, 30, 31, 32, 33, 34, 35, 36, 42, 43, 44], [0, 1, 2, 3, 4, 5, 6, 7, 8, 9, 10, 11, 12, 13, 14, 15, 16, 17, 18, 19, 20, 21, 22, 23, 24, 25, 26, 27, 28, 29, 30, 31, 32, 33, 34, 35, 36, 42, 43, 44, 45], List.range 47, List.range 48, List.range 49, List.range 50, List.range 51, List.range 52, List.range 53, List.range 54, List.range 50, [0, 1, 2, 3, 4, 5, 6, 7, 8, 9, 10, 11, 12, 13, 14, 15, 16, 17, 18, 19, 20, 21, 22, 23, 24, 25, 26, 27, 28, 29, 30, 31, 32, 33, 34, 35, 36, 37, 38, 39, 40, 41, 42, 43, 44, 45, 46, 47, 48, 49, 55], [0, 1, 2, 3, 4, 5, 6, 7, 8, 9, 10, 11, 12, 13, 14, 15, 16, 17, 18, 19, 20, 21, 22, 23, 24, 25, 26, 27, 28, 29, 30, 31, 32, 33, 34, 35, 36, 37, 38, 39, 40, 41, 42, 43, 44, 45, 46, 47, 48, 49, 55, 56], [0, 1, 2, 3, 4, 5, 6, 7, 8, 9, 10, 11, 12, 13, 14, 15, 16, 17, 18, 19, 20, 21, 22, 23, 24, 25, 26, 27, 28, 29, 30, 31, 32, 33, 34, 35, 36, 37, 38, 39, 40, 41, 42, 43, 44, 45, 46, 47, 48, 49, 55, 56, 57], [0, 1, 2, 3, 4, 5, 6, 7, 8, 9, 10, 11, 12, 13, 14, 15, 16, 17, 18, 19, 20, 21, 22, 23, 24, 25, 26, 27, 28, 29, 30, 31, 32, 33, 34, 35, 36, 37, 38, 39, 40, 41, 42, 43, 44, 45, 46, 47, 48, 49, 55, 56, 57, 58], List.range 60]
                  [fun v' _ => v' = .slice A2 (AddF (x) (y)).length c2, fun v' _ => v' = .slice (some ⟨bbx, oox, none⟩) x.length cx, fun v' _ => v' = .slice (some ⟨bby, ooy, none⟩) y.length cy, ZVr (AddF (x) (y)), fun v' _ => v' = .bool true, fun v' _ => v' = .bool false, fun v' _ => v' = .bool false, fun v' _ => v' = .slice (some ⟨bbx, oox, none⟩) x.length cx, fun v' _ => v' = .bool true, fun v' _ => v' = .bool false, fun v' _ => v' = .bool false, fun v' _ => v' = .bool false, fun v' _ => v' = .slice (some ⟨bby, ooy, none⟩) y.length cy, fun v' _ => v' = .bool true, fun v' _ => v' = .bool false, fun v' _ => v' = .bool false, fun v' _ => v' = .bool false, fun v' _ => v' = .slice (some ⟨bbv, oov, none⟩) v.length cv, fun v' _ => v' = .bool true, fun v' _ => v' = .bool false, fun v' _ => v' = .bool false, fun v' _ => v' = .bool false, fun v' _ => v' = .slice (some ⟨bbx, oox, none⟩) x.length cx, fun v' _ => v' = .int .i64 ((x.length : Nat)), fun v' _ => v' = .bool false, fun v' _ => v' = .bool false, fun v' _ => v' = .bool false, fun v' _ => v' = .slice (some ⟨bby, ooy, none⟩) y.length cy, fun v' _ => v' = .int .i64 ((y.length : Nat)), fun v' _ => v' = .bool false, fun v' _ => v' = .bool false, fun v' _ => v' = .bool false, fun v' _ => v' = .slice (some ⟨bbv, oov, none⟩) v.length cv, fun v' _ => v' = .int .i64 ((v.length : Nat)), fun v' _ => v' = .bool false, fun v' _ => v' = .bool false, fun v' _ => v' = .bool false, fun v' _ => v' = .slice (some ⟨bbx, oox, none⟩) x.length cx, fun v' _ => v' = .pointer (some ⟨bbx, oox, none⟩), fun v' _ => v' = .pointer (some ⟨bbx, oox, none⟩), fun v' _ => v' = .slice RRx x[0].1.length ssx, fun v' _ => v' = .int .i64 ((x[0].1.length : Nat)), fun v' _ => v' = .slice (some ⟨bby, ooy, none⟩) y.length cy, fun v' _ => v' = .pointer (some ⟨bby, ooy, none⟩), fun v' _ => v' = .pointer (some ⟨bby, ooy, none⟩), fun v' _ => v' = .slice RRy y[0].1.length ssy, fun v' _ => v' = .int .i64 ((y[0].1.length : Nat)), fun v' _ => v' = .bool false, fun v' _ => v' = .bool false, fun v' _ => v' = .bool false, fun v' _ => v' = .slice (some ⟨bbx, oox, none⟩) x.length cx, fun v' _ => v' = .pointer (some ⟨bbx, oox, none⟩), fun v' _ => v' = .pointer (some ⟨bbx, oox, none⟩), fun v' _ => v' = .slice RRx x[0].1.length ssx, fun v' _ => v' = .int .i64 ((x[0].1.length : Nat)), fun v' _ => v' = .slice (some ⟨bbv, oov, none⟩) v.length cv, fun v' _ => v' = .pointer (some ⟨bbv, oov, none⟩), fun v' _ => v' = .pointer (some ⟨bbv, oov, none⟩), fun v' _ => v' = .slice RRv v[0].1.length ssv, fun v' _ => v' = .int .i64 ((v[0].1.length : Nat)), fun v' _ => v' = .bool true]
                  (by kernel_rfl) (by kernel_rfl) rfl ⟨stable_pure _, stable_pure _, stable_pure _, stable_zVr _, stable_pure _, stable_pure _, stable_pure _, stable_pure _, stable_pure _, stable_pure _, stable_pure _, stable_pure _, stable_pure _, stable_pure _, stable_pure _, stable_pure _, stable_pure _, stable_pure _, stable_pure _, stable_pure _, stable_pure _, stable_pure _, stable_pure _, stable_pure _, stable_pure _, stable_pure _, stable_pure _, stable_pure _, stable_pure _, stable_pure _, stable_pure _, stable_pure _, stable_pure _, stable_pure _, stable_pure _, stable_pure _, stable_pure _, stable_pure _, stable_pure _, stable_pure _, stable_pure _, stable_pure _, stable_pure _, stable_pure _, stable_pure _, stable_pure _, stable_pure _, stable_pure _, stable_pure _, stable_pure _, stable_pure _, stable_pure _, stable_pure _, stable_pure _, stable_pure _, stable_pure _, stable_pure _, stable_pure _, stable_pure _, stable_pure _, stable_pure _, trivial⟩ ?_
                refine wf_stepK [] [] (by kernel_rfl) (by kernel_rfl) (fun wf hb hf => ?_) (fun t0 => ?_)
                · refine ⟨?_⟩
                  go_wp2
                  exact ⟨rfl, .slice A2 (AddF (x) (y)).length c2, by kernel_rfl, Below.refl _ _, rfl⟩
                refine wf_stepK [] [] (by kernel_rfl) (by kernel_rfl) (fun wf hb hf => ?_) (fun t1 => ?_)
                · refine ⟨?_⟩
                  go_wp2
                  exact ⟨rfl, .slice (some ⟨bbx, oox, none⟩) x.length cx, by kernel_rfl, Below.refl _ _, rfl⟩
                refine wf_stepK [] [] (by kernel_rfl) (by kernel_rfl) (fun wf hb hf => ?_) (fun t2 => ?_)
                · refine ⟨?_⟩
                  go_wp2
                  exact ⟨rfl, .slice (some ⟨bby, ooy, none⟩) y.length cy, by kernel_rfl, Below.refl _ _, rfl⟩
                refine wf_stepK [1, 2] [fun _ => t1 = .slice (some ⟨bbx, oox, none⟩) x.length cx, fun _ => t2 = .slice (some ⟨bby, ooy, none⟩) y.length cy] (by kernel_rfl) (by kernel_rfl) (fun wf hb hf => ?_) (fun t3 => ?_)
                · obtain ⟨rfl, rfl, -⟩ := hf
                  refine ⟨?_⟩
                  go_wp2_with (go_at_call 28; refine (Add_s _ _ (x) _ _ (y) _ (((SlOw.at_ entO hx.1).below entR (btr b2 b3)).below entR hb) (((SlOw.at_ entO hy.1).below entR (btr b2 b3)).below entR hb) nx rx ny ry).mono ?_; rintro e w2 ⟨AN, cN, rfl, oN, hb2⟩)
                  exact ⟨rfl, .slice AN (AddF (x) (y)).length cN, by kernel_rfl, hb2, AN, cN, rfl, SlOw.at_ entO oN, EntsOw.cap oN⟩
                refine wf_stepK [0, 3] [fun _ => t0 = .slice A2 (AddF (x) (y)).length c2, ZVr (AddF (x) (y)) t3] (by kernel_rfl) (by kernel_rfl) (fun wf hb hf => ?_) (fun t4 => ?_)
                · obtain ⟨rfl, ⟨XS1, xs1, rfl, hS1⟩, -⟩ := hf
                  refine ⟨?_⟩
                  go_wp2_with (go_at_call 15; refine (equalZ (xs := AddF (x) (y)) (ys := AddF (x) (y)) true (decide_eq_true rfl) ((a2.below entR b3).below entR hb) hS1.1 (Nat.le_trans (AddF_len' _ _) (by decide)) (Nat.le_trans (AddF_len' _ _) (by decide)) (rows_big (AddF_row' _ _) (by decide)) (rows_big (AddF_row' _ _) (by decide))).mono ?_; rintro e w2 ⟨rfl, hb2⟩)
                  exact ⟨rfl, .bool true, by kernel_rfl, hb2, rfl⟩
                refine wf_stepK [4] [fun _ => t4 = .bool true] (by kernel_rfl) (by kernel_rfl) (fun wf hb hf => ?_) (fun t5 => ?_)
                · obtain ⟨rfl, -⟩ := hf
                  refine ⟨?_⟩
                  go_wp2
                  exact ⟨rfl, .bool false, by kernel_rfl, Below.refl _ _, rfl⟩
                refine wf_stepK [5] [fun _ => t5 = .bool false] (by kernel_rfl) (by kernel_rfl) (fun wf hb hf => ?_) (fun t6 => ?_)
                · obtain ⟨rfl, -⟩ := hf
                  refine ⟨?_⟩
                  go_wp2
                  exact ⟨rfl, .bool false, by kernel_rfl, Below.refl _ _, rfl⟩
                refine wf_stepK [6] [fun _ => t6 = .bool false] (by kernel_rfl) (by kernel_rfl) (fun wf hb hf => ?_) (fun t7 => ?_)
                · obtain ⟨rfl, -⟩ := hf
                  refine WfOp.yes (by kernel_rfl) ?_
                  dsimp only
                  go_wp2
                  exact ⟨rfl, .slice (some ⟨bbx, oox, none⟩) x.length cx, by kernel_rfl, Below.refl _ _, rfl⟩
                refine wf_stepK [6, 7] [fun _ => t6 = .bool false, fun _ => t7 = .slice (some ⟨bbx, oox, none⟩) x.length cx] (by kernel_rfl) (by kernel_rfl) (fun wf hb hf => ?_) (fun t8 => ?_)
                · obtain ⟨rfl, rfl, -⟩ := hf
                  refine WfOp.yes (by kernel_rfl) ?_
                  dsimp only
                  go_wp2_with (go_at_call 21; refine (smallZ true HSx.out (((SlOw.at_ entO hx.1).below entR (btr b2 b3)).below entR hb) nx rx).mono ?_; rintro e w2 ⟨rfl, hb2⟩)
                  exact ⟨rfl, .bool true, by kernel_rfl, hb2, rfl⟩
                refine wf_stepK [6, 8] [fun _ => t6 = .bool false, fun _ => t8 = .bool true] (by kernel_rfl) (by kernel_rfl) (fun wf hb hf => ?_) (fun t9 => ?_)
                · obtain ⟨rfl, rfl, -⟩ := hf
                  refine WfOp.yes (by kernel_rfl) ?_
                  dsimp only
                  go_wp2
                  exact ⟨rfl, .bool false, by kernel_rfl, Below.refl _ _, rfl⟩
                refine wf_stepK [6, 9] [fun _ => t6 = .bool false, fun _ => t9 = .bool false] (by kernel_rfl) (by kernel_rfl) (fun wf hb hf => ?_) (fun t10 => ?_)
                · obtain ⟨rfl, rfl, -⟩ := hf
                  refine ⟨?_⟩
                  go_wp2
                  exact ⟨rfl, .bool false, by kernel_rfl, Below.refl _ _, rfl⟩
                refine wf_stepK [10] [fun _ => t10 = .bool false] (by kernel_rfl) (by kernel_rfl) (fun wf hb hf => ?_) (fun t11 => ?_)
                · obtain ⟨rfl, -⟩ := hf
                  refine ⟨?_⟩
                  go_wp2
                  exact ⟨rfl, .bool false, by kernel_rfl, Below.refl _ _, rfl⟩
                refine wf_stepK [11] [fun _ => t11 = .bool false] (by kernel_rfl) (by kernel_rfl) (fun wf hb hf => ?_) (fun t12 => ?_)
                · obtain ⟨rfl, -⟩ := hf
                  refine WfOp.yes (by kernel_rfl) ?_
                  dsimp only
                  go_wp2
                  exact ⟨rfl, .slice (some ⟨bby, ooy, none⟩) y.length cy, by kernel_rfl, Below.refl _ _, rfl⟩
                refine wf_stepK [11, 12] [fun _ => t11 = .bool false, fun _ => t12 = .slice (some ⟨bby, ooy, none⟩) y.length cy] (by kernel_rfl) (by kernel_rfl) (fun wf hb hf => ?_) (fun t13 => ?_)
                · obtain ⟨rfl, rfl, -⟩ := hf
                  refine WfOp.yes (by kernel_rfl) ?_
                  dsimp only
                  go_wp2_with (go_at_call 21; refine (smallZ true HSy.out (((SlOw.at_ entO hy.1).below entR (btr b2 b3)).below entR hb) ny ry).mono ?_; rintro e w2 ⟨rfl, hb2⟩)
                  exact ⟨rfl, .bool true, by kernel_rfl, hb2, rfl⟩
                refine wf_stepK [11, 13] [fun _ => t11 = .bool false, fun _ => t13 = .bool true] (by kernel_rfl) (by kernel_rfl) (fun wf hb hf => ?_) (fun t14 => ?_)
                · obtain ⟨rfl, rfl, -⟩ := hf
                  refine WfOp.yes (by kernel_rfl) ?_
                  dsimp only
                  go_wp2
                  exact ⟨rfl, .bool false, by kernel_rfl, Below.refl _ _, rfl⟩
                refine wf_stepK [11, 14] [fun _ => t11 = .bool false, fun _ => t14 = .bool false] (by kernel_rfl) (by kernel_rfl) (fun wf hb hf => ?_) (fun t15 => ?_)
                · obtain ⟨rfl, rfl, -⟩ := hf
                  refine ⟨?_⟩
                  go_wp2
                  exact ⟨rfl, .bool false, by kernel_rfl, Below.refl _ _, rfl⟩
                refine wf_stepK [15] [fun _ => t15 = .bool false] (by kernel_rfl) (by kernel_rfl) (fun wf hb hf => ?_) (fun t16 => ?_)
                · obtain ⟨rfl, -⟩ := hf
                  refine ⟨?_⟩
                  go_wp2
                  exact ⟨rfl, .bool false, by kernel_rfl, Below.refl _ _, rfl⟩
                refine wf_stepK [16] [fun _ => t16 = .bool false] (by kernel_rfl) (by kernel_rfl) (fun wf hb hf => ?_) (fun t17 => ?_)
                · obtain ⟨rfl, -⟩ := hf
                  refine WfOp.yes (by kernel_rfl) ?_
                  dsimp only
                  go_wp2
                  exact ⟨rfl, .slice (some ⟨bbv, oov, none⟩) v.length cv, by kernel_rfl, Below.refl _ _, rfl⟩
                refine wf_stepK [16, 17] [fun _ => t16 = .bool false, fun _ => t17 = .slice (some ⟨bbv, oov, none⟩) v.length cv] (by kernel_rfl) (by kernel_rfl) (fun wf hb hf => ?_) (fun t18 => ?_)
                · obtain ⟨rfl, rfl, -⟩ := hf
                  refine WfOp.yes (by kernel_rfl) ?_
                  dsimp only
                  go_wp2_with (go_at_call 21; refine (smallZ true HSv.out ((SlOw.at_ entO hv.1).below entR hb) nv rv).mono ?_; rintro e w2 ⟨rfl, hb2⟩)
                  exact ⟨rfl, .bool true, by kernel_rfl, hb2, rfl⟩
                refine wf_stepK [16, 18] [fun _ => t16 = .bool false, fun _ => t18 = .bool true] (by kernel_rfl) (by kernel_rfl) (fun wf hb hf => ?_) (fun t19 => ?_)
                · obtain ⟨rfl, rfl, -⟩ := hf
                  refine WfOp.yes (by kernel_rfl) ?_
                  dsimp only
                  go_wp2
                  exact ⟨rfl, .bool false, by kernel_rfl, Below.refl _ _, rfl⟩
                refine wf_stepK [16, 19] [fun _ => t16 = .bool false, fun _ => t19 = .bool false] (by kernel_rfl) (by kernel_rfl) (fun wf hb hf => ?_) (fun t20 => ?_)
                · obtain ⟨rfl, rfl, -⟩ := hf
                  refine ⟨?_⟩
                  go_wp2
                  exact ⟨rfl, .bool false, by kernel_rfl, Below.refl _ _, rfl⟩
                refine wf_stepK [20] [fun _ => t20 = .bool false] (by kernel_rfl) (by kernel_rfl) (fun wf hb hf => ?_) (fun t21 => ?_)
                · obtain ⟨rfl, -⟩ := hf
                  refine ⟨?_⟩
                  go_wp2
                  exact ⟨rfl, .bool false, by kernel_rfl, Below.refl _ _, rfl⟩
                refine wf_stepK [21] [fun _ => t21 = .bool false] (by kernel_rfl) (by kernel_rfl) (fun wf hb hf => ?_) (fun t22 => ?_)
                · obtain ⟨rfl, -⟩ := hf
                  refine WfOp.yes (by kernel_rfl) ?_
                  dsimp only
                  go_wp2
                  exact ⟨rfl, .slice (some ⟨bbx, oox, none⟩) x.length cx, by kernel_rfl, Below.refl _ _, rfl⟩
                refine wf_stepK [21, 22] [fun _ => t21 = .bool false, fun _ => t22 = .slice (some ⟨bbx, oox, none⟩) x.length cx] (by kernel_rfl) (by kernel_rfl) (fun wf hb hf => ?_) (fun t23 => ?_)
                · obtain ⟨rfl, rfl, -⟩ := hf
                  refine WfOp.yes (by kernel_rfl) ?_
                  dsimp only
                  go_wp2
                  exact ⟨rfl, .int .i64 ((x.length : Nat)), by kernel_rfl, Below.refl _ _, rfl⟩
                refine wf_stepK [21, 23] [fun _ => t21 = .bool false, fun _ => t23 = .int .i64 ((x.length : Nat))] (by kernel_rfl) (by kernel_rfl) (fun wf hb hf => ?_) (fun t24 => ?_)
                · obtain ⟨rfl, rfl, -⟩ := hf
                  refine WfOp.yes (by kernel_rfl) ?_
                  dsimp only
                  go_wp2
                  exact ⟨rfl, .bool false, by kernel_rfl, Below.refl _ _, rfl⟩
                refine wf_stepK [21, 24] [fun _ => t21 = .bool false, fun _ => t24 = .bool false] (by kernel_rfl) (by kernel_rfl) (fun wf hb hf => ?_) (fun t25 => ?_)
                · obtain ⟨rfl, rfl, -⟩ := hf
                  refine ⟨?_⟩
                  go_wp2
                  exact ⟨rfl, .bool false, by kernel_rfl, Below.refl _ _, rfl⟩
                refine wf_stepK [25] [fun _ => t25 = .bool false] (by kernel_rfl) (by kernel_rfl) (fun wf hb hf => ?_) (fun t26 => ?_)
                · obtain ⟨rfl, -⟩ := hf
                  refine ⟨?_⟩
                  go_wp2
                  exact ⟨rfl, .bool false, by kernel_rfl, Below.refl _ _, rfl⟩
                refine wf_stepK [26] [fun _ => t26 = .bool false] (by kernel_rfl) (by kernel_rfl) (fun wf hb hf => ?_) (fun t27 => ?_)
                · obtain ⟨rfl, -⟩ := hf
                  refine WfOp.yes (by kernel_rfl) ?_
                  dsimp only
                  go_wp2
                  exact ⟨rfl, .slice (some ⟨bby, ooy, none⟩) y.length cy, by kernel_rfl, Below.refl _ _, rfl⟩
                refine wf_stepK [26, 27] [fun _ => t26 = .bool false, fun _ => t27 = .slice (some ⟨bby, ooy, none⟩) y.length cy] (by kernel_rfl) (by kernel_rfl) (fun wf hb hf => ?_) (fun t28 => ?_)
                · obtain ⟨rfl, rfl, -⟩ := hf
                  refine WfOp.yes (by kernel_rfl) ?_
                  dsimp only
                  go_wp2
                  exact ⟨rfl, .int .i64 ((y.length : Nat)), by kernel_rfl, Below.refl _ _, rfl⟩
                refine wf_stepK [26, 28] [fun _ => t26 = .bool false, fun _ => t28 = .int .i64 ((y.length : Nat))] (by kernel_rfl) (by kernel_rfl) (fun wf hb hf => ?_) (fun t29 => ?_)
                · obtain ⟨rfl, rfl, -⟩ := hf
                  refine WfOp.yes (by kernel_rfl) ?_
                  dsimp only
                  go_wp2
                  exact ⟨rfl, .bool false, by kernel_rfl, Below.refl _ _, rfl⟩
                refine wf_stepK [26, 29] [fun _ => t26 = .bool false, fun _ => t29 = .bool false] (by kernel_rfl) (by kernel_rfl) (fun wf hb hf => ?_) (fun t30 => ?_)
                · obtain ⟨rfl, rfl, -⟩ := hf
                  refine ⟨?_⟩
                  go_wp2
                  exact ⟨rfl, .bool false, by kernel_rfl, Below.refl _ _, rfl⟩
                refine wf_stepK [30] [fun _ => t30 = .bool false] (by kernel_rfl) (by kernel_rfl) (fun wf hb hf => ?_) (fun t31 => ?_)
                · obtain ⟨rfl, -⟩ := hf
                  refine ⟨?_⟩
                  go_wp2
                  exact ⟨rfl, .bool false, by kernel_rfl, Below.refl _ _, rfl⟩
                refine wf_stepK [31] [fun _ => t31 = .bool false] (by kernel_rfl) (by kernel_rfl) (fun wf hb hf => ?_) (fun t32 => ?_)
                · obtain ⟨rfl, -⟩ := hf
                  refine WfOp.yes (by kernel_rfl) ?_
                  dsimp only
                  go_wp2
                  exact ⟨rfl, .slice (some ⟨bbv, oov, none⟩) v.length cv, by kernel_rfl, Below.refl _ _, rfl⟩
                refine wf_stepK [31, 32] [fun _ => t31 = .bool false, fun _ => t32 = .slice (some ⟨bbv, oov, none⟩) v.length cv] (by kernel_rfl) (by kernel_rfl) (fun wf hb hf => ?_) (fun t33 => ?_)
                · obtain ⟨rfl, rfl, -⟩ := hf
                  refine WfOp.yes (by kernel_rfl) ?_
                  dsimp only
                  go_wp2
                  exact ⟨rfl, .int .i64 ((v.length : Nat)), by kernel_rfl, Below.refl _ _, rfl⟩
                refine wf_stepK [31, 33] [fun _ => t31 = .bool false, fun _ => t33 = .int .i64 ((v.length : Nat))] (by kernel_rfl) (by kernel_rfl) (fun wf hb hf => ?_) (fun t34 => ?_)
                · obtain ⟨rfl, rfl, -⟩ := hf
                  refine WfOp.yes (by kernel_rfl) ?_
                  dsimp only
                  go_wp2
                  exact ⟨rfl, .bool false, by kernel_rfl, Below.refl _ _, rfl⟩
                refine wf_stepK [31, 34] [fun _ => t31 = .bool false, fun _ => t34 = .bool false] (by kernel_rfl) (by kernel_rfl) (fun wf hb hf => ?_) (fun t35 => ?_)
                · obtain ⟨rfl, rfl, -⟩ := hf
                  refine ⟨?_⟩
                  go_wp2
                  exact ⟨rfl, .bool false, by kernel_rfl, Below.refl _ _, rfl⟩
                refine wf_stepK [35] [fun _ => t35 = .bool false] (by kernel_rfl) (by kernel_rfl) (fun wf hb hf => ?_) (fun t36 => ?_)
                · obtain ⟨rfl, -⟩ := hf
                  refine ⟨?_⟩
                  go_wp2
                  exact ⟨rfl, .bool false, by kernel_rfl, Below.refl _ _, rfl⟩
                refine wf_stepK [36] [fun _ => t36 = .bool false] (by kernel_rfl) (by kernel_rfl) (fun wf hb hf => ?_) (fun t37 => ?_)
                · obtain ⟨rfl, -⟩ := hf
                  refine WfOp.yes (by kernel_rfl) ?_
                  dsimp only
                  go_wp2
                  exact ⟨rfl, .slice (some ⟨bbx, oox, none⟩) x.length cx, by kernel_rfl, Below.refl _ _, rfl⟩
                refine wf_stepK [36, 37] [fun _ => t36 = .bool false, fun _ => t37 = .slice (some ⟨bbx, oox, none⟩) x.length cx] (by kernel_rfl) (by kernel_rfl) (fun wf hb hf => ?_) (fun t38 => ?_)
                · obtain ⟨rfl, rfl, -⟩ := hf
                  refine WfOp.yes (by kernel_rfl) ?_
                  dsimp only
                  go_wp2
                  exact ⟨rfl, .pointer (some ⟨bbx, oox, none⟩), by kernel_rfl, Below.refl _ _, rfl⟩
                refine wf_stepK [36, 38] [fun _ => t36 = .bool false, fun _ => t38 = .pointer (some ⟨bbx, oox, none⟩)] (by kernel_rfl) (by kernel_rfl) (fun wf hb hf => ?_) (fun t39 => ?_)
                · obtain ⟨rfl, rfl, -⟩ := hf
                  refine WfOp.yes (by kernel_rfl) ?_
                  dsimp only
                  go_wp2
                  exact ⟨rfl, .pointer (some ⟨bbx, oox, none⟩), by kernel_rfl, Below.refl _ _, rfl⟩
                refine wf_stepK [36, 39] [fun _ => t36 = .bool false, fun _ => t39 = .pointer (some ⟨bbx, oox, none⟩)] (by kernel_rfl) (by kernel_rfl) (fun wf hb hf => ?_) (fun t40 => ?_)
                · obtain ⟨rfl, rfl, -⟩ := hf
                  refine WfOp.yes (by kernel_rfl) ?_
                  dsimp only
                  have cz := (Below.cell (p := ⟨bbx, oox, none⟩) (btr (btr b2 b3) hb) hblx).trans hcx
                  go_wp2
                  exact ⟨rfl, .slice RRx x[0].1.length ssx, by kernel_rfl, Below.refl _ _, rfl⟩
                refine wf_stepK [36, 40] [fun _ => t36 = .bool false, fun _ => t40 = .slice RRx x[0].1.length ssx] (by kernel_rfl) (by kernel_rfl) (fun wf hb hf => ?_) (fun t41 => ?_)
                · obtain ⟨rfl, rfl, -⟩ := hf
                  refine WfOp.yes (by kernel_rfl) ?_
                  dsimp only
                  go_wp2
                  exact ⟨rfl, .int .i64 ((x[0].1.length : Nat)), by kernel_rfl, Below.refl _ _, rfl⟩
                refine wf_stepK [36] [fun _ => t36 = .bool false] (by kernel_rfl) (by kernel_rfl) (fun wf hb hf => ?_) (fun t42 => ?_)
                · obtain ⟨rfl, -⟩ := hf
                  refine WfOp.yes (by kernel_rfl) ?_
                  dsimp only
                  go_wp2
                  exact ⟨rfl, .slice (some ⟨bby, ooy, none⟩) y.length cy, by kernel_rfl, Below.refl _ _, rfl⟩
                refine wf_stepK [36, 42] [fun _ => t36 = .bool false, fun _ => t42 = .slice (some ⟨bby, ooy, none⟩) y.length cy] (by kernel_rfl) (by kernel_rfl) (fun wf hb hf => ?_) (fun t43 => ?_)
                · obtain ⟨rfl, rfl, -⟩ := hf
                  refine WfOp.yes (by kernel_rfl) ?_
                  dsimp only
                  go_wp2
                  exact ⟨rfl, .pointer (some ⟨bby, ooy, none⟩), by kernel_rfl, Below.refl _ _, rfl⟩
                refine wf_stepK [36, 43] [fun _ => t36 = .bool false, fun _ => t43 = .pointer (some ⟨bby, ooy, none⟩)] (by kernel_rfl) (by kernel_rfl) (fun wf hb hf => ?_) (fun t44 => ?_)
                · obtain ⟨rfl, rfl, -⟩ := hf
                  refine WfOp.yes (by kernel_rfl) ?_
                  dsimp only
                  go_wp2
                  exact ⟨rfl, .pointer (some ⟨bby, ooy, none⟩), by kernel_rfl, Below.refl _ _, rfl⟩
                refine wf_stepK [36, 44] [fun _ => t36 = .bool false, fun _ => t44 = .pointer (some ⟨bby, ooy, none⟩)] (by kernel_rfl) (by kernel_rfl) (fun wf hb hf => ?_) (fun t45 => ?_)
                · obtain ⟨rfl, rfl, -⟩ := hf
                  refine WfOp.yes (by kernel_rfl) ?_
                  dsimp only
                  have cz := (Below.cell (p := ⟨bby, ooy, none⟩) (btr (btr b2 b3) hb) hbly).trans hcy
                  go_wp2
                  exact ⟨rfl, .slice RRy y[0].1.length ssy, by kernel_rfl, Below.refl _ _, rfl⟩
                refine wf_stepK [36, 45] [fun _ => t36 = .bool false, fun _ => t45 = .slice RRy y[0].1.length ssy] (by kernel_rfl) (by kernel_rfl) (fun wf hb hf => ?_) (fun t46 => ?_)
                · obtain ⟨rfl, rfl, -⟩ := hf
                  refine WfOp.yes (by kernel_rfl) ?_
                  dsimp only
                  go_wp2
                  exact ⟨rfl, .int .i64 ((y[0].1.length : Nat)), by kernel_rfl, Below.refl _ _, rfl⟩
                refine wf_stepK [36, 41, 46] [fun _ => t36 = .bool false, fun _ => t41 = .int .i64 ((x[0].1.length : Nat)), fun _ => t46 = .int .i64 ((y[0].1.length : Nat))] (by kernel_rfl) (by kernel_rfl) (fun wf hb hf => ?_) (fun t47 => ?_)
                · obtain ⟨rfl, rfl, rfl, -⟩ := hf
                  refine WfOp.yes (by kernel_rfl) ?_
                  dsimp only
                  go_wp2
                  exact ⟨rfl, .bool false, by kernel_rfl, Below.refl _ _, rfl⟩
                refine wf_stepK [36, 47] [fun _ => t36 = .bool false, fun _ => t47 = .bool false] (by kernel_rfl) (by kernel_rfl) (fun wf hb hf => ?_) (fun t48 => ?_)
                · obtain ⟨rfl, rfl, -⟩ := hf
                  refine ⟨?_⟩
                  go_wp2
                  exact ⟨rfl, .bool false, by kernel_rfl, Below.refl _ _, rfl⟩
                refine wf_stepK [48] [fun _ => t48 = .bool false] (by kernel_rfl) (by kernel_rfl) (fun wf hb hf => ?_) (fun t49 => ?_)
                · obtain ⟨rfl, -⟩ := hf
                  refine ⟨?_⟩
                  go_wp2
                  exact ⟨rfl, .bool false, by kernel_rfl, Below.refl _ _, rfl⟩
                refine wf_stepK [49] [fun _ => t49 = .bool false] (by kernel_rfl) (by kernel_rfl) (fun wf hb hf => ?_) (fun t50 => ?_)
                · obtain ⟨rfl, -⟩ := hf
                  refine WfOp.yes (by kernel_rfl) ?_
                  dsimp only
                  go_wp2
                  exact ⟨rfl, .slice (some ⟨bbx, oox, none⟩) x.length cx, by kernel_rfl, Below.refl _ _, rfl⟩
                refine wf_stepK [49, 50] [fun _ => t49 = .bool false, fun _ => t50 = .slice (some ⟨bbx, oox, none⟩) x.length cx] (by kernel_rfl) (by kernel_rfl) (fun wf hb hf => ?_) (fun t51 => ?_)
                · obtain ⟨rfl, rfl, -⟩ := hf
                  refine WfOp.yes (by kernel_rfl) ?_
                  dsimp only
                  go_wp2
                  exact ⟨rfl, .pointer (some ⟨bbx, oox, none⟩), by kernel_rfl, Below.refl _ _, rfl⟩
                refine wf_stepK [49, 51] [fun _ => t49 = .bool false, fun _ => t51 = .pointer (some ⟨bbx, oox, none⟩)] (by kernel_rfl) (by kernel_rfl) (fun wf hb hf => ?_) (fun t52 => ?_)
                · obtain ⟨rfl, rfl, -⟩ := hf
                  refine WfOp.yes (by kernel_rfl) ?_
                  dsimp only
                  go_wp2
                  exact ⟨rfl, .pointer (some ⟨bbx, oox, none⟩), by kernel_rfl, Below.refl _ _, rfl⟩
                refine wf_stepK [49, 52] [fun _ => t49 = .bool false, fun _ => t52 = .pointer (some ⟨bbx, oox, none⟩)] (by kernel_rfl) (by kernel_rfl) (fun wf hb hf => ?_) (fun t53 => ?_)
                · obtain ⟨rfl, rfl, -⟩ := hf
                  refine WfOp.yes (by kernel_rfl) ?_
                  dsimp only
                  have cz := (Below.cell (p := ⟨bbx, oox, none⟩) (btr (btr b2 b3) hb) hblx).trans hcx
                  go_wp2
                  exact ⟨rfl, .slice RRx x[0].1.length ssx, by kernel_rfl, Below.refl _ _, rfl⟩
                refine wf_stepK [49, 53] [fun _ => t49 = .bool false, fun _ => t53 = .slice RRx x[0].1.length ssx] (by kernel_rfl) (by kernel_rfl) (fun wf hb hf => ?_) (fun t54 => ?_)
                · obtain ⟨rfl, rfl, -⟩ := hf
                  refine WfOp.yes (by kernel_rfl) ?_
                  dsimp only
                  go_wp2
                  exact ⟨rfl, .int .i64 ((x[0].1.length : Nat)), by kernel_rfl, Below.refl _ _, rfl⟩
                refine wf_stepK [49] [fun _ => t49 = .bool false] (by kernel_rfl) (by kernel_rfl) (fun wf hb hf => ?_) (fun t55 => ?_)
                · obtain ⟨rfl, -⟩ := hf
                  refine WfOp.yes (by kernel_rfl) ?_
                  dsimp only
                  go_wp2
                  exact ⟨rfl, .slice (some ⟨bbv, oov, none⟩) v.length cv, by kernel_rfl, Below.refl _ _, rfl⟩
                refine wf_stepK [49, 55] [fun _ => t49 = .bool false, fun _ => t55 = .slice (some ⟨bbv, oov, none⟩) v.length cv] (by kernel_rfl) (by kernel_rfl) (fun wf hb hf => ?_) (fun t56 => ?_)
                · obtain ⟨rfl, rfl, -⟩ := hf
                  refine WfOp.yes (by kernel_rfl) ?_
                  dsimp only
                  go_wp2
                  exact ⟨rfl, .pointer (some ⟨bbv, oov, none⟩), by kernel_rfl, Below.refl _ _, rfl⟩
                refine wf_stepK [49, 56] [fun _ => t49 = .bool false, fun _ => t56 = .pointer (some ⟨bbv, oov, none⟩)] (by kernel_rfl) (by kernel_rfl) (fun wf hb hf => ?_) (fun t57 => ?_)
                · obtain ⟨rfl, rfl, -⟩ := hf
                  refine WfOp.yes (by kernel_rfl) ?_
                  dsimp only
                  go_wp2
                  exact ⟨rfl, .pointer (some ⟨bbv, oov, none⟩), by kernel_rfl, Below.refl _ _, rfl⟩
                refine wf_stepK [49, 57] [fun _ => t49 = .bool false, fun _ => t57 = .pointer (some ⟨bbv, oov, none⟩)] (by kernel_rfl) (by kernel_rfl) (fun wf hb hf => ?_) (fun t58 => ?_)
                · obtain ⟨rfl, rfl, -⟩ := hf
                  refine WfOp.yes (by kernel_rfl) ?_
                  dsimp only
                  have cz := (Below.cell (p := ⟨bbv, oov, none⟩) hb hblv).trans hcv
                  go_wp2
                  exact ⟨rfl, .slice RRv v[0].1.length ssv, by kernel_rfl, Below.refl _ _, rfl⟩
                refine wf_stepK [49, 58] [fun _ => t49 = .bool false, fun _ => t58 = .slice RRv v[0].1.length ssv] (by kernel_rfl) (by kernel_rfl) (fun wf hb hf => ?_) (fun t59 => ?_)
                · obtain ⟨rfl, rfl, -⟩ := hf
                  refine WfOp.yes (by kernel_rfl) ?_
                  dsimp only
                  go_wp2
                  exact ⟨rfl, .int .i64 ((v[0].1.length : Nat)), by kernel_rfl, Below.refl _ _, rfl⟩
                refine wf_stepK [49, 54, 59] [fun _ => t49 = .bool false, fun _ => t54 = .int .i64 ((x[0].1.length : Nat)), fun _ => t59 = .int .i64 ((v[0].1.length : Nat))] (by kernel_rfl) (by kernel_rfl) (fun wf hb hf => ?_) (fun t60 => ?_)
                · obtain ⟨rfl, rfl, rfl, -⟩ := hf
                  refine WfOp.yes (by kernel_rfl) ?_
                  dsimp only
                  go_wp2
                  exact ⟨rfl, .bool true, by kernel_rfl, Below.refl _ _, rfl⟩
                refine wf_doneK [49, 60] [fun _ => t49 = .bool false, fun _ => t60 = .bool true] (by kernel_rfl) (by kernel_rfl) (fun w4 b4 hf => ?_)
                obtain ⟨rfl, rfl, -⟩ := hf
                show wpList _ _ _ [_] _ _
                refine wpList_frame (by simp [Act.put]; rfl) ?_
                have B4 := btr B3 b4
                go_wp2_with fail
                refine (Add_s _ _ (x) _ _ (y) _ ((SlOw.at_ entO hx.1).below entR (btr (btr b2 b3) b4)) ((SlOw.at_ entO hy.1).below entR (btr (btr b2 b3) b4)) nx rx ny ry).mono ?_
                rintro e w5 ⟨A5, c5, rfl, o5, b5⟩
                have B5 := btr B4 b5
                have a5 : EntsAt w5 A5 (AddF (x) (y)) := SlOw.at_ entO o5
                go_wp2_with fail
                refine (equalZ (xs := AddF (x) (y)) (ys := AddF (x) (y)) true (decide_eq_true rfl) (a2.below entR (btr (btr b3 b4) b5)) a5 (Nat.le_trans (AddF_len' _ _) (by decide)) (Nat.le_trans (AddF_len' _ _) (by decide)) (rows_big (AddF_row' _ _) (by decide)) (rows_big (AddF_row' _ _) (by decide))).mono ?_
                rintro e w6 ⟨rfl, b6⟩
                have B6 := btr B5 b6
                go_wp2_with fail
                go_ret
                exact ⟨rfl, B6⟩

namespace lawFnAddAssociative
theorem own : ownKnob Try.prog.godebug = none := by kernel_rfl
theorem laidOut : laidOutB Try.prog = true := clo_laid
set_option maxRecDepth 100000 in
theorem lifted (os : Os) (started : os.Started) (H : Type) (enc : TypeId × Value → H) :
    ReturnsInHanded {} Try.checked os 7 .any (Rows.fnAddAssociativeSpec.pre6 enc Try.prog Try.f7 Rows.fnAddAssociativeRow.domain false) (Rows.fnAddAssociativeSpec.post enc Try.prog Try.f7 false true false false) := by
  refine returnsInHanded_of_change (C := Try.checked) own started (by kernel_rfl) Try.func7
    (ChangeSpec.witness6 (enc := enc) (C := Try.checked) false ⟨#[], #[.slice none 0 0, .slice none 0 0], []⟩ 8 (by kernel_rfl) (by kernel_rfl) (by kernel_rfl) (by kernel_rfl)) ?_
  intro W base args ds gs before hval0 hW hcnd _
  have hval : ∀ (j : Nat) t v, Try.f7.params[j]? = some t → args[j]? = some v → Value.okWide Try.prog W .any base t v := hval0
  have hW' := hW
  obtain ⟨p, q, hA0, hV, rfl, hfz, hnd⟩ := hW
  have hA : DataW.TrodAll enc Try.prog W 0 (fun _ => true) true Try.f7.params.toList args.toList ds p := hA0
  rw [Try.params7] at hA hval
  obtain ⟨v0, vs0, d0, ds0, p0, q0, hargs, rfl, rfl, h0, r0⟩ := trodAll_cons hA
  obtain ⟨v1, vs1, d1, ds1, p1, q1, rfl, rfl, rfl, h1, r1⟩ := trodAll_cons r0
  obtain ⟨rfl, rfl, rfl⟩ := trodAll_nil r1
  obtain rfl : args = #[v0, v1] := by cases args; simp_all
  obtain ⟨rfl, rfl⟩ := trodVars_none hV
  have k0 := h0
  have lt0 : ∀ x ∈ p0, x.block < W.heap.size := by obtain ⟨m, hm⟩ := k0; exact DataW.trod_lt m _ _ _ hm
  obtain ⟨a0, len0, cap0, rfl⟩ := okWide_slice Try.underlying22 (hval 0 22 v0 rfl rfl)
  obtain ⟨l0, m0, w0⟩ := bytes_of Try.underlying22 Try.underlying5 (by kernel_rfl) h0
  have k1 := h1
  have lt1 : ∀ x ∈ p1, x.block < W.heap.size := by obtain ⟨m, hm⟩ := k1; exact DataW.trod_lt m _ _ _ hm
  obtain ⟨a1, len1, cap1, rfl⟩ := okWide_slice Try.underlying22 (hval 1 22 v1 rfl rfl)
  obtain ⟨l1, m1, w1⟩ := bytes_of Try.underlying22 Try.underlying5 (by kernel_rfl) h1
  clear hA0 hval0
  refine (FnAddAssociative_walk a0 len0 cap0 a1 len1 cap1 W l0 m0 w0 l1 m1 w1).mono fun e W' ⟨he, bel⟩ => ?_
  subst he
  exact ⟨_, rfl, _, _, _, [], _, [], hW', trodAll_mk1 (shut_bool Try.underlying4 _), (trodAll_cons_mk (Below.trod laidOut (by kernel_rfl) (of_decide_eq_true (by kernel_rfl)) k0 bel lt0) (trodAll_cons_mk (Below.trod laidOut (by kernel_rfl) (of_decide_eq_true (by kernel_rfl)) k1 bel lt1) trodAll_mk0)), rfl, bel.frame _, fun h => by cases h⟩
theorem andTT {a b : Bool} (h1 : a = true) (h2 : b = true) : (a && b) = true := by rw [h1, h2]; rfl
set_option maxHeartbeats 8000000 in
theorem closed : joinedFacts Try.prog 7 Try.f7 Rows.fnAddAssociativeSpec Rows.fnAddAssociativeRow = true := by
  unfold joinedFacts
  repeat' (with_reducible refine andTT ?_ ?_)
  all_goals (first | (with_reducible exact clo_laid) | (with_reducible exact clo_maps) | (with_reducible exact clo_heard) | (with_reducible exact clo_enter) | ((with_reducible refine clo_plain _ ?_); rfl) | ((with_reducible refine clo_lifts _ ?_); rfl) | (as_aux_lemma => kernel_rfl))

theorem over : Rows.fnAddAssociativeRow.holds Try.pinned (OpenSpec.ofChange Rows.fnAddAssociativeSpec) :=
  OpenClaim.holds_of_wide 7 Try.f7 rfl rfl rfl rfl rfl rfl rfl ⟨rfl, rfl, rfl, rfl, rfl⟩ rfl rfl rfl rfl rfl (by kernel_rfl) Try.func7 closed
    (of_decide_eq_true (by kernel_rfl)) (by unfold Func.isWrapper; first | (rw [if_pos (by decide +kernel)]; kernel_rfl) | (rw [if_neg (by decide +kernel)]; exact ⟨rfl, rfl⟩))
    (fun os started H enc _ => lifted os started H enc)

/-- THE STATEMENT. -/
theorem proved : Rows.FnAddAssociativeSaid := over
end lawFnAddAssociative
end Go.Proofs.Ytjlpkfcdkmcjnaa
