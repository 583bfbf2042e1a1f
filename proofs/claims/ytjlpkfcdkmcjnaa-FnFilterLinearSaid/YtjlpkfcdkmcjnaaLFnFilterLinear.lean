/- The law FnFilterLinear returns true at every two codes; no condition. -/
import Derived.Test.YtjlpkfcdkmcjnaaDrawP
import Derived.Test.YtjlpkfcdkmcjnaaGrd
import Derived.Test.YtjlpkfcdkmcjnaaEntO
import Derived.Test.YtjlpkfcdkmcjnaaClo
import Derived.Carry
import Derived.ChangeOld
import Derived.Lib.SmallJoins
import Derived.Lib.QuietBelow
namespace Go.Proofs.Ytjlpkfcdkmcjnaa
open Go.ChangeShapes Go.WideShapes Go.ChangeAt Go.RowKit Go.Sort
set_option linter.unusedVariables false
set_option linter.unusedSimpArgs false

theorem absCF {P : Program} {f : FuncId} {args : Array Value} {w : World} {Q : Ending → World → Prop} (R : World → Prop) (h : R w) (k : ∀ W, R W → Calls P f args W Q) : Calls P f args w Q := k w h

set_option maxRecDepth 100000 in
set_option maxHeartbeats 6400000 in
theorem FnFilterLinear_walk (A : Option Addr) (n c : Nat) (AA : Option Addr) (nn cc : Nat) (w : World) (hc : n ≤ c) (hl : n ≤ maxLen) (hb : BytesAt w w.heap.size A n) (hcc : nn ≤ cc) (hll : nn ≤ maxLen) (hbb : BytesAt w w.heap.size AA nn) :
    Calls Try.prog 4 #[.slice A n c, .slice AA nn cc] w fun e w' => e = .returned (.bool true) ∧ Below w.heap.size w w' := by
  unfold maxLen at hl hll
  by_cases hbign : 1048576 < n
  · have hb' : (1048576 : Int) < n := by omega
    go_enter Try.func4, Try.ntmps4
    go_wp2
    go_ret
    exact ⟨rfl, Below.refl _ _⟩
  have hbn' : (n : Int) ≤ 1048576 := by omega
  by_cases hbignn : 1048576 < nn
  · have hb' : (1048576 : Int) < nn := by omega
    go_enter Try.func4, Try.ntmps4
    go_wp2
    go_ret
    exact ⟨rfl, Below.refl _ _⟩
  have hbnn' : (nn : Int) ≤ 1048576 := by omega
  have HB := Lib.hid hb
  clear hb hbign
  have HBB := Lib.hid hbb
  clear hbb hbignn
  go_enter Try.func4, Try.ntmps4
  go_wp2_with fail
  refine (DrawFilter_r _ _ _ _ HB.out hc (by omega)).mono ?_
  rintro e w1 ⟨x, Ax, cx, pc, pk, pv, rfl, hx, B1⟩
  have nx : x.length ≤ 4194304 := by have := hx.2.1; omega
  have rx : rowsIn x 4194304 := rows_big hx.2.2.1 (by decide)
  go_wp2_with fail
  refine absCF (fun W => Below w1.heap.size w1 W ∧ Blk W w1.heap.size 25 #[.int .i64 pc, .int .i64 pk, .int .i64 pv]) ⟨bal (Below.refl _ _) _, Blk.newAt rfl⟩ ?_
  rintro w2 ⟨b2, hk⟩
  have B2 := btr B1 b2
  refine (Filter_i _ _ (x) pc pk pv _ ((SlOw.at_ entO hx.1).below entR b2) nx rx).mono ?_
  rintro e w3 ⟨A3, c3, rfl, o3, b3⟩
  have B3 := btr B2 b3
  have a3 : EntsAt w3 A3 (FilF (x) pc pk pv) := SlOw.at_ entO o3
  have hbb3 : BytesAt w3 w3.heap.size AA nn := fun hp => by
    obtain ⟨b, off, e, h1, h2⟩ := (HBB.out.below B3 (Nat.le_refl _)) hp
    exact ⟨b, off, e, by have := B3.size; omega, h2⟩
  go_wp2_with fail
  refine (DrawNegate_r _ _ _ _ hbb3 hcc (by omega)).mono ?_
  rintro e w4 ⟨v, Av, cv, rfl, hv, b4⟩
  have B4 := btr B3 b4
  have nv : v.length ≤ 4194304 := by have := hv.2.1; omega
  have rv : rowsIn v 4194304 := rows_big hv.2.2.1 (by decide)
  cases hSx : smB x
  · have HSx := Lib.hid hSx
    clear hSx
    go_wp2_with fail
    refine wp_region_facts [[], [], [], [1, 2], List.range 4, List.range 5, List.range 6, List.range 7, List.range 8, List.range 9, List.range 10, List.range 11, List.range 12, List.range 13, List.range 14, List.range 15, List.range 16, List.range 17, List.range 18, List.range 19, List.range 20, List.range 21, List.range 22, List.range 23, List.range 24, List.range 25, List.range 26, List.range 27, List.range 28, List.range 29, List.range 30, List.range 31, List.range 27, [0, 1, 2, 3, 4, 5, 6, 7, 8, 9, 10, 11, 12, 13, 14, 15, 16, 17, 18, 19, 20, 21, 22, 23, 24, 25, 26, 32], [0, 1, 2, 3, 4, 5, 6, 7, 8, 9, 10, 11, 12, 13, 14, 15, 16, 17, 18, 19, 20, 21, 22, 23, 24, 25, 26, 32, 33], [0, 1, 2, 3, 4, 5, 6, 7, 8, 9, 10, 11, 12, 13, 14, 15, 16, 17, 18, 19, 20, 21, 22, 23, 24, 25, 26, 32, 33, 34], [0, 1, 2, 3, 4, 5, 6, 7, 8, 9, 10, 11, 12, 13, 14, 15, 16, 17, 18, 19, 20, 21, 22, 23, 24, 25, 26, 32, 33, 34, 35], List.range 37]
      [fun v' _ => v' = .slice A3 (FilF (x) pc pk pv).length c3, fun v' _ => v' = .slice Ax x.length cx, fun v' _ => v' = .agg #[.int .i64 pc, .int .i64 pk, .int .i64 pv], ZVr (FilF (x) pc pk pv), fun v' _ => v' = .bool true, fun v' _ => v' = .bool false, fun v' _ => v' = .bool false, fun v' _ => v' = .slice Ax x.length cx, fun v' _ => v' = .bool false, fun v' _ => v' = .bool true, fun v' _ => v' = .bool true, fun v' _ => v' = .bool true, fun v' _ => v' = undef, fun v' _ => v' = undef, fun v' _ => v' = undef, fun v' _ => v' = .bool true, fun v' _ => v' = .bool true, fun v' _ => v' = undef, fun v' _ => v' = undef, fun v' _ => v' = undef, fun v' _ => v' = .bool true, fun v' _ => v' = .bool true, fun v' _ => v' = undef, fun v' _ => v' = undef, fun v' _ => v' = undef, fun v' _ => v' = .bool true, fun v' _ => v' = .bool true, fun v' _ => v' = undef, fun v' _ => v' = undef, fun v' _ => v' = undef, fun v' _ => v' = undef, fun v' _ => v' = undef, fun v' _ => v' = undef, fun v' _ => v' = undef, fun v' _ => v' = undef, fun v' _ => v' = undef, fun v' _ => v' = undef, fun v' _ => v' = undef]
      (by kernel_rfl) (by kernel_rfl) rfl ⟨stable_pure _, stable_pure _, stable_pure _, stable_zVr _, stable_pure _, stable_pure _, stable_pure _, stable_pure _, stable_pure _, stable_pure _, stable_pure _, stable_pure _, stable_pure _, stable_pure _, stable_pure _, stable_pure _, stable_pure _, stable_pure _, stable_pure _, stable_pure _, stable_pure _, stable_pure _, stable_pure _, stable_pure _, stable_pure _, stable_pure _, stable_pure _, stable_pure _, stable_pure _, stable_pure _, stable_pure _, stable_pure _, stable_pure _, stable_pure _, stable_pure _, stable_pure _, stable_pure _, stable_pure _, trivial⟩ ?_
    refine wf_stepK [] [] (by kernel_rfl) (by kernel_rfl) (fun wf hb hf => ?_) (fun t0 => ?_)
    · refine ⟨?_⟩
      go_wp2
      exact ⟨rfl, .slice A3 (FilF (x) pc pk pv).length c3, by kernel_rfl, Below.refl _ _, rfl⟩
    refine wf_stepK [] [] (by kernel_rfl) (by kernel_rfl) (fun wf hb hf => ?_) (fun t1 => ?_)
    · refine ⟨?_⟩
      go_wp2
      exact ⟨rfl, .slice Ax x.length cx, by kernel_rfl, Below.refl _ _, rfl⟩
    refine wf_stepK [] [] (by kernel_rfl) (by kernel_rfl) (fun wf hb hf => ?_) (fun t2 => ?_)
    · refine ⟨?_⟩
      have pc0 := ((hk.below (btr b3 b4)).below hb).cell 0
      have pc1 := ((hk.below (btr b3 b4)).below hb).cell 1
      have pc2 := ((hk.below (btr b3 b4)).below hb).cell 2
      simp at pc0 pc1 pc2
      go_wp2
      exact ⟨rfl, .agg #[.int .i64 pc, .int .i64 pk, .int .i64 pv], by kernel_rfl, Below.refl _ _, rfl⟩
    refine wf_stepK [1, 2] [fun _ => t1 = .slice Ax x.length cx, fun _ => t2 = .agg #[.int .i64 pc, .int .i64 pk, .int .i64 pv]] (by kernel_rfl) (by kernel_rfl) (fun wf hb hf => ?_) (fun t3 => ?_)
    · obtain ⟨rfl, rfl, -⟩ := hf
      refine ⟨?_⟩
      go_wp2_with (go_at_call 16; refine (Filter_s _ _ (x) pc pk pv _ (((SlOw.at_ entO hx.1).below entR (btr (btr b2 b3) b4)).below entR hb) nx rx).mono ?_; rintro e w2 ⟨AN, cN, rfl, oN, hb2⟩)
      exact ⟨rfl, .slice AN (FilF (x) pc pk pv).length cN, by kernel_rfl, hb2, AN, cN, rfl, SlOw.at_ entO oN, EntsOw.cap oN⟩
    refine wf_stepK [0, 3] [fun _ => t0 = .slice A3 (FilF (x) pc pk pv).length c3, ZVr (FilF (x) pc pk pv) t3] (by kernel_rfl) (by kernel_rfl) (fun wf hb hf => ?_) (fun t4 => ?_)
    · obtain ⟨rfl, ⟨XS1, xs1, rfl, hS1⟩, -⟩ := hf
      refine ⟨?_⟩
      go_wp2_with (go_at_call 15; refine (equalZ (xs := FilF (x) pc pk pv) (ys := FilF (x) pc pk pv) true (decide_eq_true rfl) ((a3.below entR b4).below entR hb) hS1.1 (Nat.le_trans (FilF_len _ _ _ _) (by decide)) (Nat.le_trans (FilF_len _ _ _ _) (by decide)) (rows_big (FilF_row _ _ _ _) (by decide)) (rows_big (FilF_row _ _ _ _) (by decide))).mono ?_; rintro e w2 ⟨rfl, hb2⟩)
      exact ⟨rfl, .bool true, by kernel_rfl, hb2, rfl⟩
    refine wf_stepK [4] [fun _ => t4 = .bool true] (by kernel_rfl) (by kernel_rfl) (fun wf hb hf => ?_) (fun t5 => ?_)
    · obtain ⟨rfl, -⟩ := hf
      refine ⟨?_⟩
      go_wp2
      exact ⟨rfl, .bool false, by kernel_rfl, Below.refl _ _, rfl⟩
    refine wf_stepK [5] [fun _ => t5 = .bool false] (by kernel_rfl) (by kernel_rfl) (fun wf hb hf => ?_) (fun t6 => ?_)
    · obtain ⟨rfl, -⟩ := hf
      refine ⟨?_⟩
      go_wp2
      exact ⟨rfl, .bool false, by kernel_rfl, Below.refl _ _, rfl⟩
    refine wf_stepK [6] [fun _ => t6 = .bool false] (by kernel_rfl) (by kernel_rfl) (fun wf hb hf => ?_) (fun t7 => ?_)
    · obtain ⟨rfl, -⟩ := hf
      refine WfOp.yes (by kernel_rfl) ?_
      dsimp only
      go_wp2
      exact ⟨rfl, .slice Ax x.length cx, by kernel_rfl, Below.refl _ _, rfl⟩
    refine wf_stepK [6, 7] [fun _ => t6 = .bool false, fun _ => t7 = .slice Ax x.length cx] (by kernel_rfl) (by kernel_rfl) (fun wf hb hf => ?_) (fun t8 => ?_)
    · obtain ⟨rfl, rfl, -⟩ := hf
      refine WfOp.yes (by kernel_rfl) ?_
      dsimp only
      go_wp2_with (go_at_call 21; refine (smallZ false HSx.out (((SlOw.at_ entO hx.1).below entR (btr (btr b2 b3) b4)).below entR hb) nx rx).mono ?_; rintro e w2 ⟨rfl, hb2⟩)
      exact ⟨rfl, .bool false, by kernel_rfl, hb2, rfl⟩
    refine wf_stepK [6, 8] [fun _ => t6 = .bool false, fun _ => t8 = .bool false] (by kernel_rfl) (by kernel_rfl) (fun wf hb hf => ?_) (fun t9 => ?_)
    · obtain ⟨rfl, rfl, -⟩ := hf
      refine WfOp.yes (by kernel_rfl) ?_
      dsimp only
      go_wp2
      exact ⟨rfl, .bool true, by kernel_rfl, Below.refl _ _, rfl⟩
    refine wf_stepK [6, 9] [fun _ => t6 = .bool false, fun _ => t9 = .bool true] (by kernel_rfl) (by kernel_rfl) (fun wf hb hf => ?_) (fun t10 => ?_)
    · obtain ⟨rfl, rfl, -⟩ := hf
      refine ⟨?_⟩
      go_wp2
      exact ⟨rfl, .bool true, by kernel_rfl, Below.refl _ _, rfl⟩
    refine wf_stepK [10] [fun _ => t10 = .bool true] (by kernel_rfl) (by kernel_rfl) (fun wf hb hf => ?_) (fun t11 => ?_)
    · obtain ⟨rfl, -⟩ := hf
      refine ⟨?_⟩
      go_wp2
      exact ⟨rfl, .bool true, by kernel_rfl, Below.refl _ _, rfl⟩
    refine wf_stepK [11] [fun _ => t11 = .bool true] (by kernel_rfl) (by kernel_rfl) (fun wf hb hf => ?_) (fun t12 => ?_)
    · obtain ⟨rfl, -⟩ := hf
      exact WfOp.no (by kernel_rfl) rfl
    refine wf_stepK [11, 12] [fun _ => t11 = .bool true, fun _ => t12 = undef] (by kernel_rfl) (by kernel_rfl) (fun wf hb hf => ?_) (fun t13 => ?_)
    · obtain ⟨rfl, rfl, -⟩ := hf
      exact WfOp.no (by kernel_rfl) rfl
    refine wf_stepK [11, 13] [fun _ => t11 = .bool true, fun _ => t13 = undef] (by kernel_rfl) (by kernel_rfl) (fun wf hb hf => ?_) (fun t14 => ?_)
    · obtain ⟨rfl, rfl, -⟩ := hf
      exact WfOp.no (by kernel_rfl) rfl
    refine wf_stepK [11, 14] [fun _ => t11 = .bool true, fun _ => t14 = undef] (by kernel_rfl) (by kernel_rfl) (fun wf hb hf => ?_) (fun t15 => ?_)
    · obtain ⟨rfl, rfl, -⟩ := hf
      refine ⟨?_⟩
      go_wp2
      exact ⟨rfl, .bool true, by kernel_rfl, Below.refl _ _, rfl⟩
    refine wf_stepK [15] [fun _ => t15 = .bool true] (by kernel_rfl) (by kernel_rfl) (fun wf hb hf => ?_) (fun t16 => ?_)
    · obtain ⟨rfl, -⟩ := hf
      refine ⟨?_⟩
      go_wp2
      exact ⟨rfl, .bool true, by kernel_rfl, Below.refl _ _, rfl⟩
    refine wf_stepK [16] [fun _ => t16 = .bool true] (by kernel_rfl) (by kernel_rfl) (fun wf hb hf => ?_) (fun t17 => ?_)
    · obtain ⟨rfl, -⟩ := hf
      exact WfOp.no (by kernel_rfl) rfl
    refine wf_stepK [16, 17] [fun _ => t16 = .bool true, fun _ => t17 = undef] (by kernel_rfl) (by kernel_rfl) (fun wf hb hf => ?_) (fun t18 => ?_)
    · obtain ⟨rfl, rfl, -⟩ := hf
      exact WfOp.no (by kernel_rfl) rfl
    refine wf_stepK [16, 18] [fun _ => t16 = .bool true, fun _ => t18 = undef] (by kernel_rfl) (by kernel_rfl) (fun wf hb hf => ?_) (fun t19 => ?_)
    · obtain ⟨rfl, rfl, -⟩ := hf
      exact WfOp.no (by kernel_rfl) rfl
    refine wf_stepK [16, 19] [fun _ => t16 = .bool true, fun _ => t19 = undef] (by kernel_rfl) (by kernel_rfl) (fun wf hb hf => ?_) (fun t20 => ?_)
    · obtain ⟨rfl, rfl, -⟩ := hf
      refine ⟨?_⟩
      go_wp2
      exact ⟨rfl, .bool true, by kernel_rfl, Below.refl _ _, rfl⟩
    refine wf_stepK [20] [fun _ => t20 = .bool true] (by kernel_rfl) (by kernel_rfl) (fun wf hb hf => ?_) (fun t21 => ?_)
    · obtain ⟨rfl, -⟩ := hf
      refine ⟨?_⟩
      go_wp2
      exact ⟨rfl, .bool true, by kernel_rfl, Below.refl _ _, rfl⟩
    refine wf_stepK [21] [fun _ => t21 = .bool true] (by kernel_rfl) (by kernel_rfl) (fun wf hb hf => ?_) (fun t22 => ?_)
    · obtain ⟨rfl, -⟩ := hf
      exact WfOp.no (by kernel_rfl) rfl
    refine wf_stepK [21, 22] [fun _ => t21 = .bool true, fun _ => t22 = undef] (by kernel_rfl) (by kernel_rfl) (fun wf hb hf => ?_) (fun t23 => ?_)
    · obtain ⟨rfl, rfl, -⟩ := hf
      exact WfOp.no (by kernel_rfl) rfl
    refine wf_stepK [21, 23] [fun _ => t21 = .bool true, fun _ => t23 = undef] (by kernel_rfl) (by kernel_rfl) (fun wf hb hf => ?_) (fun t24 => ?_)
    · obtain ⟨rfl, rfl, -⟩ := hf
      exact WfOp.no (by kernel_rfl) rfl
    refine wf_stepK [21, 24] [fun _ => t21 = .bool true, fun _ => t24 = undef] (by kernel_rfl) (by kernel_rfl) (fun wf hb hf => ?_) (fun t25 => ?_)
    · obtain ⟨rfl, rfl, -⟩ := hf
      refine ⟨?_⟩
      go_wp2
      exact ⟨rfl, .bool true, by kernel_rfl, Below.refl _ _, rfl⟩
    refine wf_stepK [25] [fun _ => t25 = .bool true] (by kernel_rfl) (by kernel_rfl) (fun wf hb hf => ?_) (fun t26 => ?_)
    · obtain ⟨rfl, -⟩ := hf
      refine ⟨?_⟩
      go_wp2
      exact ⟨rfl, .bool true, by kernel_rfl, Below.refl _ _, rfl⟩
    refine wf_stepK [26] [fun _ => t26 = .bool true] (by kernel_rfl) (by kernel_rfl) (fun wf hb hf => ?_) (fun t27 => ?_)
    · obtain ⟨rfl, -⟩ := hf
      exact WfOp.no (by kernel_rfl) rfl
    refine wf_stepK [26, 27] [fun _ => t26 = .bool true, fun _ => t27 = undef] (by kernel_rfl) (by kernel_rfl) (fun wf hb hf => ?_) (fun t28 => ?_)
    · obtain ⟨rfl, rfl, -⟩ := hf
      exact WfOp.no (by kernel_rfl) rfl
    refine wf_stepK [26, 28] [fun _ => t26 = .bool true, fun _ => t28 = undef] (by kernel_rfl) (by kernel_rfl) (fun wf hb hf => ?_) (fun t29 => ?_)
    · obtain ⟨rfl, rfl, -⟩ := hf
      exact WfOp.no (by kernel_rfl) rfl
    refine wf_stepK [26, 29] [fun _ => t26 = .bool true, fun _ => t29 = undef] (by kernel_rfl) (by kernel_rfl) (fun wf hb hf => ?_) (fun t30 => ?_)
    · obtain ⟨rfl, rfl, -⟩ := hf
      exact WfOp.no (by kernel_rfl) rfl
    refine wf_stepK [26, 30] [fun _ => t26 = .bool true, fun _ => t30 = undef] (by kernel_rfl) (by kernel_rfl) (fun wf hb hf => ?_) (fun t31 => ?_)
    · obtain ⟨rfl, rfl, -⟩ := hf
      exact WfOp.no (by kernel_rfl) rfl
    refine wf_stepK [26] [fun _ => t26 = .bool true] (by kernel_rfl) (by kernel_rfl) (fun wf hb hf => ?_) (fun t32 => ?_)
    · obtain ⟨rfl, -⟩ := hf
      exact WfOp.no (by kernel_rfl) rfl
    refine wf_stepK [26, 32] [fun _ => t26 = .bool true, fun _ => t32 = undef] (by kernel_rfl) (by kernel_rfl) (fun wf hb hf => ?_) (fun t33 => ?_)
    · obtain ⟨rfl, rfl, -⟩ := hf
      exact WfOp.no (by kernel_rfl) rfl
    refine wf_stepK [26, 33] [fun _ => t26 = .bool true, fun _ => t33 = undef] (by kernel_rfl) (by kernel_rfl) (fun wf hb hf => ?_) (fun t34 => ?_)
    · obtain ⟨rfl, rfl, -⟩ := hf
      exact WfOp.no (by kernel_rfl) rfl
    refine wf_stepK [26, 34] [fun _ => t26 = .bool true, fun _ => t34 = undef] (by kernel_rfl) (by kernel_rfl) (fun wf hb hf => ?_) (fun t35 => ?_)
    · obtain ⟨rfl, rfl, -⟩ := hf
      exact WfOp.no (by kernel_rfl) rfl
    refine wf_stepK [26, 35] [fun _ => t26 = .bool true, fun _ => t35 = undef] (by kernel_rfl) (by kernel_rfl) (fun wf hb hf => ?_) (fun t36 => ?_)
    · obtain ⟨rfl, rfl, -⟩ := hf
      exact WfOp.no (by kernel_rfl) rfl
    refine wf_stepK [26, 31, 36] [fun _ => t26 = .bool true, fun _ => t31 = undef, fun _ => t36 = undef] (by kernel_rfl) (by kernel_rfl) (fun wf hb hf => ?_) (fun t37 => ?_)
    · obtain ⟨rfl, rfl, rfl, -⟩ := hf
      exact WfOp.no (by kernel_rfl) rfl
    refine wf_doneK [26, 37] [fun _ => t26 = .bool true, fun _ => t37 = undef] (by kernel_rfl) (by kernel_rfl) (fun w5 b5 hf => ?_)
    obtain ⟨rfl, rfl, -⟩ := hf
    show wpList _ _ _ [_] _ _
    refine wpList_frame (by simp [Act.put]; rfl) ?_
    have B5 := btr B4 b5
    have pc0 := (hk.below (btr (btr b3 b4) b5)).cell 0
    have pc1 := (hk.below (btr (btr b3 b4) b5)).cell 1
    have pc2 := (hk.below (btr (btr b3 b4) b5)).cell 2
    simp at pc0 pc1 pc2
    go_wp2_with fail
    refine (Filter_s _ _ (x) pc pk pv _ ((SlOw.at_ entO hx.1).below entR (btr (btr (btr b2 b3) b4) b5)) nx rx).mono ?_
    rintro e w6 ⟨A6, c6, rfl, o6, b6⟩
    have B6 := btr B5 b6
    have a6 : EntsAt w6 A6 (FilF (x) pc pk pv) := SlOw.at_ entO o6
    clear pc0 pc1 pc2
    go_wp2_with fail
    refine (equalZ (xs := FilF (x) pc pk pv) (ys := FilF (x) pc pk pv) true (decide_eq_true rfl) (a3.below entR (btr (btr b4 b5) b6)) a6 (Nat.le_trans (FilF_len _ _ _ _) (by decide)) (Nat.le_trans (FilF_len _ _ _ _) (by decide)) (rows_big (FilF_row _ _ _ _) (by decide)) (rows_big (FilF_row _ _ _ _) (by decide))).mono ?_
    rintro e w7 ⟨rfl, b7⟩
    have B7 := btr B6 b7
    go_wp2_with fail
    go_ret
    exact ⟨rfl, B7⟩
  · have Sx := smB_Sm hSx
    have HSx := Lib.hid hSx
    clear hSx
    cases hSv : smB v
    · have HSv := Lib.hid hSv
      clear hSv
      go_wp2_with fail
      refine wp_region_facts [[], [], [], [1, 2], List.range 4, List.range 5, List.range 6, List.range 7, List.range 8, List.range 9, List.range 10, List.range 11, List.range 12, List.range 13, List.range 14, List.range 15, List.range 16, List.range 17, List.range 18, List.range 19, List.range 20, List.range 21, List.range 22, List.range 23, List.range 24, List.range 25, List.range 26, List.range 27, List.range 28, List.range 29, List.range 30, List.range 31, List.range 27, [0, 1, 2, 3, 4, 5, 6, 7, 8, 9, 10, 11, 12, 13, 14, 15, 16, 17, 18, 19, 20, 21, 22, 23, 24, 25, 26, 32], [0, 1, 2, 3, 4, 5, 6, 7, 8, 9, 10, 11, 12, 13, 14, 15, 16, 17, 18, 19, 20, 21, 22, 23, 24, 25, 26, 32, 33], [0, 1, 2, 3, 4, 5, 6, 7, 8, 9, 10, 11, 12, 13, 14, 15, 16, 17, 18, 19, 20, 21, 22, 23, 24, 25, 26, 32, 33, 34], [0, 1, 2, 3, 4, 5, 6, 7, 8, 9, 10, 11, 12, 13, 14, 15, 16, 17, 18, 19, 20, 21, 22, 23, 24, 25, 26, 32, 33, 34, 35], List.range 37]
        [fun v' _ => v' = .slice A3 (FilF (x) pc pk pv).length c3, fun v' _ => v' = .slice Ax x.length cx, fun v' _ => v' = .agg #[.int .i64 pc, .int .i64 pk, .int .i64 pv], ZVr (FilF (x) pc pk pv), fun v' _ => v' = .bool true, fun v' _ => v' = .bool false, fun v' _ => v' = .bool false, fun v' _ => v' = .slice Ax x.length cx, fun v' _ => v' = .bool true, fun v' _ => v' = .bool false, fun v' _ => v' = .bool false, fun v' _ => v' = .bool false, fun v' _ => v' = .slice Av v.length cv, fun v' _ => v' = .bool false, fun v' _ => v' = .bool true, fun v' _ => v' = .bool true, fun v' _ => v' = .bool true, fun v' _ => v' = undef, fun v' _ => v' = undef, fun v' _ => v' = undef, fun v' _ => v' = .bool true, fun v' _ => v' = .bool true, fun v' _ => v' = undef, fun v' _ => v' = undef, fun v' _ => v' = undef, fun v' _ => v' = .bool true, fun v' _ => v' = .bool true, fun v' _ => v' = undef, fun v' _ => v' = undef, fun v' _ => v' = undef, fun v' _ => v' = undef, fun v' _ => v' = undef, fun v' _ => v' = undef, fun v' _ => v' = undef, fun v' _ => v' = undef, fun v' _ => v' = undef, fun v' _ => v' = undef, fun v' _ => v' = undef]
        (by kernel_rfl) (by kernel_rfl) rfl ⟨stable_pure _, stable_pure _, stable_pure _, stable_zVr _, stable_pure _, stable_pure _, stable_pure _, stable_pure _, stable_pure _, stable_pure _, stable_pure _, stable_pure _, stable_pure _, stable_pure _, stable_pure _, stable_pure _, stable_pure _, stable_pure _, stable_pure _, stable_pure _, stable_pure _, stable_pure _, stable_pure _, stable_pure _, stable_pure _, stable_pure _, stable_pure _, stable_pure _, stable_pure _, stable_pure _, stable_pure _, stable_pure _, stable_pure _, stable_pure _, stable_pure _, stable_pure _, stable_pure _, stable_pure _, trivial⟩ ?_
      refine wf_stepK [] [] (by kernel_rfl) (by kernel_rfl) (fun wf hb hf => ?_) (fun t0 => ?_)
      · refine ⟨?_⟩
        go_wp2
        exact ⟨rfl, .slice A3 (FilF (x) pc pk pv).length c3, by kernel_rfl, Below.refl _ _, rfl⟩
      refine wf_stepK [] [] (by kernel_rfl) (by kernel_rfl) (fun wf hb hf => ?_) (fun t1 => ?_)
      · refine ⟨?_⟩
        go_wp2
        exact ⟨rfl, .slice Ax x.length cx, by kernel_rfl, Below.refl _ _, rfl⟩
      refine wf_stepK [] [] (by kernel_rfl) (by kernel_rfl) (fun wf hb hf => ?_) (fun t2 => ?_)
      · refine ⟨?_⟩
        have pc0 := ((hk.below (btr b3 b4)).below hb).cell 0
        have pc1 := ((hk.below (btr b3 b4)).below hb).cell 1
        have pc2 := ((hk.below (btr b3 b4)).below hb).cell 2
        simp at pc0 pc1 pc2
        go_wp2
        exact ⟨rfl, .agg #[.int .i64 pc, .int .i64 pk, .int .i64 pv], by kernel_rfl, Below.refl _ _, rfl⟩
      refine wf_stepK [1, 2] [fun _ => t1 = .slice Ax x.length cx, fun _ => t2 = .agg #[.int .i64 pc, .int .i64 pk, .int .i64 pv]] (by kernel_rfl) (by kernel_rfl) (fun wf hb hf => ?_) (fun t3 => ?_)
      · obtain ⟨rfl, rfl, -⟩ := hf
        refine ⟨?_⟩
        go_wp2_with (go_at_call 16; refine (Filter_s _ _ (x) pc pk pv _ (((SlOw.at_ entO hx.1).below entR (btr (btr b2 b3) b4)).below entR hb) nx rx).mono ?_; rintro e w2 ⟨AN, cN, rfl, oN, hb2⟩)
        exact ⟨rfl, .slice AN (FilF (x) pc pk pv).length cN, by kernel_rfl, hb2, AN, cN, rfl, SlOw.at_ entO oN, EntsOw.cap oN⟩
      refine wf_stepK [0, 3] [fun _ => t0 = .slice A3 (FilF (x) pc pk pv).length c3, ZVr (FilF (x) pc pk pv) t3] (by kernel_rfl) (by kernel_rfl) (fun wf hb hf => ?_) (fun t4 => ?_)
      · obtain ⟨rfl, ⟨XS1, xs1, rfl, hS1⟩, -⟩ := hf
        refine ⟨?_⟩
        go_wp2_with (go_at_call 15; refine (equalZ (xs := FilF (x) pc pk pv) (ys := FilF (x) pc pk pv) true (decide_eq_true rfl) ((a3.below entR b4).below entR hb) hS1.1 (Nat.le_trans (FilF_len _ _ _ _) (by decide)) (Nat.le_trans (FilF_len _ _ _ _) (by decide)) (rows_big (FilF_row _ _ _ _) (by decide)) (rows_big (FilF_row _ _ _ _) (by decide))).mono ?_; rintro e w2 ⟨rfl, hb2⟩)
        exact ⟨rfl, .bool true, by kernel_rfl, hb2, rfl⟩
      refine wf_stepK [4] [fun _ => t4 = .bool true] (by kernel_rfl) (by kernel_rfl) (fun wf hb hf => ?_) (fun t5 => ?_)
      · obtain ⟨rfl, -⟩ := hf
        refine ⟨?_⟩
        go_wp2
        exact ⟨rfl, .bool false, by kernel_rfl, Below.refl _ _, rfl⟩
      refine wf_stepK [5] [fun _ => t5 = .bool false] (by kernel_rfl) (by kernel_rfl) (fun wf hb hf => ?_) (fun t6 => ?_)
      · obtain ⟨rfl, -⟩ := hf
        refine ⟨?_⟩
        go_wp2
        exact ⟨rfl, .bool false, by kernel_rfl, Below.refl _ _, rfl⟩
      refine wf_stepK [6] [fun _ => t6 = .bool false] (by kernel_rfl) (by kernel_rfl) (fun wf hb hf => ?_) (fun t7 => ?_)
      · obtain ⟨rfl, -⟩ := hf
        refine WfOp.yes (by kernel_rfl) ?_
        dsimp only
        go_wp2
        exact ⟨rfl, .slice Ax x.length cx, by kernel_rfl, Below.refl _ _, rfl⟩
      refine wf_stepK [6, 7] [fun _ => t6 = .bool false, fun _ => t7 = .slice Ax x.length cx] (by kernel_rfl) (by kernel_rfl) (fun wf hb hf => ?_) (fun t8 => ?_)
      · obtain ⟨rfl, rfl, -⟩ := hf
        refine WfOp.yes (by kernel_rfl) ?_
        dsimp only
        go_wp2_with (go_at_call 21; refine (smallZ true HSx.out (((SlOw.at_ entO hx.1).below entR (btr (btr b2 b3) b4)).below entR hb) nx rx).mono ?_; rintro e w2 ⟨rfl, hb2⟩)
        exact ⟨rfl, .bool true, by kernel_rfl, hb2, rfl⟩
      refine wf_stepK [6, 8] [fun _ => t6 = .bool false, fun _ => t8 = .bool true] (by kernel_rfl) (by kernel_rfl) (fun wf hb hf => ?_) (fun t9 => ?_)
      · obtain ⟨rfl, rfl, -⟩ := hf
        refine WfOp.yes (by kernel_rfl) ?_
        dsimp only
        go_wp2
        exact ⟨rfl, .bool false, by kernel_rfl, Below.refl _ _, rfl⟩
      refine wf_stepK [6, 9] [fun _ => t6 = .bool false, fun _ => t9 = .bool false] (by kernel_rfl) (by kernel_rfl) (fun wf hb hf => ?_) (fun t10 => ?_)
      · obtain ⟨rfl, rfl, -⟩ := hf
        refine ⟨?_⟩
        go_wp2
        exact ⟨rfl, .bool false, by kernel_rfl, Below.refl _ _, rfl⟩
      refine wf_stepK [10] [fun _ => t10 = .bool false] (by kernel_rfl) (by kernel_rfl) (fun wf hb hf => ?_) (fun t11 => ?_)
      · obtain ⟨rfl, -⟩ := hf
        refine ⟨?_⟩
        go_wp2
        exact ⟨rfl, .bool false, by kernel_rfl, Below.refl _ _, rfl⟩
      refine wf_stepK [11] [fun _ => t11 = .bool false] (by kernel_rfl) (by kernel_rfl) (fun wf hb hf => ?_) (fun t12 => ?_)
      · obtain ⟨rfl, -⟩ := hf
        refine WfOp.yes (by kernel_rfl) ?_
        dsimp only
        go_wp2
        exact ⟨rfl, .slice Av v.length cv, by kernel_rfl, Below.refl _ _, rfl⟩
      refine wf_stepK [11, 12] [fun _ => t11 = .bool false, fun _ => t12 = .slice Av v.length cv] (by kernel_rfl) (by kernel_rfl) (fun wf hb hf => ?_) (fun t13 => ?_)
      · obtain ⟨rfl, rfl, -⟩ := hf
        refine WfOp.yes (by kernel_rfl) ?_
        dsimp only
        go_wp2_with (go_at_call 21; refine (smallZ false HSv.out ((SlOw.at_ entO hv.1).below entR hb) nv rv).mono ?_; rintro e w2 ⟨rfl, hb2⟩)
        exact ⟨rfl, .bool false, by kernel_rfl, hb2, rfl⟩
      refine wf_stepK [11, 13] [fun _ => t11 = .bool false, fun _ => t13 = .bool false] (by kernel_rfl) (by kernel_rfl) (fun wf hb hf => ?_) (fun t14 => ?_)
      · obtain ⟨rfl, rfl, -⟩ := hf
        refine WfOp.yes (by kernel_rfl) ?_
        dsimp only
        go_wp2
        exact ⟨rfl, .bool true, by kernel_rfl, Below.refl _ _, rfl⟩
      refine wf_stepK [11, 14] [fun _ => t11 = .bool false, fun _ => t14 = .bool true] (by kernel_rfl) (by kernel_rfl) (fun wf hb hf => ?_) (fun t15 => ?_)
      · obtain ⟨rfl, rfl, -⟩ := hf
        refine ⟨?_⟩
        go_wp2
        exact ⟨rfl, .bool true, by kernel_rfl, Below.refl _ _, rfl⟩
      refine wf_stepK [15] [fun _ => t15 = .bool true] (by kernel_rfl) (by kernel_rfl) (fun wf hb hf => ?_) (fun t16 => ?_)
      · obtain ⟨rfl, -⟩ := hf
        refine ⟨?_⟩
        go_wp2
        exact ⟨rfl, .bool true, by kernel_rfl, Below.refl _ _, rfl⟩
      refine wf_stepK [16] [fun _ => t16 = .bool true] (by kernel_rfl) (by kernel_rfl) (fun wf hb hf => ?_) (fun t17 => ?_)
      · obtain ⟨rfl, -⟩ := hf
        exact WfOp.no (by kernel_rfl) rfl
      refine wf_stepK [16, 17] [fun _ => t16 = .bool true, fun _ => t17 = undef] (by kernel_rfl) (by kernel_rfl) (fun wf hb hf => ?_) (fun t18 => ?_)
      · obtain ⟨rfl, rfl, -⟩ := hf
        exact WfOp.no (by kernel_rfl) rfl
      refine wf_stepK [16, 18] [fun _ => t16 = .bool true, fun _ => t18 = undef] (by kernel_rfl) (by kernel_rfl) (fun wf hb hf => ?_) (fun t19 => ?_)
      · obtain ⟨rfl, rfl, -⟩ := hf
        exact WfOp.no (by kernel_rfl) rfl
      refine wf_stepK [16, 19] [fun _ => t16 = .bool true, fun _ => t19 = undef] (by kernel_rfl) (by kernel_rfl) (fun wf hb hf => ?_) (fun t20 => ?_)
      · obtain ⟨rfl, rfl, -⟩ := hf
        refine ⟨?_⟩
        go_wp2
        exact ⟨rfl, .bool true, by kernel_rfl, Below.refl _ _, rfl⟩
      refine wf_stepK [20] [fun _ => t20 = .bool true] (by kernel_rfl) (by kernel_rfl) (fun wf hb hf => ?_) (fun t21 => ?_)
      · obtain ⟨rfl, -⟩ := hf
        refine ⟨?_⟩
        go_wp2
        exact ⟨rfl, .bool true, by kernel_rfl, Below.refl _ _, rfl⟩
      refine wf_stepK [21] [fun _ => t21 = .bool true] (by kernel_rfl) (by kernel_rfl) (fun wf hb hf => ?_) (fun t22 => ?_)
      · obtain ⟨rfl, -⟩ := hf
        exact WfOp.no (by kernel_rfl) rfl
      refine wf_stepK [21, 22] [fun _ => t21 = .bool true, fun _ => t22 = undef] (by kernel_rfl) (by kernel_rfl) (fun wf hb hf => ?_) (fun t23 => ?_)
      · obtain ⟨rfl, rfl, -⟩ := hf
        exact WfOp.no (by kernel_rfl) rfl
      refine wf_stepK [21, 23] [fun _ => t21 = .bool true, fun _ => t23 = undef] (by kernel_rfl) (by kernel_rfl) (fun wf hb hf => ?_) (fun t24 => ?_)
      · obtain ⟨rfl, rfl, -⟩ := hf
        exact WfOp.no (by kernel_rfl) rfl
      refine wf_stepK [21, 24] [fun _ => t21 = .bool true, fun _ => t24 = undef] (by kernel_rfl) (by kernel_rfl) (fun wf hb hf => ?_) (fun t25 => ?_)
      · obtain ⟨rfl, rfl, -⟩ := hf
        refine ⟨?_⟩
        go_wp2
        exact ⟨rfl, .bool true, by kernel_rfl, Below.refl _ _, rfl⟩
      refine wf_stepK [25] [fun _ => t25 = .bool true] (by kernel_rfl) (by kernel_rfl) (fun wf hb hf => ?_) (fun t26 => ?_)
      · obtain ⟨rfl, -⟩ := hf
        refine ⟨?_⟩
        go_wp2
        exact ⟨rfl, .bool true, by kernel_rfl, Below.refl _ _, rfl⟩
      refine wf_stepK [26] [fun _ => t26 = .bool true] (by kernel_rfl) (by kernel_rfl) (fun wf hb hf => ?_) (fun t27 => ?_)
      · obtain ⟨rfl, -⟩ := hf
        exact WfOp.no (by kernel_rfl) rfl
      refine wf_stepK [26, 27] [fun _ => t26 = .bool true, fun _ => t27 = undef] (by kernel_rfl) (by kernel_rfl) (fun wf hb hf => ?_) (fun t28 => ?_)
      · obtain ⟨rfl, rfl, -⟩ := hf
        exact WfOp.no (by kernel_rfl) rfl
      refine wf_stepK [26, 28] [fun _ => t26 = .bool true, fun _ => t28 = undef] (by kernel_rfl) (by kernel_rfl) (fun wf hb hf => ?_) (fun t29 => ?_)
      · obtain ⟨rfl, rfl, -⟩ := hf
        exact WfOp.no (by kernel_rfl) rfl
      refine wf_stepK [26, 29] [fun _ => t26 = .bool true, fun _ => t29 = undef] (by kernel_rfl) (by kernel_rfl) (fun wf hb hf => ?_) (fun t30 => ?_)
      · obtain ⟨rfl, rfl, -⟩ := hf
        exact WfOp.no (by kernel_rfl) rfl
      refine wf_stepK [26, 30] [fun _ => t26 = .bool true, fun _ => t30 = undef] (by kernel_rfl) (by kernel_rfl) (fun wf hb hf => ?_) (fun t31 => ?_)
      · obtain ⟨rfl, rfl, -⟩ := hf
        exact WfOp.no (by kernel_rfl) rfl
      refine wf_stepK [26] [fun _ => t26 = .bool true] (by kernel_rfl) (by kernel_rfl) (fun wf hb hf => ?_) (fun t32 => ?_)
      · obtain ⟨rfl, -⟩ := hf
        exact WfOp.no (by kernel_rfl) rfl
      refine wf_stepK [26, 32] [fun _ => t26 = .bool true, fun _ => t32 = undef] (by kernel_rfl) (by kernel_rfl) (fun wf hb hf => ?_) (fun t33 => ?_)
      · obtain ⟨rfl, rfl, -⟩ := hf
        exact WfOp.no (by kernel_rfl) rfl
      refine wf_stepK [26, 33] [fun _ => t26 = .bool true, fun _ => t33 = undef] (by kernel_rfl) (by kernel_rfl) (fun wf hb hf => ?_) (fun t34 => ?_)
      · obtain ⟨rfl, rfl, -⟩ := hf
        exact WfOp.no (by kernel_rfl) rfl
      refine wf_stepK [26, 34] [fun _ => t26 = .bool true, fun _ => t34 = undef] (by kernel_rfl) (by kernel_rfl) (fun wf hb hf => ?_) (fun t35 => ?_)
      · obtain ⟨rfl, rfl, -⟩ := hf
        exact WfOp.no (by kernel_rfl) rfl
      refine wf_stepK [26, 35] [fun _ => t26 = .bool true, fun _ => t35 = undef] (by kernel_rfl) (by kernel_rfl) (fun wf hb hf => ?_) (fun t36 => ?_)
      · obtain ⟨rfl, rfl, -⟩ := hf
        exact WfOp.no (by kernel_rfl) rfl
      refine wf_stepK [26, 31, 36] [fun _ => t26 = .bool true, fun _ => t31 = undef, fun _ => t36 = undef] (by kernel_rfl) (by kernel_rfl) (fun wf hb hf => ?_) (fun t37 => ?_)
      · obtain ⟨rfl, rfl, rfl, -⟩ := hf
        exact WfOp.no (by kernel_rfl) rfl
      refine wf_doneK [26, 37] [fun _ => t26 = .bool true, fun _ => t37 = undef] (by kernel_rfl) (by kernel_rfl) (fun w5 b5 hf => ?_)
      obtain ⟨rfl, rfl, -⟩ := hf
      show wpList _ _ _ [_] _ _
      refine wpList_frame (by simp [Act.put]; rfl) ?_
      have B5 := btr B4 b5
      have pc0 := (hk.below (btr (btr b3 b4) b5)).cell 0
      have pc1 := (hk.below (btr (btr b3 b4) b5)).cell 1
      have pc2 := (hk.below (btr (btr b3 b4) b5)).cell 2
      simp at pc0 pc1 pc2
      go_wp2_with fail
      refine (Filter_s _ _ (x) pc pk pv _ ((SlOw.at_ entO hx.1).below entR (btr (btr (btr b2 b3) b4) b5)) nx rx).mono ?_
      rintro e w6 ⟨A6, c6, rfl, o6, b6⟩
      have B6 := btr B5 b6
      have a6 : EntsAt w6 A6 (FilF (x) pc pk pv) := SlOw.at_ entO o6
      clear pc0 pc1 pc2
      go_wp2_with fail
      refine (equalZ (xs := FilF (x) pc pk pv) (ys := FilF (x) pc pk pv) true (decide_eq_true rfl) (a3.below entR (btr (btr b4 b5) b6)) a6 (Nat.le_trans (FilF_len _ _ _ _) (by decide)) (Nat.le_trans (FilF_len _ _ _ _) (by decide)) (rows_big (FilF_row _ _ _ _) (by decide)) (rows_big (FilF_row _ _ _ _) (by decide))).mono ?_
      rintro e w7 ⟨rfl, b7⟩
      have B7 := btr B6 b7
      go_wp2_with fail
      go_ret
      exact ⟨rfl, B7⟩
    · have Sv := smB_Sm hSv
      have HSv := Lib.hid hSv
      clear hSv
      rcases Nat.eq_zero_or_pos x.length with h0x | hpx
      · have hzx : ((x.length : Int) == 0) = true := by rw [h0x]; rfl
        clear h0x
        go_wp2_with fail
        refine wp_region_facts [[], [], [], [1, 2], List.range 4, List.range 5, List.range 6, List.range 7, List.range 8, List.range 9, List.range 10, List.range 11, List.range 12, List.range 13, List.range 14, List.range 15, List.range 16, List.range 17, List.range 18, List.range 19, List.range 20, List.range 21, List.range 22, List.range 23, List.range 24, List.range 25, List.range 26, List.range 27, List.range 28, List.range 29, List.range 30, List.range 31, List.range 27, [0, 1, 2, 3, 4, 5, 6, 7, 8, 9, 10, 11, 12, 13, 14, 15, 16, 17, 18, 19, 20, 21, 22, 23, 24, 25, 26, 32], [0, 1, 2, 3, 4, 5, 6, 7, 8, 9, 10, 11, 12, 13, 14, 15, 16, 17, 18, 19, 20, 21, 22, 23, 24, 25, 26, 32, 33], [0, 1, 2, 3, 4, 5, 6, 7, 8, 9, 10, 11, 12, 13, 14, 15, 16, 17, 18, 19, 20, 21, 22, 23, 24, 25, 26, 32, 33, 34], [0, 1, 2, 3, 4, 5, 6, 7, 8, 9, 10, 11, 12, 13, 14, 15, 16, 17, 18, 19, 20, 21, 22, 23, 24, 25, 26, 32, 33, 34, 35], List.range 37]
          [fun v' _ => v' = .slice A3 (FilF (x) pc pk pv).length c3, fun v' _ => v' = .slice Ax x.length cx, fun v' _ => v' = .agg #[.int .i64 pc, .int .i64 pk, .int .i64 pv], ZVr (FilF (x) pc pk pv), fun v' _ => v' = .bool true, fun v' _ => v' = .bool false, fun v' _ => v' = .bool false, fun v' _ => v' = .slice Ax x.length cx, fun v' _ => v' = .bool true, fun v' _ => v' = .bool false, fun v' _ => v' = .bool false, fun v' _ => v' = .bool false, fun v' _ => v' = .slice Av v.length cv, fun v' _ => v' = .bool true, fun v' _ => v' = .bool false, fun v' _ => v' = .bool false, fun v' _ => v' = .bool false, fun v' _ => v' = .slice Ax x.length cx, fun v' _ => v' = .int .i64 ((x.length : Nat)), fun v' _ => v' = .bool true, fun v' _ => v' = .bool true, fun v' _ => v' = .bool true, fun v' _ => v' = undef, fun v' _ => v' = undef, fun v' _ => v' = undef, fun v' _ => v' = .bool true, fun v' _ => v' = .bool true, fun v' _ => v' = undef, fun v' _ => v' = undef, fun v' _ => v' = undef, fun v' _ => v' = undef, fun v' _ => v' = undef, fun v' _ => v' = undef, fun v' _ => v' = undef, fun v' _ => v' = undef, fun v' _ => v' = undef, fun v' _ => v' = undef, fun v' _ => v' = undef]
          (by kernel_rfl) (by kernel_rfl) rfl ⟨stable_pure _, stable_pure _, stable_pure _, stable_zVr _, stable_pure _, stable_pure _, stable_pure _, stable_pure _, stable_pure _, stable_pure _, stable_pure _, stable_pure _, stable_pure _, stable_pure _, stable_pure _, stable_pure _, stable_pure _, stable_pure _, stable_pure _, stable_pure _, stable_pure _, stable_pure _, stable_pure _, stable_pure _, stable_pure _, stable_pure _, stable_pure _, stable_pure _, stable_pure _, stable_pure _, stable_pure _, stable_pure _, stable_pure _, stable_pure _, stable_pure _, stable_pure _, stable_pure _, stable_pure _, trivial⟩ ?_
        refine wf_stepK [] [] (by kernel_rfl) (by kernel_rfl) (fun wf hb hf => ?_) (fun t0 => ?_)
        · refine ⟨?_⟩
          go_wp2
          exact ⟨rfl, .slice A3 (FilF (x) pc pk pv).length c3, by kernel_rfl, Below.refl _ _, rfl⟩
        refine wf_stepK [] [] (by kernel_rfl) (by kernel_rfl) (fun wf hb hf => ?_) (fun t1 => ?_)
        · refine ⟨?_⟩
          go_wp2
          exact ⟨rfl, .slice Ax x.length cx, by kernel_rfl, Below.refl _ _, rfl⟩
        refine wf_stepK [] [] (by kernel_rfl) (by kernel_rfl) (fun wf hb hf => ?_) (fun t2 => ?_)
        · refine ⟨?_⟩
          have pc0 := ((hk.below (btr b3 b4)).below hb).cell 0
          have pc1 := ((hk.below (btr b3 b4)).below hb).cell 1
          have pc2 := ((hk.below (btr b3 b4)).below hb).cell 2
          simp at pc0 pc1 pc2
          go_wp2
          exact ⟨rfl, .agg #[.int .i64 pc, .int .i64 pk, .int .i64 pv], by kernel_rfl, Below.refl _ _, rfl⟩
        refine wf_stepK [1, 2] [fun _ => t1 = .slice Ax x.length cx, fun _ => t2 = .agg #[.int .i64 pc, .int .i64 pk, .int .i64 pv]] (by kernel_rfl) (by kernel_rfl) (fun wf hb hf => ?_) (fun t3 => ?_)
        · obtain ⟨rfl, rfl, -⟩ := hf
          refine ⟨?_⟩
          go_wp2_with (go_at_call 16; refine (Filter_s _ _ (x) pc pk pv _ (((SlOw.at_ entO hx.1).below entR (btr (btr b2 b3) b4)).below entR hb) nx rx).mono ?_; rintro e w2 ⟨AN, cN, rfl, oN, hb2⟩)
          exact ⟨rfl, .slice AN (FilF (x) pc pk pv).length cN, by kernel_rfl, hb2, AN, cN, rfl, SlOw.at_ entO oN, EntsOw.cap oN⟩
        refine wf_stepK [0, 3] [fun _ => t0 = .slice A3 (FilF (x) pc pk pv).length c3, ZVr (FilF (x) pc pk pv) t3] (by kernel_rfl) (by kernel_rfl) (fun wf hb hf => ?_) (fun t4 => ?_)
        · obtain ⟨rfl, ⟨XS1, xs1, rfl, hS1⟩, -⟩ := hf
          refine ⟨?_⟩
          go_wp2_with (go_at_call 15; refine (equalZ (xs := FilF (x) pc pk pv) (ys := FilF (x) pc pk pv) true (decide_eq_true rfl) ((a3.below entR b4).below entR hb) hS1.1 (Nat.le_trans (FilF_len _ _ _ _) (by decide)) (Nat.le_trans (FilF_len _ _ _ _) (by decide)) (rows_big (FilF_row _ _ _ _) (by decide)) (rows_big (FilF_row _ _ _ _) (by decide))).mono ?_; rintro e w2 ⟨rfl, hb2⟩)
          exact ⟨rfl, .bool true, by kernel_rfl, hb2, rfl⟩
        refine wf_stepK [4] [fun _ => t4 = .bool true] (by kernel_rfl) (by kernel_rfl) (fun wf hb hf => ?_) (fun t5 => ?_)
        · obtain ⟨rfl, -⟩ := hf
          refine ⟨?_⟩
          go_wp2
          exact ⟨rfl, .bool false, by kernel_rfl, Below.refl _ _, rfl⟩
        refine wf_stepK [5] [fun _ => t5 = .bool false] (by kernel_rfl) (by kernel_rfl) (fun wf hb hf => ?_) (fun t6 => ?_)
        · obtain ⟨rfl, -⟩ := hf
          refine ⟨?_⟩
          go_wp2
          exact ⟨rfl, .bool false, by kernel_rfl, Below.refl _ _, rfl⟩
        refine wf_stepK [6] [fun _ => t6 = .bool false] (by kernel_rfl) (by kernel_rfl) (fun wf hb hf => ?_) (fun t7 => ?_)
        · obtain ⟨rfl, -⟩ := hf
          refine WfOp.yes (by kernel_rfl) ?_
          dsimp only
          go_wp2
          exact ⟨rfl, .slice Ax x.length cx, by kernel_rfl, Below.refl _ _, rfl⟩
        refine wf_stepK [6, 7] [fun _ => t6 = .bool false, fun _ => t7 = .slice Ax x.length cx] (by kernel_rfl) (by kernel_rfl) (fun wf hb hf => ?_) (fun t8 => ?_)
        · obtain ⟨rfl, rfl, -⟩ := hf
          refine WfOp.yes (by kernel_rfl) ?_
          dsimp only
          go_wp2_with (go_at_call 21; refine (smallZ true HSx.out (((SlOw.at_ entO hx.1).below entR (btr (btr b2 b3) b4)).below entR hb) nx rx).mono ?_; rintro e w2 ⟨rfl, hb2⟩)
          exact ⟨rfl, .bool true, by kernel_rfl, hb2, rfl⟩
        refine wf_stepK [6, 8] [fun _ => t6 = .bool false, fun _ => t8 = .bool true] (by kernel_rfl) (by kernel_rfl) (fun wf hb hf => ?_) (fun t9 => ?_)
        · obtain ⟨rfl, rfl, -⟩ := hf
          refine WfOp.yes (by kernel_rfl) ?_
          dsimp only
          go_wp2
          exact ⟨rfl, .bool false, by kernel_rfl, Below.refl _ _, rfl⟩
        refine wf_stepK [6, 9] [fun _ => t6 = .bool false, fun _ => t9 = .bool false] (by kernel_rfl) (by kernel_rfl) (fun wf hb hf => ?_) (fun t10 => ?_)
        · obtain ⟨rfl, rfl, -⟩ := hf
          refine ⟨?_⟩
          go_wp2
          exact ⟨rfl, .bool false, by kernel_rfl, Below.refl _ _, rfl⟩
        refine wf_stepK [10] [fun _ => t10 = .bool false] (by kernel_rfl) (by kernel_rfl) (fun wf hb hf => ?_) (fun t11 => ?_)
        · obtain ⟨rfl, -⟩ := hf
          refine ⟨?_⟩
          go_wp2
          exact ⟨rfl, .bool false, by kernel_rfl, Below.refl _ _, rfl⟩
        refine wf_stepK [11] [fun _ => t11 = .bool false] (by kernel_rfl) (by kernel_rfl) (fun wf hb hf => ?_) (fun t12 => ?_)
        · obtain ⟨rfl, -⟩ := hf
          refine WfOp.yes (by kernel_rfl) ?_
          dsimp only
          go_wp2
          exact ⟨rfl, .slice Av v.length cv, by kernel_rfl, Below.refl _ _, rfl⟩
        refine wf_stepK [11, 12] [fun _ => t11 = .bool false, fun _ => t12 = .slice Av v.length cv] (by kernel_rfl) (by kernel_rfl) (fun wf hb hf => ?_) (fun t13 => ?_)
        · obtain ⟨rfl, rfl, -⟩ := hf
          refine WfOp.yes (by kernel_rfl) ?_
          dsimp only
          go_wp2_with (go_at_call 21; refine (smallZ true HSv.out ((SlOw.at_ entO hv.1).below entR hb) nv rv).mono ?_; rintro e w2 ⟨rfl, hb2⟩)
          exact ⟨rfl, .bool true, by kernel_rfl, hb2, rfl⟩
        refine wf_stepK [11, 13] [fun _ => t11 = .bool false, fun _ => t13 = .bool true] (by kernel_rfl) (by kernel_rfl) (fun wf hb hf => ?_) (fun t14 => ?_)
        · obtain ⟨rfl, rfl, -⟩ := hf
          refine WfOp.yes (by kernel_rfl) ?_
          dsimp only
          go_wp2
          exact ⟨rfl, .bool false, by kernel_rfl, Below.refl _ _, rfl⟩
        refine wf_stepK [11, 14] [fun _ => t11 = .bool false, fun _ => t14 = .bool false] (by kernel_rfl) (by kernel_rfl) (fun wf hb hf => ?_) (fun t15 => ?_)
        · obtain ⟨rfl, rfl, -⟩ := hf
          refine ⟨?_⟩
          go_wp2
          exact ⟨rfl, .bool false, by kernel_rfl, Below.refl _ _, rfl⟩
        refine wf_stepK [15] [fun _ => t15 = .bool false] (by kernel_rfl) (by kernel_rfl) (fun wf hb hf => ?_) (fun t16 => ?_)
        · obtain ⟨rfl, -⟩ := hf
          refine ⟨?_⟩
          go_wp2
          exact ⟨rfl, .bool false, by kernel_rfl, Below.refl _ _, rfl⟩
        refine wf_stepK [16] [fun _ => t16 = .bool false] (by kernel_rfl) (by kernel_rfl) (fun wf hb hf => ?_) (fun t17 => ?_)
        · obtain ⟨rfl, -⟩ := hf
          refine WfOp.yes (by kernel_rfl) ?_
          dsimp only
          go_wp2
          exact ⟨rfl, .slice Ax x.length cx, by kernel_rfl, Below.refl _ _, rfl⟩
        refine wf_stepK [16, 17] [fun _ => t16 = .bool false, fun _ => t17 = .slice Ax x.length cx] (by kernel_rfl) (by kernel_rfl) (fun wf hb hf => ?_) (fun t18 => ?_)
        · obtain ⟨rfl, rfl, -⟩ := hf
          refine WfOp.yes (by kernel_rfl) ?_
          dsimp only
          go_wp2
          exact ⟨rfl, .int .i64 ((x.length : Nat)), by kernel_rfl, Below.refl _ _, rfl⟩
        refine wf_stepK [16, 18] [fun _ => t16 = .bool false, fun _ => t18 = .int .i64 ((x.length : Nat))] (by kernel_rfl) (by kernel_rfl) (fun wf hb hf => ?_) (fun t19 => ?_)
        · obtain ⟨rfl, rfl, -⟩ := hf
          refine WfOp.yes (by kernel_rfl) ?_
          dsimp only
          go_wp2
          exact ⟨rfl, .bool true, by kernel_rfl, Below.refl _ _, rfl⟩
        refine wf_stepK [16, 19] [fun _ => t16 = .bool false, fun _ => t19 = .bool true] (by kernel_rfl) (by kernel_rfl) (fun wf hb hf => ?_) (fun t20 => ?_)
        · obtain ⟨rfl, rfl, -⟩ := hf
          refine ⟨?_⟩
          go_wp2
          exact ⟨rfl, .bool true, by kernel_rfl, Below.refl _ _, rfl⟩
        refine wf_stepK [20] [fun _ => t20 = .bool true] (by kernel_rfl) (by kernel_rfl) (fun wf hb hf => ?_) (fun t21 => ?_)
        · obtain ⟨rfl, -⟩ := hf
          refine ⟨?_⟩
          go_wp2
          exact ⟨rfl, .bool true, by kernel_rfl, Below.refl _ _, rfl⟩
        refine wf_stepK [21] [fun _ => t21 = .bool true] (by kernel_rfl) (by kernel_rfl) (fun wf hb hf => ?_) (fun t22 => ?_)
        · obtain ⟨rfl, -⟩ := hf
          exact WfOp.no (by kernel_rfl) rfl
        refine wf_stepK [21, 22] [fun _ => t21 = .bool true, fun _ => t22 = undef] (by kernel_rfl) (by kernel_rfl) (fun wf hb hf => ?_) (fun t23 => ?_)
        · obtain ⟨rfl, rfl, -⟩ := hf
          exact WfOp.no (by kernel_rfl) rfl
        refine wf_stepK [21, 23] [fun _ => t21 = .bool true, fun _ => t23 = undef] (by kernel_rfl) (by kernel_rfl) (fun wf hb hf => ?_) (fun t24 => ?_)
        · obtain ⟨rfl, rfl, -⟩ := hf
          exact WfOp.no (by kernel_rfl) rfl
        refine wf_stepK [21, 24] [fun _ => t21 = .bool true, fun _ => t24 = undef] (by kernel_rfl) (by kernel_rfl) (fun wf hb hf => ?_) (fun t25 => ?_)
        · obtain ⟨rfl, rfl, -⟩ := hf
          refine ⟨?_⟩
          go_wp2
          exact ⟨rfl, .bool true, by kernel_rfl, Below.refl _ _, rfl⟩
        refine wf_stepK [25] [fun _ => t25 = .bool true] (by kernel_rfl) (by kernel_rfl) (fun wf hb hf => ?_) (fun t26 => ?_)
        · obtain ⟨rfl, -⟩ := hf
          refine ⟨?_⟩
          go_wp2
          exact ⟨rfl, .bool true, by kernel_rfl, Below.refl _ _, rfl⟩
        refine wf_stepK [26] [fun _ => t26 = .bool true] (by kernel_rfl) (by kernel_rfl) (fun wf hb hf => ?_) (fun t27 => ?_)
        · obtain ⟨rfl, -⟩ := hf
          exact WfOp.no (by kernel_rfl) rfl
        refine wf_stepK [26, 27] [fun _ => t26 = .bool true, fun _ => t27 = undef] (by kernel_rfl) (by kernel_rfl) (fun wf hb hf => ?_) (fun t28 => ?_)
        · obtain ⟨rfl, rfl, -⟩ := hf
          exact WfOp.no (by kernel_rfl) rfl
        refine wf_stepK [26, 28] [fun _ => t26 = .bool true, fun _ => t28 = undef] (by kernel_rfl) (by kernel_rfl) (fun wf hb hf => ?_) (fun t29 => ?_)
        · obtain ⟨rfl, rfl, -⟩ := hf
          exact WfOp.no (by kernel_rfl) rfl
        refine wf_stepK [26, 29] [fun _ => t26 = .bool true, fun _ => t29 = undef] (by kernel_rfl) (by kernel_rfl) (fun wf hb hf => ?_) (fun t30 => ?_)
        · obtain ⟨rfl, rfl, -⟩ := hf
          exact WfOp.no (by kernel_rfl) rfl
        refine wf_stepK [26, 30] [fun _ => t26 = .bool true, fun _ => t30 = undef] (by kernel_rfl) (by kernel_rfl) (fun wf hb hf => ?_) (fun t31 => ?_)
        · obtain ⟨rfl, rfl, -⟩ := hf
          exact WfOp.no (by kernel_rfl) rfl
        refine wf_stepK [26] [fun _ => t26 = .bool true] (by kernel_rfl) (by kernel_rfl) (fun wf hb hf => ?_) (fun t32 => ?_)
        · obtain ⟨rfl, -⟩ := hf
          exact WfOp.no (by kernel_rfl) rfl
        refine wf_stepK [26, 32] [fun _ => t26 = .bool true, fun _ => t32 = undef] (by kernel_rfl) (by kernel_rfl) (fun wf hb hf => ?_) (fun t33 => ?_)
        · obtain ⟨rfl, rfl, -⟩ := hf
          exact WfOp.no (by kernel_rfl) rfl
        refine wf_stepK [26, 33] [fun _ => t26 = .bool true, fun _ => t33 = undef] (by kernel_rfl) (by kernel_rfl) (fun wf hb hf => ?_) (fun t34 => ?_)
        · obtain ⟨rfl, rfl, -⟩ := hf
          exact WfOp.no (by kernel_rfl) rfl
        refine wf_stepK [26, 34] [fun _ => t26 = .bool true, fun _ => t34 = undef] (by kernel_rfl) (by kernel_rfl) (fun wf hb hf => ?_) (fun t35 => ?_)
        · obtain ⟨rfl, rfl, -⟩ := hf
          exact WfOp.no (by kernel_rfl) rfl
        refine wf_stepK [26, 35] [fun _ => t26 = .bool true, fun _ => t35 = undef] (by kernel_rfl) (by kernel_rfl) (fun wf hb hf => ?_) (fun t36 => ?_)
        · obtain ⟨rfl, rfl, -⟩ := hf
          exact WfOp.no (by kernel_rfl) rfl
        refine wf_stepK [26, 31, 36] [fun _ => t26 = .bool true, fun _ => t31 = undef, fun _ => t36 = undef] (by kernel_rfl) (by kernel_rfl) (fun wf hb hf => ?_) (fun t37 => ?_)
        · obtain ⟨rfl, rfl, rfl, -⟩ := hf
          exact WfOp.no (by kernel_rfl) rfl
        refine wf_doneK [26, 37] [fun _ => t26 = .bool true, fun _ => t37 = undef] (by kernel_rfl) (by kernel_rfl) (fun w5 b5 hf => ?_)
        obtain ⟨rfl, rfl, -⟩ := hf
        show wpList _ _ _ [_] _ _
        refine wpList_frame (by simp [Act.put]; rfl) ?_
        have B5 := btr B4 b5
        have pc0 := (hk.below (btr (btr b3 b4) b5)).cell 0
        have pc1 := (hk.below (btr (btr b3 b4) b5)).cell 1
        have pc2 := (hk.below (btr (btr b3 b4) b5)).cell 2
        simp at pc0 pc1 pc2
        go_wp2_with fail
        refine (Filter_s _ _ (x) pc pk pv _ ((SlOw.at_ entO hx.1).below entR (btr (btr (btr b2 b3) b4) b5)) nx rx).mono ?_
        rintro e w6 ⟨A6, c6, rfl, o6, b6⟩
        have B6 := btr B5 b6
        have a6 : EntsAt w6 A6 (FilF (x) pc pk pv) := SlOw.at_ entO o6
        clear pc0 pc1 pc2
        go_wp2_with fail
        refine (equalZ (xs := FilF (x) pc pk pv) (ys := FilF (x) pc pk pv) true (decide_eq_true rfl) (a3.below entR (btr (btr b4 b5) b6)) a6 (Nat.le_trans (FilF_len _ _ _ _) (by decide)) (Nat.le_trans (FilF_len _ _ _ _) (by decide)) (rows_big (FilF_row _ _ _ _) (by decide)) (rows_big (FilF_row _ _ _ _) (by decide))).mono ?_
        rintro e w7 ⟨rfl, b7⟩
        have B7 := btr B6 b7
        go_wp2_with fail
        go_ret
        exact ⟨rfl, B7⟩
      · have hzx : ((x.length : Int) == 0) = false := by rw [beq_eq_false_iff_ne]; omega
        have hqx : (0 : Int) < x.length := by omega
        rcases Nat.eq_zero_or_pos v.length with h0v | hpv
        · have hzv : ((v.length : Int) == 0) = true := by rw [h0v]; rfl
          clear h0v
          go_wp2_with fail
          refine wp_region_facts [[], [], [], [1, 2], List.range 4, List.range 5, List.range 6, List.range 7, List.range 8, List.range 9, List.range 10, List.range 11, List.range 12, List.range 13, List.range 14, List.range 15, List.range 16, List.range 17, List.range 18, List.range 19, List.range 20, List.range 21, List.range 22, List.range 23, List.range 24, List.range 25, List.range 26, List.range 27, List.range 28, List.range 29, List.range 30, List.range 31, List.range 27, [0, 1, 2, 3, 4, 5, 6, 7, 8, 9, 10, 11, 12, 13, 14, 15, 16, 17, 18, 19, 20, 21, 22, 23, 24, 25, 26, 32], [0, 1, 2, 3, 4, 5, 6, 7, 8, 9, 10, 11, 12, 13, 14, 15, 16, 17, 18, 19, 20, 21, 22, 23, 24, 25, 26, 32, 33], [0, 1, 2, 3, 4, 5, 6, 7, 8, 9, 10, 11, 12, 13, 14, 15, 16, 17, 18, 19, 20, 21, 22, 23, 24, 25, 26, 32, 33, 34], [0, 1, 2, 3, 4, 5, 6, 7, 8, 9, 10, 11, 12, 13, 14, 15, 16, 17, 18, 19, 20, 21, 22, 23, 24, 25, 26, 32, 33, 34, 35], List.range 37]
            [fun v' _ => v' = .slice A3 (FilF (x) pc pk pv).length c3, fun v' _ => v' = .slice Ax x.length cx, fun v' _ => v' = .agg #[.int .i64 pc, .int .i64 pk, .int .i64 pv], ZVr (FilF (x) pc pk pv), fun v' _ => v' = .bool true, fun v' _ => v' = .bool false, fun v' _ => v' = .bool false, fun v' _ => v' = .slice Ax x.length cx, fun v' _ => v' = .bool true, fun v' _ => v' = .bool false, fun v' _ => v' = .bool false, fun v' _ => v' = .bool false, fun v' _ => v' = .slice Av v.length cv, fun v' _ => v' = .bool true, fun v' _ => v' = .bool false, fun v' _ => v' = .bool false, fun v' _ => v' = .bool false, fun v' _ => v' = .slice Ax x.length cx, fun v' _ => v' = .int .i64 ((x.length : Nat)), fun v' _ => v' = .bool false, fun v' _ => v' = .bool false, fun v' _ => v' = .bool false, fun v' _ => v' = .slice Av v.length cv, fun v' _ => v' = .int .i64 ((v.length : Nat)), fun v' _ => v' = .bool true, fun v' _ => v' = .bool true, fun v' _ => v' = .bool true, fun v' _ => v' = undef, fun v' _ => v' = undef, fun v' _ => v' = undef, fun v' _ => v' = undef, fun v' _ => v' = undef, fun v' _ => v' = undef, fun v' _ => v' = undef, fun v' _ => v' = undef, fun v' _ => v' = undef, fun v' _ => v' = undef, fun v' _ => v' = undef]
            (by kernel_rfl) (by kernel_rfl) rfl ⟨stable_pure _, stable_pure _, stable_pure _, stable_zVr _, stable_pure _, stable_pure _, stable_pure _, stable_pure _, stable_pure _, stable_pure _, stable_pure _, stable_pure _, stable_pure _, stable_pure _, stable_pure _, stable_pure _, stable_pure _, stable_pure _, stable_pure _, stable_pure _, stable_pure _, stable_pure _, stable_pure _, stable_pure _, stable_pure _, stable_pure _, stable_pure _, stable_pure _, stable_pure _, stable_pure _, stable_pure _, stable_pure _, stable_pure _, stable_pure _, stable_pure _, stable_pure _, stable_pure _, stable_pure _, trivial⟩ ?_
          refine wf_stepK [] [] (by kernel_rfl) (by kernel_rfl) (fun wf hb hf => ?_) (fun t0 => ?_)
          · refine ⟨?_⟩
            go_wp2
            exact ⟨rfl, .slice A3 (FilF (x) pc pk pv).length c3, by kernel_rfl, Below.refl _ _, rfl⟩
          refine wf_stepK [] [] (by kernel_rfl) (by kernel_rfl) (fun wf hb hf => ?_) (fun t1 => ?_)
          · refine ⟨?_⟩
            go_wp2
            exact ⟨rfl, .slice Ax x.length cx, by kernel_rfl, Below.refl _ _, rfl⟩
          refine wf_stepK [] [] (by kernel_rfl) (by kernel_rfl) (fun wf hb hf => ?_) (fun t2 => ?_)
          · refine ⟨?_⟩
            have pc0 := ((hk.below (btr b3 b4)).below hb).cell 0
            have pc1 := ((hk.below (btr b3 b4)).below hb).cell 1
            have pc2 := ((hk.below (btr b3 b4)).below hb).cell 2
            simp at pc0 pc1 pc2
            go_wp2
            exact ⟨rfl, .agg #[.int .i64 pc, .int .i64 pk, .int .i64 pv], by kernel_rfl, Below.refl _ _, rfl⟩
          refine wf_stepK [1, 2] [fun _ => t1 = .slice Ax x.length cx, fun _ => t2 = .agg #[.int .i64 pc, .int .i64 pk, .int .i64 pv]] (by kernel_rfl) (by kernel_rfl) (fun wf hb hf => ?_) (fun t3 => ?_)
          · obtain ⟨rfl, rfl, -⟩ := hf
            refine ⟨?_⟩
            go_wp2_with (go_at_call 16; refine (Filter_s _ _ (x) pc pk pv _ (((SlOw.at_ entO hx.1).below entR (btr (btr b2 b3) b4)).below entR hb) nx rx).mono ?_; rintro e w2 ⟨AN, cN, rfl, oN, hb2⟩)
            exact ⟨rfl, .slice AN (FilF (x) pc pk pv).length cN, by kernel_rfl, hb2, AN, cN, rfl, SlOw.at_ entO oN, EntsOw.cap oN⟩
          refine wf_stepK [0, 3] [fun _ => t0 = .slice A3 (FilF (x) pc pk pv).length c3, ZVr (FilF (x) pc pk pv) t3] (by kernel_rfl) (by kernel_rfl) (fun wf hb hf => ?_) (fun t4 => ?_)
          · obtain ⟨rfl, ⟨XS1, xs1, rfl, hS1⟩, -⟩ := hf
            refine ⟨?_⟩
            go_wp2_with (go_at_call 15; refine (equalZ (xs := FilF (x) pc pk pv) (ys := FilF (x) pc pk pv) true (decide_eq_true rfl) ((a3.below entR b4).below entR hb) hS1.1 (Nat.le_trans (FilF_len _ _ _ _) (by decide)) (Nat.le_trans (FilF_len _ _ _ _) (by decide)) (rows_big (FilF_row _ _ _ _) (by decide)) (rows_big (FilF_row _ _ _ _) (by decide))).mono ?_; rintro e w2 ⟨rfl, hb2⟩)
            exact ⟨rfl, .bool true, by kernel_rfl, hb2, rfl⟩
          refine wf_stepK [4] [fun _ => t4 = .bool true] (by kernel_rfl) (by kernel_rfl) (fun wf hb hf => ?_) (fun t5 => ?_)
          · obtain ⟨rfl, -⟩ := hf
            refine ⟨?_⟩
            go_wp2
            exact ⟨rfl, .bool false, by kernel_rfl, Below.refl _ _, rfl⟩
          refine wf_stepK [5] [fun _ => t5 = .bool false] (by kernel_rfl) (by kernel_rfl) (fun wf hb hf => ?_) (fun t6 => ?_)
          · obtain ⟨rfl, -⟩ := hf
            refine ⟨?_⟩
            go_wp2
            exact ⟨rfl, .bool false, by kernel_rfl, Below.refl _ _, rfl⟩
          refine wf_stepK [6] [fun _ => t6 = .bool false] (by kernel_rfl) (by kernel_rfl) (fun wf hb hf => ?_) (fun t7 => ?_)
          · obtain ⟨rfl, -⟩ := hf
            refine WfOp.yes (by kernel_rfl) ?_
            dsimp only
            go_wp2
            exact ⟨rfl, .slice Ax x.length cx, by kernel_rfl, Below.refl _ _, rfl⟩
          refine wf_stepK [6, 7] [fun _ => t6 = .bool false, fun _ => t7 = .slice Ax x.length cx] (by kernel_rfl) (by kernel_rfl) (fun wf hb hf => ?_) (fun t8 => ?_)
          · obtain ⟨rfl, rfl, -⟩ := hf
            refine WfOp.yes (by kernel_rfl) ?_
            dsimp only
            go_wp2_with (go_at_call 21; refine (smallZ true HSx.out (((SlOw.at_ entO hx.1).below entR (btr (btr b2 b3) b4)).below entR hb) nx rx).mono ?_; rintro e w2 ⟨rfl, hb2⟩)
            exact ⟨rfl, .bool true, by kernel_rfl, hb2, rfl⟩
          refine wf_stepK [6, 8] [fun _ => t6 = .bool false, fun _ => t8 = .bool true] (by kernel_rfl) (by kernel_rfl) (fun wf hb hf => ?_) (fun t9 => ?_)
          · obtain ⟨rfl, rfl, -⟩ := hf
            refine WfOp.yes (by kernel_rfl) ?_
            dsimp only
            go_wp2
            exact ⟨rfl, .bool false, by kernel_rfl, Below.refl _ _, rfl⟩
          refine wf_stepK [6, 9] [fun _ => t6 = .bool false, fun _ => t9 = .bool false] (by kernel_rfl) (by kernel_rfl) (fun wf hb hf => ?_) (fun t10 => ?_)
          · obtain ⟨rfl, rfl, -⟩ := hf
            refine ⟨?_⟩
            go_wp2
            exact ⟨rfl, .bool false, by kernel_rfl, Below.refl _ _, rfl⟩
          refine wf_stepK [10] [fun _ => t10 = .bool false] (by kernel_rfl) (by kernel_rfl) (fun wf hb hf => ?_) (fun t11 => ?_)
          · obtain ⟨rfl, -⟩ := hf
            refine ⟨?_⟩
            go_wp2
            exact ⟨rfl, .bool false, by kernel_rfl, Below.refl _ _, rfl⟩
          refine wf_stepK [11] [fun _ => t11 = .bool false] (by kernel_rfl) (by kernel_rfl) (fun wf hb hf => ?_) (fun t12 => ?_)
          · obtain ⟨rfl, -⟩ := hf
            refine WfOp.yes (by kernel_rfl) ?_
            dsimp only
            go_wp2
            exact ⟨rfl, .slice Av v.length cv, by kernel_rfl, Below.refl _ _, rfl⟩
          refine wf_stepK [11, 12] [fun _ => t11 = .bool false, fun _ => t12 = .slice Av v.length cv] (by kernel_rfl) (by kernel_rfl) (fun wf hb hf => ?_) (fun t13 => ?_)
          · obtain ⟨rfl, rfl, -⟩ := hf
            refine WfOp.yes (by kernel_rfl) ?_
            dsimp only
            go_wp2_with (go_at_call 21; refine (smallZ true HSv.out ((SlOw.at_ entO hv.1).below entR hb) nv rv).mono ?_; rintro e w2 ⟨rfl, hb2⟩)
            exact ⟨rfl, .bool true, by kernel_rfl, hb2, rfl⟩
          refine wf_stepK [11, 13] [fun _ => t11 = .bool false, fun _ => t13 = .bool true] (by kernel_rfl) (by kernel_rfl) (fun wf hb hf => ?_) (fun t14 => ?_)
          · obtain ⟨rfl, rfl, -⟩ := hf
            refine WfOp.yes (by kernel_rfl) ?_
            dsimp only
            go_wp2
            exact ⟨rfl, .bool false, by kernel_rfl, Below.refl _ _, rfl⟩
          refine wf_stepK [11, 14] [fun _ => t11 = .bool false, fun _ => t14 = .bool false] (by kernel_rfl) (by kernel_rfl) (fun wf hb hf => ?_) (fun t15 => ?_)
          · obtain ⟨rfl, rfl, -⟩ := hf
            refine ⟨?_⟩
            go_wp2
            exact ⟨rfl, .bool false, by kernel_rfl, Below.refl _ _, rfl⟩
          refine wf_stepK [15] [fun _ => t15 = .bool false] (by kernel_rfl) (by kernel_rfl) (fun wf hb hf => ?_) (fun t16 => ?_)
          · obtain ⟨rfl, -⟩ := hf
            refine ⟨?_⟩
            go_wp2
            exact ⟨rfl, .bool false, by kernel_rfl, Below.refl _ _, rfl⟩
          refine wf_stepK [16] [fun _ => t16 = .bool false] (by kernel_rfl) (by kernel_rfl) (fun wf hb hf => ?_) (fun t17 => ?_)
          · obtain ⟨rfl, -⟩ := hf
            refine WfOp.yes (by kernel_rfl) ?_
            dsimp only
            go_wp2
            exact ⟨rfl, .slice Ax x.length cx, by kernel_rfl, Below.refl _ _, rfl⟩
          refine wf_stepK [16, 17] [fun _ => t16 = .bool false, fun _ => t17 = .slice Ax x.length cx] (by kernel_rfl) (by kernel_rfl) (fun wf hb hf => ?_) (fun t18 => ?_)
          · obtain ⟨rfl, rfl, -⟩ := hf
            refine WfOp.yes (by kernel_rfl) ?_
            dsimp only
            go_wp2
            exact ⟨rfl, .int .i64 ((x.length : Nat)), by kernel_rfl, Below.refl _ _, rfl⟩
          refine wf_stepK [16, 18] [fun _ => t16 = .bool false, fun _ => t18 = .int .i64 ((x.length : Nat))] (by kernel_rfl) (by kernel_rfl) (fun wf hb hf => ?_) (fun t19 => ?_)
          · obtain ⟨rfl, rfl, -⟩ := hf
            refine WfOp.yes (by kernel_rfl) ?_
            dsimp only
            go_wp2
            exact ⟨rfl, .bool false, by kernel_rfl, Below.refl _ _, rfl⟩
          refine wf_stepK [16, 19] [fun _ => t16 = .bool false, fun _ => t19 = .bool false] (by kernel_rfl) (by kernel_rfl) (fun wf hb hf => ?_) (fun t20 => ?_)
          · obtain ⟨rfl, rfl, -⟩ := hf
            refine ⟨?_⟩
            go_wp2
            exact ⟨rfl, .bool false, by kernel_rfl, Below.refl _ _, rfl⟩
          refine wf_stepK [20] [fun _ => t20 = .bool false] (by kernel_rfl) (by kernel_rfl) (fun wf hb hf => ?_) (fun t21 => ?_)
          · obtain ⟨rfl, -⟩ := hf
            refine ⟨?_⟩
            go_wp2
            exact ⟨rfl, .bool false, by kernel_rfl, Below.refl _ _, rfl⟩
          refine wf_stepK [21] [fun _ => t21 = .bool false] (by kernel_rfl) (by kernel_rfl) (fun wf hb hf => ?_) (fun t22 => ?_)
          · obtain ⟨rfl, -⟩ := hf
            refine WfOp.yes (by kernel_rfl) ?_
            dsimp only
            go_wp2
            exact ⟨rfl, .slice Av v.length cv, by kernel_rfl, Below.refl _ _, rfl⟩
          refine wf_stepK [21, 22] [fun _ => t21 = .bool false, fun _ => t22 = .slice Av v.length cv] (by kernel_rfl) (by kernel_rfl) (fun wf hb hf => ?_) (fun t23 => ?_)
          · obtain ⟨rfl, rfl, -⟩ := hf
            refine WfOp.yes (by kernel_rfl) ?_
            dsimp only
            go_wp2
            exact ⟨rfl, .int .i64 ((v.length : Nat)), by kernel_rfl, Below.refl _ _, rfl⟩
          refine wf_stepK [21, 23] [fun _ => t21 = .bool false, fun _ => t23 = .int .i64 ((v.length : Nat))] (by kernel_rfl) (by kernel_rfl) (fun wf hb hf => ?_) (fun t24 => ?_)
          · obtain ⟨rfl, rfl, -⟩ := hf
            refine WfOp.yes (by kernel_rfl) ?_
            dsimp only
            go_wp2
            exact ⟨rfl, .bool true, by kernel_rfl, Below.refl _ _, rfl⟩
          refine wf_stepK [21, 24] [fun _ => t21 = .bool false, fun _ => t24 = .bool true] (by kernel_rfl) (by kernel_rfl) (fun wf hb hf => ?_) (fun t25 => ?_)
          · obtain ⟨rfl, rfl, -⟩ := hf
            refine ⟨?_⟩
            go_wp2
            exact ⟨rfl, .bool true, by kernel_rfl, Below.refl _ _, rfl⟩
          refine wf_stepK [25] [fun _ => t25 = .bool true] (by kernel_rfl) (by kernel_rfl) (fun wf hb hf => ?_) (fun t26 => ?_)
          · obtain ⟨rfl, -⟩ := hf
            refine ⟨?_⟩
            go_wp2
            exact ⟨rfl, .bool true, by kernel_rfl, Below.refl _ _, rfl⟩
          refine wf_stepK [26] [fun _ => t26 = .bool true] (by kernel_rfl) (by kernel_rfl) (fun wf hb hf => ?_) (fun t27 => ?_)
          · obtain ⟨rfl, -⟩ := hf
            exact WfOp.no (by kernel_rfl) rfl
          refine wf_stepK [26, 27] [fun _ => t26 = .bool true, fun _ => t27 = undef] (by kernel_rfl) (by kernel_rfl) (fun wf hb hf => ?_) (fun t28 => ?_)
          · obtain ⟨rfl, rfl, -⟩ := hf
            exact WfOp.no (by kernel_rfl) rfl
          refine wf_stepK [26, 28] [fun _ => t26 = .bool true, fun _ => t28 = undef] (by kernel_rfl) (by kernel_rfl) (fun wf hb hf => ?_) (fun t29 => ?_)
          · obtain ⟨rfl, rfl, -⟩ := hf
            exact WfOp.no (by kernel_rfl) rfl
          refine wf_stepK [26, 29] [fun _ => t26 = .bool true, fun _ => t29 = undef] (by kernel_rfl) (by kernel_rfl) (fun wf hb hf => ?_) (fun t30 => ?_)
          · obtain ⟨rfl, rfl, -⟩ := hf
            exact WfOp.no (by kernel_rfl) rfl
          refine wf_stepK [26, 30] [fun _ => t26 = .bool true, fun _ => t30 = undef] (by kernel_rfl) (by kernel_rfl) (fun wf hb hf => ?_) (fun t31 => ?_)
          · obtain ⟨rfl, rfl, -⟩ := hf
            exact WfOp.no (by kernel_rfl) rfl
          refine wf_stepK [26] [fun _ => t26 = .bool true] (by kernel_rfl) (by kernel_rfl) (fun wf hb hf => ?_) (fun t32 => ?_)
          · obtain ⟨rfl, -⟩ := hf
            exact WfOp.no (by kernel_rfl) rfl
          refine wf_stepK [26, 32] [fun _ => t26 = .bool true, fun _ => t32 = undef] (by kernel_rfl) (by kernel_rfl) (fun wf hb hf => ?_) (fun t33 => ?_)
          · obtain ⟨rfl, rfl, -⟩ := hf
            exact WfOp.no (by kernel_rfl) rfl
          refine wf_stepK [26, 33] [fun _ => t26 = .bool true, fun _ => t33 = undef] (by kernel_rfl) (by kernel_rfl) (fun wf hb hf => ?_) (fun t34 => ?_)
          · obtain ⟨rfl, rfl, -⟩ := hf
            exact WfOp.no (by kernel_rfl) rfl
          refine wf_stepK [26, 34] [fun _ => t26 = .bool true, fun _ => t34 = undef] (by kernel_rfl) (by kernel_rfl) (fun wf hb hf => ?_) (fun t35 => ?_)
          · obtain ⟨rfl, rfl, -⟩ := hf
            exact WfOp.no (by kernel_rfl) rfl
          refine wf_stepK [26, 35] [fun _ => t26 = .bool true, fun _ => t35 = undef] (by kernel_rfl) (by kernel_rfl) (fun wf hb hf => ?_) (fun t36 => ?_)
          · obtain ⟨rfl, rfl, -⟩ := hf
            exact WfOp.no (by kernel_rfl) rfl
          refine wf_stepK [26, 31, 36] [fun _ => t26 = .bool true, fun _ => t31 = undef, fun _ => t36 = undef] (by kernel_rfl) (by kernel_rfl) (fun wf hb hf => ?_) (fun t37 => ?_)
          · obtain ⟨rfl, rfl, rfl, -⟩ := hf
            exact WfOp.no (by kernel_rfl) rfl
          refine wf_doneK [26, 37] [fun _ => t26 = .bool true, fun _ => t37 = undef] (by kernel_rfl) (by kernel_rfl) (fun w5 b5 hf => ?_)
          obtain ⟨rfl, rfl, -⟩ := hf
          show wpList _ _ _ [_] _ _
          refine wpList_frame (by simp [Act.put]; rfl) ?_
          have B5 := btr B4 b5
          have pc0 := (hk.below (btr (btr b3 b4) b5)).cell 0
          have pc1 := (hk.below (btr (btr b3 b4) b5)).cell 1
          have pc2 := (hk.below (btr (btr b3 b4) b5)).cell 2
          simp at pc0 pc1 pc2
          go_wp2_with fail
          refine (Filter_s _ _ (x) pc pk pv _ ((SlOw.at_ entO hx.1).below entR (btr (btr (btr b2 b3) b4) b5)) nx rx).mono ?_
          rintro e w6 ⟨A6, c6, rfl, o6, b6⟩
          have B6 := btr B5 b6
          have a6 : EntsAt w6 A6 (FilF (x) pc pk pv) := SlOw.at_ entO o6
          clear pc0 pc1 pc2
          go_wp2_with fail
          refine (equalZ (xs := FilF (x) pc pk pv) (ys := FilF (x) pc pk pv) true (decide_eq_true rfl) (a3.below entR (btr (btr b4 b5) b6)) a6 (Nat.le_trans (FilF_len _ _ _ _) (by decide)) (Nat.le_trans (FilF_len _ _ _ _) (by decide)) (rows_big (FilF_row _ _ _ _) (by decide)) (rows_big (FilF_row _ _ _ _) (by decide))).mono ?_
          rintro e w7 ⟨rfl, b7⟩
          have B7 := btr B6 b7
          go_wp2_with fail
          go_ret
          exact ⟨rfl, B7⟩
        · have hzv : ((v.length : Int) == 0) = false := by rw [beq_eq_false_iff_ne]; omega
          have hqv : (0 : Int) < v.length := by omega
          have hwx := wid_get hpx
          have hwv := wid_get hpv
          by_cases hwv' : wid x = wid v
          · have hnv : ((x[0].1.length : Int) != (v[0].1.length : Int)) = false := by rw [← hwx, ← hwv, hwv']; simp
            have HLIN := Lib.hid (FilF_add Sx (hwv' ▸ Sv) pc pk pv)
            clear hwv' hwx hwv Sx Sv
            obtain ⟨bbx, oox, RRx, ssx, hAx, hblx, hcx, -, -, hrx⟩ := (EntsAt.get (SlOw.at_ entO hx.1) 0 hpx)
            simp only [Nat.zero_mul, Nat.add_zero] at hcx
            subst hAx
            obtain ⟨bbv, oov, RRv, ssv, hAv, hblv, hcv, -, -, hrv⟩ := (EntsAt.get (SlOw.at_ entO hv.1) 0 hpv)
            simp only [Nat.zero_mul, Nat.add_zero] at hcv
            subst hAv
            go_wp2_with fail
            refine wp_region_facts [[], [], [], [1, 2], List.range 4, List.range 5, List.range 6, List.range 7, List.range 8, List.range 9, List.range 10, List.range 11, List.range 12, List.range 13, List.range 14, List.range 15, List.range 16, List.range 17, List.range 18, List.range 19, List.range 20, List.range 21, List.range 22, List.range 23, List.range 24, List.range 25, List.range 26, List.range 27, List.range 28, List.range 29, List.range 30, List.range 31, List.range 27, [0, 1, 2, 3, 4, 5, 6, 7, 8, 9, 10, 11, 12, 13, 14, 15, 16, 17, 18, 19, 20, 21, 22, 23, 24, 25, 26, 32], [0, 1, 2, 3, 4, 5, 6, 7, 8, 9, 10, 11, 12, 13, 14, 15, 16, 17, 18, 19, 20, 21, 22, 23, 24, 25, 26, 32, 33], [0, 1, 2, 3, 4, 5, 6, 7, 8, 9, 10, 11, 12, 13, 14, 15, 16, 17, 18, 19, 20, 21, 22, 23, 24, 25, 26, 32, 33, 34], [0, 1, 2, 3, 4, 5, 6, 7, 8, 9, 10, 11, 12, 13, 14, 15, 16, 17, 18, 19, 20, 21, 22, 23, 24, 25, 26, 32, 33, 34, 35], List.range 37]
              [fun v' _ => v' = .slice A3 (FilF (x) pc pk pv).length c3, fun v' _ => v' = .slice (some ⟨bbx, oox, none⟩) x.length cx, fun v' _ => v' = .agg #[.int .i64 pc, .int .i64 pk, .int .i64 pv], ZVr (FilF (x) pc pk pv), fun v' _ => v' = .bool true, fun v' _ => v' = .bool false, fun v' _ => v' = .bool false, fun v' _ => v' = .slice (some ⟨bbx, oox, none⟩) x.length cx, fun v' _ => v' = .bool true, fun v' _ => v' = .bool false, fun v' _ => v' = .bool false, fun v' _ => v' = .bool false, fun v' _ => v' = .slice (some ⟨bbv, oov, none⟩) v.length cv, fun v' _ => v' = .bool true, fun v' _ => v' = .bool false, fun v' _ => v' = .bool false, fun v' _ => v' = .bool false, fun v' _ => v' = .slice (some ⟨bbx, oox, none⟩) x.length cx, fun v' _ => v' = .int .i64 ((x.length : Nat)), fun v' _ => v' = .bool false, fun v' _ => v' = .bool false, fun v' _ => v' = .bool false, fun v' _ => v' = .slice (some ⟨bbv, oov, none⟩) v.length cv, fun v' _ => v' = .int .i64 ((v.length : Nat)), fun v' _ => v' = .bool false, fun v' _ => v' = .bool false, fun v' _ => v' = .bool false, fun v' _ => v' = .slice (some ⟨bbx, oox, none⟩) x.length cx, fun v' _ => v' = .pointer (some ⟨bbx, oox, none⟩), fun v' _ => v' = .pointer (some ⟨bbx, oox, none⟩), fun v' _ => v' = .slice RRx x[0].1.length ssx, fun v' _ => v' = .int .i64 ((x[0].1.length : Nat)), fun v' _ => v' = .slice (some ⟨bbv, oov, none⟩) v.length cv, fun v' _ => v' = .pointer (some ⟨bbv, oov, none⟩), fun v' _ => v' = .pointer (some ⟨bbv, oov, none⟩), fun v' _ => v' = .slice RRv v[0].1.length ssv, fun v' _ => v' = .int .i64 ((v[0].1.length : Nat)), fun v' _ => v' = .bool false]
              (by kernel_rfl) (by kernel_rfl) rfl ⟨stable_pure _, stable_pure _, stable_pure _, stable_zVr _, stable_pure _, stable_pure _, stable_pure _, stable_pure _, stable_pure _, stable_pure _, stable_pure _, stable_pure _, stable_pure _, stable_pure _, stable_pure _, stable_pure _, stable_pure _, stable_pure _, stable_pure _, stable_pure _, stable_pure _, stable_pure _, stable_pure _, stable_pure _, stable_pure _, stable_pure _, stable_pure _, stable_pure _, stable_pure _, stable_pure _, stable_pure _, stable_pure _, stable_pure _, stable_pure _, stable_pure _, stable_pure _, stable_pure _, stable_pure _, trivial⟩ ?_
            refine wf_stepK [] [] (by kernel_rfl) (by kernel_rfl) (fun wf hb hf => ?_) (fun t0 => ?_)
            · refine ⟨?_⟩
              go_wp2
              exact ⟨rfl, .slice A3 (FilF (x) pc pk pv).length c3, by kernel_rfl, Below.refl _ _, rfl⟩
            refine wf_stepK [] [] (by kernel_rfl) (by kernel_rfl) (fun wf hb hf => ?_) (fun t1 => ?_)
            · refine ⟨?_⟩
              go_wp2
              exact ⟨rfl, .slice (some ⟨bbx, oox, none⟩) x.length cx, by kernel_rfl, Below.refl _ _, rfl⟩
            refine wf_stepK [] [] (by kernel_rfl) (by kernel_rfl) (fun wf hb hf => ?_) (fun t2 => ?_)
            · refine ⟨?_⟩
              have pc0 := ((hk.below (btr b3 b4)).below hb).cell 0
              have pc1 := ((hk.below (btr b3 b4)).below hb).cell 1
              have pc2 := ((hk.below (btr b3 b4)).below hb).cell 2
              simp at pc0 pc1 pc2
              go_wp2
              exact ⟨rfl, .agg #[.int .i64 pc, .int .i64 pk, .int .i64 pv], by kernel_rfl, Below.refl _ _, rfl⟩
            refine wf_stepK [1, 2] [fun _ => t1 = .slice (some ⟨bbx, oox, none⟩) x.length cx, fun _ => t2 = .agg #[.int .i64 pc, .int .i64 pk, .int .i64 pv]] (by kernel_rfl) (by kernel_rfl) (fun wf hb hf => ?_) (fun t3 => ?_)
            · obtain ⟨rfl, rfl, -⟩ := hf
              refine ⟨?_⟩
              go_wp2_with (go_at_call 16; refine (Filter_s _ _ (x) pc pk pv _ (((SlOw.at_ entO hx.1).below entR (btr (btr b2 b3) b4)).below entR hb) nx rx).mono ?_; rintro e w2 ⟨AN, cN, rfl, oN, hb2⟩)
              exact ⟨rfl, .slice AN (FilF (x) pc pk pv).length cN, by kernel_rfl, hb2, AN, cN, rfl, SlOw.at_ entO oN, EntsOw.cap oN⟩
            refine wf_stepK [0, 3] [fun _ => t0 = .slice A3 (FilF (x) pc pk pv).length c3, ZVr (FilF (x) pc pk pv) t3] (by kernel_rfl) (by kernel_rfl) (fun wf hb hf => ?_) (fun t4 => ?_)
            · obtain ⟨rfl, ⟨XS1, xs1, rfl, hS1⟩, -⟩ := hf
              refine ⟨?_⟩
              go_wp2_with (go_at_call 15; refine (equalZ (xs := FilF (x) pc pk pv) (ys := FilF (x) pc pk pv) true (decide_eq_true rfl) ((a3.below entR b4).below entR hb) hS1.1 (Nat.le_trans (FilF_len _ _ _ _) (by decide)) (Nat.le_trans (FilF_len _ _ _ _) (by decide)) (rows_big (FilF_row _ _ _ _) (by decide)) (rows_big (FilF_row _ _ _ _) (by decide))).mono ?_; rintro e w2 ⟨rfl, hb2⟩)
              exact ⟨rfl, .bool true, by kernel_rfl, hb2, rfl⟩
            refine wf_stepK [4] [fun _ => t4 = .bool true] (by kernel_rfl) (by kernel_rfl) (fun wf hb hf => ?_) (fun t5 => ?_)
            · obtain ⟨rfl, -⟩ := hf
              refine ⟨?_⟩
              go_wp2
              exact ⟨rfl, .bool false, by kernel_rfl, Below.refl _ _, rfl⟩
            refine wf_stepK [5] [fun _ => t5 = .bool false] (by kernel_rfl) (by kernel_rfl) (fun wf hb hf => ?_) (fun t6 => ?_)
            · obtain ⟨rfl, -⟩ := hf
              refine ⟨?_⟩
              go_wp2
              exact ⟨rfl, .bool false, by kernel_rfl, Below.refl _ _, rfl⟩
            refine wf_stepK [6] [fun _ => t6 = .bool false] (by kernel_rfl) (by kernel_rfl) (fun wf hb hf => ?_) (fun t7 => ?_)
            · obtain ⟨rfl, -⟩ := hf
              refine WfOp.yes (by kernel_rfl) ?_
              dsimp only
              go_wp2
              exact ⟨rfl, .slice (some ⟨bbx, oox, none⟩) x.length cx, by kernel_rfl, Below.refl _ _, rfl⟩
            refine wf_stepK [6, 7] [fun _ => t6 = .bool false, fun _ => t7 = .slice (some ⟨bbx, oox, none⟩) x.length cx] (by kernel_rfl) (by kernel_rfl) (fun wf hb hf => ?_) (fun t8 => ?_)
            · obtain ⟨rfl, rfl, -⟩ := hf
              refine WfOp.yes (by kernel_rfl) ?_
              dsimp only
              go_wp2_with (go_at_call 21; refine (smallZ true HSx.out (((SlOw.at_ entO hx.1).below entR (btr (btr b2 b3) b4)).below entR hb) nx rx).mono ?_; rintro e w2 ⟨rfl, hb2⟩)
              exact ⟨rfl, .bool true, by kernel_rfl, hb2, rfl⟩
            refine wf_stepK [6, 8] [fun _ => t6 = .bool false, fun _ => t8 = .bool true] (by kernel_rfl) (by kernel_rfl) (fun wf hb hf => ?_) (fun t9 => ?_)
            · obtain ⟨rfl, rfl, -⟩ := hf
              refine WfOp.yes (by kernel_rfl) ?_
              dsimp only
              go_wp2
              exact ⟨rfl, .bool false, by kernel_rfl, Below.refl _ _, rfl⟩
            refine wf_stepK [6, 9] [fun _ => t6 = .bool false, fun _ => t9 = .bool false] (by kernel_rfl) (by kernel_rfl) (fun wf hb hf => ?_) (fun t10 => ?_)
            · obtain ⟨rfl, rfl, -⟩ := hf
              refine ⟨?_⟩
              go_wp2
              exact ⟨rfl, .bool false, by kernel_rfl, Below.refl _ _, rfl⟩
            refine wf_stepK [10] [fun _ => t10 = .bool false] (by kernel_rfl) (by kernel_rfl) (fun wf hb hf => ?_) (fun t11 => ?_)
            · obtain ⟨rfl, -⟩ := hf
              refine ⟨?_⟩
              go_wp2
              exact ⟨rfl, .bool false, by kernel_rfl, Below.refl _ _, rfl⟩
            refine wf_stepK [11] [fun _ => t11 = .bool false] (by kernel_rfl) (by kernel_rfl) (fun wf hb hf => ?_) (fun t12 => ?_)
            · obtain ⟨rfl, -⟩ := hf
              refine WfOp.yes (by kernel_rfl) ?_
              dsimp only
              go_wp2
              exact ⟨rfl, .slice (some ⟨bbv, oov, none⟩) v.length cv, by kernel_rfl, Below.refl _ _, rfl⟩
            refine wf_stepK [11, 12] [fun _ => t11 = .bool false, fun _ => t12 = .slice (some ⟨bbv, oov, none⟩) v.length cv] (by kernel_rfl) (by kernel_rfl) (fun wf hb hf => ?_) (fun t13 => ?_)
            · obtain ⟨rfl, rfl, -⟩ := hf
              refine WfOp.yes (by kernel_rfl) ?_
              dsimp only
              go_wp2_with (go_at_call 21; refine (smallZ true HSv.out ((SlOw.at_ entO hv.1).below entR hb) nv rv).mono ?_; rintro e w2 ⟨rfl, hb2⟩)
              exact ⟨rfl, .bool true, by kernel_rfl, hb2, rfl⟩
            refine wf_stepK [11, 13] [fun _ => t11 = .bool false, fun _ => t13 = .bool true] (by kernel_rfl) (by kernel_rfl) (fun wf hb hf => ?_) (fun t14 => ?_)
            · obtain ⟨rfl, rfl, -⟩ := hf
              refine WfOp.yes (by kernel_rfl) ?_
              dsimp only
              go_wp2
              exact ⟨rfl, .bool false, by kernel_rfl, Below.refl _ _, rfl⟩
            refine wf_stepK [11, 14] [fun _ => t11 = .bool false, fun _ => t14 = .bool false] (by kernel_rfl) (by kernel_rfl) (fun wf hb hf => ?_) (fun t15 => ?_)
            · obtain ⟨rfl, rfl, -⟩ := hf
              refine ⟨?_⟩
              go_wp2
              exact ⟨rfl, .bool false, by kernel_rfl, Below.refl _ _, rfl⟩
            refine wf_stepK [15] [fun _ => t15 = .bool false] (by kernel_rfl) (by kernel_rfl) (fun wf hb hf => ?_) (fun t16 => ?_)
            · obtain ⟨rfl, -⟩ := hf
              refine ⟨?_⟩
              go_wp2
              exact ⟨rfl, .bool false, by kernel_rfl, Below.refl _ _, rfl⟩
            refine wf_stepK [16] [fun _ => t16 = .bool false] (by kernel_rfl) (by kernel_rfl) (fun wf hb hf => ?_) (fun t17 => ?_)
            · obtain ⟨rfl, -⟩ := hf
              refine WfOp.yes (by kernel_rfl) ?_
              dsimp only
              go_wp2
              exact ⟨rfl, .slice (some ⟨bbx, oox, none⟩) x.length cx, by kernel_rfl, Below.refl _ _, rfl⟩
            refine wf_stepK [16, 17] [fun _ => t16 = .bool false, fun _ => t17 = .slice (some ⟨bbx, oox, none⟩) x.length cx] (by kernel_rfl) (by kernel_rfl) (fun wf hb hf => ?_) (fun t18 => ?_)
            · obtain ⟨rfl, rfl, -⟩ := hf
              refine WfOp.yes (by kernel_rfl) ?_
              dsimp only
              go_wp2
              exact ⟨rfl, .int .i64 ((x.length : Nat)), by kernel_rfl, Below.refl _ _, rfl⟩
            refine wf_stepK [16, 18] [fun _ => t16 = .bool false, fun _ => t18 = .int .i64 ((x.length : Nat))] (by kernel_rfl) (by kernel_rfl) (fun wf hb hf => ?_) (fun t19 => ?_)
            · obtain ⟨rfl, rfl, -⟩ := hf
              refine WfOp.yes (by kernel_rfl) ?_
              dsimp only
              go_wp2
              exact ⟨rfl, .bool false, by kernel_rfl, Below.refl _ _, rfl⟩
            refine wf_stepK [16, 19] [fun _ => t16 = .bool false, fun _ => t19 = .bool false] (by kernel_rfl) (by kernel_rfl) (fun wf hb hf => ?_) (fun t20 => ?_)
            · obtain ⟨rfl, rfl, -⟩ := hf
              refine ⟨?_⟩
              go_wp2
              exact ⟨rfl, .bool false, by kernel_rfl, Below.refl _ _, rfl⟩
            refine wf_stepK [20] [fun _ => t20 = .bool false] (by kernel_rfl) (by kernel_rfl) (fun wf hb hf => ?_) (fun t21 => ?_)
            · obtain ⟨rfl, -⟩ := hf
              refine ⟨?_⟩
              go_wp2
              exact ⟨rfl, .bool false, by kernel_rfl, Below.refl _ _, rfl⟩
            refine wf_stepK [21] [fun _ => t21 = .bool false] (by kernel_rfl) (by kernel_rfl) (fun wf hb hf => ?_) (fun t22 => ?_)
            · obtain ⟨rfl, -⟩ := hf
              refine WfOp.yes (by kernel_rfl) ?_
              dsimp only
              go_wp2
              exact ⟨rfl, .slice (some ⟨bbv, oov, none⟩) v.length cv, by kernel_rfl, Below.refl _ _, rfl⟩
            refine wf_stepK [21, 22] [fun _ => t21 = .bool false, fun _ => t22 = .slice (some ⟨bbv, oov, none⟩) v.length cv] (by kernel_rfl) (by kernel_rfl) (fun wf hb hf => ?_) (fun t23 => ?_)
            · obtain ⟨rfl, rfl, -⟩ := hf
              refine WfOp.yes (by kernel_rfl) ?_
              dsimp only
              go_wp2
              exact ⟨rfl, .int .i64 ((v.length : Nat)), by kernel_rfl, Below.refl _ _, rfl⟩
            refine wf_stepK [21, 23] [fun _ => t21 = .bool false, fun _ => t23 = .int .i64 ((v.length : Nat))] (by kernel_rfl) (by kernel_rfl) (fun wf hb hf => ?_) (fun t24 => ?_)
            · obtain ⟨rfl, rfl, -⟩ := hf
              refine WfOp.yes (by kernel_rfl) ?_
              dsimp only
              go_wp2
              exact ⟨rfl, .bool false, by kernel_rfl, Below.refl _ _, rfl⟩
            refine wf_stepK [21, 24] [fun _ => t21 = .bool false, fun _ => t24 = .bool false] (by kernel_rfl) (by kernel_rfl) (fun wf hb hf => ?_) (fun t25 => ?_)
            · obtain ⟨rfl, rfl, -⟩ := hf
              refine ⟨?_⟩
              go_wp2
              exact ⟨rfl, .bool false, by kernel_rfl, Below.refl _ _, rfl⟩
            refine wf_stepK [25] [fun _ => t25 = .bool false] (by kernel_rfl) (by kernel_rfl) (fun wf hb hf => ?_) (fun t26 => ?_)
            · obtain ⟨rfl, -⟩ := hf
              refine ⟨?_⟩
              go_wp2
              exact ⟨rfl, .bool false, by kernel_rfl, Below.refl _ _, rfl⟩
            refine wf_stepK [26] [fun _ => t26 = .bool false] (by kernel_rfl) (by kernel_rfl) (fun wf hb hf => ?_) (fun t27 => ?_)
            · obtain ⟨rfl, -⟩ := hf
              refine WfOp.yes (by kernel_rfl) ?_
              dsimp only
              go_wp2
              exact ⟨rfl, .slice (some ⟨bbx, oox, none⟩) x.length cx, by kernel_rfl, Below.refl _ _, rfl⟩
            refine wf_stepK [26, 27] [fun _ => t26 = .bool false, fun _ => t27 = .slice (some ⟨bbx, oox, none⟩) x.length cx] (by kernel_rfl) (by kernel_rfl) (fun wf hb hf => ?_) (fun t28 => ?_)
            · obtain ⟨rfl, rfl, -⟩ := hf
              refine WfOp.yes (by kernel_rfl) ?_
              dsimp only
              go_wp2
              exact ⟨rfl, .pointer (some ⟨bbx, oox, none⟩), by kernel_rfl, Below.refl _ _, rfl⟩
            refine wf_stepK [26, 28] [fun _ => t26 = .bool false, fun _ => t28 = .pointer (some ⟨bbx, oox, none⟩)] (by kernel_rfl) (by kernel_rfl) (fun wf hb hf => ?_) (fun t29 => ?_)
            · obtain ⟨rfl, rfl, -⟩ := hf
              refine WfOp.yes (by kernel_rfl) ?_
              dsimp only
              go_wp2
              exact ⟨rfl, .pointer (some ⟨bbx, oox, none⟩), by kernel_rfl, Below.refl _ _, rfl⟩
            refine wf_stepK [26, 29] [fun _ => t26 = .bool false, fun _ => t29 = .pointer (some ⟨bbx, oox, none⟩)] (by kernel_rfl) (by kernel_rfl) (fun wf hb hf => ?_) (fun t30 => ?_)
            · obtain ⟨rfl, rfl, -⟩ := hf
              refine WfOp.yes (by kernel_rfl) ?_
              dsimp only
              have cz := (Below.cell (p := ⟨bbx, oox, none⟩) (btr (btr (btr b2 b3) b4) hb) hblx).trans hcx
              go_wp2
              exact ⟨rfl, .slice RRx x[0].1.length ssx, by kernel_rfl, Below.refl _ _, rfl⟩
            refine wf_stepK [26, 30] [fun _ => t26 = .bool false, fun _ => t30 = .slice RRx x[0].1.length ssx] (by kernel_rfl) (by kernel_rfl) (fun wf hb hf => ?_) (fun t31 => ?_)
            · obtain ⟨rfl, rfl, -⟩ := hf
              refine WfOp.yes (by kernel_rfl) ?_
              dsimp only
              go_wp2
              exact ⟨rfl, .int .i64 ((x[0].1.length : Nat)), by kernel_rfl, Below.refl _ _, rfl⟩
            refine wf_stepK [26] [fun _ => t26 = .bool false] (by kernel_rfl) (by kernel_rfl) (fun wf hb hf => ?_) (fun t32 => ?_)
            · obtain ⟨rfl, -⟩ := hf
              refine WfOp.yes (by kernel_rfl) ?_
              dsimp only
              go_wp2
              exact ⟨rfl, .slice (some ⟨bbv, oov, none⟩) v.length cv, by kernel_rfl, Below.refl _ _, rfl⟩
            refine wf_stepK [26, 32] [fun _ => t26 = .bool false, fun _ => t32 = .slice (some ⟨bbv, oov, none⟩) v.length cv] (by kernel_rfl) (by kernel_rfl) (fun wf hb hf => ?_) (fun t33 => ?_)
            · obtain ⟨rfl, rfl, -⟩ := hf
              refine WfOp.yes (by kernel_rfl) ?_
              dsimp only
              go_wp2
              exact ⟨rfl, .pointer (some ⟨bbv, oov, none⟩), by kernel_rfl, Below.refl _ _, rfl⟩
            refine wf_stepK [26, 33] [fun _ => t26 = .bool false, fun _ => t33 = .pointer (some ⟨bbv, oov, none⟩)] (by kernel_rfl) (by kernel_rfl) (fun wf hb hf => ?_) (fun t34 => ?_)
            · obtain ⟨rfl, rfl, -⟩ := hf
              refine WfOp.yes (by kernel_rfl) ?_
              dsimp only
              go_wp2
              exact ⟨rfl, .pointer (some ⟨bbv, oov, none⟩), by kernel_rfl, Below.refl _ _, rfl⟩
            refine wf_stepK [26, 34] [fun _ => t26 = .bool false, fun _ => t34 = .pointer (some ⟨bbv, oov, none⟩)] (by kernel_rfl) (by kernel_rfl) (fun wf hb hf => ?_) (fun t35 => ?_)
            · obtain ⟨rfl, rfl, -⟩ := hf
              refine WfOp.yes (by kernel_rfl) ?_
              dsimp only
              have cz := (Below.cell (p := ⟨bbv, oov, none⟩) hb hblv).trans hcv
              go_wp2
              exact ⟨rfl, .slice RRv v[0].1.length ssv, by kernel_rfl, Below.refl _ _, rfl⟩
            refine wf_stepK [26, 35] [fun _ => t26 = .bool false, fun _ => t35 = .slice RRv v[0].1.length ssv] (by kernel_rfl) (by kernel_rfl) (fun wf hb hf => ?_) (fun t36 => ?_)
            · obtain ⟨rfl, rfl, -⟩ := hf
              refine WfOp.yes (by kernel_rfl) ?_
              dsimp only
              go_wp2
              exact ⟨rfl, .int .i64 ((v[0].1.length : Nat)), by kernel_rfl, Below.refl _ _, rfl⟩
            refine wf_stepK [26, 31, 36] [fun _ => t26 = .bool false, fun _ => t31 = .int .i64 ((x[0].1.length : Nat)), fun _ => t36 = .int .i64 ((v[0].1.length : Nat))] (by kernel_rfl) (by kernel_rfl) (fun wf hb hf => ?_) (fun t37 => ?_)
            · obtain ⟨rfl, rfl, rfl, -⟩ := hf
              refine WfOp.yes (by kernel_rfl) ?_
              dsimp only
              go_wp2
              exact ⟨rfl, .bool false, by kernel_rfl, Below.refl _ _, rfl⟩
            refine wf_doneK [26, 37] [fun _ => t26 = .bool false, fun _ => t37 = .bool false] (by kernel_rfl) (by kernel_rfl) (fun w5 b5 hf => ?_)
            obtain ⟨rfl, rfl, -⟩ := hf
            show wpList _ _ _ [_] _ _
            refine wpList_frame (by simp [Act.put]; rfl) ?_
            have B5 := btr B4 b5
            go_wp2_with fail
            refine wp_region_facts [[], [], [0, 1], [], List.range 4, [], [], [], [6, 7], [5, 6, 7, 8], List.range 10]
              [fun v' _ => v' = .slice (some ⟨bbx, oox, none⟩) x.length cx, fun v' _ => v' = .slice (some ⟨bbv, oov, none⟩) v.length cv, ZVr (AddF (x) (v)), fun v' _ => v' = .agg #[.int .i64 pc, .int .i64 pk, .int .i64 pv], ZVr (FilF (AddF (x) (v)) pc pk pv), fun v' _ => v' = .slice A3 (FilF (x) pc pk pv).length c3, fun v' _ => v' = .slice (some ⟨bbv, oov, none⟩) v.length cv, fun v' _ => v' = .agg #[.int .i64 pc, .int .i64 pk, .int .i64 pv], ZVr (FilF (v) pc pk pv), ZVr (AddF (FilF (x) pc pk pv) (FilF (v) pc pk pv)), fun v' _ => v' = .bool true]
              (by kernel_rfl) (by kernel_rfl) rfl ⟨stable_pure _, stable_pure _, stable_zVr _, stable_pure _, stable_zVr _, stable_pure _, stable_pure _, stable_pure _, stable_zVr _, stable_zVr _, stable_pure _, trivial⟩ ?_
            refine wf_stepK [] [] (by kernel_rfl) (by kernel_rfl) (fun wf hb hf => ?_) (fun t0 => ?_)
            · refine ⟨?_⟩
              go_wp2
              exact ⟨rfl, .slice (some ⟨bbx, oox, none⟩) x.length cx, by kernel_rfl, Below.refl _ _, rfl⟩
            refine wf_stepK [] [] (by kernel_rfl) (by kernel_rfl) (fun wf hb hf => ?_) (fun t1 => ?_)
            · refine ⟨?_⟩
              go_wp2
              exact ⟨rfl, .slice (some ⟨bbv, oov, none⟩) v.length cv, by kernel_rfl, Below.refl _ _, rfl⟩
            refine wf_stepK [0, 1] [fun _ => t0 = .slice (some ⟨bbx, oox, none⟩) x.length cx, fun _ => t1 = .slice (some ⟨bbv, oov, none⟩) v.length cv] (by kernel_rfl) (by kernel_rfl) (fun wf hb hf => ?_) (fun t2 => ?_)
            · obtain ⟨rfl, rfl, -⟩ := hf
              refine ⟨?_⟩
              go_wp2_with (go_at_call 19; refine (Add_i _ _ (x) _ _ (v) _ (((SlOw.at_ entO hx.1).below entR (btr (btr (btr b2 b3) b4) b5)).below entR hb) (((SlOw.at_ entO hv.1).below entR b5).below entR hb) (EntsOw.cap hx.1) (EntsOw.cap hv.1) nx rx nv rv).mono ?_; rintro e w2 ⟨AN, cN, rfl, oN, hb2⟩)
              exact ⟨rfl, .slice AN (AddF (x) (v)).length cN, by kernel_rfl, hb2, AN, cN, rfl, SlOw.at_ entO oN, EntsOw.cap oN⟩
            refine wf_stepK [] [] (by kernel_rfl) (by kernel_rfl) (fun wf hb hf => ?_) (fun t3 => ?_)
            · refine ⟨?_⟩
              have pc0 := ((hk.below (btr (btr b3 b4) b5)).below hb).cell 0
              have pc1 := ((hk.below (btr (btr b3 b4) b5)).below hb).cell 1
              have pc2 := ((hk.below (btr (btr b3 b4) b5)).below hb).cell 2
              simp at pc0 pc1 pc2
              go_wp2
              exact ⟨rfl, .agg #[.int .i64 pc, .int .i64 pk, .int .i64 pv], by kernel_rfl, Below.refl _ _, rfl⟩
            refine wf_stepK [2, 3] [ZVr (AddF (x) (v)) t2, fun _ => t3 = .agg #[.int .i64 pc, .int .i64 pk, .int .i64 pv]] (by kernel_rfl) (by kernel_rfl) (fun wf hb hf => ?_) (fun t4 => ?_)
            · obtain ⟨⟨XS1, xs1, rfl, hS1⟩, rfl, -⟩ := hf
              refine ⟨?_⟩
              go_wp2_with (go_at_call 14; refine (Filter_i _ _ (AddF (x) (v)) pc pk pv _ hS1.1 (Nat.le_trans (AddF_len' _ _) (by decide)) (rows_big (AddF_row' _ _) (by decide))).mono ?_; rintro e w2 ⟨AN, cN, rfl, oN, hb2⟩)
              exact ⟨rfl, .slice AN (FilF (AddF (x) (v)) pc pk pv).length cN, by kernel_rfl, hb2, AN, cN, rfl, SlOw.at_ entO oN, EntsOw.cap oN⟩
            refine wf_stepK [] [] (by kernel_rfl) (by kernel_rfl) (fun wf hb hf => ?_) (fun t5 => ?_)
            · refine ⟨?_⟩
              go_wp2
              exact ⟨rfl, .slice A3 (FilF (x) pc pk pv).length c3, by kernel_rfl, Below.refl _ _, rfl⟩
            refine wf_stepK [] [] (by kernel_rfl) (by kernel_rfl) (fun wf hb hf => ?_) (fun t6 => ?_)
            · refine ⟨?_⟩
              go_wp2
              exact ⟨rfl, .slice (some ⟨bbv, oov, none⟩) v.length cv, by kernel_rfl, Below.refl _ _, rfl⟩
            refine wf_stepK [] [] (by kernel_rfl) (by kernel_rfl) (fun wf hb hf => ?_) (fun t7 => ?_)
            · refine ⟨?_⟩
              have pc0 := ((hk.below (btr (btr b3 b4) b5)).below hb).cell 0
              have pc1 := ((hk.below (btr (btr b3 b4) b5)).below hb).cell 1
              have pc2 := ((hk.below (btr (btr b3 b4) b5)).below hb).cell 2
              simp at pc0 pc1 pc2
              go_wp2
              exact ⟨rfl, .agg #[.int .i64 pc, .int .i64 pk, .int .i64 pv], by kernel_rfl, Below.refl _ _, rfl⟩
            refine wf_stepK [6, 7] [fun _ => t6 = .slice (some ⟨bbv, oov, none⟩) v.length cv, fun _ => t7 = .agg #[.int .i64 pc, .int .i64 pk, .int .i64 pv]] (by kernel_rfl) (by kernel_rfl) (fun wf hb hf => ?_) (fun t8 => ?_)
            · obtain ⟨rfl, rfl, -⟩ := hf
              refine ⟨?_⟩
              go_wp2_with (go_at_call 14; refine (Filter_i _ _ (v) pc pk pv _ (((SlOw.at_ entO hv.1).below entR b5).below entR hb) nv rv).mono ?_; rintro e w2 ⟨AN, cN, rfl, oN, hb2⟩)
              exact ⟨rfl, .slice AN (FilF (v) pc pk pv).length cN, by kernel_rfl, hb2, AN, cN, rfl, SlOw.at_ entO oN, EntsOw.cap oN⟩
            refine wf_stepK [5, 8] [fun _ => t5 = .slice A3 (FilF (x) pc pk pv).length c3, ZVr (FilF (v) pc pk pv) t8] (by kernel_rfl) (by kernel_rfl) (fun wf hb hf => ?_) (fun t9 => ?_)
            · obtain ⟨rfl, ⟨XS3, xs3, rfl, hS3⟩, -⟩ := hf
              refine ⟨?_⟩
              go_wp2_with (go_at_call 19; refine (Add_i _ _ (FilF (x) pc pk pv) _ _ (FilF (v) pc pk pv) _ ((a3.below entR (btr b4 b5)).below entR hb) hS3.1 (EntsOw.cap o3) hS3.2 (Nat.le_trans (FilF_len _ _ _ _) (by decide)) (rows_big (FilF_row _ _ _ _) (by decide)) (Nat.le_trans (FilF_len _ _ _ _) (by decide)) (rows_big (FilF_row _ _ _ _) (by decide))).mono ?_; rintro e w2 ⟨AN, cN, rfl, oN, hb2⟩)
              exact ⟨rfl, .slice AN (AddF (FilF (x) pc pk pv) (FilF (v) pc pk pv)).length cN, by kernel_rfl, hb2, AN, cN, rfl, SlOw.at_ entO oN, EntsOw.cap oN⟩
            refine wf_stepK [4, 9] [ZVr (FilF (AddF (x) (v)) pc pk pv) t4, ZVr (AddF (FilF (x) pc pk pv) (FilF (v) pc pk pv)) t9] (by kernel_rfl) (by kernel_rfl) (fun wf hb hf => ?_) (fun t10 => ?_)
            · obtain ⟨⟨XS2, xs2, rfl, hS2⟩, ⟨XS4, xs4, rfl, hS4⟩, -⟩ := hf
              refine ⟨?_⟩
              go_wp2_with (go_at_call 15; refine (equalZ (xs := FilF (AddF (x) (v)) pc pk pv) (ys := AddF (FilF (x) pc pk pv) (FilF (v) pc pk pv)) true (decide_eq_true HLIN.out) hS2.1 hS4.1 (Nat.le_trans (FilF_len _ _ _ _) (by decide)) (Nat.le_trans (AddF_len' _ _) (by decide)) (rows_big (FilF_row _ _ _ _) (by decide)) (rows_big (AddF_row' _ _) (by decide))).mono ?_; rintro e w2 ⟨rfl, hb2⟩)
              exact ⟨rfl, .bool true, by kernel_rfl, hb2, rfl⟩
            refine wf_doneK [10] [fun _ => t10 = .bool true] (by kernel_rfl) (by kernel_rfl) (fun w6 b6 hf => ?_)
            obtain ⟨rfl, -⟩ := hf
            show wpList _ _ _ [_] _ _
            refine wpList_frame (by simp [Act.put]; rfl) ?_
            have B6 := btr B5 b6
            go_wp2
            go_ret
            exact ⟨rfl, B6⟩
          · have hnv : ((x[0].1.length : Int) != (v[0].1.length : Int)) = true := by rw [← hwx, ← hwv]; simp; omega
            clear hwv' hwx hwv Sx Sv
            obtain ⟨bbx, oox, RRx, ssx, hAx, hblx, hcx, -, -, hrx⟩ := (EntsAt.get (SlOw.at_ entO hx.1) 0 hpx)
            simp only [Nat.zero_mul, Nat.add_zero] at hcx
            subst hAx
            obtain ⟨bbv, oov, RRv, ssv, hAv, hblv, hcv, -, -, hrv⟩ := (EntsAt.get (SlOw.at_ entO hv.1) 0 hpv)
            simp only [Nat.zero_mul, Nat.add_zero] at hcv
            subst hAv
            go_wp2_with fail
            refine wp_region_facts [[], [], [], [1, 2], List.range 4, List.range 5, List.range 6, List.range 7, List.range 8, List.range 9, List.range 10, List.range 11, List.range 12, List.range 13, List.range 14, List.range 15, List.range 16, List.range 17, List.range 18, List.range 19, List.range 20, List.range 21, List.range 22, List.range 23, List.range 24, List.range 25, List.range 26, List.range 27, List.range 28, List.range 29, List.range 30, List.range 31, List.range 27, [0, 1, 2, 3, 4, 5, 6, 7, 8, 9, 10, 11, 12, 13, 14, 15, 16, 17, 18, 19, 20, 21, 22, 23, 24, 25, 26, 32], [0, 1, 2, 3, 4, 5, 6, 7, 8, 9, 10, 11, 12, 13, 14, 15, 16, 17, 18, 19, 20, 21, 22, 23, 24, 25, 26, 32, 33], [0, 1, 2, 3, 4, 5, 6, 7, 8, 9, 10, 11, 12, 13, 14, 15, 16, 17, 18, 19, 20, 21, 22, 23, 24, 25, 26, 32, 33, 34], [0, 1, 2, 3, 4, 5, 6, 7, 8, 9, 10, 11, 12, 13, 14, 15, 16, 17, 18, 19, 20, 21, 22, 23, 24, 25, 26, 32, 33, 34, 35], List.range 37]
              [fun v' _ => v' = .slice A3 (FilF (x) pc pk pv).length c3, fun v' _ => v' = .slice (some ⟨bbx, oox, none⟩) x.length cx, fun v' _ => v' = .agg #[.int .i64 pc, .int .i64 pk, .int .i64 pv], ZVr (FilF (x) pc pk pv), fun v' _ => v' = .bool true, fun v' _ => v' = .bool false, fun v' _ => v' = .bool false, fun v' _ => v' = .slice (some ⟨bbx, oox, none⟩) x.length cx, fun v' _ => v' = .bool true, fun v' _ => v' = .bool false, fun v' _ => v' = .bool false, fun v' _ => v' = .bool false, fun v' _ => v' = .slice (some ⟨bbv, oov, none⟩) v.length cv, fun v' _ => v' = .bool true, fun v' _ => v' = .bool false, fun v' _ => v' = .bool false, fun v' _ => v' = .bool false, fun v' _ => v' = .slice (some ⟨bbx, oox, none⟩) x.length cx, fun v' _ => v' = .int .i64 ((x.length : Nat)), fun v' _ => v' = .bool false, fun v' _ => v' = .bool false, fun v' _ => v' = .bool false, fun v' _ => v' = .slice (some ⟨bbv, oov, none⟩) v.length cv, fun v' _ => v' = .int .i64 ((v.length : Nat)), fun v' _ => v' = .bool false, fun v' _ => v' = .bool false, fun v' _ => v' = .bool false, fun v' _ => v' = .slice (some ⟨bbx, oox, none⟩) x.length cx, fun v' _ => v' = .pointer (some ⟨bbx, oox, none⟩), fun v' _ => v' = .pointer (some ⟨bbx, oox, none⟩), fun v' _ => v' = .slice RRx x[0].1.length ssx, fun v' _ => v' = .int .i64 ((x[0].1.length : Nat)), fun v' _ => v' = .slice (some ⟨bbv, oov, none⟩) v.length cv, fun v' _ => v' = .pointer (some ⟨bbv, oov, none⟩), fun v' _ => v' = .pointer (some ⟨bbv, oov, none⟩), fun v' _ => v' = .slice RRv v[0].1.length ssv, fun v' _ => v' = .int .i64 ((v[0].1.length : Nat)), fun v' _ => v' = .bool true]
              (by kernel_rfl) (by kernel_rfl) rfl ⟨stable_pure _, stable_pure _, stable_pure _, stable_zVr _, stable_pure _, stable_pure _, stable_pure _, stable_pure _, stable_pure _, stable_pure _, stable_pure _, stable_pure _, stable_pure _, stable_pure _, stable_pure _, stable_pure _, stable_pure _, stable_pure _, stable_pure _, stable_pure _, stable_pure _, stable_pure _, stable_pure _, stable_pure _, stable_pure _, stable_pure _, stable_pure _, stable_pure _, stable_pure _, stable_pure _, stable_pure _, stable_pure _, stable_pure _, stable_pure _, stable_pure _, stable_pure _, stable_pure _, stable_pure _, trivial⟩ ?_
            refine wf_stepK [] [] (by kernel_rfl) (by kernel_rfl) (fun wf hb hf => ?_) (fun t0 => ?_)
            · refine ⟨?_⟩
              go_wp2
              exact ⟨rfl, .slice A3 (FilF (x) pc pk pv).length c3, by kernel_rfl, Below.refl _ _, rfl⟩
            refine wf_stepK [] [] (by kernel_rfl) (by kernel_rfl) (fun wf hb hf => ?_) (fun t1 => ?_)
            · refine ⟨?_⟩
              go_wp2
              exact ⟨rfl, .slice (some ⟨bbx, oox, none⟩) x.length cx, by kernel_rfl, Below.refl _ _, rfl⟩
            refine wf_stepK [] [] (by kernel_rfl) (by kernel_rfl) (fun wf hb hf => ?_) (fun t2 => ?_)
            · refine ⟨?_⟩
              have pc0 := ((hk.below (btr b3 b4)).below hb).cell 0
              have pc1 := ((hk.below (btr b3 b4)).below hb).cell 1
              have pc2 := ((hk.below (btr b3 b4)).below hb).cell 2
              simp at pc0 pc1 pc2
              go_wp2
              exact ⟨rfl, .agg #[.int .i64 pc, .int .i64 pk, .int .i64 pv], by kernel_rfl, Below.refl _ _, rfl⟩
            refine wf_stepK [1, 2] [fun _ => t1 = .slice (some ⟨bbx, oox, none⟩) x.length cx, fun _ => t2 = .agg #[.int .i64 pc, .int .i64 pk, .int .i64 pv]] (by kernel_rfl) (by kernel_rfl) (fun wf hb hf => ?_) (fun t3 => ?_)
            · obtain ⟨rfl, rfl, -⟩ := hf
              refine ⟨?_⟩
              go_wp2_with (go_at_call 16; refine (Filter_s _ _ (x) pc pk pv _ (((SlOw.at_ entO hx.1).below entR (btr (btr b2 b3) b4)).below entR hb) nx rx).mono ?_; rintro e w2 ⟨AN, cN, rfl, oN, hb2⟩)
              exact ⟨rfl, .slice AN (FilF (x) pc pk pv).length cN, by kernel_rfl, hb2, AN, cN, rfl, SlOw.at_ entO oN, EntsOw.cap oN⟩
            refine wf_stepK [0, 3] [fun _ => t0 = .slice A3 (FilF (x) pc pk pv).length c3, ZVr (FilF (x) pc pk pv) t3] (by kernel_rfl) (by kernel_rfl) (fun wf hb hf => ?_) (fun t4 => ?_)
            · obtain ⟨rfl, ⟨XS1, xs1, rfl, hS1⟩, -⟩ := hf
              refine ⟨?_⟩
              go_wp2_with (go_at_call 15; refine (equalZ (xs := FilF (x) pc pk pv) (ys := FilF (x) pc pk pv) true (decide_eq_true rfl) ((a3.below entR b4).below entR hb) hS1.1 (Nat.le_trans (FilF_len _ _ _ _) (by decide)) (Nat.le_trans (FilF_len _ _ _ _) (by decide)) (rows_big (FilF_row _ _ _ _) (by decide)) (rows_big (FilF_row _ _ _ _) (by decide))).mono ?_; rintro e w2 ⟨rfl, hb2⟩)
              exact ⟨rfl, .bool true, by kernel_rfl, hb2, rfl⟩
            refine wf_stepK [4] [fun _ => t4 = .bool true] (by kernel_rfl) (by kernel_rfl) (fun wf hb hf => ?_) (fun t5 => ?_)
            · obtain ⟨rfl, -⟩ := hf
              refine ⟨?_⟩
              go_wp2
              exact ⟨rfl, .bool false, by kernel_rfl, Below.refl _ _, rfl⟩
            refine wf_stepK [5] [fun _ => t5 = .bool false] (by kernel_rfl) (by kernel_rfl) (fun wf hb hf => ?_) (fun t6 => ?_)
            · obtain ⟨rfl, -⟩ := hf
              refine ⟨?_⟩
              go_wp2
              exact ⟨rfl, .bool false, by kernel_rfl, Below.refl _ _, rfl⟩
            refine wf_stepK [6] [fun _ => t6 = .bool false] (by kernel_rfl) (by kernel_rfl) (fun wf hb hf => ?_) (fun t7 => ?_)
            · obtain ⟨rfl, -⟩ := hf
              refine WfOp.yes (by kernel_rfl) ?_
              dsimp only
              go_wp2
              exact ⟨rfl, .slice (some ⟨bbx, oox, none⟩) x.length cx, by kernel_rfl, Below.refl _ _, rfl⟩
            refine wf_stepK [6, 7] [fun _ => t6 = .bool false, fun _ => t7 = .slice (some ⟨bbx, oox, none⟩) x.length cx] (by kernel_rfl) (by kernel_rfl) (fun wf hb hf => ?_) (fun t8 => ?_)
            · obtain ⟨rfl, rfl, -⟩ := hf
              refine WfOp.yes (by kernel_rfl) ?_
              dsimp only
              go_wp2_with (go_at_call 21; refine (smallZ true HSx.out (((SlOw.at_ entO hx.1).below entR (btr (btr b2 b3) b4)).below entR hb) nx rx).mono ?_; rintro e w2 ⟨rfl, hb2⟩)
              exact ⟨rfl, .bool true, by kernel_rfl, hb2, rfl⟩
            refine wf_stepK [6, 8] [fun _ => t6 = .bool false, fun _ => t8 = .bool true] (by kernel_rfl) (by kernel_rfl) (fun wf hb hf => ?_) (fun t9 => ?_)
            · obtain ⟨rfl, rfl, -⟩ := hf
              refine WfOp.yes (by kernel_rfl) ?_
              dsimp only
              go_wp2
              exact ⟨rfl, .bool false, by kernel_rfl, Below.refl _ _, rfl⟩
            refine wf_stepK [6, 9] [fun _ => t6 = .bool false, fun _ => t9 = .bool false] (by kernel_rfl) (by kernel_rfl) (fun wf hb hf => ?_) (fun t10 => ?_)
            · obtain ⟨rfl, rfl, -⟩ := hf
              refine ⟨?_⟩
              go_wp2
              exact ⟨rfl, .bool false, by kernel_rfl, Below.refl _ _, rfl⟩
            refine wf_stepK [10] [fun _ => t10 = .bool false] (by kernel_rfl) (by kernel_rfl) (fun wf hb hf => ?_) (fun t11 => ?_)
            · obtain ⟨rfl, -⟩ := hf
              refine ⟨?_⟩
              go_wp2
              exact ⟨rfl, .bool false, by kernel_rfl, Below.refl _ _, rfl⟩
            refine wf_stepK [11] [fun _ => t11 = .bool false] (by kernel_rfl) (by kernel_rfl) (fun wf hb hf => ?_) (fun t12 => ?_)
            · obtain ⟨rfl, -⟩ := hf
              refine WfOp.yes (by kernel_rfl) ?_
              dsimp only
              go_wp2
              exact ⟨rfl, .slice (some ⟨bbv, oov, none⟩) v.length cv, by kernel_rfl, Below.refl _ _, rfl⟩
            refine wf_stepK [11, 12] [fun _ => t11 = .bool false, fun _ => t12 = .slice (some ⟨bbv, oov, none⟩) v.length cv] (by kernel_rfl) (by kernel_rfl) (fun wf hb hf => ?_) (fun t13 => ?_)
            · obtain ⟨rfl, rfl, -⟩ := hf
              refine WfOp.yes (by kernel_rfl) ?_
              dsimp only
              go_wp2_with (go_at_call 21; refine (smallZ true HSv.out ((SlOw.at_ entO hv.1).below entR hb) nv rv).mono ?_; rintro e w2 ⟨rfl, hb2⟩)
              exact ⟨rfl, .bool true, by kernel_rfl, hb2, rfl⟩
            refine wf_stepK [11, 13] [fun _ => t11 = .bool false, fun _ => t13 = .bool true] (by kernel_rfl) (by kernel_rfl) (fun wf hb hf => ?_) (fun t14 => ?_)
            · obtain ⟨rfl, rfl, -⟩ := hf
              refine WfOp.yes (by kernel_rfl) ?_
              dsimp only
              go_wp2
              exact ⟨rfl, .bool false, by kernel_rfl, Below.refl _ _, rfl⟩
            refine wf_stepK [11, 14] [fun _ => t11 = .bool false, fun _ => t14 = .bool false] (by kernel_rfl) (by kernel_rfl) (fun wf hb hf => ?_) (fun t15 => ?_)
            · obtain ⟨rfl, rfl, -⟩ := hf
              refine ⟨?_⟩
              go_wp2
              exact ⟨rfl, .bool false, by kernel_rfl, Below.refl _ _, rfl⟩
            refine wf_stepK [15] [fun _ => t15 = .bool false] (by kernel_rfl) (by kernel_rfl) (fun wf hb hf => ?_) (fun t16 => ?_)
            · obtain ⟨rfl, -⟩ := hf
              refine ⟨?_⟩
              go_wp2
              exact ⟨rfl, .bool false, by kernel_rfl, Below.refl _ _, rfl⟩
            refine wf_stepK [16] [fun _ => t16 = .bool false] (by kernel_rfl) (by kernel_rfl) (fun wf hb hf => ?_) (fun t17 => ?_)
            · obtain ⟨rfl, -⟩ := hf
              refine WfOp.yes (by kernel_rfl) ?_
              dsimp only
              go_wp2
              exact ⟨rfl, .slice (some ⟨bbx, oox, none⟩) x.length cx, by kernel_rfl, Below.refl _ _, rfl⟩
            refine wf_stepK [16, 17] [fun _ => t16 = .bool false, fun _ => t17 = .slice (some ⟨bbx, oox, none⟩) x.length cx] (by kernel_rfl) (by kernel_rfl) (fun wf hb hf => ?_) (fun t18 => ?_)
            · obtain ⟨rfl, rfl, -⟩ := hf
              refine WfOp.yes (by kernel_rfl) ?_
              dsimp only
              go_wp2
              exact ⟨rfl, .int .i64 ((x.length : Nat)), by kernel_rfl, Below.refl _ _, rfl⟩
            refine wf_stepK [16, 18] [fun _ => t16 = .bool false, fun _ => t18 = .int .i64 ((x.length : Nat))] (by kernel_rfl) (by kernel_rfl) (fun wf hb hf => ?_) (fun t19 => ?_)
            · obtain ⟨rfl, rfl, -⟩ := hf
              refine WfOp.yes (by kernel_rfl) ?_
              dsimp only
              go_wp2
              exact ⟨rfl, .bool false, by kernel_rfl, Below.refl _ _, rfl⟩
            refine wf_stepK [16, 19] [fun _ => t16 = .bool false, fun _ => t19 = .bool false] (by kernel_rfl) (by kernel_rfl) (fun wf hb hf => ?_) (fun t20 => ?_)
            · obtain ⟨rfl, rfl, -⟩ := hf
              refine ⟨?_⟩
              go_wp2
              exact ⟨rfl, .bool false, by kernel_rfl, Below.refl _ _, rfl⟩
            refine wf_stepK [20] [fun _ => t20 = .bool false] (by kernel_rfl) (by kernel_rfl) (fun wf hb hf => ?_) (fun t21 => ?_)
            · obtain ⟨rfl, -⟩ := hf
              refine ⟨?_⟩
              go_wp2
              exact ⟨rfl, .bool false, by kernel_rfl, Below.refl _ _, rfl⟩
            refine wf_stepK [21] [fun _ => t21 = .bool false] (by kernel_rfl) (by kernel_rfl) (fun wf hb hf => ?_) (fun t22 => ?_)
            · obtain ⟨rfl, -⟩ := hf
              refine WfOp.yes (by kernel_rfl) ?_
              dsimp only
              go_wp2
              exact ⟨rfl, .slice (some ⟨bbv, oov, none⟩) v.length cv, by kernel_rfl, Below.refl _ _, rfl⟩
            refine wf_stepK [21, 22] [fun _ => t21 = .bool false, fun _ => t22 = .slice (some ⟨bbv, oov, none⟩) v.length cv] (by kernel_rfl) (by kernel_rfl) (fun wf hb hf => ?_) (fun t23 => ?_)
            · obtain ⟨rfl, rfl, -⟩ := hf
              refine WfOp.yes (by kernel_rfl) ?_
              dsimp only
              go_wp2
              exact ⟨rfl, .int .i64 ((v.length : Nat)), by kernel_rfl, Below.refl _ _, rfl⟩
            refine wf_stepK [21, 23] [fun _ => t21 = .bool false, fun _ => t23 = .int .i64 ((v.length : Nat))] (by kernel_rfl) (by kernel_rfl) (fun wf hb hf => ?_) (fun t24 => ?_)
            · obtain ⟨rfl, rfl, -⟩ := hf
              refine WfOp.yes (by kernel_rfl) ?_
              dsimp only
              go_wp2
              exact ⟨rfl, .bool false, by kernel_rfl, Below.refl _ _, rfl⟩
            refine wf_stepK [21, 24] [fun _ => t21 = .bool false, fun _ => t24 = .bool false] (by kernel_rfl) (by kernel_rfl) (fun wf hb hf => ?_) (fun t25 => ?_)
            · obtain ⟨rfl, rfl, -⟩ := hf
              refine ⟨?_⟩
              go_wp2
              exact ⟨rfl, .bool false, by kernel_rfl, Below.refl _ _, rfl⟩
            refine wf_stepK [25] [fun _ => t25 = .bool false] (by kernel_rfl) (by kernel_rfl) (fun wf hb hf => ?_) (fun t26 => ?_)
            · obtain ⟨rfl, -⟩ := hf
              refine ⟨?_⟩
              go_wp2
              exact ⟨rfl, .bool false, by kernel_rfl, Below.refl _ _, rfl⟩
            refine wf_stepK [26] [fun _ => t26 = .bool false] (by kernel_rfl) (by kernel_rfl) (fun wf hb hf => ?_) (fun t27 => ?_)
            · obtain ⟨rfl, -⟩ := hf
              refine WfOp.yes (by kernel_rfl) ?_
              dsimp only
              go_wp2
              exact ⟨rfl, .slice (some ⟨bbx, oox, none⟩) x.length cx, by kernel_rfl, Below.refl _ _, rfl⟩
            refine wf_stepK [26, 27] [fun _ => t26 = .bool false, fun _ => t27 = .slice (some ⟨bbx, oox, none⟩) x.length cx] (by kernel_rfl) (by kernel_rfl) (fun wf hb hf => ?_) (fun t28 => ?_)
            · obtain ⟨rfl, rfl, -⟩ := hf
              refine WfOp.yes (by kernel_rfl) ?_
              dsimp only
              go_wp2
              exact ⟨rfl, .pointer (some ⟨bbx, oox, none⟩), by kernel_rfl, Below.refl _ _, rfl⟩
            refine wf_stepK [26, 28] [fun _ => t26 = .bool false, fun _ => t28 = .pointer (some ⟨bbx, oox, none⟩)] (by kernel_rfl) (by kernel_rfl) (fun wf hb hf => ?_) (fun t29 => ?_)
            · obtain ⟨rfl, rfl, -⟩ := hf
              refine WfOp.yes (by kernel_rfl) ?_
              dsimp only
              go_wp2
              exact ⟨rfl, .pointer (some ⟨bbx, oox, none⟩), by kernel_rfl, Below.refl _ _, rfl⟩
            refine wf_stepK [26, 29] [fun _ => t26 = .bool false, fun _ => t29 = .pointer (some ⟨bbx, oox, none⟩)] (by kernel_rfl) (by kernel_rfl) (fun wf hb hf => ?_) (fun t30 => ?_)
            · obtain ⟨rfl, rfl, -⟩ := hf
              refine WfOp.yes (by kernel_rfl) ?_
              dsimp only
              have cz := (Below.cell (p := ⟨bbx, oox, none⟩) (btr (btr (btr b2 b3) b4) hb) hblx).trans hcx
              go_wp2
              exact ⟨rfl, .slice RRx x[0].1.length ssx, by kernel_rfl, Below.refl _ _, rfl⟩
            refine wf_stepK [26, 30] [fun _ => t26 = .bool false, fun _ => t30 = .slice RRx x[0].1.length ssx] (by kernel_rfl) (by kernel_rfl) (fun wf hb hf => ?_) (fun t31 => ?_)
            · obtain ⟨rfl, rfl, -⟩ := hf
              refine WfOp.yes (by kernel_rfl) ?_
              dsimp only
              go_wp2
              exact ⟨rfl, .int .i64 ((x[0].1.length : Nat)), by kernel_rfl, Below.refl _ _, rfl⟩
            refine wf_stepK [26] [fun _ => t26 = .bool false] (by kernel_rfl) (by kernel_rfl) (fun wf hb hf => ?_) (fun t32 => ?_)
            · obtain ⟨rfl, -⟩ := hf
              refine WfOp.yes (by kernel_rfl) ?_
              dsimp only
              go_wp2
              exact ⟨rfl, .slice (some ⟨bbv, oov, none⟩) v.length cv, by kernel_rfl, Below.refl _ _, rfl⟩
            refine wf_stepK [26, 32] [fun _ => t26 = .bool false, fun _ => t32 = .slice (some ⟨bbv, oov, none⟩) v.length cv] (by kernel_rfl) (by kernel_rfl) (fun wf hb hf => ?_) (fun t33 => ?_)
            · obtain ⟨rfl, rfl, -⟩ := hf
              refine WfOp.yes (by kernel_rfl) ?_
              dsimp only
              go_wp2
              exact ⟨rfl, .pointer (some ⟨bbv, oov, none⟩), by kernel_rfl, Below.refl _ _, rfl⟩
            refine wf_stepK [26, 33] [fun _ => t26 = .bool false, fun _ => t33 = .pointer (some ⟨bbv, oov, none⟩)] (by kernel_rfl) (by kernel_rfl) (fun wf hb hf => ?_) (fun t34 => ?_)
            · obtain ⟨rfl, rfl, -⟩ := hf
              refine WfOp.yes (by kernel_rfl) ?_
              dsimp only
              go_wp2
              exact ⟨rfl, .pointer (some ⟨bbv, oov, none⟩), by kernel_rfl, Below.refl _ _, rfl⟩
            refine wf_stepK [26, 34] [fun _ => t26 = .bool false, fun _ => t34 = .pointer (some ⟨bbv, oov, none⟩)] (by kernel_rfl) (by kernel_rfl) (fun wf hb hf => ?_) (fun t35 => ?_)
            · obtain ⟨rfl, rfl, -⟩ := hf
              refine WfOp.yes (by kernel_rfl) ?_
              dsimp only
              have cz := (Below.cell (p := ⟨bbv, oov, none⟩) hb hblv).trans hcv
              go_wp2
              exact ⟨rfl, .slice RRv v[0].1.length ssv, by kernel_rfl, Below.refl _ _, rfl⟩
            refine wf_stepK [26, 35] [fun _ => t26 = .bool false, fun _ => t35 = .slice RRv v[0].1.length ssv] (by kernel_rfl) (by kernel_rfl) (fun wf hb hf => ?_) (fun t36 => ?_)
            · obtain ⟨rfl, rfl, -⟩ := hf
              refine WfOp.yes (by kernel_rfl) ?_
              dsimp only
              go_wp2
              exact ⟨rfl, .int .i64 ((v[0].1.length : Nat)), by kernel_rfl, Below.refl _ _, rfl⟩
            refine wf_stepK [26, 31, 36] [fun _ => t26 = .bool false, fun _ => t31 = .int .i64 ((x[0].1.length : Nat)), fun _ => t36 = .int .i64 ((v[0].1.length : Nat))] (by kernel_rfl) (by kernel_rfl) (fun wf hb hf => ?_) (fun t37 => ?_)
            · obtain ⟨rfl, rfl, rfl, -⟩ := hf
              refine WfOp.yes (by kernel_rfl) ?_
              dsimp only
              go_wp2
              exact ⟨rfl, .bool true, by kernel_rfl, Below.refl _ _, rfl⟩
            refine wf_doneK [26, 37] [fun _ => t26 = .bool false, fun _ => t37 = .bool true] (by kernel_rfl) (by kernel_rfl) (fun w5 b5 hf => ?_)
            obtain ⟨rfl, rfl, -⟩ := hf
            show wpList _ _ _ [_] _ _
            refine wpList_frame (by simp [Act.put]; rfl) ?_
            have B5 := btr B4 b5
            have pc0 := (hk.below (btr (btr b3 b4) b5)).cell 0
            have pc1 := (hk.below (btr (btr b3 b4) b5)).cell 1
            have pc2 := (hk.below (btr (btr b3 b4) b5)).cell 2
            simp at pc0 pc1 pc2
            go_wp2_with fail
            refine (Filter_s _ _ (x) pc pk pv _ ((SlOw.at_ entO hx.1).below entR (btr (btr (btr b2 b3) b4) b5)) nx rx).mono ?_
            rintro e w6 ⟨A6, c6, rfl, o6, b6⟩
            have B6 := btr B5 b6
            have a6 : EntsAt w6 A6 (FilF (x) pc pk pv) := SlOw.at_ entO o6
            clear pc0 pc1 pc2
            go_wp2_with fail
            refine (equalZ (xs := FilF (x) pc pk pv) (ys := FilF (x) pc pk pv) true (decide_eq_true rfl) (a3.below entR (btr (btr b4 b5) b6)) a6 (Nat.le_trans (FilF_len _ _ _ _) (by decide)) (Nat.le_trans (FilF_len _ _ _ _) (by decide)) (rows_big (FilF_row _ _ _ _) (by decide)) (rows_big (FilF_row _ _ _ _) (by decide))).mono ?_
            rintro e w7 ⟨rfl, b7⟩
            have B7 := btr B6 b7
            go_wp2_with fail
            go_ret
            exact ⟨rfl, B7⟩

namespace lawFnFilterLinear
theorem own : ownKnob Try.prog.godebug = none := by kernel_rfl
theorem laidOut : laidOutB Try.prog = true := clo_laid
set_option maxRecDepth 100000 in
theorem lifted (os : Os) (started : os.Started) (H : Type) (enc : TypeId × Value → H) :
    ReturnsInHanded {} Try.checked os 4 .any (Rows.fnFilterLinearSpec.pre6 enc Try.prog Try.f4 Rows.fnFilterLinearRow.domain false) (Rows.fnFilterLinearSpec.post enc Try.prog Try.f4 false true false false) := by
  refine returnsInHanded_of_change (C := Try.checked) own started (by kernel_rfl) Try.func4
    (ChangeSpec.witness6 (enc := enc) (C := Try.checked) false ⟨#[], #[.slice none 0 0, .slice none 0 0], []⟩ 8 (by kernel_rfl) (by kernel_rfl) (by kernel_rfl) (by kernel_rfl)) ?_
  intro W base args ds gs before hval0 hW hcnd _
  have hval : ∀ (j : Nat) t v, Try.f4.params[j]? = some t → args[j]? = some v → Value.okWide Try.prog W .any base t v := hval0
  have hW' := hW
  obtain ⟨p, q, hA0, hV, rfl, hfz, hnd⟩ := hW
  have hA : DataW.TrodAll enc Try.prog W 0 (fun _ => true) true Try.f4.params.toList args.toList ds p := hA0
  rw [Try.params4] at hA hval
  obtain ⟨v0, vs0, d0, ds0, p0, q0, hargs, rfl, rfl, h0, r0⟩ := trodAll_cons hA
  obtain ⟨v1, vs1, d1, ds1, p1, q1, rfl, rfl, rfl, h1, r1⟩ := trodAll_cons r0
  obtain ⟨rfl, rfl, rfl⟩ := trodAll_nil r1
  obtain rfl : args = #[v0, v1] := by cases args; simp_all
  obtain ⟨rfl, rfl⟩ := trodVars_none hV
  have k0 := h0
  have lt0 : ∀ x ∈ p0, x.block < W.heap.size := by obtain ⟨m, hm⟩ := k0; exact DataW.trod_lt m _ _ _ hm
  obtain ⟨a0, len0, cap0, rfl⟩ := okWide_slice Try.underlying22 (hval 0 22 v0 rfl rfl)
  obtain ⟨l0, m0, w0⟩ := bytes_of Try.underlying22 Try.underlying5 (by kernel_rfl) h0
  have k1 := h1
  have lt1 : ∀ x ∈ p1, x.block < W.heap.size := by obtain ⟨m, hm⟩ := k1; exact DataW.trod_lt m _ _ _ hm
  obtain ⟨a1, len1, cap1, rfl⟩ := okWide_slice Try.underlying22 (hval 1 22 v1 rfl rfl)
  obtain ⟨l1, m1, w1⟩ := bytes_of Try.underlying22 Try.underlying5 (by kernel_rfl) h1
  clear hA0 hval0
  refine (FnFilterLinear_walk a0 len0 cap0 a1 len1 cap1 W l0 m0 w0 l1 m1 w1).mono fun e W' ⟨he, bel⟩ => ?_
  subst he
  exact ⟨_, rfl, _, _, _, [], _, [], hW', trodAll_mk1 (shut_bool Try.underlying4 _), (trodAll_cons_mk (Below.trod laidOut (by kernel_rfl) (of_decide_eq_true (by kernel_rfl)) k0 bel lt0) (trodAll_cons_mk (Below.trod laidOut (by kernel_rfl) (of_decide_eq_true (by kernel_rfl)) k1 bel lt1) trodAll_mk0)), rfl, bel.frame _, fun h => by cases h⟩
theorem andTT {a b : Bool} (h1 : a = true) (h2 : b = true) : (a && b) = true := by rw [h1, h2]; rfl
set_option maxHeartbeats 8000000 in
theorem closed : joinedFacts Try.prog 4 Try.f4 Rows.fnFilterLinearSpec Rows.fnFilterLinearRow = true := by
  unfold joinedFacts
  repeat' (with_reducible refine andTT ?_ ?_)
  all_goals (first | (with_reducible exact clo_laid) | (with_reducible exact clo_maps) | (with_reducible exact clo_heard) | (with_reducible exact clo_enter) | ((with_reducible refine clo_plain _ ?_); rfl) | ((with_reducible refine clo_lifts _ ?_); rfl) | (as_aux_lemma => kernel_rfl))

theorem over : Rows.fnFilterLinearRow.holds Try.pinned (OpenSpec.ofChange Rows.fnFilterLinearSpec) :=
  OpenClaim.holds_of_wide 4 Try.f4 rfl rfl rfl rfl rfl rfl rfl ⟨rfl, rfl, rfl, rfl, rfl⟩ rfl rfl rfl rfl rfl (by kernel_rfl) Try.func4 closed
    (of_decide_eq_true (by kernel_rfl)) (by unfold Func.isWrapper; first | (rw [if_pos (by decide +kernel)]; kernel_rfl) | (rw [if_neg (by decide +kernel)]; exact ⟨rfl, rfl⟩))
    (fun os started H enc _ => lifted os started H enc)

/-- THE STATEMENT. -/
theorem proved : Rows.FnFilterLinearSaid := over
end lawFnFilterLinear
end Go.Proofs.Ytjlpkfcdkmcjnaa
