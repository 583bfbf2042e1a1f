/- The law FnFilter returns true at every code; no condition. -/
import Derived.Test.YtjlpkfcdkmcjnaaDrawP
import Derived.Test.YtjlpkfcdkmcjnaaGrd
import Derived.Test.YtjlpkfcdkmcjnaaEntO
import Derived.Test.YtjlpkfcdkmcjnaaFilD
import Derived.Test.YtjlpkfcdkmcjnaaClo
import Derived.Carry
import Derived.ChangeOld
import Derived.Lib.SmallJoins
import Derived.Lib.QuietBelow
namespace Go.Proofs.Ytjlpkfcdkmcjnaa
open Go.ChangeShapes Go.WideShapes Go.ChangeAt Go.RowKit Go.Sort
set_option linter.unusedVariables false
set_option linter.unusedSimpArgs false

theorem absCF {P : Program} {f : FuncId} {args : Array Value} {w : World} {Q : Ending → World → Prop} (R : World → Prop) (h : R w) (k : ∀ W, R W → Calls P f args W Q) : Calls P f args w Q := k w h

set_option maxRecDepth 100000 in
set_option maxHeartbeats 6400000 in
theorem FnFilter_walk (A : Option Addr) (n c : Nat) (w : World) (hc : n ≤ c) (hl : n ≤ maxLen) (hb : BytesAt w w.heap.size A n) :
    Calls Try.prog 3 #[.slice A n c] w fun e w' => e = .returned (.bool true) ∧ Below w.heap.size w w' := by
  unfold maxLen at hl
  by_cases hbign : 1048576 < n
  · have hb' : (1048576 : Int) < n := by omega
    go_enter Try.func3, Try.ntmps3
    go_wp2
    go_ret
    exact ⟨rfl, Below.refl _ _⟩
  have hbn' : (n : Int) ≤ 1048576 := by omega
  have HB := Lib.hid hb
  clear hb hbign
  go_enter Try.func3, Try.ntmps3
  go_wp2_with fail
  refine (DrawFilter_r _ _ _ _ HB.out hc (by omega)).mono ?_
  rintro e w1 ⟨x, Ax, cx, pc, pk, pv, rfl, hx, B1⟩
  have nx : x.length ≤ 4194304 := by have := hx.2.1; omega
  have rx : rowsIn x 4194304 := rows_big hx.2.2.1 (by decide)
  go_wp2_with fail
  refine absCF (fun W => Below w1.heap.size w1 W ∧ Blk W w1.heap.size 25 #[.int .i64 pc, .int .i64 pk, .int .i64 pv]) ⟨bal (Below.refl _ _) _, Blk.newAt rfl⟩ ?_
  rintro w2 ⟨b2, hk⟩
  have B2 := btr B1 b2
  refine (Filter_i _ _ (x) pc pk pv _ ((SlOw.at_ entO hx.1).below entR b2) nx rx).mono ?_
  rintro e w3 ⟨A3, c3, rfl, o3, b3⟩
  have B3 := btr B2 b3
  have a3 : EntsAt w3 A3 (FilF (x) pc pk pv) := SlOw.at_ entO o3
  cases hv : zsB x
  · have HV := Lib.hid hv
    clear hv
    go_wp2_with fail
    refine wp_region_facts [[], [], [], [1, 2], List.range 4, List.range 5, List.range 6, List.range 7, List.range 8, List.range 9, List.range 10, List.range 11, List.range 12, List.range 13, List.range 14, List.range 15, List.range 16, List.range 17, List.range 17, [0, 1, 2, 3, 4, 5, 6, 7, 8, 9, 10, 11, 12, 13, 14, 15, 16, 18], [0, 1, 2, 3, 4, 5, 6, 7, 8, 9, 10, 11, 12, 13, 14, 15, 16, 18, 19], [0, 1, 2, 3, 4, 5, 6, 7, 8, 9, 10, 11, 12, 13, 14, 15, 16, 18, 19, 20], [0, 1, 2, 3, 4, 5, 6, 7, 8, 9, 10, 11, 12, 13, 14, 15, 16, 18, 19, 20, 21], List.range 23, List.range 24]
      [fun v' _ => v' = .slice A3 (FilF (x) pc pk pv).length c3, fun v' _ => v' = .slice Ax x.length cx, fun v' _ => v' = .agg #[.int .i64 pc, .int .i64 pk, .int .i64 pv], ZVr (FilF (x) pc pk pv), fun v' _ => v' = .bool true, fun v' _ => v' = .bool false, fun v' _ => v' = .bool false, fun v' _ => v' = .slice Ax x.length cx, fun v' _ => v' = .bool false, fun v' _ => v' = .bool true, fun v' _ => v' = .bool true, fun v' _ => v' = .bool true, fun v' _ => v' = undef, fun v' _ => v' = undef, fun v' _ => v' = undef, fun v' _ => v' = .bool true, fun v' _ => v' = .bool true, fun v' _ => v' = undef, fun v' _ => v' = undef, fun v' _ => v' = undef, fun v' _ => v' = undef, fun v' _ => v' = undef, fun v' _ => v' = undef, fun v' _ => v' = undef, fun v' _ => v' = undef]
      (by kernel_rfl) (by kernel_rfl) rfl ⟨stable_pure _, stable_pure _, stable_pure _, stable_zVr _, stable_pure _, stable_pure _, stable_pure _, stable_pure _, stable_pure _, stable_pure _, stable_pure _, stable_pure _, stable_pure _, stable_pure _, stable_pure _, stable_pure _, stable_pure _, stable_pure _, stable_pure _, stable_pure _, stable_pure _, stable_pure _, stable_pure _, stable_pure _, stable_pure _, trivial⟩ ?_
    refine wf_stepK [] [] (by kernel_rfl) (by kernel_rfl) (fun wf hb hf => ?_) (fun t0 => ?_)
    · refine ⟨?_⟩
      go_wp2
      exact ⟨rfl, .slice A3 (FilF (x) pc pk pv).length c3, by kernel_rfl, Below.refl _ _, rfl⟩
    refine wf_stepK [] [] (by kernel_rfl) (by kernel_rfl) (fun wf hb hf => ?_) (fun t1 => ?_)
    · refine ⟨?_⟩
      go_wp2
      exact ⟨rfl, .slice Ax x.length cx, by kernel_rfl, Below.refl _ _, rfl⟩
    refine wf_stepK [] [] (by kernel_rfl) (by kernel_rfl) (fun wf hb hf => ?_) (fun t2 => ?_)
    · refine ⟨?_⟩
      have pc0 := ((hk.below b3).below hb).cell 0
      have pc1 := ((hk.below b3).below hb).cell 1
      have pc2 := ((hk.below b3).below hb).cell 2
      simp at pc0 pc1 pc2
      go_wp2
      exact ⟨rfl, .agg #[.int .i64 pc, .int .i64 pk, .int .i64 pv], by kernel_rfl, Below.refl _ _, rfl⟩
    refine wf_stepK [1, 2] [fun _ => t1 = .slice Ax x.length cx, fun _ => t2 = .agg #[.int .i64 pc, .int .i64 pk, .int .i64 pv]] (by kernel_rfl) (by kernel_rfl) (fun wf hb hf => ?_) (fun t3 => ?_)
    · obtain ⟨rfl, rfl, -⟩ := hf
      refine ⟨?_⟩
      go_wp2_with (go_at_call 16; refine (Filter_s _ _ (x) pc pk pv _ (((SlOw.at_ entO hx.1).below entR (btr b2 b3)).below entR hb) nx rx).mono ?_; rintro e w2 ⟨AN, cN, rfl, oN, hb2⟩)
      exact ⟨rfl, .slice AN (FilF (x) pc pk pv).length cN, by kernel_rfl, hb2, AN, cN, rfl, SlOw.at_ entO oN, EntsOw.cap oN⟩
    refine wf_stepK [0, 3] [fun _ => t0 = .slice A3 (FilF (x) pc pk pv).length c3, ZVr (FilF (x) pc pk pv) t3] (by kernel_rfl) (by kernel_rfl) (fun wf hb hf => ?_) (fun t4 => ?_)
    · obtain ⟨rfl, ⟨XS1, xs1, rfl, hS1⟩, -⟩ := hf
      refine ⟨?_⟩
      go_wp2_with (go_at_call 15; refine (equalZ (xs := FilF (x) pc pk pv) (ys := FilF (x) pc pk pv) true (decide_eq_true rfl) (a3.below entR hb) hS1.1 (Nat.le_trans (FilF_len _ _ _ _) (by decide)) (Nat.le_trans (FilF_len _ _ _ _) (by decide)) (rows_big (FilF_row _ _ _ _) (by decide)) (rows_big (FilF_row _ _ _ _) (by decide))).mono ?_; rintro e w2 ⟨rfl, hb2⟩)
      exact ⟨rfl, .bool true, by kernel_rfl, hb2, rfl⟩
    refine wf_stepK [4] [fun _ => t4 = .bool true] (by kernel_rfl) (by kernel_rfl) (fun wf hb hf => ?_) (fun t5 => ?_)
    · obtain ⟨rfl, -⟩ := hf
      refine ⟨?_⟩
      go_wp2
      exact ⟨rfl, .bool false, by kernel_rfl, Below.refl _ _, rfl⟩
    refine wf_stepK [5] [fun _ => t5 = .bool false] (by kernel_rfl) (by kernel_rfl) (fun wf hb hf => ?_) (fun t6 => ?_)
    · obtain ⟨rfl, -⟩ := hf
      refine ⟨?_⟩
      go_wp2
      exact ⟨rfl, .bool false, by kernel_rfl, Below.refl _ _, rfl⟩
    refine wf_stepK [6] [fun _ => t6 = .bool false] (by kernel_rfl) (by kernel_rfl) (fun wf hb hf => ?_) (fun t7 => ?_)
    · obtain ⟨rfl, -⟩ := hf
      refine WfOp.yes (by kernel_rfl) ?_
      dsimp only
      go_wp2
      exact ⟨rfl, .slice Ax x.length cx, by kernel_rfl, Below.refl _ _, rfl⟩
    refine wf_stepK [6, 7] [fun _ => t6 = .bool false, fun _ => t7 = .slice Ax x.length cx] (by kernel_rfl) (by kernel_rfl) (fun wf hb hf => ?_) (fun t8 => ?_)
    · obtain ⟨rfl, rfl, -⟩ := hf
      refine WfOp.yes (by kernel_rfl) ?_
      dsimp only
      go_wp2_with (go_at_call 17; refine (validZ false HV.out (((SlOw.at_ entO hx.1).below entR (btr b2 b3)).below entR hb) nx rx).mono ?_; rintro e w2 ⟨rfl, hb2⟩)
      exact ⟨rfl, .bool false, by kernel_rfl, hb2, rfl⟩
    refine wf_stepK [6, 8] [fun _ => t6 = .bool false, fun _ => t8 = .bool false] (by kernel_rfl) (by kernel_rfl) (fun wf hb hf => ?_) (fun t9 => ?_)
    · obtain ⟨rfl, rfl, -⟩ := hf
      refine WfOp.yes (by kernel_rfl) ?_
      dsimp only
      go_wp2
      exact ⟨rfl, .bool true, by kernel_rfl, Below.refl _ _, rfl⟩
    refine wf_stepK [6, 9] [fun _ => t6 = .bool false, fun _ => t9 = .bool true] (by kernel_rfl) (by kernel_rfl) (fun wf hb hf => ?_) (fun t10 => ?_)
    · obtain ⟨rfl, rfl, -⟩ := hf
      refine ⟨?_⟩
      go_wp2
      exact ⟨rfl, .bool true, by kernel_rfl, Below.refl _ _, rfl⟩
    refine wf_stepK [10] [fun _ => t10 = .bool true] (by kernel_rfl) (by kernel_rfl) (fun wf hb hf => ?_) (fun t11 => ?_)
    · obtain ⟨rfl, -⟩ := hf
      refine ⟨?_⟩
      go_wp2
      exact ⟨rfl, .bool true, by kernel_rfl, Below.refl _ _, rfl⟩
    refine wf_stepK [11] [fun _ => t11 = .bool true] (by kernel_rfl) (by kernel_rfl) (fun wf hb hf => ?_) (fun t12 => ?_)
    · obtain ⟨rfl, -⟩ := hf
      exact WfOp.no (by kernel_rfl) rfl
    refine wf_stepK [11, 12] [fun _ => t11 = .bool true, fun _ => t12 = undef] (by kernel_rfl) (by kernel_rfl) (fun wf hb hf => ?_) (fun t13 => ?_)
    · obtain ⟨rfl, rfl, -⟩ := hf
      exact WfOp.no (by kernel_rfl) rfl
    refine wf_stepK [11, 13] [fun _ => t11 = .bool true, fun _ => t13 = undef] (by kernel_rfl) (by kernel_rfl) (fun wf hb hf => ?_) (fun t14 => ?_)
    · obtain ⟨rfl, rfl, -⟩ := hf
      exact WfOp.no (by kernel_rfl) rfl
    refine wf_stepK [11, 14] [fun _ => t11 = .bool true, fun _ => t14 = undef] (by kernel_rfl) (by kernel_rfl) (fun wf hb hf => ?_) (fun t15 => ?_)
    · obtain ⟨rfl, rfl, -⟩ := hf
      refine ⟨?_⟩
      go_wp2
      exact ⟨rfl, .bool true, by kernel_rfl, Below.refl _ _, rfl⟩
    refine wf_stepK [15] [fun _ => t15 = .bool true] (by kernel_rfl) (by kernel_rfl) (fun wf hb hf => ?_) (fun t16 => ?_)
    · obtain ⟨rfl, -⟩ := hf
      refine ⟨?_⟩
      go_wp2
      exact ⟨rfl, .bool true, by kernel_rfl, Below.refl _ _, rfl⟩
    refine wf_stepK [16] [fun _ => t16 = .bool true] (by kernel_rfl) (by kernel_rfl) (fun wf hb hf => ?_) (fun t17 => ?_)
    · obtain ⟨rfl, -⟩ := hf
      exact WfOp.no (by kernel_rfl) rfl
    refine wf_stepK [16] [fun _ => t16 = .bool true] (by kernel_rfl) (by kernel_rfl) (fun wf hb hf => ?_) (fun t18 => ?_)
    · obtain ⟨rfl, -⟩ := hf
      exact WfOp.no (by kernel_rfl) rfl
    refine wf_stepK [16, 18] [fun _ => t16 = .bool true, fun _ => t18 = undef] (by kernel_rfl) (by kernel_rfl) (fun wf hb hf => ?_) (fun t19 => ?_)
    · obtain ⟨rfl, rfl, -⟩ := hf
      exact WfOp.no (by kernel_rfl) rfl
    refine wf_stepK [16, 19] [fun _ => t16 = .bool true, fun _ => t19 = undef] (by kernel_rfl) (by kernel_rfl) (fun wf hb hf => ?_) (fun t20 => ?_)
    · obtain ⟨rfl, rfl, -⟩ := hf
      exact WfOp.no (by kernel_rfl) rfl
    refine wf_stepK [16, 20] [fun _ => t16 = .bool true, fun _ => t20 = undef] (by kernel_rfl) (by kernel_rfl) (fun wf hb hf => ?_) (fun t21 => ?_)
    · obtain ⟨rfl, rfl, -⟩ := hf
      exact WfOp.no (by kernel_rfl) rfl
    refine wf_stepK [16, 21] [fun _ => t16 = .bool true, fun _ => t21 = undef] (by kernel_rfl) (by kernel_rfl) (fun wf hb hf => ?_) (fun t22 => ?_)
    · obtain ⟨rfl, rfl, -⟩ := hf
      exact WfOp.no (by kernel_rfl) rfl
    refine wf_stepK [16, 17, 22] [fun _ => t16 = .bool true, fun _ => t17 = undef, fun _ => t22 = undef] (by kernel_rfl) (by kernel_rfl) (fun wf hb hf => ?_) (fun t23 => ?_)
    · obtain ⟨rfl, rfl, rfl, -⟩ := hf
      exact WfOp.no (by kernel_rfl) rfl
    refine wf_stepK [16, 23] [fun _ => t16 = .bool true, fun _ => t23 = undef] (by kernel_rfl) (by kernel_rfl) (fun wf hb hf => ?_) (fun t24 => ?_)
    · obtain ⟨rfl, rfl, -⟩ := hf
      exact WfOp.no (by kernel_rfl) rfl
    refine wf_doneK [16, 24] [fun _ => t16 = .bool true, fun _ => t24 = undef] (by kernel_rfl) (by kernel_rfl) (fun w4 b4 hf => ?_)
    obtain ⟨rfl, rfl, -⟩ := hf
    show wpList _ _ _ [_] _ _
    refine wpList_frame (by simp [Act.put]; rfl) ?_
    have B4 := btr B3 b4
    have pc0 := (hk.below (btr b3 b4)).cell 0
    have pc1 := (hk.below (btr b3 b4)).cell 1
    have pc2 := (hk.below (btr b3 b4)).cell 2
    simp at pc0 pc1 pc2
    go_wp2_with fail
    refine (Filter_s _ _ (x) pc pk pv _ ((SlOw.at_ entO hx.1).below entR (btr (btr b2 b3) b4)) nx rx).mono ?_
    rintro e w5 ⟨A5, c5, rfl, o5, b5⟩
    have B5 := btr B4 b5
    have a5 : EntsAt w5 A5 (FilF (x) pc pk pv) := SlOw.at_ entO o5
    clear pc0 pc1 pc2
    go_wp2_with fail
    refine (equalZ (xs := FilF (x) pc pk pv) (ys := FilF (x) pc pk pv) true (decide_eq_true rfl) (a3.below entR (btr b4 b5)) a5 (Nat.le_trans (FilF_len _ _ _ _) (by decide)) (Nat.le_trans (FilF_len _ _ _ _) (by decide)) (rows_big (FilF_row _ _ _ _) (by decide)) (rows_big (FilF_row _ _ _ _) (by decide))).mono ?_
    rintro e w6 ⟨rfl, b6⟩
    have B6 := btr B5 b6
    go_wp2_with fail
    go_ret
    exact ⟨rfl, B6⟩
  · have HV := Lib.hid hv
    rcases Nat.eq_zero_or_pos x.length with h0x | hpx
    · have hzx : ((x.length : Int) == 0) = true := by rw [h0x]; rfl
      clear h0x hv
      go_wp2_with fail
      refine wp_region_facts [[], [], [], [1, 2], List.range 4, List.range 5, List.range 6, List.range 7, List.range 8, List.range 9, List.range 10, List.range 11, List.range 12, List.range 13, List.range 14, List.range 15, List.range 16, List.range 17, List.range 17, [0, 1, 2, 3, 4, 5, 6, 7, 8, 9, 10, 11, 12, 13, 14, 15, 16, 18], [0, 1, 2, 3, 4, 5, 6, 7, 8, 9, 10, 11, 12, 13, 14, 15, 16, 18, 19], [0, 1, 2, 3, 4, 5, 6, 7, 8, 9, 10, 11, 12, 13, 14, 15, 16, 18, 19, 20], [0, 1, 2, 3, 4, 5, 6, 7, 8, 9, 10, 11, 12, 13, 14, 15, 16, 18, 19, 20, 21], List.range 23, List.range 24]
        [fun v' _ => v' = .slice A3 (FilF (x) pc pk pv).length c3, fun v' _ => v' = .slice Ax x.length cx, fun v' _ => v' = .agg #[.int .i64 pc, .int .i64 pk, .int .i64 pv], ZVr (FilF (x) pc pk pv), fun v' _ => v' = .bool true, fun v' _ => v' = .bool false, fun v' _ => v' = .bool false, fun v' _ => v' = .slice Ax x.length cx, fun v' _ => v' = .bool true, fun v' _ => v' = .bool false, fun v' _ => v' = .bool false, fun v' _ => v' = .bool false, fun v' _ => v' = .slice Ax x.length cx, fun v' _ => v' = .int .i64 ((x.length : Nat)), fun v' _ => v' = .bool true, fun v' _ => v' = .bool true, fun v' _ => v' = .bool true, fun v' _ => v' = undef, fun v' _ => v' = undef, fun v' _ => v' = undef, fun v' _ => v' = undef, fun v' _ => v' = undef, fun v' _ => v' = undef, fun v' _ => v' = undef, fun v' _ => v' = undef]
        (by kernel_rfl) (by kernel_rfl) rfl ⟨stable_pure _, stable_pure _, stable_pure _, stable_zVr _, stable_pure _, stable_pure _, stable_pure _, stable_pure _, stable_pure _, stable_pure _, stable_pure _, stable_pure _, stable_pure _, stable_pure _, stable_pure _, stable_pure _, stable_pure _, stable_pure _, stable_pure _, stable_pure _, stable_pure _, stable_pure _, stable_pure _, stable_pure _, stable_pure _, trivial⟩ ?_
      refine wf_stepK [] [] (by kernel_rfl) (by kernel_rfl) (fun wf hb hf => ?_) (fun t0 => ?_)
      · refine ⟨?_⟩
        go_wp2
        exact ⟨rfl, .slice A3 (FilF (x) pc pk pv).length c3, by kernel_rfl, Below.refl _ _, rfl⟩
      refine wf_stepK [] [] (by kernel_rfl) (by kernel_rfl) (fun wf hb hf => ?_) (fun t1 => ?_)
      · refine ⟨?_⟩
        go_wp2
        exact ⟨rfl, .slice Ax x.length cx, by kernel_rfl, Below.refl _ _, rfl⟩
      refine wf_stepK [] [] (by kernel_rfl) (by kernel_rfl) (fun wf hb hf => ?_) (fun t2 => ?_)
      · refine ⟨?_⟩
        have pc0 := ((hk.below b3).below hb).cell 0
        have pc1 := ((hk.below b3).below hb).cell 1
        have pc2 := ((hk.below b3).below hb).cell 2
        simp at pc0 pc1 pc2
        go_wp2
        exact ⟨rfl, .agg #[.int .i64 pc, .int .i64 pk, .int .i64 pv], by kernel_rfl, Below.refl _ _, rfl⟩
      refine wf_stepK [1, 2] [fun _ => t1 = .slice Ax x.length cx, fun _ => t2 = .agg #[.int .i64 pc, .int .i64 pk, .int .i64 pv]] (by kernel_rfl) (by kernel_rfl) (fun wf hb hf => ?_) (fun t3 => ?_)
      · obtain ⟨rfl, rfl, -⟩ := hf
        refine ⟨?_⟩
        go_wp2_with (go_at_call 16; refine (Filter_s _ _ (x) pc pk pv _ (((SlOw.at_ entO hx.1).below entR (btr b2 b3)).below entR hb) nx rx).mono ?_; rintro e w2 ⟨AN, cN, rfl, oN, hb2⟩)
        exact ⟨rfl, .slice AN (FilF (x) pc pk pv).length cN, by kernel_rfl, hb2, AN, cN, rfl, SlOw.at_ entO oN, EntsOw.cap oN⟩
      refine wf_stepK [0, 3] [fun _ => t0 = .slice A3 (FilF (x) pc pk pv).length c3, ZVr (FilF (x) pc pk pv) t3] (by kernel_rfl) (by kernel_rfl) (fun wf hb hf => ?_) (fun t4 => ?_)
      · obtain ⟨rfl, ⟨XS1, xs1, rfl, hS1⟩, -⟩ := hf
        refine ⟨?_⟩
        go_wp2_with (go_at_call 15; refine (equalZ (xs := FilF (x) pc pk pv) (ys := FilF (x) pc pk pv) true (decide_eq_true rfl) (a3.below entR hb) hS1.1 (Nat.le_trans (FilF_len _ _ _ _) (by decide)) (Nat.le_trans (FilF_len _ _ _ _) (by decide)) (rows_big (FilF_row _ _ _ _) (by decide)) (rows_big (FilF_row _ _ _ _) (by decide))).mono ?_; rintro e w2 ⟨rfl, hb2⟩)
        exact ⟨rfl, .bool true, by kernel_rfl, hb2, rfl⟩
      refine wf_stepK [4] [fun _ => t4 = .bool true] (by kernel_rfl) (by kernel_rfl) (fun wf hb hf => ?_) (fun t5 => ?_)
      · obtain ⟨rfl, -⟩ := hf
        refine ⟨?_⟩
        go_wp2
        exact ⟨rfl, .bool false, by kernel_rfl, Below.refl _ _, rfl⟩
      refine wf_stepK [5] [fun _ => t5 = .bool false] (by kernel_rfl) (by kernel_rfl) (fun wf hb hf => ?_) (fun t6 => ?_)
      · obtain ⟨rfl, -⟩ := hf
        refine ⟨?_⟩
        go_wp2
        exact ⟨rfl, .bool false, by kernel_rfl, Below.refl _ _, rfl⟩
      refine wf_stepK [6] [fun _ => t6 = .bool false] (by kernel_rfl) (by kernel_rfl) (fun wf hb hf => ?_) (fun t7 => ?_)
      · obtain ⟨rfl, -⟩ := hf
        refine WfOp.yes (by kernel_rfl) ?_
        dsimp only
        go_wp2
        exact ⟨rfl, .slice Ax x.length cx, by kernel_rfl, Below.refl _ _, rfl⟩
      refine wf_stepK [6, 7] [fun _ => t6 = .bool false, fun _ => t7 = .slice Ax x.length cx] (by kernel_rfl) (by kernel_rfl) (fun wf hb hf => ?_) (fun t8 => ?_)
      · obtain ⟨rfl, rfl, -⟩ := hf
        refine WfOp.yes (by kernel_rfl) ?_
        dsimp only
        go_wp2_with (go_at_call 17; refine (validZ true HV.out (((SlOw.at_ entO hx.1).below entR (btr b2 b3)).below entR hb) nx rx).mono ?_; rintro e w2 ⟨rfl, hb2⟩)
        exact ⟨rfl, .bool true, by kernel_rfl, hb2, rfl⟩
      refine wf_stepK [6, 8] [fun _ => t6 = .bool false, fun _ => t8 = .bool true] (by kernel_rfl) (by kernel_rfl) (fun wf hb hf => ?_) (fun t9 => ?_)
      · obtain ⟨rfl, rfl, -⟩ := hf
        refine WfOp.yes (by kernel_rfl) ?_
        dsimp only
        go_wp2
        exact ⟨rfl, .bool false, by kernel_rfl, Below.refl _ _, rfl⟩
      refine wf_stepK [6, 9] [fun _ => t6 = .bool false, fun _ => t9 = .bool false] (by kernel_rfl) (by kernel_rfl) (fun wf hb hf => ?_) (fun t10 => ?_)
      · obtain ⟨rfl, rfl, -⟩ := hf
        refine ⟨?_⟩
        go_wp2
        exact ⟨rfl, .bool false, by kernel_rfl, Below.refl _ _, rfl⟩
      refine wf_stepK [10] [fun _ => t10 = .bool false] (by kernel_rfl) (by kernel_rfl) (fun wf hb hf => ?_) (fun t11 => ?_)
      · obtain ⟨rfl, -⟩ := hf
        refine ⟨?_⟩
        go_wp2
        exact ⟨rfl, .bool false, by kernel_rfl, Below.refl _ _, rfl⟩
      refine wf_stepK [11] [fun _ => t11 = .bool false] (by kernel_rfl) (by kernel_rfl) (fun wf hb hf => ?_) (fun t12 => ?_)
      · obtain ⟨rfl, -⟩ := hf
        refine WfOp.yes (by kernel_rfl) ?_
        dsimp only
        go_wp2
        exact ⟨rfl, .slice Ax x.length cx, by kernel_rfl, Below.refl _ _, rfl⟩
      refine wf_stepK [11, 12] [fun _ => t11 = .bool false, fun _ => t12 = .slice Ax x.length cx] (by kernel_rfl) (by kernel_rfl) (fun wf hb hf => ?_) (fun t13 => ?_)
      · obtain ⟨rfl, rfl, -⟩ := hf
        refine WfOp.yes (by kernel_rfl) ?_
        dsimp only
        go_wp2
        exact ⟨rfl, .int .i64 ((x.length : Nat)), by kernel_rfl, Below.refl _ _, rfl⟩
      refine wf_stepK [11, 13] [fun _ => t11 = .bool false, fun _ => t13 = .int .i64 ((x.length : Nat))] (by kernel_rfl) (by kernel_rfl) (fun wf hb hf => ?_) (fun t14 => ?_)
      · obtain ⟨rfl, rfl, -⟩ := hf
        refine WfOp.yes (by kernel_rfl) ?_
        dsimp only
        go_wp2
        exact ⟨rfl, .bool true, by kernel_rfl, Below.refl _ _, rfl⟩
      refine wf_stepK [11, 14] [fun _ => t11 = .bool false, fun _ => t14 = .bool true] (by kernel_rfl) (by kernel_rfl) (fun wf hb hf => ?_) (fun t15 => ?_)
      · obtain ⟨rfl, rfl, -⟩ := hf
        refine ⟨?_⟩
        go_wp2
        exact ⟨rfl, .bool true, by kernel_rfl, Below.refl _ _, rfl⟩
      refine wf_stepK [15] [fun _ => t15 = .bool true] (by kernel_rfl) (by kernel_rfl) (fun wf hb hf => ?_) (fun t16 => ?_)
      · obtain ⟨rfl, -⟩ := hf
        refine ⟨?_⟩
        go_wp2
        exact ⟨rfl, .bool true, by kernel_rfl, Below.refl _ _, rfl⟩
      refine wf_stepK [16] [fun _ => t16 = .bool true] (by kernel_rfl) (by kernel_rfl) (fun wf hb hf => ?_) (fun t17 => ?_)
      · obtain ⟨rfl, -⟩ := hf
        exact WfOp.no (by kernel_rfl) rfl
      refine wf_stepK [16] [fun _ => t16 = .bool true] (by kernel_rfl) (by kernel_rfl) (fun wf hb hf => ?_) (fun t18 => ?_)
      · obtain ⟨rfl, -⟩ := hf
        exact WfOp.no (by kernel_rfl) rfl
      refine wf_stepK [16, 18] [fun _ => t16 = .bool true, fun _ => t18 = undef] (by kernel_rfl) (by kernel_rfl) (fun wf hb hf => ?_) (fun t19 => ?_)
      · obtain ⟨rfl, rfl, -⟩ := hf
        exact WfOp.no (by kernel_rfl) rfl
      refine wf_stepK [16, 19] [fun _ => t16 = .bool true, fun _ => t19 = undef] (by kernel_rfl) (by kernel_rfl) (fun wf hb hf => ?_) (fun t20 => ?_)
      · obtain ⟨rfl, rfl, -⟩ := hf
        exact WfOp.no (by kernel_rfl) rfl
      refine wf_stepK [16, 20] [fun _ => t16 = .bool true, fun _ => t20 = undef] (by kernel_rfl) (by kernel_rfl) (fun wf hb hf => ?_) (fun t21 => ?_)
      · obtain ⟨rfl, rfl, -⟩ := hf
        exact WfOp.no (by kernel_rfl) rfl
      refine wf_stepK [16, 21] [fun _ => t16 = .bool true, fun _ => t21 = undef] (by kernel_rfl) (by kernel_rfl) (fun wf hb hf => ?_) (fun t22 => ?_)
      · obtain ⟨rfl, rfl, -⟩ := hf
        exact WfOp.no (by kernel_rfl) rfl
      refine wf_stepK [16, 17, 22] [fun _ => t16 = .bool true, fun _ => t17 = undef, fun _ => t22 = undef] (by kernel_rfl) (by kernel_rfl) (fun wf hb hf => ?_) (fun t23 => ?_)
      · obtain ⟨rfl, rfl, rfl, -⟩ := hf
        exact WfOp.no (by kernel_rfl) rfl
      refine wf_stepK [16, 23] [fun _ => t16 = .bool true, fun _ => t23 = undef] (by kernel_rfl) (by kernel_rfl) (fun wf hb hf => ?_) (fun t24 => ?_)
      · obtain ⟨rfl, rfl, -⟩ := hf
        exact WfOp.no (by kernel_rfl) rfl
      refine wf_doneK [16, 24] [fun _ => t16 = .bool true, fun _ => t24 = undef] (by kernel_rfl) (by kernel_rfl) (fun w4 b4 hf => ?_)
      obtain ⟨rfl, rfl, -⟩ := hf
      show wpList _ _ _ [_] _ _
      refine wpList_frame (by simp [Act.put]; rfl) ?_
      have B4 := btr B3 b4
      have pc0 := (hk.below (btr b3 b4)).cell 0
      have pc1 := (hk.below (btr b3 b4)).cell 1
      have pc2 := (hk.below (btr b3 b4)).cell 2
      simp at pc0 pc1 pc2
      go_wp2_with fail
      refine (Filter_s _ _ (x) pc pk pv _ ((SlOw.at_ entO hx.1).below entR (btr (btr b2 b3) b4)) nx rx).mono ?_
      rintro e w5 ⟨A5, c5, rfl, o5, b5⟩
      have B5 := btr B4 b5
      have a5 : EntsAt w5 A5 (FilF (x) pc pk pv) := SlOw.at_ entO o5
      clear pc0 pc1 pc2
      go_wp2_with fail
      refine (equalZ (xs := FilF (x) pc pk pv) (ys := FilF (x) pc pk pv) true (decide_eq_true rfl) (a3.below entR (btr b4 b5)) a5 (Nat.le_trans (FilF_len _ _ _ _) (by decide)) (Nat.le_trans (FilF_len _ _ _ _) (by decide)) (rows_big (FilF_row _ _ _ _) (by decide)) (rows_big (FilF_row _ _ _ _) (by decide))).mono ?_
      rintro e w6 ⟨rfl, b6⟩
      have B6 := btr B5 b6
      go_wp2_with fail
      go_ret
      exact ⟨rfl, B6⟩
    · have hzx : ((x.length : Int) == 0) = false := by rw [beq_eq_false_iff_ne]; omega
      have hqx : (0 : Int) < x.length := by omega
      have hwx := wid_get hpx
      have hvp := fun W => ValidPredicate_i pc pk pv ((x[0].1.length : Nat) : Int) W
      rw [← hwx] at hvp
      cases hB : pvB pc pk pv (wid x)
      · rw [hB] at hvp
        rw [hwx] at hvp
        clear hB hwx hv
        obtain ⟨bbx, oox, RRx, ssx, hAx, hblx, hcx, -, -, hrx⟩ := (EntsAt.get (SlOw.at_ entO hx.1) 0 hpx)
        simp only [Nat.zero_mul, Nat.add_zero] at hcx
        subst hAx
        go_wp2_with fail
        refine wp_region_facts [[], [], [], [1, 2], List.range 4, List.range 5, List.range 6, List.range 7, List.range 8, List.range 9, List.range 10, List.range 11, List.range 12, List.range 13, List.range 14, List.range 15, List.range 16, List.range 17, List.range 17, [0, 1, 2, 3, 4, 5, 6, 7, 8, 9, 10, 11, 12, 13, 14, 15, 16, 18], [0, 1, 2, 3, 4, 5, 6, 7, 8, 9, 10, 11, 12, 13, 14, 15, 16, 18, 19], [0, 1, 2, 3, 4, 5, 6, 7, 8, 9, 10, 11, 12, 13, 14, 15, 16, 18, 19, 20], [0, 1, 2, 3, 4, 5, 6, 7, 8, 9, 10, 11, 12, 13, 14, 15, 16, 18, 19, 20, 21], List.range 23, List.range 24]
          [fun v' _ => v' = .slice A3 (FilF (x) pc pk pv).length c3, fun v' _ => v' = .slice (some ⟨bbx, oox, none⟩) x.length cx, fun v' _ => v' = .agg #[.int .i64 pc, .int .i64 pk, .int .i64 pv], ZVr (FilF (x) pc pk pv), fun v' _ => v' = .bool true, fun v' _ => v' = .bool false, fun v' _ => v' = .bool false, fun v' _ => v' = .slice (some ⟨bbx, oox, none⟩) x.length cx, fun v' _ => v' = .bool true, fun v' _ => v' = .bool false, fun v' _ => v' = .bool false, fun v' _ => v' = .bool false, fun v' _ => v' = .slice (some ⟨bbx, oox, none⟩) x.length cx, fun v' _ => v' = .int .i64 ((x.length : Nat)), fun v' _ => v' = .bool false, fun v' _ => v' = .bool false, fun v' _ => v' = .bool false, fun v' _ => v' = .agg #[.int .i64 pc, .int .i64 pk, .int .i64 pv], fun v' _ => v' = .slice (some ⟨bbx, oox, none⟩) x.length cx, fun v' _ => v' = .pointer (some ⟨bbx, oox, none⟩), fun v' _ => v' = .pointer (some ⟨bbx, oox, none⟩), fun v' _ => v' = .slice RRx x[0].1.length ssx, fun v' _ => v' = .int .i64 ((x[0].1.length : Nat)), fun v' _ => v' = .bool false, fun v' _ => v' = .bool true]
          (by kernel_rfl) (by kernel_rfl) rfl ⟨stable_pure _, stable_pure _, stable_pure _, stable_zVr _, stable_pure _, stable_pure _, stable_pure _, stable_pure _, stable_pure _, stable_pure _, stable_pure _, stable_pure _, stable_pure _, stable_pure _, stable_pure _, stable_pure _, stable_pure _, stable_pure _, stable_pure _, stable_pure _, stable_pure _, stable_pure _, stable_pure _, stable_pure _, stable_pure _, trivial⟩ ?_
        refine wf_stepK [] [] (by kernel_rfl) (by kernel_rfl) (fun wf hb hf => ?_) (fun t0 => ?_)
        · refine ⟨?_⟩
          go_wp2
          exact ⟨rfl, .slice A3 (FilF (x) pc pk pv).length c3, by kernel_rfl, Below.refl _ _, rfl⟩
        refine wf_stepK [] [] (by kernel_rfl) (by kernel_rfl) (fun wf hb hf => ?_) (fun t1 => ?_)
        · refine ⟨?_⟩
          go_wp2
          exact ⟨rfl, .slice (some ⟨bbx, oox, none⟩) x.length cx, by kernel_rfl, Below.refl _ _, rfl⟩
        refine wf_stepK [] [] (by kernel_rfl) (by kernel_rfl) (fun wf hb hf => ?_) (fun t2 => ?_)
        · refine ⟨?_⟩
          have pc0 := ((hk.below b3).below hb).cell 0
          have pc1 := ((hk.below b3).below hb).cell 1
          have pc2 := ((hk.below b3).below hb).cell 2
          simp at pc0 pc1 pc2
          go_wp2
          exact ⟨rfl, .agg #[.int .i64 pc, .int .i64 pk, .int .i64 pv], by kernel_rfl, Below.refl _ _, rfl⟩
        refine wf_stepK [1, 2] [fun _ => t1 = .slice (some ⟨bbx, oox, none⟩) x.length cx, fun _ => t2 = .agg #[.int .i64 pc, .int .i64 pk, .int .i64 pv]] (by kernel_rfl) (by kernel_rfl) (fun wf hb hf => ?_) (fun t3 => ?_)
        · obtain ⟨rfl, rfl, -⟩ := hf
          refine ⟨?_⟩
          go_wp2_with (go_at_call 16; refine (Filter_s _ _ (x) pc pk pv _ (((SlOw.at_ entO hx.1).below entR (btr b2 b3)).below entR hb) nx rx).mono ?_; rintro e w2 ⟨AN, cN, rfl, oN, hb2⟩)
          exact ⟨rfl, .slice AN (FilF (x) pc pk pv).length cN, by kernel_rfl, hb2, AN, cN, rfl, SlOw.at_ entO oN, EntsOw.cap oN⟩
        refine wf_stepK [0, 3] [fun _ => t0 = .slice A3 (FilF (x) pc pk pv).length c3, ZVr (FilF (x) pc pk pv) t3] (by kernel_rfl) (by kernel_rfl) (fun wf hb hf => ?_) (fun t4 => ?_)
        · obtain ⟨rfl, ⟨XS1, xs1, rfl, hS1⟩, -⟩ := hf
          refine ⟨?_⟩
          go_wp2_with (go_at_call 15; refine (equalZ (xs := FilF (x) pc pk pv) (ys := FilF (x) pc pk pv) true (decide_eq_true rfl) (a3.below entR hb) hS1.1 (Nat.le_trans (FilF_len _ _ _ _) (by decide)) (Nat.le_trans (FilF_len _ _ _ _) (by decide)) (rows_big (FilF_row _ _ _ _) (by decide)) (rows_big (FilF_row _ _ _ _) (by decide))).mono ?_; rintro e w2 ⟨rfl, hb2⟩)
          exact ⟨rfl, .bool true, by kernel_rfl, hb2, rfl⟩
        refine wf_stepK [4] [fun _ => t4 = .bool true] (by kernel_rfl) (by kernel_rfl) (fun wf hb hf => ?_) (fun t5 => ?_)
        · obtain ⟨rfl, -⟩ := hf
          refine ⟨?_⟩
          go_wp2
          exact ⟨rfl, .bool false, by kernel_rfl, Below.refl _ _, rfl⟩
        refine wf_stepK [5] [fun _ => t5 = .bool false] (by kernel_rfl) (by kernel_rfl) (fun wf hb hf => ?_) (fun t6 => ?_)
        · obtain ⟨rfl, -⟩ := hf
          refine ⟨?_⟩
          go_wp2
          exact ⟨rfl, .bool false, by kernel_rfl, Below.refl _ _, rfl⟩
        refine wf_stepK [6] [fun _ => t6 = .bool false] (by kernel_rfl) (by kernel_rfl) (fun wf hb hf => ?_) (fun t7 => ?_)
        · obtain ⟨rfl, -⟩ := hf
          refine WfOp.yes (by kernel_rfl) ?_
          dsimp only
          go_wp2
          exact ⟨rfl, .slice (some ⟨bbx, oox, none⟩) x.length cx, by kernel_rfl, Below.refl _ _, rfl⟩
        refine wf_stepK [6, 7] [fun _ => t6 = .bool false, fun _ => t7 = .slice (some ⟨bbx, oox, none⟩) x.length cx] (by kernel_rfl) (by kernel_rfl) (fun wf hb hf => ?_) (fun t8 => ?_)
        · obtain ⟨rfl, rfl, -⟩ := hf
          refine WfOp.yes (by kernel_rfl) ?_
          dsimp only
          go_wp2_with (go_at_call 17; refine (validZ true HV.out (((SlOw.at_ entO hx.1).below entR (btr b2 b3)).below entR hb) nx rx).mono ?_; rintro e w2 ⟨rfl, hb2⟩)
          exact ⟨rfl, .bool true, by kernel_rfl, hb2, rfl⟩
        refine wf_stepK [6, 8] [fun _ => t6 = .bool false, fun _ => t8 = .bool true] (by kernel_rfl) (by kernel_rfl) (fun wf hb hf => ?_) (fun t9 => ?_)
        · obtain ⟨rfl, rfl, -⟩ := hf
          refine WfOp.yes (by kernel_rfl) ?_
          dsimp only
          go_wp2
          exact ⟨rfl, .bool false, by kernel_rfl, Below.refl _ _, rfl⟩
        refine wf_stepK [6, 9] [fun _ => t6 = .bool false, fun _ => t9 = .bool false] (by kernel_rfl) (by kernel_rfl) (fun wf hb hf => ?_) (fun t10 => ?_)
        · obtain ⟨rfl, rfl, -⟩ := hf
          refine ⟨?_⟩
          go_wp2
          exact ⟨rfl, .bool false, by kernel_rfl, Below.refl _ _, rfl⟩
        refine wf_stepK [10] [fun _ => t10 = .bool false] (by kernel_rfl) (by kernel_rfl) (fun wf hb hf => ?_) (fun t11 => ?_)
        · obtain ⟨rfl, -⟩ := hf
          refine ⟨?_⟩
          go_wp2
          exact ⟨rfl, .bool false, by kernel_rfl, Below.refl _ _, rfl⟩
        refine wf_stepK [11] [fun _ => t11 = .bool false] (by kernel_rfl) (by kernel_rfl) (fun wf hb hf => ?_) (fun t12 => ?_)
        · obtain ⟨rfl, -⟩ := hf
          refine WfOp.yes (by kernel_rfl) ?_
          dsimp only
          go_wp2
          exact ⟨rfl, .slice (some ⟨bbx, oox, none⟩) x.length cx, by kernel_rfl, Below.refl _ _, rfl⟩
        refine wf_stepK [11, 12] [fun _ => t11 = .bool false, fun _ => t12 = .slice (some ⟨bbx, oox, none⟩) x.length cx] (by kernel_rfl) (by kernel_rfl) (fun wf hb hf => ?_) (fun t13 => ?_)
        · obtain ⟨rfl, rfl, -⟩ := hf
          refine WfOp.yes (by kernel_rfl) ?_
          dsimp only
          go_wp2
          exact ⟨rfl, .int .i64 ((x.length : Nat)), by kernel_rfl, Below.refl _ _, rfl⟩
        refine wf_stepK [11, 13] [fun _ => t11 = .bool false, fun _ => t13 = .int .i64 ((x.length : Nat))] (by kernel_rfl) (by kernel_rfl) (fun wf hb hf => ?_) (fun t14 => ?_)
        · obtain ⟨rfl, rfl, -⟩ := hf
          refine WfOp.yes (by kernel_rfl) ?_
          dsimp only
          go_wp2
          exact ⟨rfl, .bool false, by kernel_rfl, Below.refl _ _, rfl⟩
        refine wf_stepK [11, 14] [fun _ => t11 = .bool false, fun _ => t14 = .bool false] (by kernel_rfl) (by kernel_rfl) (fun wf hb hf => ?_) (fun t15 => ?_)
        · obtain ⟨rfl, rfl, -⟩ := hf
          refine ⟨?_⟩
          go_wp2
          exact ⟨rfl, .bool false, by kernel_rfl, Below.refl _ _, rfl⟩
        refine wf_stepK [15] [fun _ => t15 = .bool false] (by kernel_rfl) (by kernel_rfl) (fun wf hb hf => ?_) (fun t16 => ?_)
        · obtain ⟨rfl, -⟩ := hf
          refine ⟨?_⟩
          go_wp2
          exact ⟨rfl, .bool false, by kernel_rfl, Below.refl _ _, rfl⟩
        refine wf_stepK [16] [fun _ => t16 = .bool false] (by kernel_rfl) (by kernel_rfl) (fun wf hb hf => ?_) (fun t17 => ?_)
        · obtain ⟨rfl, -⟩ := hf
          refine WfOp.yes (by kernel_rfl) ?_
          dsimp only
          have pc0 := ((hk.below b3).below hb).cell 0
          have pc1 := ((hk.below b3).below hb).cell 1
          have pc2 := ((hk.below b3).below hb).cell 2
          simp at pc0 pc1 pc2
          go_wp2
          exact ⟨rfl, .agg #[.int .i64 pc, .int .i64 pk, .int .i64 pv], by kernel_rfl, Below.refl _ _, rfl⟩
        refine wf_stepK [16] [fun _ => t16 = .bool false] (by kernel_rfl) (by kernel_rfl) (fun wf hb hf => ?_) (fun t18 => ?_)
        · obtain ⟨rfl, -⟩ := hf
          refine WfOp.yes (by kernel_rfl) ?_
          dsimp only
          go_wp2
          exact ⟨rfl, .slice (some ⟨bbx, oox, none⟩) x.length cx, by kernel_rfl, Below.refl _ _, rfl⟩
        refine wf_stepK [16, 18] [fun _ => t16 = .bool false, fun _ => t18 = .slice (some ⟨bbx, oox, none⟩) x.length cx] (by kernel_rfl) (by kernel_rfl) (fun wf hb hf => ?_) (fun t19 => ?_)
        · obtain ⟨rfl, rfl, -⟩ := hf
          refine WfOp.yes (by kernel_rfl) ?_
          dsimp only
          go_wp2
          exact ⟨rfl, .pointer (some ⟨bbx, oox, none⟩), by kernel_rfl, Below.refl _ _, rfl⟩
        refine wf_stepK [16, 19] [fun _ => t16 = .bool false, fun _ => t19 = .pointer (some ⟨bbx, oox, none⟩)] (by kernel_rfl) (by kernel_rfl) (fun wf hb hf => ?_) (fun t20 => ?_)
        · obtain ⟨rfl, rfl, -⟩ := hf
          refine WfOp.yes (by kernel_rfl) ?_
          dsimp only
          go_wp2
          exact ⟨rfl, .pointer (some ⟨bbx, oox, none⟩), by kernel_rfl, Below.refl _ _, rfl⟩
        refine wf_stepK [16, 20] [fun _ => t16 = .bool false, fun _ => t20 = .pointer (some ⟨bbx, oox, none⟩)] (by kernel_rfl) (by kernel_rfl) (fun wf hb hf => ?_) (fun t21 => ?_)
        · obtain ⟨rfl, rfl, -⟩ := hf
          refine WfOp.yes (by kernel_rfl) ?_
          dsimp only
          have cz := (Below.cell (p := ⟨bbx, oox, none⟩) (btr (btr b2 b3) hb) hblx).trans hcx
          go_wp2
          exact ⟨rfl, .slice RRx x[0].1.length ssx, by kernel_rfl, Below.refl _ _, rfl⟩
        refine wf_stepK [16, 21] [fun _ => t16 = .bool false, fun _ => t21 = .slice RRx x[0].1.length ssx] (by kernel_rfl) (by kernel_rfl) (fun wf hb hf => ?_) (fun t22 => ?_)
        · obtain ⟨rfl, rfl, -⟩ := hf
          refine WfOp.yes (by kernel_rfl) ?_
          dsimp only
          go_wp2
          exact ⟨rfl, .int .i64 ((x[0].1.length : Nat)), by kernel_rfl, Below.refl _ _, rfl⟩
        refine wf_stepK [16, 17, 22] [fun _ => t16 = .bool false, fun _ => t17 = .agg #[.int .i64 pc, .int .i64 pk, .int .i64 pv], fun _ => t22 = .int .i64 ((x[0].1.length : Nat))] (by kernel_rfl) (by kernel_rfl) (fun wf hb hf => ?_) (fun t23 => ?_)
        · obtain ⟨rfl, rfl, rfl, -⟩ := hf
          refine WfOp.yes (by kernel_rfl) ?_
          dsimp only
          go_wp2_with (go_at_call 18; refine (hvp _).mono ?_; rintro e w2 ⟨rfl, hb2⟩)
          exact ⟨rfl, .bool false, by kernel_rfl, hb2, rfl⟩
        refine wf_stepK [16, 23] [fun _ => t16 = .bool false, fun _ => t23 = .bool false] (by kernel_rfl) (by kernel_rfl) (fun wf hb hf => ?_) (fun t24 => ?_)
        · obtain ⟨rfl, rfl, -⟩ := hf
          refine WfOp.yes (by kernel_rfl) ?_
          dsimp only
          go_wp2
          exact ⟨rfl, .bool true, by kernel_rfl, Below.refl _ _, rfl⟩
        refine wf_doneK [16, 24] [fun _ => t16 = .bool false, fun _ => t24 = .bool true] (by kernel_rfl) (by kernel_rfl) (fun w4 b4 hf => ?_)
        obtain ⟨rfl, rfl, -⟩ := hf
        show wpList _ _ _ [_] _ _
        refine wpList_frame (by simp [Act.put]; rfl) ?_
        have B4 := btr B3 b4
        have pc0 := (hk.below (btr b3 b4)).cell 0
        have pc1 := (hk.below (btr b3 b4)).cell 1
        have pc2 := (hk.below (btr b3 b4)).cell 2
        simp at pc0 pc1 pc2
        go_wp2_with fail
        refine (Filter_s _ _ (x) pc pk pv _ ((SlOw.at_ entO hx.1).below entR (btr (btr b2 b3) b4)) nx rx).mono ?_
        rintro e w5 ⟨A5, c5, rfl, o5, b5⟩
        have B5 := btr B4 b5
        have a5 : EntsAt w5 A5 (FilF (x) pc pk pv) := SlOw.at_ entO o5
        clear pc0 pc1 pc2
        go_wp2_with fail
        refine (equalZ (xs := FilF (x) pc pk pv) (ys := FilF (x) pc pk pv) true (decide_eq_true rfl) (a3.below entR (btr b4 b5)) a5 (Nat.le_trans (FilF_len _ _ _ _) (by decide)) (Nat.le_trans (FilF_len _ _ _ _) (by decide)) (rows_big (FilF_row _ _ _ _) (by decide)) (rows_big (FilF_row _ _ _ _) (by decide))).mono ?_
        rintro e w6 ⟨rfl, b6⟩
        have B6 := btr B5 b6
        go_wp2_with fail
        go_ret
        exact ⟨rfl, B6⟩
      · have HEN := Lib.hid (FilF_eq_ne hv hB)
        have HLG := Lib.hid (FilF_lt_gt hv hB)
        have HTW := Lib.hid (FilF_twice hv hB)
        rw [hB] at hvp
        rw [hwx] at hvp
        clear hB hwx hv
        obtain ⟨bbx, oox, RRx, ssx, hAx, hblx, hcx, -, -, hrx⟩ := (EntsAt.get (SlOw.at_ entO hx.1) 0 hpx)
        simp only [Nat.zero_mul, Nat.add_zero] at hcx
        subst hAx
        go_wp2_with fail
        refine wp_region_facts [[], [], [], [1, 2], List.range 4, List.range 5, List.range 6, List.range 7, List.range 8, List.range 9, List.range 10, List.range 11, List.range 12, List.range 13, List.range 14, List.range 15, List.range 16, List.range 17, List.range 17, [0, 1, 2, 3, 4, 5, 6, 7, 8, 9, 10, 11, 12, 13, 14, 15, 16, 18], [0, 1, 2, 3, 4, 5, 6, 7, 8, 9, 10, 11, 12, 13, 14, 15, 16, 18, 19], [0, 1, 2, 3, 4, 5, 6, 7, 8, 9, 10, 11, 12, 13, 14, 15, 16, 18, 19, 20], [0, 1, 2, 3, 4, 5, 6, 7, 8, 9, 10, 11, 12, 13, 14, 15, 16, 18, 19, 20, 21], List.range 23, List.range 24]
          [fun v' _ => v' = .slice A3 (FilF (x) pc pk pv).length c3, fun v' _ => v' = .slice (some ⟨bbx, oox, none⟩) x.length cx, fun v' _ => v' = .agg #[.int .i64 pc, .int .i64 pk, .int .i64 pv], ZVr (FilF (x) pc pk pv), fun v' _ => v' = .bool true, fun v' _ => v' = .bool false, fun v' _ => v' = .bool false, fun v' _ => v' = .slice (some ⟨bbx, oox, none⟩) x.length cx, fun v' _ => v' = .bool true, fun v' _ => v' = .bool false, fun v' _ => v' = .bool false, fun v' _ => v' = .bool false, fun v' _ => v' = .slice (some ⟨bbx, oox, none⟩) x.length cx, fun v' _ => v' = .int .i64 ((x.length : Nat)), fun v' _ => v' = .bool false, fun v' _ => v' = .bool false, fun v' _ => v' = .bool false, fun v' _ => v' = .agg #[.int .i64 pc, .int .i64 pk, .int .i64 pv], fun v' _ => v' = .slice (some ⟨bbx, oox, none⟩) x.length cx, fun v' _ => v' = .pointer (some ⟨bbx, oox, none⟩), fun v' _ => v' = .pointer (some ⟨bbx, oox, none⟩), fun v' _ => v' = .slice RRx x[0].1.length ssx, fun v' _ => v' = .int .i64 ((x[0].1.length : Nat)), fun v' _ => v' = .bool true, fun v' _ => v' = .bool false]
          (by kernel_rfl) (by kernel_rfl) rfl ⟨stable_pure _, stable_pure _, stable_pure _, stable_zVr _, stable_pure _, stable_pure _, stable_pure _, stable_pure _, stable_pure _, stable_pure _, stable_pure _, stable_pure _, stable_pure _, stable_pure _, stable_pure _, stable_pure _, stable_pure _, stable_pure _, stable_pure _, stable_pure _, stable_pure _, stable_pure _, stable_pure _, stable_pure _, stable_pure _, trivial⟩ ?_
        refine wf_stepK [] [] (by kernel_rfl) (by kernel_rfl) (fun wf hb hf => ?_) (fun t0 => ?_)
        · refine ⟨?_⟩
          go_wp2
          exact ⟨rfl, .slice A3 (FilF (x) pc pk pv).length c3, by kernel_rfl, Below.refl _ _, rfl⟩
        refine wf_stepK [] [] (by kernel_rfl) (by kernel_rfl) (fun wf hb hf => ?_) (fun t1 => ?_)
        · refine ⟨?_⟩
          go_wp2
          exact ⟨rfl, .slice (some ⟨bbx, oox, none⟩) x.length cx, by kernel_rfl, Below.refl _ _, rfl⟩
        refine wf_stepK [] [] (by kernel_rfl) (by kernel_rfl) (fun wf hb hf => ?_) (fun t2 => ?_)
        · refine ⟨?_⟩
          have pc0 := ((hk.below b3).below hb).cell 0
          have pc1 := ((hk.below b3).below hb).cell 1
          have pc2 := ((hk.below b3).below hb).cell 2
          simp at pc0 pc1 pc2
          go_wp2
          exact ⟨rfl, .agg #[.int .i64 pc, .int .i64 pk, .int .i64 pv], by kernel_rfl, Below.refl _ _, rfl⟩
        refine wf_stepK [1, 2] [fun _ => t1 = .slice (some ⟨bbx, oox, none⟩) x.length cx, fun _ => t2 = .agg #[.int .i64 pc, .int .i64 pk, .int .i64 pv]] (by kernel_rfl) (by kernel_rfl) (fun wf hb hf => ?_) (fun t3 => ?_)
        · obtain ⟨rfl, rfl, -⟩ := hf
          refine ⟨?_⟩
          go_wp2_with (go_at_call 16; refine (Filter_s _ _ (x) pc pk pv _ (((SlOw.at_ entO hx.1).below entR (btr b2 b3)).below entR hb) nx rx).mono ?_; rintro e w2 ⟨AN, cN, rfl, oN, hb2⟩)
          exact ⟨rfl, .slice AN (FilF (x) pc pk pv).length cN, by kernel_rfl, hb2, AN, cN, rfl, SlOw.at_ entO oN, EntsOw.cap oN⟩
        refine wf_stepK [0, 3] [fun _ => t0 = .slice A3 (FilF (x) pc pk pv).length c3, ZVr (FilF (x) pc pk pv) t3] (by kernel_rfl) (by kernel_rfl) (fun wf hb hf => ?_) (fun t4 => ?_)
        · obtain ⟨rfl, ⟨XS1, xs1, rfl, hS1⟩, -⟩ := hf
          refine ⟨?_⟩
          go_wp2_with (go_at_call 15; refine (equalZ (xs := FilF (x) pc pk pv) (ys := FilF (x) pc pk pv) true (decide_eq_true rfl) (a3.below entR hb) hS1.1 (Nat.le_trans (FilF_len _ _ _ _) (by decide)) (Nat.le_trans (FilF_len _ _ _ _) (by decide)) (rows_big (FilF_row _ _ _ _) (by decide)) (rows_big (FilF_row _ _ _ _) (by decide))).mono ?_; rintro e w2 ⟨rfl, hb2⟩)
          exact ⟨rfl, .bool true, by kernel_rfl, hb2, rfl⟩
        refine wf_stepK [4] [fun _ => t4 = .bool true] (by kernel_rfl) (by kernel_rfl) (fun wf hb hf => ?_) (fun t5 => ?_)
        · obtain ⟨rfl, -⟩ := hf
          refine ⟨?_⟩
          go_wp2
          exact ⟨rfl, .bool false, by kernel_rfl, Below.refl _ _, rfl⟩
        refine wf_stepK [5] [fun _ => t5 = .bool false] (by kernel_rfl) (by kernel_rfl) (fun wf hb hf => ?_) (fun t6 => ?_)
        · obtain ⟨rfl, -⟩ := hf
          refine ⟨?_⟩
          go_wp2
          exact ⟨rfl, .bool false, by kernel_rfl, Below.refl _ _, rfl⟩
        refine wf_stepK [6] [fun _ => t6 = .bool false] (by kernel_rfl) (by kernel_rfl) (fun wf hb hf => ?_) (fun t7 => ?_)
        · obtain ⟨rfl, -⟩ := hf
          refine WfOp.yes (by kernel_rfl) ?_
          dsimp only
          go_wp2
          exact ⟨rfl, .slice (some ⟨bbx, oox, none⟩) x.length cx, by kernel_rfl, Below.refl _ _, rfl⟩
        refine wf_stepK [6, 7] [fun _ => t6 = .bool false, fun _ => t7 = .slice (some ⟨bbx, oox, none⟩) x.length cx] (by kernel_rfl) (by kernel_rfl) (fun wf hb hf => ?_) (fun t8 => ?_)
        · obtain ⟨rfl, rfl, -⟩ := hf
          refine WfOp.yes (by kernel_rfl) ?_
          dsimp only
          go_wp2_with (go_at_call 17; refine (validZ true HV.out (((SlOw.at_ entO hx.1).below entR (btr b2 b3)).below entR hb) nx rx).mono ?_; rintro e w2 ⟨rfl, hb2⟩)
          exact ⟨rfl, .bool true, by kernel_rfl, hb2, rfl⟩
        refine wf_stepK [6, 8] [fun _ => t6 = .bool false, fun _ => t8 = .bool true] (by kernel_rfl) (by kernel_rfl) (fun wf hb hf => ?_) (fun t9 => ?_)
        · obtain ⟨rfl, rfl, -⟩ := hf
          refine WfOp.yes (by kernel_rfl) ?_
          dsimp only
          go_wp2
          exact ⟨rfl, .bool false, by kernel_rfl, Below.refl _ _, rfl⟩
        refine wf_stepK [6, 9] [fun _ => t6 = .bool false, fun _ => t9 = .bool false] (by kernel_rfl) (by kernel_rfl) (fun wf hb hf => ?_) (fun t10 => ?_)
        · obtain ⟨rfl, rfl, -⟩ := hf
          refine ⟨?_⟩
          go_wp2
          exact ⟨rfl, .bool false, by kernel_rfl, Below.refl _ _, rfl⟩
        refine wf_stepK [10] [fun _ => t10 = .bool false] (by kernel_rfl) (by kernel_rfl) (fun wf hb hf => ?_) (fun t11 => ?_)
        · obtain ⟨rfl, -⟩ := hf
          refine ⟨?_⟩
          go_wp2
          exact ⟨rfl, .bool false, by kernel_rfl, Below.refl _ _, rfl⟩
        refine wf_stepK [11] [fun _ => t11 = .bool false] (by kernel_rfl) (by kernel_rfl) (fun wf hb hf => ?_) (fun t12 => ?_)
        · obtain ⟨rfl, -⟩ := hf
          refine WfOp.yes (by kernel_rfl) ?_
          dsimp only
          go_wp2
          exact ⟨rfl, .slice (some ⟨bbx, oox, none⟩) x.length cx, by kernel_rfl, Below.refl _ _, rfl⟩
        refine wf_stepK [11, 12] [fun _ => t11 = .bool false, fun _ => t12 = .slice (some ⟨bbx, oox, none⟩) x.length cx] (by kernel_rfl) (by kernel_rfl) (fun wf hb hf => ?_) (fun t13 => ?_)
        · obtain ⟨rfl, rfl, -⟩ := hf
          refine WfOp.yes (by kernel_rfl) ?_
          dsimp only
          go_wp2
          exact ⟨rfl, .int .i64 ((x.length : Nat)), by kernel_rfl, Below.refl _ _, rfl⟩
        refine wf_stepK [11, 13] [fun _ => t11 = .bool false, fun _ => t13 = .int .i64 ((x.length : Nat))] (by kernel_rfl) (by kernel_rfl) (fun wf hb hf => ?_) (fun t14 => ?_)
        · obtain ⟨rfl, rfl, -⟩ := hf
          refine WfOp.yes (by kernel_rfl) ?_
          dsimp only
          go_wp2
          exact ⟨rfl, .bool false, by kernel_rfl, Below.refl _ _, rfl⟩
        refine wf_stepK [11, 14] [fun _ => t11 = .bool false, fun _ => t14 = .bool false] (by kernel_rfl) (by kernel_rfl) (fun wf hb hf => ?_) (fun t15 => ?_)
        · obtain ⟨rfl, rfl, -⟩ := hf
          refine ⟨?_⟩
          go_wp2
          exact ⟨rfl, .bool false, by kernel_rfl, Below.refl _ _, rfl⟩
        refine wf_stepK [15] [fun _ => t15 = .bool false] (by kernel_rfl) (by kernel_rfl) (fun wf hb hf => ?_) (fun t16 => ?_)
        · obtain ⟨rfl, -⟩ := hf
          refine ⟨?_⟩
          go_wp2
          exact ⟨rfl, .bool false, by kernel_rfl, Below.refl _ _, rfl⟩
        refine wf_stepK [16] [fun _ => t16 = .bool false] (by kernel_rfl) (by kernel_rfl) (fun wf hb hf => ?_) (fun t17 => ?_)
        · obtain ⟨rfl, -⟩ := hf
          refine WfOp.yes (by kernel_rfl) ?_
          dsimp only
          have pc0 := ((hk.below b3).below hb).cell 0
          have pc1 := ((hk.below b3).below hb).cell 1
          have pc2 := ((hk.below b3).below hb).cell 2
          simp at pc0 pc1 pc2
          go_wp2
          exact ⟨rfl, .agg #[.int .i64 pc, .int .i64 pk, .int .i64 pv], by kernel_rfl, Below.refl _ _, rfl⟩
        refine wf_stepK [16] [fun _ => t16 = .bool false] (by kernel_rfl) (by kernel_rfl) (fun wf hb hf => ?_) (fun t18 => ?_)
        · obtain ⟨rfl, -⟩ := hf
          refine WfOp.yes (by kernel_rfl) ?_
          dsimp only
          go_wp2
          exact ⟨rfl, .slice (some ⟨bbx, oox, none⟩) x.length cx, by kernel_rfl, Below.refl _ _, rfl⟩
        refine wf_stepK [16, 18] [fun _ => t16 = .bool false, fun _ => t18 = .slice (some ⟨bbx, oox, none⟩) x.length cx] (by kernel_rfl) (by kernel_rfl) (fun wf hb hf => ?_) (fun t19 => ?_)
        · obtain ⟨rfl, rfl, -⟩ := hf
          refine WfOp.yes (by kernel_rfl) ?_
          dsimp only
          go_wp2
          exact ⟨rfl, .pointer (some ⟨bbx, oox, none⟩), by kernel_rfl, Below.refl _ _, rfl⟩
        refine wf_stepK [16, 19] [fun _ => t16 = .bool false, fun _ => t19 = .pointer (some ⟨bbx, oox, none⟩)] (by kernel_rfl) (by kernel_rfl) (fun wf hb hf => ?_) (fun t20 => ?_)
        · obtain ⟨rfl, rfl, -⟩ := hf
          refine WfOp.yes (by kernel_rfl) ?_
          dsimp only
          go_wp2
          exact ⟨rfl, .pointer (some ⟨bbx, oox, none⟩), by kernel_rfl, Below.refl _ _, rfl⟩
        refine wf_stepK [16, 20] [fun _ => t16 = .bool false, fun _ => t20 = .pointer (some ⟨bbx, oox, none⟩)] (by kernel_rfl) (by kernel_rfl) (fun wf hb hf => ?_) (fun t21 => ?_)
        · obtain ⟨rfl, rfl, -⟩ := hf
          refine WfOp.yes (by kernel_rfl) ?_
          dsimp only
          have cz := (Below.cell (p := ⟨bbx, oox, none⟩) (btr (btr b2 b3) hb) hblx).trans hcx
          go_wp2
          exact ⟨rfl, .slice RRx x[0].1.length ssx, by kernel_rfl, Below.refl _ _, rfl⟩
        refine wf_stepK [16, 21] [fun _ => t16 = .bool false, fun _ => t21 = .slice RRx x[0].1.length ssx] (by kernel_rfl) (by kernel_rfl) (fun wf hb hf => ?_) (fun t22 => ?_)
        · obtain ⟨rfl, rfl, -⟩ := hf
          refine WfOp.yes (by kernel_rfl) ?_
          dsimp only
          go_wp2
          exact ⟨rfl, .int .i64 ((x[0].1.length : Nat)), by kernel_rfl, Below.refl _ _, rfl⟩
        refine wf_stepK [16, 17, 22] [fun _ => t16 = .bool false, fun _ => t17 = .agg #[.int .i64 pc, .int .i64 pk, .int .i64 pv], fun _ => t22 = .int .i64 ((x[0].1.length : Nat))] (by kernel_rfl) (by kernel_rfl) (fun wf hb hf => ?_) (fun t23 => ?_)
        · obtain ⟨rfl, rfl, rfl, -⟩ := hf
          refine WfOp.yes (by kernel_rfl) ?_
          dsimp only
          go_wp2_with (go_at_call 18; refine (hvp _).mono ?_; rintro e w2 ⟨rfl, hb2⟩)
          exact ⟨rfl, .bool true, by kernel_rfl, hb2, rfl⟩
        refine wf_stepK [16, 23] [fun _ => t16 = .bool false, fun _ => t23 = .bool true] (by kernel_rfl) (by kernel_rfl) (fun wf hb hf => ?_) (fun t24 => ?_)
        · obtain ⟨rfl, rfl, -⟩ := hf
          refine WfOp.yes (by kernel_rfl) ?_
          dsimp only
          go_wp2
          exact ⟨rfl, .bool false, by kernel_rfl, Below.refl _ _, rfl⟩
        refine wf_doneK [16, 24] [fun _ => t16 = .bool false, fun _ => t24 = .bool false] (by kernel_rfl) (by kernel_rfl) (fun w4 b4 hf => ?_)
        obtain ⟨rfl, rfl, -⟩ := hf
        show wpList _ _ _ [_] _ _
        refine wpList_frame (by simp [Act.put]; rfl) ?_
        have B4 := btr B3 b4
        have pc0 := (hk.below (btr b3 b4)).cell 0
        have pc1 := (hk.below (btr b3 b4)).cell 1
        have pc2 := (hk.below (btr b3 b4)).cell 2
        simp at pc0 pc1 pc2
        go_wp2_with fail
        refine (Filter_i _ _ (x) pc 1 pv _ ((SlOw.at_ entO hx.1).below entR (btr (btr b2 b3) b4)) nx rx).mono ?_
        rintro e w5 ⟨A5, c5, rfl, o5, b5⟩
        have B5 := btr B4 b5
        have a5 : EntsAt w5 A5 (FilF (x) pc 1 pv) := SlOw.at_ entO o5
        clear pc0 pc1 pc2
        have pc0 := (hk.below (btr (btr b3 b4) b5)).cell 0
        have pc1 := (hk.below (btr (btr b3 b4) b5)).cell 1
        have pc2 := (hk.below (btr (btr b3 b4) b5)).cell 2
        simp at pc0 pc1 pc2
        go_wp2_with fail
        refine (Filter_i _ _ (x) pc 4 pv _ ((SlOw.at_ entO hx.1).below entR (btr (btr (btr b2 b3) b4) b5)) nx rx).mono ?_
        rintro e w6 ⟨A6, c6, rfl, o6, b6⟩
        have B6 := btr B5 b6
        have a6 : EntsAt w6 A6 (FilF (x) pc 4 pv) := SlOw.at_ entO o6
        clear pc0 pc1 pc2
        have pc0 := (hk.below (btr (btr (btr b3 b4) b5) b6)).cell 0
        have pc1 := (hk.below (btr (btr (btr b3 b4) b5) b6)).cell 1
        have pc2 := (hk.below (btr (btr (btr b3 b4) b5) b6)).cell 2
        simp at pc0 pc1 pc2
        go_wp2_with fail
        refine (Filter_i _ _ (x) pc 2 pv _ ((SlOw.at_ entO hx.1).below entR (btr (btr (btr (btr b2 b3) b4) b5) b6)) nx rx).mono ?_
        rintro e w7 ⟨A7, c7, rfl, o7, b7⟩
        have B7 := btr B6 b7
        have a7 : EntsAt w7 A7 (FilF (x) pc 2 pv) := SlOw.at_ entO o7
        clear pc0 pc1 pc2
        have pc0 := (hk.below (btr (btr (btr (btr b3 b4) b5) b6) b7)).cell 0
        have pc1 := (hk.below (btr (btr (btr (btr b3 b4) b5) b6) b7)).cell 1
        have pc2 := (hk.below (btr (btr (btr (btr b3 b4) b5) b6) b7)).cell 2
        simp at pc0 pc1 pc2
        go_wp2_with fail
        refine (Filter_i _ _ (x) pc 3 pv _ ((SlOw.at_ entO hx.1).below entR (btr (btr (btr (btr (btr b2 b3) b4) b5) b6) b7)) nx rx).mono ?_
        rintro e w8 ⟨A8, c8, rfl, o8, b8⟩
        have B8 := btr B7 b8
        have a8 : EntsAt w8 A8 (FilF (x) pc 3 pv) := SlOw.at_ entO o8
        clear pc0 pc1 pc2
        go_wp2_with fail
        refine (Add_i _ _ (FilF (x) pc 1 pv) _ _ (FilF (x) pc 4 pv) _ (a5.below entR (btr (btr b6 b7) b8)) (a6.below entR (btr b7 b8)) (EntsOw.cap o5) (EntsOw.cap o6) (Nat.le_trans (FilF_len _ _ _ _) (by decide)) (rows_big (FilF_row _ _ _ _) (by decide)) (Nat.le_trans (FilF_len _ _ _ _) (by decide)) (rows_big (FilF_row _ _ _ _) (by decide))).mono ?_
        rintro e w9 ⟨A9, c9, rfl, o9, b9⟩
        have B9 := btr B8 b9
        have a9 : EntsAt w9 A9 (AddF (FilF (x) pc 1 pv) (FilF (x) pc 4 pv)) := SlOw.at_ entO o9
        go_wp2_with fail
        refine (equalZ (xs := AddF (FilF (x) pc 1 pv) (FilF (x) pc 4 pv)) (ys := x) true (decide_eq_true HEN.out) a9 ((SlOw.at_ entO hx.1).below entR (btr (btr (btr (btr (btr (btr (btr b2 b3) b4) b5) b6) b7) b8) b9)) (Nat.le_trans (AddF_len' _ _) (by decide)) nx (rows_big (AddF_row' _ _) (by decide)) rx).mono ?_
        rintro e w10 ⟨rfl, b10⟩
        have B10 := btr B9 b10
        go_wp2_with fail
        refine (Add_i _ _ (FilF (x) pc 2 pv) _ _ (FilF (x) pc 3 pv) _ (a7.below entR (btr (btr b8 b9) b10)) (a8.below entR (btr b9 b10)) (EntsOw.cap o7) (EntsOw.cap o8) (Nat.le_trans (FilF_len _ _ _ _) (by decide)) (rows_big (FilF_row _ _ _ _) (by decide)) (Nat.le_trans (FilF_len _ _ _ _) (by decide)) (rows_big (FilF_row _ _ _ _) (by decide))).mono ?_
        rintro e w11 ⟨A11, c11, rfl, o11, b11⟩
        have B11 := btr B10 b11
        have a11 : EntsAt w11 A11 (AddF (FilF (x) pc 2 pv) (FilF (x) pc 3 pv)) := SlOw.at_ entO o11
        go_wp2_with fail
        refine (equalZ (xs := AddF (FilF (x) pc 2 pv) (FilF (x) pc 3 pv)) (ys := FilF (x) pc 4 pv) true (decide_eq_true HLG.out) a11 (a6.below entR (btr (btr (btr (btr b7 b8) b9) b10) b11)) (Nat.le_trans (AddF_len' _ _) (by decide)) (Nat.le_trans (FilF_len _ _ _ _) (by decide)) (rows_big (AddF_row' _ _) (by decide)) (rows_big (FilF_row _ _ _ _) (by decide))).mono ?_
        rintro e w12 ⟨rfl, b12⟩
        have B12 := btr B11 b12
        have pc0 := (hk.below (btr (btr (btr (btr (btr (btr (btr (btr (btr b3 b4) b5) b6) b7) b8) b9) b10) b11) b12)).cell 0
        have pc1 := (hk.below (btr (btr (btr (btr (btr (btr (btr (btr (btr b3 b4) b5) b6) b7) b8) b9) b10) b11) b12)).cell 1
        have pc2 := (hk.below (btr (btr (btr (btr (btr (btr (btr (btr (btr b3 b4) b5) b6) b7) b8) b9) b10) b11) b12)).cell 2
        simp at pc0 pc1 pc2
        go_wp2_with fail
        refine (Filter_i _ _ (FilF (x) pc pk pv) pc pk pv _ (a3.below entR (btr (btr (btr (btr (btr (btr (btr (btr b4 b5) b6) b7) b8) b9) b10) b11) b12)) (Nat.le_trans (FilF_len _ _ _ _) (by decide)) (rows_big (FilF_row _ _ _ _) (by decide))).mono ?_
        rintro e w13 ⟨A13, c13, rfl, o13, b13⟩
        have B13 := btr B12 b13
        have a13 : EntsAt w13 A13 (FilF (FilF (x) pc pk pv) pc pk pv) := SlOw.at_ entO o13
        clear pc0 pc1 pc2
        go_wp2_with fail
        refine (equalZ (xs := FilF (FilF (x) pc pk pv) pc pk pv) (ys := FilF (x) pc pk pv) true (decide_eq_true HTW.out) a13 (a3.below entR (btr (btr (btr (btr (btr (btr (btr (btr (btr b4 b5) b6) b7) b8) b9) b10) b11) b12) b13)) (Nat.le_trans (FilF_len _ _ _ _) (by decide)) (Nat.le_trans (FilF_len _ _ _ _) (by decide)) (rows_big (FilF_row _ _ _ _) (by decide)) (rows_big (FilF_row _ _ _ _) (by decide))).mono ?_
        rintro e w14 ⟨rfl, b14⟩
        have B14 := btr B13 b14
        go_wp2_with fail
        go_ret
        exact ⟨rfl, B14⟩

namespace lawFnFilter
theorem own : ownKnob Try.prog.godebug = none := by kernel_rfl
theorem laidOut : laidOutB Try.prog = true := clo_laid
set_option maxRecDepth 100000 in
theorem lifted (os : Os) (started : os.Started) (H : Type) (enc : TypeId × Value → H) :
    ReturnsInHanded {} Try.checked os 3 .any (Rows.fnFilterSpec.pre6 enc Try.prog Try.f3 Rows.fnFilterRow.domain false) (Rows.fnFilterSpec.post enc Try.prog Try.f3 false true false false) := by
  refine returnsInHanded_of_change (C := Try.checked) own started (by kernel_rfl) Try.func3
    (ChangeSpec.witness6 (enc := enc) (C := Try.checked) false ⟨#[], #[.slice none 0 0], []⟩ 8 (by kernel_rfl) (by kernel_rfl) (by kernel_rfl) (by kernel_rfl)) ?_
  intro W base args ds gs before hval0 hW hcnd _
  have hval : ∀ (j : Nat) t v, Try.f3.params[j]? = some t → args[j]? = some v → Value.okWide Try.prog W .any base t v := hval0
  have hW' := hW
  obtain ⟨p, q, hA0, hV, rfl, hfz, hnd⟩ := hW
  have hA : DataW.TrodAll enc Try.prog W 0 (fun _ => true) true Try.f3.params.toList args.toList ds p := hA0
  rw [Try.params3] at hA hval
  obtain ⟨v0, vs0, d0, ds0, p0, q0, hargs, rfl, rfl, h0, r0⟩ := trodAll_cons hA
  obtain ⟨rfl, rfl, rfl⟩ := trodAll_nil r0
  obtain rfl : args = #[v0] := by cases args; simp_all
  obtain ⟨rfl, rfl⟩ := trodVars_none hV
  have k0 := h0
  have lt0 : ∀ x ∈ p0, x.block < W.heap.size := by obtain ⟨m, hm⟩ := k0; exact DataW.trod_lt m _ _ _ hm
  obtain ⟨a0, len0, cap0, rfl⟩ := okWide_slice Try.underlying22 (hval 0 22 v0 rfl rfl)
  obtain ⟨l0, m0, w0⟩ := bytes_of Try.underlying22 Try.underlying5 (by kernel_rfl) h0
  clear hA0 hval0
  refine (FnFilter_walk a0 len0 cap0 W l0 m0 w0).mono fun e W' ⟨he, bel⟩ => ?_
  subst he
  exact ⟨_, rfl, _, _, _, [], _, [], hW', trodAll_mk1 (shut_bool Try.underlying4 _), (trodAll_cons_mk (Below.trod laidOut (by kernel_rfl) (of_decide_eq_true (by kernel_rfl)) k0 bel lt0) trodAll_mk0), rfl, bel.frame _, fun h => by cases h⟩
theorem andTT {a b : Bool} (h1 : a = true) (h2 : b = true) : (a && b) = true := by rw [h1, h2]; rfl
set_option maxHeartbeats 8000000 in
theorem closed : joinedFacts Try.prog 3 Try.f3 Rows.fnFilterSpec Rows.fnFilterRow = true := by
  unfold joinedFacts
  repeat' (with_reducible refine andTT ?_ ?_)
  all_goals (first | (with_reducible exact clo_laid) | (with_reducible exact clo_maps) | (with_reducible exact clo_heard) | (with_reducible exact clo_enter) | ((with_reducible refine clo_plain _ ?_); rfl) | ((with_reducible refine clo_lifts _ ?_); rfl) | (as_aux_lemma => kernel_rfl))

theorem over : Rows.fnFilterRow.holds Try.pinned (OpenSpec.ofChange Rows.fnFilterSpec) :=
  OpenClaim.holds_of_wide 3 Try.f3 rfl rfl rfl rfl rfl rfl rfl ⟨rfl, rfl, rfl, rfl, rfl⟩ rfl rfl rfl rfl rfl (by kernel_rfl) Try.func3 closed
    (of_decide_eq_true (by kernel_rfl)) (by unfold Func.isWrapper; first | (rw [if_pos (by decide +kernel)]; kernel_rfl) | (rw [if_neg (by decide +kernel)]; exact ⟨rfl, rfl⟩))
    (fun os started H enc _ => lifted os started H enc)

/-- THE STATEMENT. -/
theorem proved : Rows.FnFilterSaid := over
end lawFnFilter
end Go.Proofs.Ytjlpkfcdkmcjnaa
