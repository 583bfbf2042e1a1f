/- The law FnCompactTrace returns true at every two codes; no condition. -/
import Derived.Test.YtjobecoogjojjaaGreatDrawG
import Derived.Test.YtjobecoogjojjaaGreatEqT
import Derived.Test.YtjobecoogjojjaaGreatTrs
import Derived.Test.YtjobecoogjojjaaGreatTrQ
import Derived.Test.YtjobecoogjojjaaGreatGrd
import Derived.Test.YtjobecoogjojjaaGreatClo
import Derived.Carry
import Derived.ChangeOld
import Derived.Lib.SmallJoins
import Derived.Lib.QuietBelow
namespace Go.Proofs.YtjobecoogjojjaaGreat
open Go.ChangeShapes Go.WideShapes Go.ChangeAt Go.RowKit Go.Sort
set_option linter.unusedVariables false
set_option linter.unusedSimpArgs false

theorem absCF {P : Program} {f : FuncId} {args : Array Value} {w : World} {Q : Ending → World → Prop} (R : World → Prop) (h : R w) (k : ∀ W, R W → Calls P f args W Q) : Calls P f args w Q := k w h
def TVr (z : List Upd) (v : Value) (w : World) : Prop := ∃ A c, v = .slice A z.length c ∧ UpdsAt w A z
theorem stable_tVr (z : List Upd) : Stable (TVr z) := fun _ _ _ hb ⟨A, c, e, h⟩ => ⟨A, c, e, h.below updR hb⟩
theorem validF {A : Option Addr} {c : Nat} {fr : List Tm} {w : World} (r : Bool) (he : frB fr = r) (hx : TimesAt w A fr) (hn : fr.length ≤ 4194304) :
    Calls Tryz.prog 19 #[.slice A fr.length c] w fun e w' => e = .returned (.bool r) ∧ Below w.heap.size w w' := he ▸ ValidFrontier_i A c fr w hx hn
theorem coversF {A : Option Addr} {c : Nat} {fr : List Tm} {u v : Int} {w : World} (r : Bool) (he : fcB fr u v = r) (hx : TimesAt w A fr) (hn : fr.length ≤ 4194304) :
    Calls Tryz.prog 20 #[.slice A fr.length c, .agg #[.int .i64 u, .int .i64 v]] w fun e w' => e = .returned (.bool r) ∧ Below w.heap.size w w' := he ▸ FrontierCovers_i A c fr u v w hx hn

set_option maxRecDepth 100000 in
set_option maxHeartbeats 6400000 in
theorem FnCompactTrace_walk (A : Option Addr) (n c : Nat) (AA : Option Addr) (nn cc : Nat) (w : World) (hc : n ≤ c) (hl : n ≤ maxLen) (hb : BytesAt w w.heap.size A n) (hcc : nn ≤ cc) (hll : nn ≤ maxLen) (hbb : BytesAt w w.heap.size AA nn) :
    Calls Tryz.prog 4 #[.slice A n c, .slice AA nn cc] w fun e w' => e = .returned (.bool true) ∧ Below w.heap.size w w' := by
  unfold maxLen at hl hll
  by_cases hbign : 1048576 < n
  · have hb' : (1048576 : Int) < n := by omega
    go_enter Tryz.func4, Tryz.ntmps4
    go_wp2
    go_ret
    exact ⟨rfl, Below.refl _ _⟩
  have hbn' : (n : Int) ≤ 1048576 := by omega
  by_cases hbignn : 1048576 < nn
  · have hb' : (1048576 : Int) < nn := by omega
    go_enter Tryz.func4, Tryz.ntmps4
    go_wp2
    go_ret
    exact ⟨rfl, Below.refl _ _⟩
  have hbnn' : (nn : Int) ≤ 1048576 := by omega
  have HB := Lib.hid hb
  clear hb hbign
  have HBB := Lib.hid hbb
  clear hbb hbignn
  go_enter Tryz.func4, Tryz.ntmps4
  go_wp2_with fail
  refine (DrawCompactTrace_r _ _ _ _ HB.out hc (by omega)).mono ?_
  rintro e w1 ⟨z, fr, Az, Af, cz, cf, rfl, hz, hfo, hfl, B1⟩
  have nz : z.length ≤ 4194304 := by have := hz.2.1; omega
  have rz : rowsU z 4194304 := rows_bigU hz.2.2.1 (by decide)
  have hfcap := hfo.cap.1
  have hfa := hfo.at_
  go_wp2_with fail
  refine (CompactTrace_i _ _ z _ _ fr _ (SlOw.at_ updO hz.1) hfa nz rz (by omega) hfcap).mono ?_
  rintro e w2 ⟨A2, c2, rfl, o2, b2⟩
  have B2 := btr B1 b2
  have a2 : UpdsAt w2 A2 (CptF z fr) := SlOw.at_ updO o2
  go_wp2_with fail
  refine (CompactTrace_s _ _ z _ _ fr _ ((SlOw.at_ updO hz.1).below updR b2) (hfa.below b2) nz rz (by omega)).mono ?_
  rintro e w3 ⟨A3, c3, rfl, o3, b3⟩
  have B3 := btr B2 b3
  have a3 : UpdsAt w3 A3 (CptF z fr) := SlOw.at_ updO o3
  go_wp2_with fail
  refine (equalT (xs := CptF z fr) (ys := CptF z fr) true (decide_eq_true rfl) (a2.below updR b3) a3 (Nat.le_trans (CptF_len _ _) (by decide)) (Nat.le_trans (CptF_len _ _) (by decide)) (rows_bigU (CptF_row _ _) (by decide)) (rows_bigU (CptF_row _ _) (by decide))).mono ?_
  rintro e w4 ⟨rfl, b4⟩
  have B4 := btr B3 b4
  cases hS : smT z
  · have HS := Lib.hid hS
    clear hS
    go_wp2_with fail
    refine (smallT false HS.out ((SlOw.at_ updO hz.1).below updR (btr (btr b2 b3) b4)) nz rz).mono ?_
    rintro e w5 ⟨rfl, b5⟩
    have B5 := btr B4 b5
    go_wp2_with fail
    refine (CompactTrace_s _ _ z _ _ fr _ ((SlOw.at_ updO hz.1).below updR (btr (btr (btr b2 b3) b4) b5)) (hfa.below (btr (btr (btr b2 b3) b4) b5)) nz rz (by omega)).mono ?_
    rintro e w6 ⟨A6, c6, rfl, o6, b6⟩
    have B6 := btr B5 b6
    have a6 : UpdsAt w6 A6 (CptF z fr) := SlOw.at_ updO o6
    go_wp2_with fail
    refine (equalT (xs := CptF z fr) (ys := CptF z fr) true (decide_eq_true rfl) (a2.below updR (btr (btr (btr b3 b4) b5) b6)) a6 (Nat.le_trans (CptF_len _ _) (by decide)) (Nat.le_trans (CptF_len _ _) (by decide)) (rows_bigU (CptF_row _ _) (by decide)) (rows_bigU (CptF_row _ _) (by decide))).mono ?_
    rintro e w7 ⟨rfl, b7⟩
    have B7 := btr B6 b7
    go_wp2_with fail
    go_ret
    exact ⟨rfl, B7⟩
  · have SX := smT_SmT hS
    have HS := Lib.hid hS
    clear hS
    cases hF : frB fr
    · have HF := Lib.hid hF
      clear hF SX
      go_wp2_with fail
      refine (smallT true HS.out ((SlOw.at_ updO hz.1).below updR (btr (btr b2 b3) b4)) nz rz).mono ?_
      rintro e w5 ⟨rfl, b5⟩
      have B5 := btr B4 b5
      go_wp2_with fail
      refine (validF false HF.out (hfa.below (btr (btr (btr b2 b3) b4) b5)) (by omega)).mono ?_
      rintro e w6 ⟨rfl, b6⟩
      have B6 := btr B5 b6
      go_wp2_with fail
      refine (CompactTrace_s _ _ z _ _ fr _ ((SlOw.at_ updO hz.1).below updR (btr (btr (btr (btr b2 b3) b4) b5) b6)) (hfa.below (btr (btr (btr (btr b2 b3) b4) b5) b6)) nz rz (by omega)).mono ?_
      rintro e w7 ⟨A7, c7, rfl, o7, b7⟩
      have B7 := btr B6 b7
      have a7 : UpdsAt w7 A7 (CptF z fr) := SlOw.at_ updO o7
      go_wp2_with fail
      refine (equalT (xs := CptF z fr) (ys := CptF z fr) true (decide_eq_true rfl) (a2.below updR (btr (btr (btr (btr b3 b4) b5) b6) b7)) a7 (Nat.le_trans (CptF_len _ _) (by decide)) (Nat.le_trans (CptF_len _ _) (by decide)) (rows_bigU (CptF_row _ _) (by decide)) (rows_bigU (CptF_row _ _) (by decide))).mono ?_
      rintro e w8 ⟨rfl, b8⟩
      have B8 := btr B7 b8
      go_wp2_with fail
      go_ret
      exact ⟨rfl, B8⟩
    · have HF := Lib.hid hF
      have HTW := Lib.hid (cpt_twice z hF)
      have HLE := Lib.hid (CptF_le z fr)
      clear hF
      go_wp2_with fail
      refine (smallT true HS.out ((SlOw.at_ updO hz.1).below updR (btr (btr b2 b3) b4)) nz rz).mono ?_
      rintro e w5 ⟨rfl, b5⟩
      have B5 := btr B4 b5
      go_wp2_with fail
      refine (validF true HF.out (hfa.below (btr (btr (btr b2 b3) b4) b5)) (by omega)).mono ?_
      rintro e w6 ⟨rfl, b6⟩
      have B6 := btr B5 b6
      have hbb6 : BytesAt w6 w6.heap.size AA nn := fun hp => by
        obtain ⟨b, off, e, h1, h2⟩ := (HBB.out.below B6 (Nat.le_refl _)) hp
        exact ⟨b, off, e, by have := B6.size; omega, h2⟩
      go_wp2_with fail
      refine (DrawValidTime_r _ _ _ _ hbb6 hcc (by omega)).mono ?_
      rintro e w7 ⟨tx, ty, rfl, b7⟩
      have B7 := btr B6 b7
      have HAS : Hid (fcB fr tx ty = true → AsOfF (CptF z fr) tx ty = AsOfF z tx ty) := fun h => asOf_cpt SX h
      clear SX
      cases hC : fcB fr tx ty
      · have HC := Lib.hid hC
        clear hC
        go_wp2_with fail
        refine abs_world (fun W => Below w7.heap.size w7 W ∧ Blk W w7.heap.size 31 #[.int .i64 tx, .int .i64 ty]) ⟨bal (Below.refl _ _) _, Blk.newAt rfl⟩ ?_
        rintro w8 ⟨b8, hk8⟩
        have B8 := btr B7 b8
        refine wp_region_facts [[], [0], [], [2], List.range 4, List.range 5, List.range 6, List.range 6, List.range 8, List.range 9, List.range 10, List.range 11, List.range 11, List.range 13, List.range 11, List.range 11, [0, 1, 2, 3, 4, 5, 6, 7, 8, 9, 10, 14, 15], List.range 17, List.range 18, List.range 19, List.range 20, List.range 21, List.range 21, List.range 23, List.range 21, List.range 25, List.range 26]
          [fun v' _ => v' = .slice A2 (CptF z fr).length c2, fun v' _ => v' = .int .i64 ((CptF z fr).length), fun v' _ => v' = .slice Az z.length cz, fun v' _ => v' = .int .i64 ((z.length : Nat)), fun v' _ => v' = .bool true, fun v' _ => v' = .bool true, fun v' _ => v' = .slice Af fr.length cf, fun v' _ => v' = .agg #[.int .i64 tx, .int .i64 ty], fun v' _ => v' = .bool false, fun v' _ => v' = .bool true, fun v' _ => v' = .bool true, fun v' _ => v' = undef, fun v' _ => v' = undef, fun v' _ => v' = undef, fun v' _ => v' = undef, fun v' _ => v' = undef, fun v' _ => v' = undef, fun v' _ => v' = undef, fun v' _ => v' = .bool true, fun v' _ => v' = .bool true, fun v' _ => v' = .bool true, fun v' _ => v' = .slice A2 (CptF z fr).length c2, fun v' _ => v' = .slice Af fr.length cf, TVr (CptF (CptF z fr) fr), fun v' _ => v' = .slice A2 (CptF z fr).length c2, fun v' _ => v' = .bool true, fun v' _ => v' = .bool true]
          (by kernel_rfl) (by kernel_rfl) rfl ⟨stable_pure _, stable_pure _, stable_pure _, stable_pure _, stable_pure _, stable_pure _, stable_pure _, stable_pure _, stable_pure _, stable_pure _, stable_pure _, stable_pure _, stable_pure _, stable_pure _, stable_pure _, stable_pure _, stable_pure _, stable_pure _, stable_pure _, stable_pure _, stable_pure _, stable_pure _, stable_pure _, stable_tVr _, stable_pure _, stable_pure _, stable_pure _, trivial⟩ ?_
        refine wf_stepK [] [] (by kernel_rfl) (by kernel_rfl) (fun wf hb hf => ?_) (fun t0 => ?_)
        · refine ⟨?_⟩
          go_wp2
          exact ⟨rfl, .slice A2 (CptF z fr).length c2, by kernel_rfl, Below.refl _ _, rfl⟩
        refine wf_stepK [0] [fun _ => t0 = .slice A2 (CptF z fr).length c2] (by kernel_rfl) (by kernel_rfl) (fun wf hb hf => ?_) (fun t1 => ?_)
        · obtain ⟨rfl, -⟩ := hf
          refine ⟨?_⟩
          go_wp2
          exact ⟨rfl, .int .i64 ((CptF z fr).length), by kernel_rfl, Below.refl _ _, rfl⟩
        refine wf_stepK [] [] (by kernel_rfl) (by kernel_rfl) (fun wf hb hf => ?_) (fun t2 => ?_)
        · refine ⟨?_⟩
          go_wp2
          exact ⟨rfl, .slice Az z.length cz, by kernel_rfl, Below.refl _ _, rfl⟩
        refine wf_stepK [2] [fun _ => t2 = .slice Az z.length cz] (by kernel_rfl) (by kernel_rfl) (fun wf hb hf => ?_) (fun t3 => ?_)
        · obtain ⟨rfl, -⟩ := hf
          refine ⟨?_⟩
          go_wp2
          exact ⟨rfl, .int .i64 ((z.length : Nat)), by kernel_rfl, Below.refl _ _, rfl⟩
        refine wf_stepK [1, 3] [fun _ => t1 = .int .i64 ((CptF z fr).length), fun _ => t3 = .int .i64 ((z.length : Nat))] (by kernel_rfl) (by kernel_rfl) (fun wf hb hf => ?_) (fun t4 => ?_)
        · obtain ⟨rfl, rfl, -⟩ := hf
          refine ⟨?_⟩
          go_wp2
          exact ⟨rfl, .bool (decide ((CptF z fr).length ≤ z.length)), by kernel_rfl, Below.refl _ _, congrArg Value.bool (decide_eq_true HLE.out)⟩
        refine wf_stepK [4] [fun _ => t4 = .bool true] (by kernel_rfl) (by kernel_rfl) (fun wf hb hf => ?_) (fun t5 => ?_)
        · obtain ⟨rfl, -⟩ := hf
          refine ⟨?_⟩
          go_wp2
          exact ⟨rfl, .bool true, by kernel_rfl, Below.refl _ _, rfl⟩
        refine wf_stepK [5] [fun _ => t5 = .bool true] (by kernel_rfl) (by kernel_rfl) (fun wf hb hf => ?_) (fun t6 => ?_)
        · obtain ⟨rfl, -⟩ := hf
          refine WfOp.yes (by kernel_rfl) ?_
          dsimp only
          go_wp2
          exact ⟨rfl, .slice Af fr.length cf, by kernel_rfl, Below.refl _ _, rfl⟩
        refine wf_stepK [5] [fun _ => t5 = .bool true] (by kernel_rfl) (by kernel_rfl) (fun wf hb hf => ?_) (fun t7 => ?_)
        · obtain ⟨rfl, -⟩ := hf
          refine WfOp.yes (by kernel_rfl) ?_
          dsimp only
          have pc0 := (hk8.below hb).cell 0
          have pc1 := (hk8.below hb).cell 1
          simp at pc0 pc1
          go_wp2
          exact ⟨rfl, .agg #[.int .i64 tx, .int .i64 ty], by kernel_rfl, Below.refl _ _, rfl⟩
        refine wf_stepK [5, 6, 7] [fun _ => t5 = .bool true, fun _ => t6 = .slice Af fr.length cf, fun _ => t7 = .agg #[.int .i64 tx, .int .i64 ty]] (by kernel_rfl) (by kernel_rfl) (fun wf hb hf => ?_) (fun t8 => ?_)
        · obtain ⟨rfl, rfl, rfl, -⟩ := hf
          refine WfOp.yes (by kernel_rfl) ?_
          dsimp only
          go_wp2_with (go_at_call 20; refine (coversF false HC.out ((hfa.below (btr (btr (btr (btr (btr (btr b2 b3) b4) b5) b6) b7) b8)).below hb) (by omega)).mono ?_; rintro e w2 ⟨rfl, hb2⟩)
          exact ⟨rfl, .bool false, by kernel_rfl, hb2, rfl⟩
        refine wf_stepK [5, 8] [fun _ => t5 = .bool true, fun _ => t8 = .bool false] (by kernel_rfl) (by kernel_rfl) (fun wf hb hf => ?_) (fun t9 => ?_)
        · obtain ⟨rfl, rfl, -⟩ := hf
          refine WfOp.yes (by kernel_rfl) ?_
          dsimp only
          go_wp2
          exact ⟨rfl, .bool true, by kernel_rfl, Below.refl _ _, rfl⟩
        refine wf_stepK [5, 9] [fun _ => t5 = .bool true, fun _ => t9 = .bool true] (by kernel_rfl) (by kernel_rfl) (fun wf hb hf => ?_) (fun t10 => ?_)
        · obtain ⟨rfl, rfl, -⟩ := hf
          refine WfOp.yes (by kernel_rfl) ?_
          dsimp only
          go_wp2
          exact ⟨rfl, .bool true, by kernel_rfl, Below.refl _ _, rfl⟩
        refine wf_stepK [10] [fun _ => t10 = .bool true] (by kernel_rfl) (by kernel_rfl) (fun wf hb hf => ?_) (fun t11 => ?_)
        · obtain ⟨rfl, -⟩ := hf
          exact WfOp.no (by kernel_rfl) rfl
        refine wf_stepK [10] [fun _ => t10 = .bool true] (by kernel_rfl) (by kernel_rfl) (fun wf hb hf => ?_) (fun t12 => ?_)
        · obtain ⟨rfl, -⟩ := hf
          exact WfOp.no (by kernel_rfl) rfl
        refine wf_stepK [10, 11, 12] [fun _ => t10 = .bool true, fun _ => t11 = undef, fun _ => t12 = undef] (by kernel_rfl) (by kernel_rfl) (fun wf hb hf => ?_) (fun t13 => ?_)
        · obtain ⟨rfl, rfl, rfl, -⟩ := hf
          exact WfOp.no (by kernel_rfl) rfl
        refine wf_stepK [10] [fun _ => t10 = .bool true] (by kernel_rfl) (by kernel_rfl) (fun wf hb hf => ?_) (fun t14 => ?_)
        · obtain ⟨rfl, -⟩ := hf
          exact WfOp.no (by kernel_rfl) rfl
        refine wf_stepK [10] [fun _ => t10 = .bool true] (by kernel_rfl) (by kernel_rfl) (fun wf hb hf => ?_) (fun t15 => ?_)
        · obtain ⟨rfl, -⟩ := hf
          exact WfOp.no (by kernel_rfl) rfl
        refine wf_stepK [10, 14, 15] [fun _ => t10 = .bool true, fun _ => t14 = undef, fun _ => t15 = undef] (by kernel_rfl) (by kernel_rfl) (fun wf hb hf => ?_) (fun t16 => ?_)
        · obtain ⟨rfl, rfl, rfl, -⟩ := hf
          exact WfOp.no (by kernel_rfl) rfl
        refine wf_stepK [10, 13, 16] [fun _ => t10 = .bool true, fun _ => t13 = undef, fun _ => t16 = undef] (by kernel_rfl) (by kernel_rfl) (fun wf hb hf => ?_) (fun t17 => ?_)
        · obtain ⟨rfl, rfl, rfl, -⟩ := hf
          exact WfOp.no (by kernel_rfl) rfl
        refine wf_stepK [5, 10, 17] [fun _ => t5 = .bool true, fun _ => t10 = .bool true, fun _ => t17 = undef] (by kernel_rfl) (by kernel_rfl) (fun wf hb hf => ?_) (fun t18 => ?_)
        · obtain ⟨rfl, rfl, rfl, -⟩ := hf
          refine WfOp.yes (by kernel_rfl) ?_
          dsimp only
          go_wp2
          exact ⟨rfl, .bool true, by kernel_rfl, Below.refl _ _, rfl⟩
        refine wf_stepK [5, 18] [fun _ => t5 = .bool true, fun _ => t18 = .bool true] (by kernel_rfl) (by kernel_rfl) (fun wf hb hf => ?_) (fun t19 => ?_)
        · obtain ⟨rfl, rfl, -⟩ := hf
          refine ⟨?_⟩
          go_wp2
          exact ⟨rfl, .bool true, by kernel_rfl, Below.refl _ _, rfl⟩
        refine wf_stepK [19] [fun _ => t19 = .bool true] (by kernel_rfl) (by kernel_rfl) (fun wf hb hf => ?_) (fun t20 => ?_)
        · obtain ⟨rfl, -⟩ := hf
          refine ⟨?_⟩
          go_wp2
          exact ⟨rfl, .bool true, by kernel_rfl, Below.refl _ _, rfl⟩
        refine wf_stepK [20] [fun _ => t20 = .bool true] (by kernel_rfl) (by kernel_rfl) (fun wf hb hf => ?_) (fun t21 => ?_)
        · obtain ⟨rfl, -⟩ := hf
          refine WfOp.yes (by kernel_rfl) ?_
          dsimp only
          go_wp2
          exact ⟨rfl, .slice A2 (CptF z fr).length c2, by kernel_rfl, Below.refl _ _, rfl⟩
        refine wf_stepK [20] [fun _ => t20 = .bool true] (by kernel_rfl) (by kernel_rfl) (fun wf hb hf => ?_) (fun t22 => ?_)
        · obtain ⟨rfl, -⟩ := hf
          refine WfOp.yes (by kernel_rfl) ?_
          dsimp only
          go_wp2
          exact ⟨rfl, .slice Af fr.length cf, by kernel_rfl, Below.refl _ _, rfl⟩
        refine wf_stepK [20, 21, 22] [fun _ => t20 = .bool true, fun _ => t21 = .slice A2 (CptF z fr).length c2, fun _ => t22 = .slice Af fr.length cf] (by kernel_rfl) (by kernel_rfl) (fun wf hb hf => ?_) (fun t23 => ?_)
        · obtain ⟨rfl, rfl, rfl, -⟩ := hf
          refine WfOp.yes (by kernel_rfl) ?_
          dsimp only
          go_wp2_with (go_at_call 17; refine (CompactTrace_i _ _ (CptF z fr) _ _ fr _ ((a2.below updR (btr (btr (btr (btr (btr b3 b4) b5) b6) b7) b8)).below updR hb) ((hfa.below (btr (btr (btr (btr (btr (btr b2 b3) b4) b5) b6) b7) b8)).below hb) (Nat.le_trans (CptF_len _ _) (by decide)) (rows_bigU (CptF_row _ _) (by decide)) (by omega) hfcap).mono ?_; rintro e w2 ⟨AN, cN, rfl, oN, hb2⟩)
          exact ⟨rfl, .slice AN (CptF (CptF z fr) fr).length cN, by kernel_rfl, hb2, AN, cN, rfl, SlOw.at_ updO oN⟩
        refine wf_stepK [20] [fun _ => t20 = .bool true] (by kernel_rfl) (by kernel_rfl) (fun wf hb hf => ?_) (fun t24 => ?_)
        · obtain ⟨rfl, -⟩ := hf
          refine WfOp.yes (by kernel_rfl) ?_
          dsimp only
          go_wp2
          exact ⟨rfl, .slice A2 (CptF z fr).length c2, by kernel_rfl, Below.refl _ _, rfl⟩
        refine wf_stepK [20, 23, 24] [fun _ => t20 = .bool true, TVr (CptF (CptF z fr) fr) t23, fun _ => t24 = .slice A2 (CptF z fr).length c2] (by kernel_rfl) (by kernel_rfl) (fun wf hb hf => ?_) (fun t25 => ?_)
        · obtain ⟨rfl, ⟨XS1, xs1, rfl, hS1⟩, rfl, -⟩ := hf
          refine WfOp.yes (by kernel_rfl) ?_
          dsimp only
          go_wp2_with (go_at_call 8; refine (equalT (xs := CptF (CptF z fr) fr) (ys := CptF z fr) true (decide_eq_true HTW.out) hS1 ((a2.below updR (btr (btr (btr (btr (btr b3 b4) b5) b6) b7) b8)).below updR hb) (Nat.le_trans (CptF_len _ _) (by decide)) (Nat.le_trans (CptF_len _ _) (by decide)) (rows_bigU (CptF_row _ _) (by decide)) (rows_bigU (CptF_row _ _) (by decide))).mono ?_; rintro e w2 ⟨rfl, hb2⟩)
          exact ⟨rfl, .bool true, by kernel_rfl, hb2, rfl⟩
        refine wf_stepK [20, 25] [fun _ => t20 = .bool true, fun _ => t25 = .bool true] (by kernel_rfl) (by kernel_rfl) (fun wf hb hf => ?_) (fun t26 => ?_)
        · obtain ⟨rfl, rfl, -⟩ := hf
          refine ⟨?_⟩
          go_wp2
          exact ⟨rfl, .bool true, by kernel_rfl, Below.refl _ _, rfl⟩
        refine wf_doneK [26] [fun _ => t26 = .bool true] (by kernel_rfl) (by kernel_rfl) (fun w9 b9 hf => ?_)
        obtain ⟨rfl, -⟩ := hf
        show wpList _ _ _ [_] _ _
        refine wpList_frame (by simp [Act.put]; rfl) ?_
        have B9 := btr B8 b9
        go_wp2
        go_ret
        exact ⟨rfl, B9⟩
      · have HE := Lib.hid (HAS.out hC)
        have HC := Lib.hid hC
        clear hC
        go_wp2_with fail
        refine abs_world (fun W => Below w7.heap.size w7 W ∧ Blk W w7.heap.size 31 #[.int .i64 tx, .int .i64 ty]) ⟨bal (Below.refl _ _) _, Blk.newAt rfl⟩ ?_
        rintro w8 ⟨b8, hk8⟩
        have B8 := btr B7 b8
        refine wp_region_facts [[], [0], [], [2], List.range 4, List.range 5, List.range 6, List.range 6, List.range 8, List.range 9, List.range 10, List.range 11, List.range 11, List.range 13, List.range 11, List.range 11, [0, 1, 2, 3, 4, 5, 6, 7, 8, 9, 10, 14, 15], List.range 17, List.range 18, List.range 19, List.range 20, List.range 21, List.range 21, List.range 23, List.range 21, List.range 25, List.range 26]
          [fun v' _ => v' = .slice A2 (CptF z fr).length c2, fun v' _ => v' = .int .i64 ((CptF z fr).length), fun v' _ => v' = .slice Az z.length cz, fun v' _ => v' = .int .i64 ((z.length : Nat)), fun v' _ => v' = .bool true, fun v' _ => v' = .bool true, fun v' _ => v' = .slice Af fr.length cf, fun v' _ => v' = .agg #[.int .i64 tx, .int .i64 ty], fun v' _ => v' = .bool true, fun v' _ => v' = .bool false, fun v' _ => v' = .bool false, fun v' _ => v' = .slice A2 (CptF z fr).length c2, fun v' _ => v' = .agg #[.int .i64 tx, .int .i64 ty], ZVr (AsOfF (CptF z fr) tx ty), fun v' _ => v' = .slice Az z.length cz, fun v' _ => v' = .agg #[.int .i64 tx, .int .i64 ty], ZVr (AsOfF (z) tx ty), fun v' _ => v' = .bool true, fun v' _ => v' = .bool true, fun v' _ => v' = .bool true, fun v' _ => v' = .bool true, fun v' _ => v' = .slice A2 (CptF z fr).length c2, fun v' _ => v' = .slice Af fr.length cf, TVr (CptF (CptF z fr) fr), fun v' _ => v' = .slice A2 (CptF z fr).length c2, fun v' _ => v' = .bool true, fun v' _ => v' = .bool true]
          (by kernel_rfl) (by kernel_rfl) rfl ⟨stable_pure _, stable_pure _, stable_pure _, stable_pure _, stable_pure _, stable_pure _, stable_pure _, stable_pure _, stable_pure _, stable_pure _, stable_pure _, stable_pure _, stable_pure _, stable_zVr _, stable_pure _, stable_pure _, stable_zVr _, stable_pure _, stable_pure _, stable_pure _, stable_pure _, stable_pure _, stable_pure _, stable_tVr _, stable_pure _, stable_pure _, stable_pure _, trivial⟩ ?_
        refine wf_stepK [] [] (by kernel_rfl) (by kernel_rfl) (fun wf hb hf => ?_) (fun t0 => ?_)
        · refine ⟨?_⟩
          go_wp2
          exact ⟨rfl, .slice A2 (CptF z fr).length c2, by kernel_rfl, Below.refl _ _, rfl⟩
        refine wf_stepK [0] [fun _ => t0 = .slice A2 (CptF z fr).length c2] (by kernel_rfl) (by kernel_rfl) (fun wf hb hf => ?_) (fun t1 => ?_)
        · obtain ⟨rfl, -⟩ := hf
          refine ⟨?_⟩
          go_wp2
          exact ⟨rfl, .int .i64 ((CptF z fr).length), by kernel_rfl, Below.refl _ _, rfl⟩
        refine wf_stepK [] [] (by kernel_rfl) (by kernel_rfl) (fun wf hb hf => ?_) (fun t2 => ?_)
        · refine ⟨?_⟩
          go_wp2
          exact ⟨rfl, .slice Az z.length cz, by kernel_rfl, Below.refl _ _, rfl⟩
        refine wf_stepK [2] [fun _ => t2 = .slice Az z.length cz] (by kernel_rfl) (by kernel_rfl) (fun wf hb hf => ?_) (fun t3 => ?_)
        · obtain ⟨rfl, -⟩ := hf
          refine ⟨?_⟩
          go_wp2
          exact ⟨rfl, .int .i64 ((z.length : Nat)), by kernel_rfl, Below.refl _ _, rfl⟩
        refine wf_stepK [1, 3] [fun _ => t1 = .int .i64 ((CptF z fr).length), fun _ => t3 = .int .i64 ((z.length : Nat))] (by kernel_rfl) (by kernel_rfl) (fun wf hb hf => ?_) (fun t4 => ?_)
        · obtain ⟨rfl, rfl, -⟩ := hf
          refine ⟨?_⟩
          go_wp2
          exact ⟨rfl, .bool (decide ((CptF z fr).length ≤ z.length)), by kernel_rfl, Below.refl _ _, congrArg Value.bool (decide_eq_true HLE.out)⟩
        refine wf_stepK [4] [fun _ => t4 = .bool true] (by kernel_rfl) (by kernel_rfl) (fun wf hb hf => ?_) (fun t5 => ?_)
        · obtain ⟨rfl, -⟩ := hf
          refine ⟨?_⟩
          go_wp2
          exact ⟨rfl, .bool true, by kernel_rfl, Below.refl _ _, rfl⟩
        refine wf_stepK [5] [fun _ => t5 = .bool true] (by kernel_rfl) (by kernel_rfl) (fun wf hb hf => ?_) (fun t6 => ?_)
        · obtain ⟨rfl, -⟩ := hf
          refine WfOp.yes (by kernel_rfl) ?_
          dsimp only
          go_wp2
          exact ⟨rfl, .slice Af fr.length cf, by kernel_rfl, Below.refl _ _, rfl⟩
        refine wf_stepK [5] [fun _ => t5 = .bool true] (by kernel_rfl) (by kernel_rfl) (fun wf hb hf => ?_) (fun t7 => ?_)
        · obtain ⟨rfl, -⟩ := hf
          refine WfOp.yes (by kernel_rfl) ?_
          dsimp only
          have pc0 := (hk8.below hb).cell 0
          have pc1 := (hk8.below hb).cell 1
          simp at pc0 pc1
          go_wp2
          exact ⟨rfl, .agg #[.int .i64 tx, .int .i64 ty], by kernel_rfl, Below.refl _ _, rfl⟩
        refine wf_stepK [5, 6, 7] [fun _ => t5 = .bool true, fun _ => t6 = .slice Af fr.length cf, fun _ => t7 = .agg #[.int .i64 tx, .int .i64 ty]] (by kernel_rfl) (by kernel_rfl) (fun wf hb hf => ?_) (fun t8 => ?_)
        · obtain ⟨rfl, rfl, rfl, -⟩ := hf
          refine WfOp.yes (by kernel_rfl) ?_
          dsimp only
          go_wp2_with (go_at_call 20; refine (coversF true HC.out ((hfa.below (btr (btr (btr (btr (btr (btr b2 b3) b4) b5) b6) b7) b8)).below hb) (by omega)).mono ?_; rintro e w2 ⟨rfl, hb2⟩)
          exact ⟨rfl, .bool true, by kernel_rfl, hb2, rfl⟩
        refine wf_stepK [5, 8] [fun _ => t5 = .bool true, fun _ => t8 = .bool true] (by kernel_rfl) (by kernel_rfl) (fun wf hb hf => ?_) (fun t9 => ?_)
        · obtain ⟨rfl, rfl, -⟩ := hf
          refine WfOp.yes (by kernel_rfl) ?_
          dsimp only
          go_wp2
          exact ⟨rfl, .bool false, by kernel_rfl, Below.refl _ _, rfl⟩
        refine wf_stepK [5, 9] [fun _ => t5 = .bool true, fun _ => t9 = .bool false] (by kernel_rfl) (by kernel_rfl) (fun wf hb hf => ?_) (fun t10 => ?_)
        · obtain ⟨rfl, rfl, -⟩ := hf
          refine WfOp.yes (by kernel_rfl) ?_
          dsimp only
          go_wp2
          exact ⟨rfl, .bool false, by kernel_rfl, Below.refl _ _, rfl⟩
        refine wf_stepK [10] [fun _ => t10 = .bool false] (by kernel_rfl) (by kernel_rfl) (fun wf hb hf => ?_) (fun t11 => ?_)
        · obtain ⟨rfl, -⟩ := hf
          refine WfOp.yes (by kernel_rfl) ?_
          dsimp only
          go_wp2
          exact ⟨rfl, .slice A2 (CptF z fr).length c2, by kernel_rfl, Below.refl _ _, rfl⟩
        refine wf_stepK [10] [fun _ => t10 = .bool false] (by kernel_rfl) (by kernel_rfl) (fun wf hb hf => ?_) (fun t12 => ?_)
        · obtain ⟨rfl, -⟩ := hf
          refine WfOp.yes (by kernel_rfl) ?_
          dsimp only
          have pc0 := (hk8.below hb).cell 0
          have pc1 := (hk8.below hb).cell 1
          simp at pc0 pc1
          go_wp2
          exact ⟨rfl, .agg #[.int .i64 tx, .int .i64 ty], by kernel_rfl, Below.refl _ _, rfl⟩
        refine wf_stepK [10, 11, 12] [fun _ => t10 = .bool false, fun _ => t11 = .slice A2 (CptF z fr).length c2, fun _ => t12 = .agg #[.int .i64 tx, .int .i64 ty]] (by kernel_rfl) (by kernel_rfl) (fun wf hb hf => ?_) (fun t13 => ?_)
        · obtain ⟨rfl, rfl, rfl, -⟩ := hf
          refine WfOp.yes (by kernel_rfl) ?_
          dsimp only
          go_wp2_with (go_at_call 13; refine (AsOf_i _ _ (CptF z fr) tx ty _ ((a2.below updR (btr (btr (btr (btr (btr b3 b4) b5) b6) b7) b8)).below updR hb) (Nat.le_trans (CptF_len _ _) (by decide)) (rows_bigU (CptF_row _ _) (by decide))).mono ?_; rintro e w2 ⟨AN, cN, rfl, oN, hb2⟩)
          exact ⟨rfl, .slice AN (AsOfF (CptF z fr) tx ty).length cN, by kernel_rfl, hb2, AN, cN, rfl, SlOw.at_ entO oN, EntsOw.cap oN⟩
        refine wf_stepK [10] [fun _ => t10 = .bool false] (by kernel_rfl) (by kernel_rfl) (fun wf hb hf => ?_) (fun t14 => ?_)
        · obtain ⟨rfl, -⟩ := hf
          refine WfOp.yes (by kernel_rfl) ?_
          dsimp only
          go_wp2
          exact ⟨rfl, .slice Az z.length cz, by kernel_rfl, Below.refl _ _, rfl⟩
        refine wf_stepK [10] [fun _ => t10 = .bool false] (by kernel_rfl) (by kernel_rfl) (fun wf hb hf => ?_) (fun t15 => ?_)
        · obtain ⟨rfl, -⟩ := hf
          refine WfOp.yes (by kernel_rfl) ?_
          dsimp only
          have pc0 := (hk8.below hb).cell 0
          have pc1 := (hk8.below hb).cell 1
          simp at pc0 pc1
          go_wp2
          exact ⟨rfl, .agg #[.int .i64 tx, .int .i64 ty], by kernel_rfl, Below.refl _ _, rfl⟩
        refine wf_stepK [10, 14, 15] [fun _ => t10 = .bool false, fun _ => t14 = .slice Az z.length cz, fun _ => t15 = .agg #[.int .i64 tx, .int .i64 ty]] (by kernel_rfl) (by kernel_rfl) (fun wf hb hf => ?_) (fun t16 => ?_)
        · obtain ⟨rfl, rfl, rfl, -⟩ := hf
          refine WfOp.yes (by kernel_rfl) ?_
          dsimp only
          go_wp2_with (go_at_call 13; refine (AsOf_i _ _ (z) tx ty _ (((SlOw.at_ updO hz.1).below updR (btr (btr (btr (btr (btr (btr b2 b3) b4) b5) b6) b7) b8)).below updR hb) nz rz).mono ?_; rintro e w2 ⟨AN, cN, rfl, oN, hb2⟩)
          exact ⟨rfl, .slice AN (AsOfF (z) tx ty).length cN, by kernel_rfl, hb2, AN, cN, rfl, SlOw.at_ entO oN, EntsOw.cap oN⟩
        refine wf_stepK [10, 13, 16] [fun _ => t10 = .bool false, ZVr (AsOfF (CptF z fr) tx ty) t13, ZVr (AsOfF (z) tx ty) t16] (by kernel_rfl) (by kernel_rfl) (fun wf hb hf => ?_) (fun t17 => ?_)
        · obtain ⟨rfl, ⟨XS1, xs1, rfl, hS1⟩, ⟨XS2, xs2, rfl, hS2⟩, -⟩ := hf
          refine WfOp.yes (by kernel_rfl) ?_
          dsimp only
          go_wp2_with (go_at_call 12; refine (equalZ (xs := AsOfF (CptF z fr) tx ty) (ys := AsOfF (z) tx ty) true (decide_eq_true HE.out) hS1.1 hS2.1 (Nat.le_trans (AsOfF_len _ _ _) (by decide)) (Nat.le_trans (AsOfF_len _ _ _) (by decide)) (rows_big (AsOfF_row _ _ _) (by decide)) (rows_big (AsOfF_row _ _ _) (by decide))).mono ?_; rintro e w2 ⟨rfl, hb2⟩)
          exact ⟨rfl, .bool true, by kernel_rfl, hb2, rfl⟩
        refine wf_stepK [5, 10, 17] [fun _ => t5 = .bool true, fun _ => t10 = .bool false, fun _ => t17 = .bool true] (by kernel_rfl) (by kernel_rfl) (fun wf hb hf => ?_) (fun t18 => ?_)
        · obtain ⟨rfl, rfl, rfl, -⟩ := hf
          refine WfOp.yes (by kernel_rfl) ?_
          dsimp only
          go_wp2
          exact ⟨rfl, .bool true, by kernel_rfl, Below.refl _ _, rfl⟩
        refine wf_stepK [5, 18] [fun _ => t5 = .bool true, fun _ => t18 = .bool true] (by kernel_rfl) (by kernel_rfl) (fun wf hb hf => ?_) (fun t19 => ?_)
        · obtain ⟨rfl, rfl, -⟩ := hf
          refine ⟨?_⟩
          go_wp2
          exact ⟨rfl, .bool true, by kernel_rfl, Below.refl _ _, rfl⟩
        refine wf_stepK [19] [fun _ => t19 = .bool true] (by kernel_rfl) (by kernel_rfl) (fun wf hb hf => ?_) (fun t20 => ?_)
        · obtain ⟨rfl, -⟩ := hf
          refine ⟨?_⟩
          go_wp2
          exact ⟨rfl, .bool true, by kernel_rfl, Below.refl _ _, rfl⟩
        refine wf_stepK [20] [fun _ => t20 = .bool true] (by kernel_rfl) (by kernel_rfl) (fun wf hb hf => ?_) (fun t21 => ?_)
        · obtain ⟨rfl, -⟩ := hf
          refine WfOp.yes (by kernel_rfl) ?_
          dsimp only
          go_wp2
          exact ⟨rfl, .slice A2 (CptF z fr).length c2, by kernel_rfl, Below.refl _ _, rfl⟩
        refine wf_stepK [20] [fun _ => t20 = .bool true] (by kernel_rfl) (by kernel_rfl) (fun wf hb hf => ?_) (fun t22 => ?_)
        · obtain ⟨rfl, -⟩ := hf
          refine WfOp.yes (by kernel_rfl) ?_
          dsimp only
          go_wp2
          exact ⟨rfl, .slice Af fr.length cf, by kernel_rfl, Below.refl _ _, rfl⟩
        refine wf_stepK [20, 21, 22] [fun _ => t20 = .bool true, fun _ => t21 = .slice A2 (CptF z fr).length c2, fun _ => t22 = .slice Af fr.length cf] (by kernel_rfl) (by kernel_rfl) (fun wf hb hf => ?_) (fun t23 => ?_)
        · obtain ⟨rfl, rfl, rfl, -⟩ := hf
          refine WfOp.yes (by kernel_rfl) ?_
          dsimp only
          go_wp2_with (go_at_call 17; refine (CompactTrace_i _ _ (CptF z fr) _ _ fr _ ((a2.below updR (btr (btr (btr (btr (btr b3 b4) b5) b6) b7) b8)).below updR hb) ((hfa.below (btr (btr (btr (btr (btr (btr b2 b3) b4) b5) b6) b7) b8)).below hb) (Nat.le_trans (CptF_len _ _) (by decide)) (rows_bigU (CptF_row _ _) (by decide)) (by omega) hfcap).mono ?_; rintro e w2 ⟨AN, cN, rfl, oN, hb2⟩)
          exact ⟨rfl, .slice AN (CptF (CptF z fr) fr).length cN, by kernel_rfl, hb2, AN, cN, rfl, SlOw.at_ updO oN⟩
        refine wf_stepK [20] [fun _ => t20 = .bool true] (by kernel_rfl) (by kernel_rfl) (fun wf hb hf => ?_) (fun t24 => ?_)
        · obtain ⟨rfl, -⟩ := hf
          refine WfOp.yes (by kernel_rfl) ?_
          dsimp only
          go_wp2
          exact ⟨rfl, .slice A2 (CptF z fr).length c2, by kernel_rfl, Below.refl _ _, rfl⟩
        refine wf_stepK [20, 23, 24] [fun _ => t20 = .bool true, TVr (CptF (CptF z fr) fr) t23, fun _ => t24 = .slice A2 (CptF z fr).length c2] (by kernel_rfl) (by kernel_rfl) (fun wf hb hf => ?_) (fun t25 => ?_)
        · obtain ⟨rfl, ⟨XS3, xs3, rfl, hS3⟩, rfl, -⟩ := hf
          refine WfOp.yes (by kernel_rfl) ?_
          dsimp only
          go_wp2_with (go_at_call 8; refine (equalT (xs := CptF (CptF z fr) fr) (ys := CptF z fr) true (decide_eq_true HTW.out) hS3 ((a2.below updR (btr (btr (btr (btr (btr b3 b4) b5) b6) b7) b8)).below updR hb) (Nat.le_trans (CptF_len _ _) (by decide)) (Nat.le_trans (CptF_len _ _) (by decide)) (rows_bigU (CptF_row _ _) (by decide)) (rows_bigU (CptF_row _ _) (by decide))).mono ?_; rintro e w2 ⟨rfl, hb2⟩)
          exact ⟨rfl, .bool true, by kernel_rfl, hb2, rfl⟩
        refine wf_stepK [20, 25] [fun _ => t20 = .bool true, fun _ => t25 = .bool true] (by kernel_rfl) (by kernel_rfl) (fun wf hb hf => ?_) (fun t26 => ?_)
        · obtain ⟨rfl, rfl, -⟩ := hf
          refine ⟨?_⟩
          go_wp2
          exact ⟨rfl, .bool true, by kernel_rfl, Below.refl _ _, rfl⟩
        refine wf_doneK [26] [fun _ => t26 = .bool true] (by kernel_rfl) (by kernel_rfl) (fun w9 b9 hf => ?_)
        obtain ⟨rfl, -⟩ := hf
        show wpList _ _ _ [_] _ _
        refine wpList_frame (by simp [Act.put]; rfl) ?_
        have B9 := btr B8 b9
        go_wp2
        go_ret
        exact ⟨rfl, B9⟩

namespace lawFnCompactTrace
theorem own : ownKnob Tryz.prog.godebug = none := by kernel_rfl
theorem laidOut : laidOutB Tryz.prog = true := clo_laid
set_option maxRecDepth 100000 in
theorem lifted (os : Os) (started : os.Started) (H : Type) (enc : TypeId × Value → H) :
    ReturnsInHanded {} Tryz.checked os 4 .any (Rows.fnCompactTraceSpec.pre6 enc Tryz.prog Tryz.f4 Rows.fnCompactTraceRow.domain false) (Rows.fnCompactTraceSpec.post enc Tryz.prog Tryz.f4 false true false false) := by
  refine returnsInHanded_of_change (C := Tryz.checked) own started (by kernel_rfl) Tryz.func4
    (ChangeSpec.witness6 (enc := enc) (C := Tryz.checked) false ⟨#[], #[.slice none 0 0, .slice none 0 0], []⟩ 8 (by kernel_rfl) (by kernel_rfl) (by kernel_rfl) (by kernel_rfl)) ?_
  intro W base args ds gs before hval0 hW hcnd _
  have hval : ∀ (j : Nat) t v, Tryz.f4.params[j]? = some t → args[j]? = some v → Value.okWide Tryz.prog W .any base t v := hval0
  have hW' := hW
  obtain ⟨p, q, hA0, hV, rfl, hfz, hnd⟩ := hW
  have hA : DataW.TrodAll enc Tryz.prog W 0 (fun _ => true) true Tryz.f4.params.toList args.toList ds p := hA0
  rw [Tryz.params4] at hA hval
  obtain ⟨v0, vs0, d0, ds0, p0, q0, hargs, rfl, rfl, h0, r0⟩ := trodAll_cons hA
  obtain ⟨v1, vs1, d1, ds1, p1, q1, rfl, rfl, rfl, h1, r1⟩ := trodAll_cons r0
  obtain ⟨rfl, rfl, rfl⟩ := trodAll_nil r1
  obtain rfl : args = #[v0, v1] := by cases args; simp_all
  obtain ⟨rfl, rfl⟩ := trodVars_none hV
  have k0 := h0
  have lt0 : ∀ x ∈ p0, x.block < W.heap.size := by obtain ⟨m, hm⟩ := k0; exact DataW.trod_lt m _ _ _ hm
  obtain ⟨a0, len0, cap0, rfl⟩ := okWide_slice Tryz.underlying22 (hval 0 22 v0 rfl rfl)
  obtain ⟨l0, m0, w0⟩ := bytes_of Tryz.underlying22 Tryz.underlying5 (by kernel_rfl) h0
  have k1 := h1
  have lt1 : ∀ x ∈ p1, x.block < W.heap.size := by obtain ⟨m, hm⟩ := k1; exact DataW.trod_lt m _ _ _ hm
  obtain ⟨a1, len1, cap1, rfl⟩ := okWide_slice Tryz.underlying22 (hval 1 22 v1 rfl rfl)
  obtain ⟨l1, m1, w1⟩ := bytes_of Tryz.underlying22 Tryz.underlying5 (by kernel_rfl) h1
  clear hA0 hval0
  refine (FnCompactTrace_walk a0 len0 cap0 a1 len1 cap1 W l0 m0 w0 l1 m1 w1).mono fun e W' ⟨he, bel⟩ => ?_
  subst he
  exact ⟨_, rfl, _, _, _, [], _, [], hW', trodAll_mk1 (shut_bool Tryz.underlying4 _), (trodAll_cons_mk (Below.trod laidOut (by kernel_rfl) (of_decide_eq_true (by kernel_rfl)) k0 bel lt0) (trodAll_cons_mk (Below.trod laidOut (by kernel_rfl) (of_decide_eq_true (by kernel_rfl)) k1 bel lt1) trodAll_mk0)), rfl, bel.frame _, fun h => by cases h⟩
theorem andTT {a b : Bool} (h1 : a = true) (h2 : b = true) : (a && b) = true := by rw [h1, h2]; rfl
set_option maxHeartbeats 8000000 in
theorem closed : joinedFacts Tryz.prog 4 Tryz.f4 Rows.fnCompactTraceSpec Rows.fnCompactTraceRow = true := by
  unfold joinedFacts
  repeat' (with_reducible refine andTT ?_ ?_)
  all_goals (first | (with_reducible exact clo_laid) | (with_reducible exact clo_maps) | (with_reducible exact clo_heard) | (with_reducible exact clo_enter) | ((with_reducible refine clo_plain _ ?_); rfl) | ((with_reducible refine clo_lifts _ ?_); rfl) | (as_aux_lemma => kernel_rfl))

theorem over : Rows.fnCompactTraceRow.holds Tryz.pinned (OpenSpec.ofChange Rows.fnCompactTraceSpec) :=
  OpenClaim.holds_of_wide 4 Tryz.f4 rfl rfl rfl rfl rfl rfl rfl ⟨rfl, rfl, rfl, rfl, rfl⟩ rfl rfl rfl rfl rfl (by kernel_rfl) Tryz.func4 closed
    (of_decide_eq_true (by kernel_rfl)) (by unfold Func.isWrapper; first | (rw [if_pos (by decide +kernel)]; kernel_rfl) | (rw [if_neg (by decide +kernel)]; exact ⟨rfl, rfl⟩))
    (fun os started H enc _ => lifted os started H enc)

/-- THE STATEMENT. -/
theorem proved : Rows.FnCompactTraceSaid := over
end lawFnCompactTrace
end Go.Proofs.YtjobecoogjojjaaGreat
