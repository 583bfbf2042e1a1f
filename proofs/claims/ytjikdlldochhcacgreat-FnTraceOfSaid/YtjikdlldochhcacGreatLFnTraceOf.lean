/- The law FnTraceOf returns true at every code; no condition. -/
import Derived.Test.YtjikdlldochhcacGreatTrA
import Derived.Test.YtjikdlldochhcacGreatTrO
import Derived.Test.YtjikdlldochhcacGreatDrawL
import Derived.Test.YtjikdlldochhcacGreatEqT
import Derived.Test.YtjikdlldochhcacGreatEqZ
import Derived.Test.YtjikdlldochhcacGreatClo
import Derived.Carry
import Derived.ChangeOld
import Derived.Lib.SmallJoins
import Derived.Lib.QuietBelow
namespace Go.Proofs.YtjikdlldochhcacGreat
open Go.ChangeShapes Go.WideShapes Go.ChangeAt Go.RowKit Go.Sort
set_option linter.unusedVariables false
set_option linter.unusedSimpArgs false

set_option maxRecDepth 100000 in
set_option maxHeartbeats 6400000 in
theorem FnTraceOf_walk (A : Option Addr) (n c : Nat) (w : World) (hc : n ≤ c) (hl : n ≤ maxLen) (hb : BytesAt w w.heap.size A n) :
    Calls Tryz.prog 4 #[.slice A n c] w fun e w' => e = .returned (.bool true) ∧ Below w.heap.size w w' := by
  unfold maxLen at hl
  by_cases hbign : 1048576 < n
  · have hb' : (1048576 : Int) < n := by omega
    go_enter Tryz.func4, Tryz.ntmps4
    go_wp2
    go_ret
    exact ⟨rfl, Below.refl _ _⟩
  have hbn' : (n : Int) ≤ 1048576 := by omega
  have HB := Lib.hid hb
  clear hb hbign
  go_enter Tryz.func4, Tryz.ntmps4
  go_wp2_with fail
  refine (DrawTraceOf_r _ _ _ _ HB.out hc (by omega)).mono ?_
  rintro e w1 ⟨zs, AZ, cz, rfl, ho, hl9, hzb, B1⟩
  have hC := ZssOw.atC ho
  have hZ := ZssOw.at_ ho
  have hzi := hzb.in_
  have HZB := Lib.hid hzb
  clear ho hzb
  go_wp2_with fail
  refine (TraceOf_i _ _ zs _ hC (by omega) hzi).mono ?_
  rintro e w2 ⟨AT, cT, rfl, oT, b2⟩
  have B2 := btr B1 b2
  have hT2 := UpdsOw.at_ oT
  have htl := TrF_len zs
  have htr : rowsU (TrF zs) 4194304 := fun e he => by have := TrF_row zs e he; omega
  have HAS : Hid (∀ (h : alkB zs = true) (i : Nat) (hi : i < zs.length) (y : Int), 0 ≤ y → y ≤ 99 → AsOfF (TrF zs) (i : Int) y = zs[i]) := fun h i hi y h0 h1 => TrF_asOf h hl9 hi h0 h1
  have hspec := fun W (h : ZssC W AZ zs) => TraceOf_s AZ cz zs W h (by omega) hzi
  generalize TrF zs = TT at *
  have HTR := Lib.hid htr
  clear oT
  go_wp2_with fail
  refine (hspec _ (SlAt.below zlC hC b2)).mono ?_
  rintro e w3 ⟨AS, cS, rfl, oS, b3⟩
  have B3 := btr B2 b3
  have hS3 := UpdsOw.at_ oS
  clear oS hspec htr
  go_wp2_with fail
  refine (equalT (xs := TT) (ys := TT) true (decide_eq_true rfl) (hT2.below updR b3) hS3 (by omega) (by omega) HTR.out HTR.out).mono ?_
  rintro e w4 ⟨rfl, b4⟩
  have B4 := btr B3 b4
  have hal := alike_l AZ cz zs w4 (SlAt.below zlR hZ (btr (btr b2 b3) b4)) (by omega) hzi
  clear hS3
  cases ha : alkB zs
  · rw [ha] at hal
    clear ha HAS
    go_wp2_with fail
    refine hal.mono ?_
    rintro e w5 ⟨rfl, b5⟩
    go_wp2
    go_ret
    exact ⟨rfl, btr B4 b5⟩
  rw [ha] at hal
  have HA := Lib.hid (HAS.out ha)
  clear HAS ha
  go_wp2_with fail
  refine hal.mono ?_
  rintro e w5 ⟨rfl, b5⟩
  have B5 := btr B4 b5
  have hT5 := hT2.below updR (btr (btr b3 b4) b5)
  have hZ5 : SlAt ZlR 1 w5 AZ zs := SlAt.below zlR hZ (btr (btr (btr b2 b3) b4) b5)
  clear hal hT2 hC hZ b2 b3 b4 b5 B1 B2 B3 B4
  go_wp2
  go_loopw [5] (fun i wr => ∃ k : Nat, k ≤ zs.length ∧ i = .int .i64 (k : Nat) ∧ Below w5.heap.size w5 wr) (fun i _ => zs.length - (intOf i).toNat)
  case atStart => exact ⟨0, by omega, rfl, Below.refl _ _⟩
  case round =>
    obtain ⟨i, hk, rfl, hbel⟩ := hrel
    by_cases hlt : i < zs.length
    · obtain ⟨b, off, ZA, zc, rfl, hbl, hc0, hml, hz⟩ := ZssAt.get hZ5 i hlt
      have q0 := (hbel.cell (p := ⟨b, off + i, none⟩) hbl).trans hc0
      have hbl2 := Nat.lt_of_lt_of_le hbl hbel.size
      have hzr : EntsAt wr ZA zs[i] := SlAt.below entR hz hbel
      have hT := hT5.below updR hbel
      have hz1 := (hzi.get hlt).1
      have hz2 := (hzi.get hlt).2
      have hlt' : (i : Int) < zs.length := by omega
      have hAs1 := fun W (h : UpdsAt W AT TT) => AsOf_i AT cT TT (i : Int) 0 W h (by omega) HTR.out
      have hAs2 := fun W (h : UpdsAt W AT TT) => AsOf_i AT cT TT (i : Int) 5 W h (by omega) HTR.out
      rw [HA.out i hlt 0 (by omega) (by omega)] at hAs1
      rw [HA.out i hlt 5 (by omega) (by omega)] at hAs2
      clear hc0 hz
      go_wp2_with fail
      refine wp_region_facts [[], [], [1], [0, 1, 2], [], [], [4, 5], [4, 5, 6], List.range 8, List.range 9, List.range 10, List.range 11, List.range 11, [0, 1, 2, 3, 4, 5, 6, 7, 8, 9, 10, 12], List.range 14, List.range 11, List.range 11, [0, 1, 2, 3, 4, 5, 6, 7, 8, 9, 10, 15, 16], [0, 1, 2, 3, 4, 5, 6, 7, 8, 9, 10, 15, 16, 17], List.range 19, List.range 20]
        [fun v' _ => v' = .slice AT TT.length cT, fun v' _ => v' = .int .i64 ((i : Int)), fun v' _ => v' = .agg #[.int .i64 (i : Int), .int .i64 0], EnV zs[i], fun v' _ => v' = .slice (some ⟨b, off, none⟩) zs.length cz, fun v' _ => v' = .int .i64 ((i : Int)), fun v' _ => v' = .pointer (some ⟨b, off + i, none⟩), fun v' _ => v' = .slice ZA zs[i].length zc, fun v' _ => v' = .bool true, fun v' _ => v' = .bool false, fun v' _ => v' = .bool false, fun v' _ => v' = .slice AT TT.length cT, fun v' _ => v' = .int .i64 ((i : Int)), fun v' _ => v' = .agg #[.int .i64 (i : Int), .int .i64 5], EnV zs[i], fun v' _ => v' = .slice (some ⟨b, off, none⟩) zs.length cz, fun v' _ => v' = .int .i64 ((i : Int)), fun v' _ => v' = .pointer (some ⟨b, off + i, none⟩), fun v' _ => v' = .slice ZA zs[i].length zc, fun v' _ => v' = .bool true, fun v' _ => v' = .bool false]
        (by kernel_rfl) (by kernel_rfl) rfl ⟨stable_pure _, stable_pure _, stable_pure _, stable_enV _, stable_pure _, stable_pure _, stable_pure _, stable_pure _, stable_pure _, stable_pure _, stable_pure _, stable_pure _, stable_pure _, stable_pure _, stable_enV _, stable_pure _, stable_pure _, stable_pure _, stable_pure _, stable_pure _, stable_pure _, trivial⟩ ?_
      refine wf_stepK [] [] (by kernel_rfl) (by kernel_rfl) (fun wf hb hf => ?_) (fun t0 => ?_)
      · refine ⟨?_⟩
        go_wp2
        exact ⟨rfl, .slice AT TT.length cT, by kernel_rfl, Below.refl _ _, rfl⟩
      refine wf_stepK [] [] (by kernel_rfl) (by kernel_rfl) (fun wf hb hf => ?_) (fun t1 => ?_)
      · refine ⟨?_⟩
        go_wp2
        exact ⟨rfl, .int .i64 ((i : Int)), by kernel_rfl, Below.refl _ _, rfl⟩
      refine wf_stepK [1] [fun _ => t1 = .int .i64 ((i : Int))] (by kernel_rfl) (by kernel_rfl) (fun wf hb hf => ?_) (fun t2 => ?_)
      · obtain ⟨rfl, -⟩ := hf
        refine ⟨?_⟩
        go_wp2
        exact ⟨rfl, .agg #[.int .i64 (i : Int), .int .i64 0], by kernel_rfl, Below.refl _ _, rfl⟩
      refine wf_stepK [0, 2] [fun _ => t0 = .slice AT TT.length cT, fun _ => t2 = .agg #[.int .i64 (i : Int), .int .i64 0]] (by kernel_rfl) (by kernel_rfl) (fun wf hb hf => ?_) (fun t3 => ?_)
      · obtain ⟨rfl, rfl, -⟩ := hf
        refine ⟨?_⟩
        go_wp2_with (go_at_call 18; refine (hAs1 _ (hT.below updR hb)).mono ?_; rintro e w2 ⟨AQ, cQ, rfl, oQ, hb2⟩)
        exact ⟨rfl, .slice AQ zs[i].length cQ, by kernel_rfl, hb2, AQ, cQ, rfl, SlOw.at_ entO oQ⟩
      refine wf_stepK [] [] (by kernel_rfl) (by kernel_rfl) (fun wf hb hf => ?_) (fun t4 => ?_)
      · refine ⟨?_⟩
        go_wp2
        exact ⟨rfl, .slice (some ⟨b, off, none⟩) zs.length cz, by kernel_rfl, Below.refl _ _, rfl⟩
      refine wf_stepK [] [] (by kernel_rfl) (by kernel_rfl) (fun wf hb hf => ?_) (fun t5 => ?_)
      · refine ⟨?_⟩
        go_wp2
        exact ⟨rfl, .int .i64 ((i : Int)), by kernel_rfl, Below.refl _ _, rfl⟩
      refine wf_stepK [4, 5] [fun _ => t4 = .slice (some ⟨b, off, none⟩) zs.length cz, fun _ => t5 = .int .i64 ((i : Int))] (by kernel_rfl) (by kernel_rfl) (fun wf hb hf => ?_) (fun t6 => ?_)
      · obtain ⟨rfl, rfl, -⟩ := hf
        refine ⟨?_⟩
        go_wp2
        exact ⟨rfl, .pointer (some ⟨b, off + i, none⟩), by kernel_rfl, Below.refl _ _, rfl⟩
      refine wf_stepK [6] [fun _ => t6 = .pointer (some ⟨b, off + i, none⟩)] (by kernel_rfl) (by kernel_rfl) (fun wf hb hf => ?_) (fun t7 => ?_)
      · obtain ⟨rfl, -⟩ := hf
        refine ⟨?_⟩
        have cz := (hb.cell (p := ⟨b, off + i, none⟩) hbl2).trans q0
        go_wp2
        exact ⟨rfl, .slice ZA zs[i].length zc, by kernel_rfl, Below.refl _ _, rfl⟩
      refine wf_stepK [3, 7] [EnV zs[i] t3, fun _ => t7 = .slice ZA zs[i].length zc] (by kernel_rfl) (by kernel_rfl) (fun wf hb hf => ?_) (fun t8 => ?_)
      · obtain ⟨⟨AD1, cD1, rfl, hD1⟩, rfl, -⟩ := hf
        refine ⟨?_⟩
        go_wp2_with (go_at_call 17; refine (equalZ (xs := zs[i]) (ys := zs[i]) true (decide_eq_true rfl) hD1 (hzr.below entR hb) hz1 hz1 hz2 hz2).mono ?_; rintro e w2 ⟨rfl, hb2⟩)
        exact ⟨rfl, .bool true, by kernel_rfl, hb2, rfl⟩
      refine wf_stepK [8] [fun _ => t8 = .bool true] (by kernel_rfl) (by kernel_rfl) (fun wf hb hf => ?_) (fun t9 => ?_)
      · obtain ⟨rfl, -⟩ := hf
        refine ⟨?_⟩
        go_wp2
        exact ⟨rfl, .bool false, by kernel_rfl, Below.refl _ _, rfl⟩
      refine wf_stepK [9] [fun _ => t9 = .bool false] (by kernel_rfl) (by kernel_rfl) (fun wf hb hf => ?_) (fun t10 => ?_)
      · obtain ⟨rfl, -⟩ := hf
        refine ⟨?_⟩
        go_wp2
        exact ⟨rfl, .bool false, by kernel_rfl, Below.refl _ _, rfl⟩
      refine wf_stepK [10] [fun _ => t10 = .bool false] (by kernel_rfl) (by kernel_rfl) (fun wf hb hf => ?_) (fun t11 => ?_)
      · obtain ⟨rfl, -⟩ := hf
        refine WfOp.yes (by kernel_rfl) ?_
        dsimp only
        go_wp2
        exact ⟨rfl, .slice AT TT.length cT, by kernel_rfl, Below.refl _ _, rfl⟩
      refine wf_stepK [10] [fun _ => t10 = .bool false] (by kernel_rfl) (by kernel_rfl) (fun wf hb hf => ?_) (fun t12 => ?_)
      · obtain ⟨rfl, -⟩ := hf
        refine WfOp.yes (by kernel_rfl) ?_
        dsimp only
        go_wp2
        exact ⟨rfl, .int .i64 ((i : Int)), by kernel_rfl, Below.refl _ _, rfl⟩
      refine wf_stepK [10, 12] [fun _ => t10 = .bool false, fun _ => t12 = .int .i64 ((i : Int))] (by kernel_rfl) (by kernel_rfl) (fun wf hb hf => ?_) (fun t13 => ?_)
      · obtain ⟨rfl, rfl, -⟩ := hf
        refine WfOp.yes (by kernel_rfl) ?_
        dsimp only
        go_wp2
        exact ⟨rfl, .agg #[.int .i64 (i : Int), .int .i64 5], by kernel_rfl, Below.refl _ _, rfl⟩
      refine wf_stepK [10, 11, 13] [fun _ => t10 = .bool false, fun _ => t11 = .slice AT TT.length cT, fun _ => t13 = .agg #[.int .i64 (i : Int), .int .i64 5]] (by kernel_rfl) (by kernel_rfl) (fun wf hb hf => ?_) (fun t14 => ?_)
      · obtain ⟨rfl, rfl, rfl, -⟩ := hf
        refine WfOp.yes (by kernel_rfl) ?_
        dsimp only
        go_wp2_with (go_at_call 18; refine (hAs2 _ (hT.below updR hb)).mono ?_; rintro e w2 ⟨AQ, cQ, rfl, oQ, hb2⟩)
        exact ⟨rfl, .slice AQ zs[i].length cQ, by kernel_rfl, hb2, AQ, cQ, rfl, SlOw.at_ entO oQ⟩
      refine wf_stepK [10] [fun _ => t10 = .bool false] (by kernel_rfl) (by kernel_rfl) (fun wf hb hf => ?_) (fun t15 => ?_)
      · obtain ⟨rfl, -⟩ := hf
        refine WfOp.yes (by kernel_rfl) ?_
        dsimp only
        go_wp2
        exact ⟨rfl, .slice (some ⟨b, off, none⟩) zs.length cz, by kernel_rfl, Below.refl _ _, rfl⟩
      refine wf_stepK [10] [fun _ => t10 = .bool false] (by kernel_rfl) (by kernel_rfl) (fun wf hb hf => ?_) (fun t16 => ?_)
      · obtain ⟨rfl, -⟩ := hf
        refine WfOp.yes (by kernel_rfl) ?_
        dsimp only
        go_wp2
        exact ⟨rfl, .int .i64 ((i : Int)), by kernel_rfl, Below.refl _ _, rfl⟩
      refine wf_stepK [10, 15, 16] [fun _ => t10 = .bool false, fun _ => t15 = .slice (some ⟨b, off, none⟩) zs.length cz, fun _ => t16 = .int .i64 ((i : Int))] (by kernel_rfl) (by kernel_rfl) (fun wf hb hf => ?_) (fun t17 => ?_)
      · obtain ⟨rfl, rfl, rfl, -⟩ := hf
        refine WfOp.yes (by kernel_rfl) ?_
        dsimp only
        go_wp2
        exact ⟨rfl, .pointer (some ⟨b, off + i, none⟩), by kernel_rfl, Below.refl _ _, rfl⟩
      refine wf_stepK [10, 17] [fun _ => t10 = .bool false, fun _ => t17 = .pointer (some ⟨b, off + i, none⟩)] (by kernel_rfl) (by kernel_rfl) (fun wf hb hf => ?_) (fun t18 => ?_)
      · obtain ⟨rfl, rfl, -⟩ := hf
        refine WfOp.yes (by kernel_rfl) ?_
        dsimp only
        have cz := (hb.cell (p := ⟨b, off + i, none⟩) hbl2).trans q0
        go_wp2
        exact ⟨rfl, .slice ZA zs[i].length zc, by kernel_rfl, Below.refl _ _, rfl⟩
      refine wf_stepK [10, 14, 18] [fun _ => t10 = .bool false, EnV zs[i] t14, fun _ => t18 = .slice ZA zs[i].length zc] (by kernel_rfl) (by kernel_rfl) (fun wf hb hf => ?_) (fun t19 => ?_)
      · obtain ⟨rfl, ⟨AD2, cD2, rfl, hD2⟩, rfl, -⟩ := hf
        refine WfOp.yes (by kernel_rfl) ?_
        dsimp only
        go_wp2_with (go_at_call 17; refine (equalZ (xs := zs[i]) (ys := zs[i]) true (decide_eq_true rfl) hD2 (hzr.below entR hb) hz1 hz1 hz2 hz2).mono ?_; rintro e w2 ⟨rfl, hb2⟩)
        exact ⟨rfl, .bool true, by kernel_rfl, hb2, rfl⟩
      refine wf_stepK [10, 19] [fun _ => t10 = .bool false, fun _ => t19 = .bool true] (by kernel_rfl) (by kernel_rfl) (fun wf hb hf => ?_) (fun t20 => ?_)
      · obtain ⟨rfl, rfl, -⟩ := hf
        refine WfOp.yes (by kernel_rfl) ?_
        dsimp only
        go_wp2
        exact ⟨rfl, .bool false, by kernel_rfl, Below.refl _ _, rfl⟩
      refine wf_doneK [10, 20] [fun _ => t10 = .bool false, fun _ => t20 = .bool false] (by kernel_rfl) (by kernel_rfl) (fun w9 b9 hf => ?_)
      obtain ⟨rfl, rfl, -⟩ := hf
      show wpList _ _ _ [_] _ _
      refine wpList_frame (by simp [Act.put]; rfl) ?_
      have HBB := Lib.hid (btr hbel b9)
      clear hAs1 hAs2 hzr hT b9 hbel q0
      go_wp2
      go_roundw
      case rel => exact ⟨i + 1, by omega, by go_num, HBB.out⟩
      case measure => simp [intOf]; omega
    · obtain rfl : i = zs.length := by omega
      go_wp2
      go_ret
      exact ⟨rfl, btr B5 hbel⟩

namespace lawFnTraceOf
theorem own : ownKnob Tryz.prog.godebug = none := by kernel_rfl
theorem laidOut : laidOutB Tryz.prog = true := clo_laid
set_option maxRecDepth 100000 in
theorem lifted (os : Os) (started : os.Started) (H : Type) (enc : TypeId × Value → H) :
    ReturnsInHanded {} Tryz.checked os 4 .any (Rows.fnTraceOfSpec.pre6 enc Tryz.prog Tryz.f4 Rows.fnTraceOfRow.domain false) (Rows.fnTraceOfSpec.post enc Tryz.prog Tryz.f4 false true false false) := by
  refine returnsInHanded_of_change (C := Tryz.checked) own started (by kernel_rfl) Tryz.func4
    (ChangeSpec.witness6 (enc := enc) (C := Tryz.checked) false ⟨#[], #[.slice none 0 0], []⟩ 8 (by kernel_rfl) (by kernel_rfl) (by kernel_rfl) (by kernel_rfl)) ?_
  intro W base args ds gs before hval0 hW hcnd _
  have hval : ∀ (j : Nat) t v, Tryz.f4.params[j]? = some t → args[j]? = some v → Value.okWide Tryz.prog W .any base t v := hval0
  have hW' := hW
  obtain ⟨p, q, hA0, hV, rfl, hfz, hnd⟩ := hW
  have hA : DataW.TrodAll enc Tryz.prog W 0 (fun _ => true) true Tryz.f4.params.toList args.toList ds p := hA0
  rw [Tryz.params4] at hA hval
  obtain ⟨v0, vs0, d0, ds0, p0, q0, hargs, rfl, rfl, h0, r0⟩ := trodAll_cons hA
  obtain ⟨rfl, rfl, rfl⟩ := trodAll_nil r0
  obtain rfl : args = #[v0] := by cases args; simp_all
  obtain ⟨rfl, rfl⟩ := trodVars_none hV
  have k0 := h0
  have lt0 : ∀ x ∈ p0, x.block < W.heap.size := by obtain ⟨m, hm⟩ := k0; exact DataW.trod_lt m _ _ _ hm
  obtain ⟨a0, len0, cap0, rfl⟩ := okWide_slice Tryz.underlying33 (hval 0 33 v0 rfl rfl)
  obtain ⟨l0, m0, w0⟩ := bytes_of Tryz.underlying33 Tryz.underlying5 (by kernel_rfl) h0
  clear hA0 hval0
  refine (FnTraceOf_walk a0 len0 cap0 W l0 m0 w0).mono fun e W' ⟨he, bel⟩ => ?_
  subst he
  exact ⟨_, rfl, _, _, _, [], _, [], hW', trodAll_mk1 (shut_bool Tryz.underlying4 _), (trodAll_cons_mk (Below.trod laidOut (by kernel_rfl) (of_decide_eq_true (by kernel_rfl)) k0 bel lt0) trodAll_mk0), rfl, bel.frame _, fun h => by cases h⟩
theorem andTT {a b : Bool} (h1 : a = true) (h2 : b = true) : (a && b) = true := by rw [h1, h2]; rfl
set_option maxHeartbeats 8000000 in
theorem closed : joinedFacts Tryz.prog 4 Tryz.f4 Rows.fnTraceOfSpec Rows.fnTraceOfRow = true := by
  unfold joinedFacts
  repeat' (with_reducible refine andTT ?_ ?_)
  all_goals (first | (with_reducible exact clo_laid) | (with_reducible exact clo_maps) | (with_reducible exact clo_heard) | (with_reducible exact clo_enter) | ((with_reducible refine clo_plain _ ?_); rfl) | ((with_reducible refine clo_lifts _ ?_); rfl) | (as_aux_lemma => kernel_rfl))

theorem over : Rows.fnTraceOfRow.holds Tryz.pinned (OpenSpec.ofChange Rows.fnTraceOfSpec) :=
  OpenClaim.holds_of_wide 4 Tryz.f4 rfl rfl rfl rfl rfl rfl rfl ⟨rfl, rfl, rfl, rfl, rfl⟩ rfl rfl rfl rfl rfl (by kernel_rfl) Tryz.func4 closed
    (of_decide_eq_true (by kernel_rfl)) (by unfold Func.isWrapper; first | (rw [if_pos (by decide +kernel)]; kernel_rfl) | (rw [if_neg (by decide +kernel)]; exact ⟨rfl, rfl⟩))
    (fun os started H enc _ => lifted os started H enc)

/-- THE STATEMENT. -/
theorem proved : Rows.FnTraceOfSaid := over
end lawFnTraceOf
end Go.Proofs.YtjikdlldochhcacGreat
