/- The law FnMapTrace returns true at every two codes; no condition. -/
import Derived.Test.YtjobecoogjojjaaGreatDrawY
import Derived.Test.YtjobecoogjojjaaGreatEqT
import Derived.Test.YtjobecoogjojjaaGreatTrs
import Derived.Test.YtjobecoogjojjaaGreatTrP
import Derived.Test.YtjobecoogjojjaaGreatGrd
import Derived.Test.YtjobecoogjojjaaGreatClo
import Derived.Carry
import Derived.ChangeOld
import Derived.Lib.SmallJoins
import Derived.Lib.QuietBelow
namespace Go.Proofs.YtjobecoogjojjaaGreat
open Go.ChangeShapes Go.WideShapes Go.ChangeAt Go.RowKit Go.Sort
set_option linter.unusedVariables false
set_option linter.unusedSimpArgs false

theorem absCF {P : Program} {f : FuncId} {args : Array Value} {w : World} {Q : Ending → World → Prop} (R : World → Prop) (h : R w) (k : ∀ W, R W → Calls P f args W Q) : Calls P f args w Q := k w h

set_option maxRecDepth 100000 in
set_option maxHeartbeats 6400000 in
theorem FnMapTrace_walk (A : Option Addr) (n c : Nat) (AA : Option Addr) (nn cc : Nat) (w : World) (hc : n ≤ c) (hl : n ≤ maxLen) (hb : BytesAt w w.heap.size A n) (hcc : nn ≤ cc) (hll : nn ≤ maxLen) (hbb : BytesAt w w.heap.size AA nn) :
    Calls Tryz.prog 3 #[.slice A n c, .slice AA nn cc] w fun e w' => e = .returned (.bool true) ∧ Below w.heap.size w w' := by
  unfold maxLen at hl hll
  by_cases hbign : 1048576 < n
  · have hb' : (1048576 : Int) < n := by omega
    go_enter Tryz.func3, Tryz.ntmps3
    go_wp2
    go_ret
    exact ⟨rfl, Below.refl _ _⟩
  have hbn' : (n : Int) ≤ 1048576 := by omega
  by_cases hbignn : 1048576 < nn
  · have hb' : (1048576 : Int) < nn := by omega
    go_enter Tryz.func3, Tryz.ntmps3
    go_wp2
    go_ret
    exact ⟨rfl, Below.refl _ _⟩
  have hbnn' : (nn : Int) ≤ 1048576 := by omega
  have HB := Lib.hid hb
  clear hb hbign
  have HBB := Lib.hid hbb
  clear hbb hbignn
  go_enter Tryz.func3, Tryz.ntmps3
  go_wp2_with fail
  refine (DrawMapTrace_r _ _ _ _ HB.out hc (by omega)).mono ?_
  rintro e w1 ⟨z, cols, Az, Ak, cz, ck, rfl, hz, hcols, hcl, B1⟩
  have nz : z.length ≤ 4194304 := by have := hz.2.1; omega
  have rz : rowsU z 4194304 := rows_bigU hz.2.2.1 (by decide)
  go_wp2_with fail
  refine (MapTrace_i _ _ z _ _ cols _ (SlOw.at_ updO hz.1) hcols nz rz (by omega)).mono ?_
  rintro e w2 ⟨A2, c2, rfl, o2, b2⟩
  have B2 := btr B1 b2
  have a2 : UpdsAt w2 A2 (MapFU z cols) := SlOw.at_ updO o2
  go_wp2_with fail
  refine (MapTrace_s _ _ z _ _ cols _ ((SlOw.at_ updO hz.1).below updR b2) (hcols.below b2) nz rz (by omega)).mono ?_
  rintro e w3 ⟨A3, c3, rfl, o3, b3⟩
  have B3 := btr B2 b3
  have a3 : UpdsAt w3 A3 (MapFU z cols) := SlOw.at_ updO o3
  go_wp2_with fail
  refine (equalT (xs := MapFU z cols) (ys := MapFU z cols) true (decide_eq_true rfl) (a2.below updR b3) a3 (Nat.le_trans (MapFU_len _ _) (by decide)) (Nat.le_trans (MapFU_len _ _) (by decide)) (rows_bigU (MapFU_row _ _) (by decide)) (rows_bigU (MapFU_row _ _) (by decide))).mono ?_
  rintro e w4 ⟨rfl, b4⟩
  have B4 := btr B3 b4
  cases hS : smT z
  · have HS := Lib.hid hS
    clear hS
    go_wp2_with fail
    refine (smallT false HS.out ((SlOw.at_ updO hz.1).below updR (btr (btr b2 b3) b4)) nz rz).mono ?_
    rintro e w5 ⟨rfl, b5⟩
    have B5 := btr B4 b5
    go_wp2_with fail
    refine (MapTrace_s _ _ z _ _ cols _ ((SlOw.at_ updO hz.1).below updR (btr (btr (btr b2 b3) b4) b5)) (hcols.below (btr (btr (btr b2 b3) b4) b5)) nz rz (by omega)).mono ?_
    rintro e w6 ⟨A6, c6, rfl, o6, b6⟩
    have B6 := btr B5 b6
    have a6 : UpdsAt w6 A6 (MapFU z cols) := SlOw.at_ updO o6
    go_wp2_with fail
    refine (equalT (xs := MapFU z cols) (ys := MapFU z cols) true (decide_eq_true rfl) (a2.below updR (btr (btr (btr b3 b4) b5) b6)) a6 (Nat.le_trans (MapFU_len _ _) (by decide)) (Nat.le_trans (MapFU_len _ _) (by decide)) (rows_bigU (MapFU_row _ _) (by decide)) (rows_bigU (MapFU_row _ _) (by decide))).mono ?_
    rintro e w7 ⟨rfl, b7⟩
    have B7 := btr B6 b7
    go_wp2_with fail
    go_ret
    exact ⟨rfl, B7⟩
  · have SX := smT_SmT hS
    have HS := Lib.hid hS
    have HTV := Lib.hid (trB_MapFU z cols)
    clear hS
    go_wp2_with fail
    refine (smallT true HS.out ((SlOw.at_ updO hz.1).below updR (btr (btr b2 b3) b4)) nz rz).mono ?_
    rintro e w5 ⟨rfl, b5⟩
    have B5 := btr B4 b5
    have hbb5 : BytesAt w5 w5.heap.size AA nn := fun hp => by
      obtain ⟨b, off, e, h1, h2⟩ := (HBB.out.below B5 (Nat.le_refl _)) hp
      exact ⟨b, off, e, by have := B5.size; omega, h2⟩
    go_wp2_with fail
    refine (DrawValidTime_r _ _ _ _ hbb5 hcc (by omega)).mono ?_
    rintro e w6 ⟨tx, ty, rfl, b6⟩
    have B6 := btr B5 b6
    have HLIN := Lib.hid (asOf_map SX cols tx ty)
    clear SX
    go_wp2_with fail
    refine abs_world (fun W => Below w6.heap.size w6 W ∧ Blk W w6.heap.size 31 #[.int .i64 tx, .int .i64 ty]) ⟨bal (Below.refl _ _) _, Blk.newAt rfl⟩ ?_
    rintro w7 ⟨b7, hk7⟩
    have B7 := btr B6 b7
    refine wp_region_facts [[], [], [0, 1], [], [], [3, 4], [], [3, 4, 5, 6], List.range 8, List.range 9, List.range 10, List.range 11, List.range 12]
      [fun v' _ => v' = .slice A2 (MapFU z cols).length c2, fun v' _ => v' = .agg #[.int .i64 tx, .int .i64 ty], ZVr (AsOfF (MapFU z cols) tx ty), fun v' _ => v' = .slice Az z.length cz, fun v' _ => v' = .agg #[.int .i64 tx, .int .i64 ty], ZVr (AsOfF (z) tx ty), fun v' _ => v' = .slice Ak cols.length ck, ZVr (MapF (AsOfF (z) tx ty) cols), fun v' _ => v' = .bool true, fun v' _ => v' = .bool true, fun v' _ => v' = .slice A2 (MapFU z cols).length c2, fun v' _ => v' = .bool true, fun v' _ => v' = .bool true]
      (by kernel_rfl) (by kernel_rfl) rfl ⟨stable_pure _, stable_pure _, stable_zVr _, stable_pure _, stable_pure _, stable_zVr _, stable_pure _, stable_zVr _, stable_pure _, stable_pure _, stable_pure _, stable_pure _, stable_pure _, trivial⟩ ?_
    refine wf_stepK [] [] (by kernel_rfl) (by kernel_rfl) (fun wf hb hf => ?_) (fun t0 => ?_)
    · refine ⟨?_⟩
      go_wp2
      exact ⟨rfl, .slice A2 (MapFU z cols).length c2, by kernel_rfl, Below.refl _ _, rfl⟩
    refine wf_stepK [] [] (by kernel_rfl) (by kernel_rfl) (fun wf hb hf => ?_) (fun t1 => ?_)
    · refine ⟨?_⟩
      have pc0 := (hk7.below hb).cell 0
      have pc1 := (hk7.below hb).cell 1
      simp at pc0 pc1
      go_wp2
      exact ⟨rfl, .agg #[.int .i64 tx, .int .i64 ty], by kernel_rfl, Below.refl _ _, rfl⟩
    refine wf_stepK [0, 1] [fun _ => t0 = .slice A2 (MapFU z cols).length c2, fun _ => t1 = .agg #[.int .i64 tx, .int .i64 ty]] (by kernel_rfl) (by kernel_rfl) (fun wf hb hf => ?_) (fun t2 => ?_)
    · obtain ⟨rfl, rfl, -⟩ := hf
      refine ⟨?_⟩
      go_wp2_with (go_at_call 13; refine (AsOf_i _ _ (MapFU z cols) tx ty _ ((a2.below updR (btr (btr (btr (btr b3 b4) b5) b6) b7)).below updR hb) (Nat.le_trans (MapFU_len _ _) (by decide)) (rows_bigU (MapFU_row _ _) (by decide))).mono ?_; rintro e w2 ⟨AN, cN, rfl, oN, hb2⟩)
      exact ⟨rfl, .slice AN (AsOfF (MapFU z cols) tx ty).length cN, by kernel_rfl, hb2, AN, cN, rfl, SlOw.at_ entO oN, EntsOw.cap oN⟩
    refine wf_stepK [] [] (by kernel_rfl) (by kernel_rfl) (fun wf hb hf => ?_) (fun t3 => ?_)
    · refine ⟨?_⟩
      go_wp2
      exact ⟨rfl, .slice Az z.length cz, by kernel_rfl, Below.refl _ _, rfl⟩
    refine wf_stepK [] [] (by kernel_rfl) (by kernel_rfl) (fun wf hb hf => ?_) (fun t4 => ?_)
    · refine ⟨?_⟩
      have pc0 := (hk7.below hb).cell 0
      have pc1 := (hk7.below hb).cell 1
      simp at pc0 pc1
      go_wp2
      exact ⟨rfl, .agg #[.int .i64 tx, .int .i64 ty], by kernel_rfl, Below.refl _ _, rfl⟩
    refine wf_stepK [3, 4] [fun _ => t3 = .slice Az z.length cz, fun _ => t4 = .agg #[.int .i64 tx, .int .i64 ty]] (by kernel_rfl) (by kernel_rfl) (fun wf hb hf => ?_) (fun t5 => ?_)
    · obtain ⟨rfl, rfl, -⟩ := hf
      refine ⟨?_⟩
      go_wp2_with (go_at_call 13; refine (AsOf_i _ _ (z) tx ty _ (((SlOw.at_ updO hz.1).below updR (btr (btr (btr (btr (btr b2 b3) b4) b5) b6) b7)).below updR hb) nz rz).mono ?_; rintro e w2 ⟨AN, cN, rfl, oN, hb2⟩)
      exact ⟨rfl, .slice AN (AsOfF (z) tx ty).length cN, by kernel_rfl, hb2, AN, cN, rfl, SlOw.at_ entO oN, EntsOw.cap oN⟩
    refine wf_stepK [] [] (by kernel_rfl) (by kernel_rfl) (fun wf hb hf => ?_) (fun t6 => ?_)
    · refine ⟨?_⟩
      go_wp2
      exact ⟨rfl, .slice Ak cols.length ck, by kernel_rfl, Below.refl _ _, rfl⟩
    refine wf_stepK [5, 6] [ZVr (AsOfF (z) tx ty) t5, fun _ => t6 = .slice Ak cols.length ck] (by kernel_rfl) (by kernel_rfl) (fun wf hb hf => ?_) (fun t7 => ?_)
    · obtain ⟨⟨XS2, xs2, rfl, hS2⟩, rfl, -⟩ := hf
      refine ⟨?_⟩
      go_wp2_with (go_at_call 14; refine (MapColumns_i _ _ (AsOfF (z) tx ty) _ _ cols _ hS2.1 ((hcols.below (btr (btr (btr (btr (btr b2 b3) b4) b5) b6) b7)).below hb) (Nat.le_trans (AsOfF_len _ _ _) (by decide)) (rows_big (AsOfF_row _ _ _) (by decide)) (by omega)).mono ?_; rintro e w2 ⟨AN, cN, rfl, oN, hb2⟩)
      exact ⟨rfl, .slice AN (MapF (AsOfF (z) tx ty) cols).length cN, by kernel_rfl, hb2, AN, cN, rfl, SlOw.at_ entO oN, EntsOw.cap oN⟩
    refine wf_stepK [2, 7] [ZVr (AsOfF (MapFU z cols) tx ty) t2, ZVr (MapF (AsOfF (z) tx ty) cols) t7] (by kernel_rfl) (by kernel_rfl) (fun wf hb hf => ?_) (fun t8 => ?_)
    · obtain ⟨⟨XS1, xs1, rfl, hS1⟩, ⟨XS3, xs3, rfl, hS3⟩, -⟩ := hf
      refine ⟨?_⟩
      go_wp2_with (go_at_call 12; refine (equalZ (xs := AsOfF (MapFU z cols) tx ty) (ys := MapF (AsOfF (z) tx ty) cols) true (decide_eq_true HLIN.out) hS1.1 hS3.1 (Nat.le_trans (AsOfF_len _ _ _) (by decide)) (Nat.le_trans (MapF_len _ _) (by decide)) (rows_big (AsOfF_row _ _ _) (by decide)) (rows_big (MapF_row _ _) (by decide))).mono ?_; rintro e w2 ⟨rfl, hb2⟩)
      exact ⟨rfl, .bool true, by kernel_rfl, hb2, rfl⟩
    refine wf_stepK [8] [fun _ => t8 = .bool true] (by kernel_rfl) (by kernel_rfl) (fun wf hb hf => ?_) (fun t9 => ?_)
    · obtain ⟨rfl, -⟩ := hf
      refine ⟨?_⟩
      go_wp2
      exact ⟨rfl, .bool true, by kernel_rfl, Below.refl _ _, rfl⟩
    refine wf_stepK [9] [fun _ => t9 = .bool true] (by kernel_rfl) (by kernel_rfl) (fun wf hb hf => ?_) (fun t10 => ?_)
    · obtain ⟨rfl, -⟩ := hf
      refine WfOp.yes (by kernel_rfl) ?_
      dsimp only
      go_wp2
      exact ⟨rfl, .slice A2 (MapFU z cols).length c2, by kernel_rfl, Below.refl _ _, rfl⟩
    refine wf_stepK [9, 10] [fun _ => t9 = .bool true, fun _ => t10 = .slice A2 (MapFU z cols).length c2] (by kernel_rfl) (by kernel_rfl) (fun wf hb hf => ?_) (fun t11 => ?_)
    · obtain ⟨rfl, rfl, -⟩ := hf
      refine WfOp.yes (by kernel_rfl) ?_
      dsimp only
      go_wp2_with (go_at_call 15; refine (validT true HTV.out ((a2.below updR (btr (btr (btr (btr b3 b4) b5) b6) b7)).below updR hb) (Nat.le_trans (MapFU_len _ _) (by decide)) (rows_bigU (MapFU_row _ _) (by decide))).mono ?_; rintro e w2 ⟨rfl, hb2⟩)
      exact ⟨rfl, .bool true, by kernel_rfl, hb2, rfl⟩
    refine wf_stepK [9, 11] [fun _ => t9 = .bool true, fun _ => t11 = .bool true] (by kernel_rfl) (by kernel_rfl) (fun wf hb hf => ?_) (fun t12 => ?_)
    · obtain ⟨rfl, rfl, -⟩ := hf
      refine ⟨?_⟩
      go_wp2
      exact ⟨rfl, .bool true, by kernel_rfl, Below.refl _ _, rfl⟩
    refine wf_doneK [12] [fun _ => t12 = .bool true] (by kernel_rfl) (by kernel_rfl) (fun w8 b8 hf => ?_)
    obtain ⟨rfl, -⟩ := hf
    show wpList _ _ _ [_] _ _
    refine wpList_frame (by simp [Act.put]; rfl) ?_
    have B8 := btr B7 b8
    go_wp2
    go_ret
    exact ⟨rfl, B8⟩

namespace lawFnMapTrace
theorem own : ownKnob Tryz.prog.godebug = none := by kernel_rfl
theorem laidOut : laidOutB Tryz.prog = true := clo_laid
set_option maxRecDepth 100000 in
theorem lifted (os : Os) (started : os.Started) (H : Type) (enc : TypeId × Value → H) :
    ReturnsInHanded {} Tryz.checked os 3 .any (Rows.fnMapTraceSpec.pre6 enc Tryz.prog Tryz.f3 Rows.fnMapTraceRow.domain false) (Rows.fnMapTraceSpec.post enc Tryz.prog Tryz.f3 false true false false) := by
  refine returnsInHanded_of_change (C := Tryz.checked) own started (by kernel_rfl) Tryz.func3
    (ChangeSpec.witness6 (enc := enc) (C := Tryz.checked) false ⟨#[], #[.slice none 0 0, .slice none 0 0], []⟩ 8 (by kernel_rfl) (by kernel_rfl) (by kernel_rfl) (by kernel_rfl)) ?_
  intro W base args ds gs before hval0 hW hcnd _
  have hval : ∀ (j : Nat) t v, Tryz.f3.params[j]? = some t → args[j]? = some v → Value.okWide Tryz.prog W .any base t v := hval0
  have hW' := hW
  obtain ⟨p, q, hA0, hV, rfl, hfz, hnd⟩ := hW
  have hA : DataW.TrodAll enc Tryz.prog W 0 (fun _ => true) true Tryz.f3.params.toList args.toList ds p := hA0
  rw [Tryz.params3] at hA hval
  obtain ⟨v0, vs0, d0, ds0, p0, q0, hargs, rfl, rfl, h0, r0⟩ := trodAll_cons hA
  obtain ⟨v1, vs1, d1, ds1, p1, q1, rfl, rfl, rfl, h1, r1⟩ := trodAll_cons r0
  obtain ⟨rfl, rfl, rfl⟩ := trodAll_nil r1
  obtain rfl : args = #[v0, v1] := by cases args; simp_all
  obtain ⟨rfl, rfl⟩ := trodVars_none hV
  have k0 := h0
  have lt0 : ∀ x ∈ p0, x.block < W.heap.size := by obtain ⟨m, hm⟩ := k0; exact DataW.trod_lt m _ _ _ hm
  obtain ⟨a0, len0, cap0, rfl⟩ := okWide_slice Tryz.underlying22 (hval 0 22 v0 rfl rfl)
  obtain ⟨l0, m0, w0⟩ := bytes_of Tryz.underlying22 Tryz.underlying5 (by kernel_rfl) h0
  have k1 := h1
  have lt1 : ∀ x ∈ p1, x.block < W.heap.size := by obtain ⟨m, hm⟩ := k1; exact DataW.trod_lt m _ _ _ hm
  obtain ⟨a1, len1, cap1, rfl⟩ := okWide_slice Tryz.underlying22 (hval 1 22 v1 rfl rfl)
  obtain ⟨l1, m1, w1⟩ := bytes_of Tryz.underlying22 Tryz.underlying5 (by kernel_rfl) h1
  clear hA0 hval0
  refine (FnMapTrace_walk a0 len0 cap0 a1 len1 cap1 W l0 m0 w0 l1 m1 w1).mono fun e W' ⟨he, bel⟩ => ?_
  subst he
  exact ⟨_, rfl, _, _, _, [], _, [], hW', trodAll_mk1 (shut_bool Tryz.underlying4 _), (trodAll_cons_mk (Below.trod laidOut (by kernel_rfl) (of_decide_eq_true (by kernel_rfl)) k0 bel lt0) (trodAll_cons_mk (Below.trod laidOut (by kernel_rfl) (of_decide_eq_true (by kernel_rfl)) k1 bel lt1) trodAll_mk0)), rfl, bel.frame _, fun h => by cases h⟩
theorem andTT {a b : Bool} (h1 : a = true) (h2 : b = true) : (a && b) = true := by rw [h1, h2]; rfl
set_option maxHeartbeats 8000000 in
theorem closed : joinedFacts Tryz.prog 3 Tryz.f3 Rows.fnMapTraceSpec Rows.fnMapTraceRow = true := by
  unfold joinedFacts
  repeat' (with_reducible refine andTT ?_ ?_)
  all_goals (first | (with_reducible exact clo_laid) | (with_reducible exact clo_maps) | (with_reducible exact clo_heard) | (with_reducible exact clo_enter) | ((with_reducible refine clo_plain _ ?_); rfl) | ((with_reducible refine clo_lifts _ ?_); rfl) | (as_aux_lemma => kernel_rfl))

theorem over : Rows.fnMapTraceRow.holds Tryz.pinned (OpenSpec.ofChange Rows.fnMapTraceSpec) :=
  OpenClaim.holds_of_wide 3 Tryz.f3 rfl rfl rfl rfl rfl rfl rfl ⟨rfl, rfl, rfl, rfl, rfl⟩ rfl rfl rfl rfl rfl (by kernel_rfl) Tryz.func3 closed
    (of_decide_eq_true (by kernel_rfl)) (by unfold Func.isWrapper; first | (rw [if_pos (by decide +kernel)]; kernel_rfl) | (rw [if_neg (by decide +kernel)]; exact ⟨rfl, rfl⟩))
    (fun os started H enc _ => lifted os started H enc)

/-- THE STATEMENT. -/
theorem proved : Rows.FnMapTraceSaid := over
end lawFnMapTrace
end Go.Proofs.YtjobecoogjojjaaGreat
