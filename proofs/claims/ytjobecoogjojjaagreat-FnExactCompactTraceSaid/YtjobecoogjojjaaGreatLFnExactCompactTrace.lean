/- The law FnExactCompactTrace returns true at every argument; no condition. -/
import Derived.Test.YtjobecoogjojjaaGreatEntM
import Derived.Test.YtjobecoogjojjaaGreatUph
import Derived.Test.YtjobecoogjojjaaGreatUpdM
import Derived.Test.YtjobecoogjojjaaGreatTmK
import Derived.Test.YtjobecoogjojjaaGreatCpt
import Derived.Test.YtjobecoogjojjaaGreatClo
import Derived.Carry
import Derived.ChangeOld
import Derived.Lib.SmallJoins
namespace Go.Proofs.YtjobecoogjojjaaGreat
open Go.ChangeShapes Go.WideShapes Go.ChangeAt Go.RowKit
set_option linter.unusedVariables false
set_option linter.unusedSimpArgs false

set_option maxHeartbeats 12800000 in
theorem FnExactCompactTrace_walk (A0 : Option Addr) (c0 : Nat) (z0 : List Upd) (A1 : Option Addr) (c1 : Nat) (z1 : List Tm) (w : World) (hx0 : UpdsAt w A0 z0) (hm0 : z0.length ≤ maxLen) (hm1 : z1.length ≤ maxLen) (hx1 : TimesAt w A1 z1) :
    Calls Tryz.prog 5 #[.slice A0 z0.length c0, .slice A1 z1.length c1] w fun e w' => e = .returned (.bool true) ∧ Below w.heap.size w w' := by
  have nn0 := updSz_nn z0
  by_cases s0 : 1048576 < updSz z0
  · go_enter Tryz.func5, Tryz.ntmps5
    go_wp2_with fail
    refine (szUpdateS_no _ _ z0 _ _ hx0 (by omega) (by omega) hm0 s0).mono ?_
    rintro e q0 ⟨rfl, p0⟩
    go_wp2_with fail
    go_ret
    exact ⟨rfl, p0⟩
  have l0 : updSz z0 ≤ 1048576 := by omega
  have n0 : z0.length ≤ 4194304 := by have := updSz_len l0; omega
  have m0 : z0.length ≤ 2097152 := by have := updSz_len l0; omega
  have r0 : rowsU z0 4194304 := updSz_row (by omega)
  by_cases s1 : 1048576 - updSz z0 < z1.length
  · go_enter Tryz.func5, Tryz.ntmps5
    go_wp2_with fail
    refine (szUpdateS_yes _ _ z0 _ _ hx0 (by omega) (by omega) hm0 (by omega)).mono ?_
    rintro e q0 ⟨rfl, p0⟩
    go_wp2_with fail
    refine (szTimeS_no _ _ _ _ _ (by omega) (by omega) hm1 s1).mono ?_
    rintro e qq ⟨rfl, rfl⟩
    go_wp2_with fail
    go_ret
    exact ⟨rfl, p0⟩
  have n1 : z1.length ≤ 4194304 := by omega
  have fl : (CptF z0 z1).length ≤ 4194304 := by have := CptF_len z0 z1; omega
  have fr : rowsU (CptF z0 z1) 4194304 := fun e he => by have := CptF_row z0 z1 e he; omega
  have conW := fun (A0 : Option Addr) (c0 : Nat) (A1 : Option Addr) (c1 : Nat) (w : World) (h0 : UpdsAt w A0 z0) (h1 : TimesAt w A1 z1)  => CompactTrace_s A0 c0 z0 A1 c1 z1 w h0 h1  n0 r0 n1
  have conG := fun (A0 : Option Addr) (c0 : Nat) (A1 : Option Addr) (c1 : Nat) (w : World) (h0 : UpdsAt w A0 z0) (h1 : TimesAt w A1 z1) (g1 : z1.length ≤ c1) => CompactTrace_i A0 c0 z0 A1 c1 z1 w h0 h1  n0 r0 n1 g1
  generalize CptF z0 z1 = Z at fl fr conW conG
  have fc := cntU_bd fl fr
  have cb0 := cntU_bd n0 r0
  go_enter Tryz.func5, Tryz.ntmps5
  go_wp2_with fail
  refine (szUpdateS_yes _ _ z0 _ _ hx0 (by omega) (by omega) hm0 (by omega)).mono ?_
  rintro e w1 ⟨rfl, b1⟩
  have B1 := b1
  go_wp2_with fail
  refine (szTimeS_yes _ _ _ _ _ (by omega) (by omega) hm1 (by omega)).mono ?_
  rintro e wsame ⟨rfl, rfl⟩
  go_wp2_with fail
  refine (toUpdateS_any _ _ z0 _ (hx0.below updR b1) m0 r0).mono ?_
  rintro e w2 ⟨rfl, ks0, b2⟩
  have B2 := btr B1 b2
  have as0 := UpdsOw.at_ ks0
  go_wp2_with fail
  refine (toTimeS_any _ _ z1 _ (hx1.below (btr b1 b2)) n1).mono ?_
  rintro e w3 ⟨rfl, ks1, b3⟩
  have B3 := btr B2 b3
  have as1 := TimesAt.ofBlk ks1
  have os1 := TmOwS.ofBlk ks1 (by unfold maxLen; omega)
  go_wp2_with fail
  refine (conW _ _ _ _ _ (as0.below updR b3) as1).mono ?_
  rintro e w4 ⟨AW, cW, rfl, kW, b4⟩
  have B4 := btr B3 b4
  have aW := UpdsOw.at_ kW
  go_wp2_with fail
  refine (toUpdateS_any _ _ z0 _ (hx0.below updR (btr (btr (btr b1 b2) b3) b4)) m0 r0).mono ?_
  rintro e w5 ⟨rfl, ki0, b5⟩
  have B5 := btr B4 b5
  have ai0 := UpdsOw.at_ ki0
  go_wp2_with fail
  refine (toTimeS_any _ _ z1 _ (hx1.below (btr (btr (btr (btr b1 b2) b3) b4) b5)) n1).mono ?_
  rintro e w6 ⟨rfl, ki1, b6⟩
  have B6 := btr B5 b6
  have ai1 := TimesAt.ofBlk ki1
  have oi1 := TmOwS.ofBlk ki1 (by unfold maxLen; omega)
  go_wp2_with fail
  refine (conG _ _ _ _ _ (ai0.below updR b6) ai1 (Nat.le_refl _)).mono ?_
  rintro e w7 ⟨AG, cG, rfl, kG, b7⟩
  have B7 := btr B6 b7
  have aG := UpdsOw.at_ kG
  have tZ : decide (Z = Z) = true := by simp
  go_wp2_with fail
  refine (eqUpdateS_any _ _ _ _ Z Z _ aG (aW.below updR (btr (btr b5 b6) b7)) fl fl fr fr).mono ?_
  rintro e w8 ⟨rfl, b8⟩
  have B8 := btr B7 b8
  go_wp2_with fail
  refine (toUpdateS_any _ _ z0 _ (hx0.below updR (btr (btr (btr (btr (btr (btr (btr b1 b2) b3) b4) b5) b6) b7) b8)) m0 r0).mono ?_
  rintro e w9 ⟨rfl, kc0, b9⟩
  have B9 := btr B8 b9
  have ac0 := UpdsOw.at_ kc0
  have t0 : decide (z0 = z0) = true := by simp
  go_wp2_with fail
  refine (eqUpdateS_any _ _ _ _ z0 z0 _ (ai0.below updR (btr (btr (btr b6 b7) b8) b9)) ac0 n0 n0 r0 r0).mono ?_
  rintro e w10 ⟨rfl, b10⟩
  have B10 := btr B9 b10
  go_wp2_with fail
  refine (toTimeS_any _ _ z1 _ (hx1.below (btr (btr (btr (btr (btr (btr (btr (btr (btr b1 b2) b3) b4) b5) b6) b7) b8) b9) b10)) n1).mono ?_
  rintro e w11 ⟨rfl, kc1, b11⟩
  have B11 := btr B10 b11
  have ac1 := TimesAt.ofBlk kc1
  have oc1 := TmOwS.ofBlk kc1 (by unfold maxLen; omega)
  have t1 : decide (z1 = z1) = true := by simp
  go_wp2_with fail
  refine (eqTimeS_any _ _ _ _ z1 z1 _ (ai1.below (btr (btr (btr (btr b7 b8) b9) b10) b11)) ac1 n1 n1).mono ?_
  rintro e w12 ⟨rfl, b12⟩
  have B12 := btr B11 b12
  go_wp2_with fail
  refine (markUpdateS_any _ _ _ z0 _ _ (ki0.below updO (btr (btr (btr (btr (btr (btr b6 b7) b8) b9) b10) b11) b12)) n0 r0 (by omega) (by omega)).mono ?_
  rintro e w13 ⟨rfl, mk0, g13⟩
  have D0_13 : Below w.heap.size w w13 := g13.below (btr (btr (btr (btr (btr (btr (btr (btr (btr (btr (btr b1 b2) b3) b4) b5) b6) b7) b8) b9) b10) b11) b12) (fun q hq => Nat.le_trans ((btr (btr (btr b1 b2) b3) b4)).size hq.1)
  have D4_13 : Below w4.heap.size w4 w13 := g13.below (btr (btr (btr (btr (btr (btr (btr b5 b6) b7) b8) b9) b10) b11) b12) (fun q hq => Nat.le_trans (Nat.le_refl w4.heap.size) hq.1)
  have kG_13 := (kG.below updO (btr (btr (btr (btr b8 b9) b10) b11) b12)).kept updO g13 (fun q hq hr => by have h3 := (b6).size; have h1 := hq.1; have h2 := hr.2; omega)
  have ki1_13 := (oi1.below (btr (btr (btr (btr (btr b7 b8) b9) b10) b11) b12)).kept g13 (fun q hq hr => by have h3 := (Nat.le_refl w5.heap.size); have h1 := hq.1; have h2 := hr.2; omega)
  have B13 := D0_13
  go_wp2_with fail
  refine (markTimeS_any _ _ _ z1 _ _ ki1_13 n1 (by omega) (by omega)).mono ?_
  rintro e w14 ⟨rfl, mk1, g14⟩
  have D0_14 : Below w.heap.size w w14 := g14.below D0_13 (fun q hq => Nat.le_trans ((btr (btr (btr (btr b1 b2) b3) b4) b5)).size hq.1)
  have D4_14 : Below w4.heap.size w4 w14 := g14.below D4_13 (fun q hq => Nat.le_trans (b5).size hq.1)
  have kG_14 := kG_13.kept updO g14 (fun q hq hr => by have h3 := (Nat.le_refl w6.heap.size); have h1 := hq.1; have h2 := hr.2; omega)
  have B14 := D0_14
  have aG2 := UpdsOw.at_ kG_14
  go_wp2_with fail
  refine (eqUpdateS_any _ _ _ _ Z Z _ aG2 (aW.below updR D4_14) fl fl fr fr).mono ?_
  rintro e w15 ⟨rfl, b15⟩
  have B15 := btr B14 b15
  go_wp2_with fail
  refine (markUpdateS_any _ _ _ Z _ _ (kG_14.below updO b15) fl fr (by omega) (by omega)).mono ?_
  rintro e w16 ⟨rfl, kM, g16⟩
  have D0_16 : Below w.heap.size w w16 := g16.below (btr D0_14 b15) (fun q hq => Nat.le_trans ((btr (btr (btr (btr (btr b1 b2) b3) b4) b5) b6)).size hq.1)
  have D4_16 : Below w4.heap.size w4 w16 := g16.below (btr D4_14 b15) (fun q hq => Nat.le_trans ((btr b5 b6)).size hq.1)
  have B16 := D0_16
  go_wp2_with fail
  refine (heldUpdateS_any _ _ Z 1 _ (UpdsOw.at_ kM) fl fr (by omega) (by omega)).mono ?_
  rintro e wsame ⟨rfl, rfl⟩
  go_wp2_with fail
  refine (toUpdateS_any _ _ z0 _ (hx0.below updR D0_16) m0 r0).mono ?_
  rintro e w17 ⟨rfl, kh0, b17⟩
  have B17 := btr B16 b17
  have ah0 := UpdsOw.at_ kh0
  go_wp2_with fail
  refine (toTimeS_any _ _ z1 _ (hx1.below (btr D0_16 b17)) n1).mono ?_
  rintro e w18 ⟨rfl, kh1, b18⟩
  have B18 := btr B17 b18
  have ah1 := TimesAt.ofBlk kh1
  have oh1 := TmOwS.ofBlk kh1 (by unfold maxLen; omega)
  go_wp2_with fail
  refine (conG _ _ _ _ _ (ah0.below updR b18) ah1 (Nat.le_refl _)).mono ?_
  rintro e w19 ⟨AH, cH, rfl, kH, b19⟩
  have B19 := btr B18 b19
  have aH := UpdsOw.at_ kH
  go_wp2_with fail
  refine (eqUpdateS_any _ _ _ _ Z Z _ aH (aW.below updR (btr (btr (btr D4_16 b17) b18) b19)) fl fl fr fr).mono ?_
  rintro e w20 ⟨rfl, b20⟩
  have B20 := btr B19 b20
  go_wp2_with fail
  refine (heldUpdateS_any _ _ Z 1 _ (UpdsOw.at_ (kM.below updO (btr (btr (btr b17 b18) b19) b20))) fl fr (by omega) (by omega)).mono ?_
  rintro e wsame ⟨rfl, rfl⟩
  go_wp2_with fail
  go_ret
  exact ⟨rfl, B20⟩

namespace lawFnExactCompactTrace
theorem own : ownKnob Tryz.prog.godebug = none := by kernel_rfl
theorem laidOut : laidOutB Tryz.prog = true := clo_laid
set_option maxRecDepth 100000 in
theorem lifted (os : Os) (started : os.Started) (H : Type) (enc : TypeId × Value → H) :
    ReturnsInHanded {} Tryz.checked os 5 .any (Rows.fnExactCompactTraceSpec.pre6 enc Tryz.prog Tryz.f5 Rows.fnExactCompactTraceRow.domain false) (Rows.fnExactCompactTraceSpec.post enc Tryz.prog Tryz.f5 false true false false) := by
  refine returnsInHanded_of_change (C := Tryz.checked) own started (by kernel_rfl) Tryz.func5
    (ChangeSpec.witness6 (enc := enc) (C := Tryz.checked) false ⟨#[], #[.slice none 0 0, .slice none 0 0], []⟩ 8 (by kernel_rfl) (by kernel_rfl) (by kernel_rfl) (by kernel_rfl)) ?_
  intro W base args ds gs before hval0 hW hcnd _
  have hval : ∀ (j : Nat) t v, Tryz.f5.params[j]? = some t → args[j]? = some v → Value.okWide Tryz.prog W .any base t v := hval0
  have hW' := hW
  obtain ⟨p, q, hA0, hV, rfl, hfz, hnd⟩ := hW
  have hA : DataW.TrodAll enc Tryz.prog W 0 (fun _ => true) true Tryz.f5.params.toList args.toList ds p := hA0
  rw [Tryz.params5] at hA hval
  obtain ⟨v0, vs0, d0, ds0, p0, q0, hargs, rfl, rfl, h0, r0⟩ := trodAll_cons hA
  obtain ⟨v1, vs1, d1, ds1, p1, q1, rfl, rfl, rfl, h1, r1⟩ := trodAll_cons r0
  obtain ⟨rfl, rfl, rfl⟩ := trodAll_nil r1
  obtain rfl : args = #[v0, v1] := by cases args; simp_all
  obtain ⟨rfl, rfl⟩ := trodVars_none hV
  have k0 := h0
  have lt0 : ∀ x ∈ p0, x.block < W.heap.size := by obtain ⟨m, hm⟩ := k0; exact DataW.trod_lt m _ _ _ hm
  obtain ⟨a0, len0, cap0, rfl⟩ := okWide_slice Tryz.underlying44 (hval 0 44 v0 rfl rfl)
  obtain ⟨z0, rfl, l0, w0⟩ := updates_of h0
  have k1 := h1
  have lt1 : ∀ x ∈ p1, x.block < W.heap.size := by obtain ⟨m, hm⟩ := k1; exact DataW.trod_lt m _ _ _ hm
  obtain ⟨a1, len1, cap1, rfl⟩ := okWide_slice Tryz.underlying45 (hval 1 45 v1 rfl rfl)
  obtain ⟨z1, rfl, l1, w1⟩ := times_of Tryz.underlying45 Tryz.underlying82 (by kernel_rfl) rfl rfl (by kernel_rfl) (by kernel_rfl) Tryz.underlying3 Tryz.underlying3 h1
  clear hA0 hval0
  refine (FnExactCompactTrace_walk a0 cap0 z0 a1 cap1 z1 W w0 l0 l1 w1).mono fun e W' ⟨he, bel⟩ => ?_
  subst he
  exact ⟨_, rfl, _, _, _, [], _, [], hW', trodAll_mk1 (shut_bool Tryz.underlying4 _), (trodAll_cons_mk (Below.trod laidOut (by kernel_rfl) (of_decide_eq_true (by kernel_rfl)) k0 bel lt0) (trodAll_cons_mk (Below.trod laidOut (by kernel_rfl) (of_decide_eq_true (by kernel_rfl)) k1 bel lt1) trodAll_mk0)), rfl, bel.frame _, fun h => by cases h⟩
theorem andTT {a b : Bool} (h1 : a = true) (h2 : b = true) : (a && b) = true := by rw [h1, h2]; rfl
set_option maxHeartbeats 8000000 in
theorem closed : joinedFacts Tryz.prog 5 Tryz.f5 Rows.fnExactCompactTraceSpec Rows.fnExactCompactTraceRow = true := by
  unfold joinedFacts
  repeat' (with_reducible refine andTT ?_ ?_)
  all_goals (first | (with_reducible exact clo_laid) | (with_reducible exact clo_maps) | (with_reducible exact clo_heard) | (with_reducible exact clo_enter) | ((with_reducible refine clo_plain _ ?_); rfl) | ((with_reducible refine clo_lifts _ ?_); rfl) | (as_aux_lemma => kernel_rfl))

theorem over : Rows.fnExactCompactTraceRow.holds Tryz.pinned (OpenSpec.ofChange Rows.fnExactCompactTraceSpec) :=
  OpenClaim.holds_of_wide 5 Tryz.f5 rfl rfl rfl rfl rfl rfl rfl ⟨rfl, rfl, rfl, rfl, rfl⟩ rfl rfl rfl rfl rfl (by kernel_rfl) Tryz.func5 closed
    (of_decide_eq_true (by kernel_rfl)) (by unfold Func.isWrapper; first | (rw [if_pos (by decide +kernel)]; kernel_rfl) | (rw [if_neg (by decide +kernel)]; exact ⟨rfl, rfl⟩))
    (fun os started H enc _ => lifted os started H enc)

/-- THE STATEMENT. -/
theorem proved : Rows.FnExactCompactTraceSaid := over
end lawFnExactCompactTrace
end Go.Proofs.YtjobecoogjojjaaGreat
