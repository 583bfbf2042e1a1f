/- The law FnExactFrontierMeet returns true at every argument; no condition. -/
import Derived.Test.YtkonhjdfcfljpaaFrW
import Derived.Test.YtkonhjdfcfljpaaFrontL
import Derived.Test.YtkonhjdfcfljpaaTmH
import Derived.Test.YtkonhjdfcfljpaaClo
import Derived.Carry
import Derived.ChangeOld
import Derived.Lib.SmallJoins
namespace Go.Proofs.Ytkonhjdfcfljpaa
open Go.ChangeShapes Go.WideShapes Go.ChangeAt Go.RowKit
set_option linter.unusedVariables false
set_option linter.unusedSimpArgs false

set_option maxHeartbeats 12800000 in
theorem FnExactFrontierMeet_walk (A0 : Option Addr) (c0 : Nat) (z0 : List Tm) (A1 : Option Addr) (c1 : Nat) (z1 : List Tm) (w : World) (hm0 : z0.length ≤ maxLen) (hx0 : TimesAt w A0 z0) (hm1 : z1.length ≤ maxLen) (hx1 : TimesAt w A1 z1) :
    Calls Try.prog 8 #[.slice A0 z0.length c0, .slice A1 z1.length c1] w fun e w' => e = .returned (.bool true) ∧ Below w.heap.size w w' := by
  by_cases s0 : 1048576 < (z0.length : Int)
  · go_enter Try.func8, Try.ntmps8
    go_wp2_with fail
    refine (szTimeS_no _ _ _ _ _ (by omega) (by omega) hm0 s0).mono ?_
    rintro e qq ⟨rfl, rfl⟩
    go_wp2_with fail
    go_ret
    exact ⟨rfl, Below.refl _ _⟩
  have n0 : z0.length ≤ 4180000 := by omega
  by_cases s1 : 1048576 - (z0.length : Int) < (z1.length : Int)
  · go_enter Try.func8, Try.ntmps8
    go_wp2_with fail
    refine (szTimeS_yes _ _ _ _ _ (by omega) (by omega) hm0 (by omega)).mono ?_
    rintro e q0 ⟨rfl, rfl⟩
    go_wp2_with fail
    refine (szTimeS_no _ _ _ _ _ (by omega) (by omega) hm1 s1).mono ?_
    rintro e qq ⟨rfl, rfl⟩
    go_wp2_with fail
    go_ret
    exact ⟨rfl, Below.refl _ _⟩
  have n1 : z1.length ≤ 4180000 := by omega
  have fl : (MeetF z0 z1).length ≤ 4000000 := by
    cases h : frB z0 && frB z1
    · simp [MeetF, h]
    · simp only [Bool.and_eq_true] at h
      have a := frB_len h.1
      have b := frB_len h.2
      have c := minT_len (z0 ++ z1)
      have d : (MeetF z0 z1).length ≤ (z0 ++ z1).length := by unfold MeetF; rw [h.1, h.2]; exact c
      rw [List.length_append] at d
      omega
  have conW := fun (A0 : Option Addr) (c0 : Nat) (A1 : Option Addr) (c1 : Nat) (w : World) (h0 : TimesAt w A0 z0) (h1 : TimesAt w A1 z1) => FrontierMeet_s A0 A1 c0 c1 z0 z1 w h0 h1 (show z0.length ≤ 4194304 by omega) (show z1.length ≤ 4194304 by omega)
  have conG := fun (A0 : Option Addr) (c0 : Nat) (A1 : Option Addr) (c1 : Nat) (w : World) (h0 : TimesAt w A0 z0) (h1 : TimesAt w A1 z1) => FrontierMeet_i A0 A1 c0 c1 z0 z1 w h0 h1 (show z0.length ≤ 4194304 by omega) (show z1.length ≤ 4194304 by omega)
  generalize MeetF z0 z1 = Z at fl conW conG
  go_enter Try.func8, Try.ntmps8
  go_wp2_with fail
  refine (szTimeS_yes _ _ _ _ _ (by omega) (by omega) hm0 (by omega)).mono ?_
  rintro e wsame ⟨rfl, rfl⟩
  go_wp2_with fail
  refine (szTimeS_yes _ _ _ _ _ (by omega) (by omega) hm1 (by omega)).mono ?_
  rintro e wsame ⟨rfl, rfl⟩
  go_wp2_with fail
  refine (toTimeS_any _ _ z0 _ hx0 (by omega)).mono ?_
  rintro e w1 ⟨rfl, ks0, b1⟩
  have B1 := b1
  have as0 := TimesAt.ofBlk ks0
  go_wp2_with fail
  refine (toTimeS_any _ _ z1 _ (hx1.below b1) (by omega)).mono ?_
  rintro e w2 ⟨rfl, ks1, b2⟩
  have B2 := btr B1 b2
  have as1 := TimesAt.ofBlk ks1
  go_wp2_with fail
  refine (conW _ _ _ _ _ (as0.below b2) as1).mono ?_
  rintro e w3 ⟨AW, cW, rfl, kW, b3⟩
  have B3 := btr B2 b3
  have oW := TmOwS.ofOwn kW
  have aW := TmOwn.at_ kW
  go_wp2_with fail
  refine (toTimeS_any _ _ z0 _ (hx0.below (btr (btr b1 b2) b3)) (by omega)).mono ?_
  rintro e w4 ⟨rfl, ki0, b4⟩
  have B4 := btr B3 b4
  have ai0 := TimesAt.ofBlk ki0
  have oi0 := TmOwS.ofBlk ki0 hm0
  go_wp2_with fail
  refine (toTimeS_any _ _ z1 _ (hx1.below (btr (btr (btr b1 b2) b3) b4)) (by omega)).mono ?_
  rintro e w5 ⟨rfl, ki1, b5⟩
  have B5 := btr B4 b5
  have ai1 := TimesAt.ofBlk ki1
  have oi1 := TmOwS.ofBlk ki1 hm1
  go_wp2_with fail
  refine (conG _ _ _ _ _ (ai0.below b5) ai1).mono ?_
  rintro e w6 ⟨AG, cG, rfl, kG, b6⟩
  have B6 := btr B5 b6
  have oG := TmOwS.ofOwn kG
  have aG := TmOwn.at_ kG
  have tZ : decide (Z = Z) = true := by simp
  go_wp2_with fail
  refine (eqTimeS_any _ _ _ _ Z Z _ aG (aW.below (btr (btr b4 b5) b6)) (by omega) (by omega)).mono ?_
  rintro e w7 ⟨rfl, b7⟩
  have B7 := btr B6 b7
  go_wp2_with fail
  refine (toTimeS_any _ _ z0 _ (hx0.below (btr (btr (btr (btr (btr (btr b1 b2) b3) b4) b5) b6) b7)) (by omega)).mono ?_
  rintro e w8 ⟨rfl, kc0, b8⟩
  have B8 := btr B7 b8
  have ac0 := TimesAt.ofBlk kc0
  have t0 : decide (z0 = z0) = true := by simp
  go_wp2_with fail
  refine (eqTimeS_any _ _ _ _ z0 z0 _ (ai0.below (btr (btr (btr b5 b6) b7) b8)) ac0 (by omega) (by omega)).mono ?_
  rintro e w9 ⟨rfl, b9⟩
  have B9 := btr B8 b9
  go_wp2_with fail
  refine (toTimeS_any _ _ z1 _ (hx1.below (btr (btr (btr (btr (btr (btr (btr (btr b1 b2) b3) b4) b5) b6) b7) b8) b9)) (by omega)).mono ?_
  rintro e w10 ⟨rfl, kc1, b10⟩
  have B10 := btr B9 b10
  have ac1 := TimesAt.ofBlk kc1
  have t1 : decide (z1 = z1) = true := by simp
  go_wp2_with fail
  refine (eqTimeS_any _ _ _ _ z1 z1 _ (ai1.below (btr (btr (btr (btr b6 b7) b8) b9) b10)) ac1 (by omega) (by omega)).mono ?_
  rintro e w11 ⟨rfl, b11⟩
  have B11 := btr B10 b11
  go_wp2_with fail
  refine (markTimeS_any _ _ _ z0 _ _ (oi0.below (btr (btr (btr (btr (btr (btr b5 b6) b7) b8) b9) b10) b11)) (by omega) (by omega) (by omega)).mono ?_
  rintro e w12 ⟨rfl, mk0, g12⟩
  have D0_12 : Below w.heap.size w w12 := g12.below (btr (btr (btr (btr (btr (btr (btr (btr (btr (btr b1 b2) b3) b4) b5) b6) b7) b8) b9) b10) b11) (fun q hq => Nat.le_trans ((btr (btr b1 b2) b3)).size hq.1)
  have D3_12 : Below w3.heap.size w3 w12 := g12.below (btr (btr (btr (btr (btr (btr (btr b4 b5) b6) b7) b8) b9) b10) b11) (fun q hq => Nat.le_trans (Nat.le_refl w3.heap.size) hq.1)
  have oi1_12 := (oi1.below (btr (btr (btr (btr (btr b6 b7) b8) b9) b10) b11)).kept g12 (fun q hq hr => by have h3 := (Nat.le_refl w4.heap.size); have h1 := hq.1; have h2 := hr.2; omega)
  have oG_12 := (oG.below (btr (btr (btr (btr b7 b8) b9) b10) b11)).kept g12 (fun q hq hr => by have h3 := (b5).size; have h1 := hq.1; have h2 := hr.2; omega)
  have B12 := D0_12
  go_wp2_with fail
  refine (markTimeS_any _ _ _ z1 _ _ oi1_12 (by omega) (by omega) (by omega)).mono ?_
  rintro e w13 ⟨rfl, mk1, g13⟩
  have D0_13 : Below w.heap.size w w13 := g13.below D0_12 (fun q hq => Nat.le_trans ((btr (btr (btr b1 b2) b3) b4)).size hq.1)
  have D3_13 : Below w3.heap.size w3 w13 := g13.below D3_12 (fun q hq => Nat.le_trans (b4).size hq.1)
  have oG_13 := oG_12.kept g13 (fun q hq hr => by have h3 := (Nat.le_refl w5.heap.size); have h1 := hq.1; have h2 := hr.2; omega)
  have B13 := D0_13
  have hk0 : ¬ (1 + 2 * (z0.length : Int) + 2 * (z1.length : Int) : Int) < 0 := by omega
  have hk1 : decide ((1 + 2 * (z0.length : Int) + 2 * (z1.length : Int) : Int) < 0) = false := decide_eq_false hk0
  have aG2 := TmOwS.at_ oG_13
  go_wp2_with fail
  refine (eqTimeS_any _ _ _ _ Z Z _ aG2 (aW.below D3_13) (by omega) (by omega)).mono ?_
  rintro e w14 ⟨rfl, b14⟩
  have B14 := btr B13 b14
  go_wp2_with fail
  refine (markTimeS_any _ _ _ Z _ _ (oG_13.below b14) (by omega) (by omega) (by omega)).mono ?_
  rintro e w15 ⟨rfl, kM, g15⟩
  have D0_15 : Below w.heap.size w w15 := g15.below (btr D0_13 b14) (fun q hq => Nat.le_trans ((btr (btr (btr (btr b1 b2) b3) b4) b5)).size hq.1)
  have D3_15 : Below w3.heap.size w3 w15 := g15.below (btr D3_13 b14) (fun q hq => Nat.le_trans ((btr b4 b5)).size hq.1)
  have B15 := D0_15
  have aM := TmOwS.at_ kM
  have hq0 : ¬ (1 + 2 * (Z.length : Int)) < 0 := by omega
  have hq1 : decide ((1 + 2 * (Z.length : Int)) < 0) = false := decide_eq_false hq0
  go_wp2_with fail
  refine (heldTimeS_any _ _ Z.length 1 _ aM (by omega) (by omega) (by omega)).mono ?_
  rintro e wsame ⟨rfl, rfl⟩
  go_wp2_with fail
  refine (toTimeS_any _ _ z0 _ (hx0.below D0_15) (by omega)).mono ?_
  rintro e w16 ⟨rfl, kh0, b16⟩
  have B16 := btr B15 b16
  have ah0 := TimesAt.ofBlk kh0
  go_wp2_with fail
  refine (toTimeS_any _ _ z1 _ (hx1.below (btr D0_15 b16)) (by omega)).mono ?_
  rintro e w17 ⟨rfl, kh1, b17⟩
  have B17 := btr B16 b17
  have ah1 := TimesAt.ofBlk kh1
  go_wp2_with fail
  refine (conG _ _ _ _ _ (ah0.below b17) ah1).mono ?_
  rintro e w18 ⟨AH, cH, rfl, kH, b18⟩
  have B18 := btr B17 b18
  have oH := TmOwS.ofOwn kH
  have aH := TmOwn.at_ kH
  go_wp2_with fail
  refine (eqTimeS_any _ _ _ _ Z Z _ aH (aW.below (btr (btr (btr D3_15 b16) b17) b18)) (by omega) (by omega)).mono ?_
  rintro e w19 ⟨rfl, b19⟩
  have B19 := btr B18 b19
  go_wp2_with fail
  refine (heldTimeS_any _ _ Z.length 1 _ (aM.below (btr (btr (btr b16 b17) b18) b19)) (by omega) (by omega) (by omega)).mono ?_
  rintro e wsame ⟨rfl, rfl⟩
  go_wp2_with fail
  go_ret
  exact ⟨rfl, B19⟩

namespace lawFnExactFrontierMeet
theorem own : ownKnob Try.prog.godebug = none := by kernel_rfl
theorem laidOut : laidOutB Try.prog = true := clo_laid
set_option maxRecDepth 100000 in
theorem lifted (os : Os) (started : os.Started) (H : Type) (enc : TypeId × Value → H) :
    ReturnsInHanded {} Try.checked os 8 .any (Rows.fnExactFrontierMeetSpec.pre6 enc Try.prog Try.f8 Rows.fnExactFrontierMeetRow.domain false) (Rows.fnExactFrontierMeetSpec.post enc Try.prog Try.f8 false true false false) := by
  refine returnsInHanded_of_change (C := Try.checked) own started (by kernel_rfl) Try.func8
    (ChangeSpec.witness6 (enc := enc) (C := Try.checked) false ⟨#[], #[.slice none 0 0, .slice none 0 0], []⟩ 8 (by kernel_rfl) (by kernel_rfl) (by kernel_rfl) (by kernel_rfl)) ?_
  intro W base args ds gs before hval0 hW hcnd _
  have hval : ∀ (j : Nat) t v, Try.f8.params[j]? = some t → args[j]? = some v → Value.okWide Try.prog W .any base t v := hval0
  have hW' := hW
  obtain ⟨p, q, hA0, hV, rfl, hfz, hnd⟩ := hW
  have hA : DataW.TrodAll enc Try.prog W 0 (fun _ => true) true Try.f8.params.toList args.toList ds p := hA0
  rw [Try.params8] at hA hval
  obtain ⟨v0, vs0, d0, ds0, p0, q0, hargs, rfl, rfl, h0, r0⟩ := trodAll_cons hA
  obtain ⟨v1, vs1, d1, ds1, p1, q1, rfl, rfl, rfl, h1, r1⟩ := trodAll_cons r0
  obtain ⟨rfl, rfl, rfl⟩ := trodAll_nil r1
  obtain rfl : args = #[v0, v1] := by cases args; simp_all
  obtain ⟨rfl, rfl⟩ := trodVars_none hV
  have k0 := h0
  have lt0 : ∀ x ∈ p0, x.block < W.heap.size := by obtain ⟨m, hm⟩ := k0; exact DataW.trod_lt m _ _ _ hm
  obtain ⟨a0, len0, cap0, rfl⟩ := okWide_slice Try.underlying22 (hval 0 22 v0 rfl rfl)
  obtain ⟨z0, rfl, l0, w0⟩ := times_of Try.underlying22 Try.underlying92 (by kernel_rfl) rfl rfl (by kernel_rfl) (by kernel_rfl) Try.underlying3 Try.underlying3 h0
  have k1 := h1
  have lt1 : ∀ x ∈ p1, x.block < W.heap.size := by obtain ⟨m, hm⟩ := k1; exact DataW.trod_lt m _ _ _ hm
  obtain ⟨a1, len1, cap1, rfl⟩ := okWide_slice Try.underlying22 (hval 1 22 v1 rfl rfl)
  obtain ⟨z1, rfl, l1, w1⟩ := times_of Try.underlying22 Try.underlying92 (by kernel_rfl) rfl rfl (by kernel_rfl) (by kernel_rfl) Try.underlying3 Try.underlying3 h1
  clear hA0 hval0
  refine (FnExactFrontierMeet_walk a0 cap0 z0 a1 cap1 z1 W l0 w0 l1 w1).mono fun e W' ⟨he, bel⟩ => ?_
  subst he
  exact ⟨_, rfl, _, _, _, [], _, [], hW', trodAll_mk1 (shut_bool Try.underlying4 _), (trodAll_cons_mk (Below.trod laidOut (by kernel_rfl) (of_decide_eq_true (by kernel_rfl)) k0 bel lt0) (trodAll_cons_mk (Below.trod laidOut (by kernel_rfl) (of_decide_eq_true (by kernel_rfl)) k1 bel lt1) trodAll_mk0)), rfl, bel.frame _, fun h => by cases h⟩
theorem andTT {a b : Bool} (h1 : a = true) (h2 : b = true) : (a && b) = true := by rw [h1, h2]; rfl
set_option maxHeartbeats 8000000 in
theorem closed : joinedFacts Try.prog 8 Try.f8 Rows.fnExactFrontierMeetSpec Rows.fnExactFrontierMeetRow = true := by
  unfold joinedFacts
  repeat' (with_reducible refine andTT ?_ ?_)
  all_goals (first | (with_reducible exact clo_laid) | (with_reducible exact clo_maps) | (with_reducible exact clo_heard) | (with_reducible exact clo_enter) | ((with_reducible refine clo_plain _ ?_); rfl) | ((with_reducible refine clo_lifts _ ?_); rfl) | (as_aux_lemma => kernel_rfl))

theorem over : Rows.fnExactFrontierMeetRow.holds Try.pinned (OpenSpec.ofChange Rows.fnExactFrontierMeetSpec) :=
  OpenClaim.holds_of_wide 8 Try.f8 rfl rfl rfl rfl rfl rfl rfl ⟨rfl, rfl, rfl, rfl, rfl⟩ rfl rfl rfl rfl rfl (by kernel_rfl) Try.func8 closed
    (of_decide_eq_true (by kernel_rfl)) (by unfold Func.isWrapper; first | (rw [if_pos (by decide +kernel)]; kernel_rfl) | (rw [if_neg (by decide +kernel)]; exact ⟨rfl, rfl⟩))
    (fun os started H enc _ => lifted os started H enc)

/-- THE STATEMENT. -/
theorem proved : Rows.FnExactFrontierMeetSaid := over
end lawFnExactFrontierMeet
end Go.Proofs.Ytkonhjdfcfljpaa
