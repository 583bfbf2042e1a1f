/- The law FnExactMinimalTimes returns true at every argument; no condition. -/
import Derived.Test.YtkonhjdfcfljpaaFrR
import Derived.Test.YtkonhjdfcfljpaaFrontL
import Derived.Test.YtkonhjdfcfljpaaTmH
import Derived.Test.YtkonhjdfcfljpaaClo
import Derived.Carry
import Derived.ChangeOld
import Derived.Lib.SmallJoins
namespace Go.Proofs.Ytkonhjdfcfljpaa
open Go.ChangeShapes Go.WideShapes Go.ChangeAt Go.RowKit
set_option linter.unusedVariables false
set_option linter.unusedSimpArgs false

set_option maxHeartbeats 12800000 in
theorem FnExactMinimalTimes_walk (A0 : Option Addr) (c0 : Nat) (z0 : List Tm) (w : World) (hm0 : z0.length ≤ maxLen) (hx0 : TimesAt w A0 z0) :
    Calls Try.prog 6 #[.slice A0 z0.length c0] w fun e w' => e = .returned (.bool true) ∧ Below w.heap.size w w' := by
  by_cases s0 : 1048576 < (z0.length : Int)
  · go_enter Try.func6, Try.ntmps6
    go_wp2_with fail
    refine (szTimeS_no _ _ _ _ _ (by omega) (by omega) hm0 s0).mono ?_
    rintro e qq ⟨rfl, rfl⟩
    go_wp2_with fail
    go_ret
    exact ⟨rfl, Below.refl _ _⟩
  have n0 : z0.length ≤ 4180000 := by omega
  have fl : (MinF z0).length ≤ 4000000 := by have := MinF_len z0; omega
  have conW := fun (A0 : Option Addr) (c0 : Nat) (w : World) (h0 : TimesAt w A0 z0) => MinimalTimes_s A0 c0 z0 w h0 (show z0.length ≤ 4180000 by omega)
  have conG := fun (A0 : Option Addr) (c0 : Nat) (w : World) (h0 : TimesAt w A0 z0) => MinimalTimes_i A0 c0 z0 w h0 (show z0.length ≤ 4180000 by omega)
  generalize MinF z0 = Z at fl conW conG
  go_enter Try.func6, Try.ntmps6
  go_wp2_with fail
  refine (szTimeS_yes _ _ _ _ _ (by omega) (by omega) hm0 (by omega)).mono ?_
  rintro e wsame ⟨rfl, rfl⟩
  go_wp2_with fail
  refine (toTimeS_any _ _ z0 _ hx0 (by omega)).mono ?_
  rintro e w1 ⟨rfl, ks0, b1⟩
  have B1 := b1
  have as0 := TimesAt.ofBlk ks0
  go_wp2_with fail
  refine (conW _ _ _ as0).mono ?_
  rintro e w2 ⟨AW, cW, rfl, kW, b2⟩
  have B2 := btr B1 b2
  have oW := TmOwS.ofOwn kW
  have aW := TmOwn.at_ kW
  go_wp2_with fail
  refine (toTimeS_any _ _ z0 _ (hx0.below (btr b1 b2)) (by omega)).mono ?_
  rintro e w3 ⟨rfl, ki0, b3⟩
  have B3 := btr B2 b3
  have ai0 := TimesAt.ofBlk ki0
  have oi0 := TmOwS.ofBlk ki0 hm0
  go_wp2_with fail
  refine (conG _ _ _ ai0).mono ?_
  rintro e w4 ⟨AG, cG, rfl, kG, b4⟩
  have B4 := btr B3 b4
  have oG := TmOwS.ofOwn kG
  have aG := TmOwn.at_ kG
  have tZ : decide (Z = Z) = true := by simp
  go_wp2_with fail
  refine (eqTimeS_any _ _ _ _ Z Z _ aG (aW.below (btr b3 b4)) (by omega) (by omega)).mono ?_
  rintro e w5 ⟨rfl, b5⟩
  have B5 := btr B4 b5
  go_wp2_with fail
  refine (toTimeS_any _ _ z0 _ (hx0.below (btr (btr (btr (btr b1 b2) b3) b4) b5)) (by omega)).mono ?_
  rintro e w6 ⟨rfl, kc0, b6⟩
  have B6 := btr B5 b6
  have ac0 := TimesAt.ofBlk kc0
  have t0 : decide (z0 = z0) = true := by simp
  go_wp2_with fail
  refine (eqTimeS_any _ _ _ _ z0 z0 _ (ai0.below (btr (btr b4 b5) b6)) ac0 (by omega) (by omega)).mono ?_
  rintro e w7 ⟨rfl, b7⟩
  have B7 := btr B6 b7
  go_wp2_with fail
  refine (markTimeS_any _ _ _ z0 _ _ (oi0.below (btr (btr (btr b4 b5) b6) b7)) (by omega) (by omega) (by omega)).mono ?_
  rintro e w8 ⟨rfl, mk0, g8⟩
  have D0_8 : Below w.heap.size w w8 := g8.below (btr (btr (btr (btr (btr (btr b1 b2) b3) b4) b5) b6) b7) (fun q hq => Nat.le_trans ((btr b1 b2)).size hq.1)
  have D2_8 : Below w2.heap.size w2 w8 := g8.below (btr (btr (btr (btr b3 b4) b5) b6) b7) (fun q hq => Nat.le_trans (Nat.le_refl w2.heap.size) hq.1)
  have oG_8 := (oG.below (btr (btr b5 b6) b7)).kept g8 (fun q hq hr => by have h3 := (Nat.le_refl w3.heap.size); have h1 := hq.1; have h2 := hr.2; omega)
  have B8 := D0_8
  have hk0 : ¬ (1 + 2 * (z0.length : Int) : Int) < 0 := by omega
  have hk1 : decide ((1 + 2 * (z0.length : Int) : Int) < 0) = false := decide_eq_false hk0
  have aG2 := TmOwS.at_ oG_8
  go_wp2_with fail
  refine (eqTimeS_any _ _ _ _ Z Z _ aG2 (aW.below D2_8) (by omega) (by omega)).mono ?_
  rintro e w9 ⟨rfl, b9⟩
  have B9 := btr B8 b9
  go_wp2_with fail
  refine (markTimeS_any _ _ _ Z _ _ (oG_8.below b9) (by omega) (by omega) (by omega)).mono ?_
  rintro e w10 ⟨rfl, kM, g10⟩
  have D0_10 : Below w.heap.size w w10 := g10.below (btr D0_8 b9) (fun q hq => Nat.le_trans ((btr (btr b1 b2) b3)).size hq.1)
  have D2_10 : Below w2.heap.size w2 w10 := g10.below (btr D2_8 b9) (fun q hq => Nat.le_trans (b3).size hq.1)
  have B10 := D0_10
  have aM := TmOwS.at_ kM
  have hq0 : ¬ (1 + 2 * (Z.length : Int)) < 0 := by omega
  have hq1 : decide ((1 + 2 * (Z.length : Int)) < 0) = false := decide_eq_false hq0
  go_wp2_with fail
  refine (heldTimeS_any _ _ Z.length 1 _ aM (by omega) (by omega) (by omega)).mono ?_
  rintro e wsame ⟨rfl, rfl⟩
  go_wp2_with fail
  refine (toTimeS_any _ _ z0 _ (hx0.below D0_10) (by omega)).mono ?_
  rintro e w11 ⟨rfl, kh0, b11⟩
  have B11 := btr B10 b11
  have ah0 := TimesAt.ofBlk kh0
  go_wp2_with fail
  refine (conG _ _ _ ah0).mono ?_
  rintro e w12 ⟨AH, cH, rfl, kH, b12⟩
  have B12 := btr B11 b12
  have oH := TmOwS.ofOwn kH
  have aH := TmOwn.at_ kH
  go_wp2_with fail
  refine (eqTimeS_any _ _ _ _ Z Z _ aH (aW.below (btr (btr D2_10 b11) b12)) (by omega) (by omega)).mono ?_
  rintro e w13 ⟨rfl, b13⟩
  have B13 := btr B12 b13
  go_wp2_with fail
  refine (heldTimeS_any _ _ Z.length 1 _ (aM.below (btr (btr b11 b12) b13)) (by omega) (by omega) (by omega)).mono ?_
  rintro e wsame ⟨rfl, rfl⟩
  go_wp2_with fail
  go_ret
  exact ⟨rfl, B13⟩

namespace lawFnExactMinimalTimes
theorem own : ownKnob Try.prog.godebug = none := by kernel_rfl
theorem laidOut : laidOutB Try.prog = true := clo_laid
set_option maxRecDepth 100000 in
theorem lifted (os : Os) (started : os.Started) (H : Type) (enc : TypeId × Value → H) :
    ReturnsInHanded {} Try.checked os 6 .any (Rows.fnExactMinimalTimesSpec.pre6 enc Try.prog Try.f6 Rows.fnExactMinimalTimesRow.domain false) (Rows.fnExactMinimalTimesSpec.post enc Try.prog Try.f6 false true false false) := by
  refine returnsInHanded_of_change (C := Try.checked) own started (by kernel_rfl) Try.func6
    (ChangeSpec.witness6 (enc := enc) (C := Try.checked) false ⟨#[], #[.slice none 0 0], []⟩ 8 (by kernel_rfl) (by kernel_rfl) (by kernel_rfl) (by kernel_rfl)) ?_
  intro W base args ds gs before hval0 hW hcnd _
  have hval : ∀ (j : Nat) t v, Try.f6.params[j]? = some t → args[j]? = some v → Value.okWide Try.prog W .any base t v := hval0
  have hW' := hW
  obtain ⟨p, q, hA0, hV, rfl, hfz, hnd⟩ := hW
  have hA : DataW.TrodAll enc Try.prog W 0 (fun _ => true) true Try.f6.params.toList args.toList ds p := hA0
  rw [Try.params6] at hA hval
  obtain ⟨v0, vs0, d0, ds0, p0, q0, hargs, rfl, rfl, h0, r0⟩ := trodAll_cons hA
  obtain ⟨rfl, rfl, rfl⟩ := trodAll_nil r0
  obtain rfl : args = #[v0] := by cases args; simp_all
  obtain ⟨rfl, rfl⟩ := trodVars_none hV
  have k0 := h0
  have lt0 : ∀ x ∈ p0, x.block < W.heap.size := by obtain ⟨m, hm⟩ := k0; exact DataW.trod_lt m _ _ _ hm
  obtain ⟨a0, len0, cap0, rfl⟩ := okWide_slice Try.underlying22 (hval 0 22 v0 rfl rfl)
  obtain ⟨z0, rfl, l0, w0⟩ := times_of Try.underlying22 Try.underlying92 (by kernel_rfl) rfl rfl (by kernel_rfl) (by kernel_rfl) Try.underlying3 Try.underlying3 h0
  clear hA0 hval0
  refine (FnExactMinimalTimes_walk a0 cap0 z0 W l0 w0).mono fun e W' ⟨he, bel⟩ => ?_
  subst he
  exact ⟨_, rfl, _, _, _, [], _, [], hW', trodAll_mk1 (shut_bool Try.underlying4 _), (trodAll_cons_mk (Below.trod laidOut (by kernel_rfl) (of_decide_eq_true (by kernel_rfl)) k0 bel lt0) trodAll_mk0), rfl, bel.frame _, fun h => by cases h⟩
theorem andTT {a b : Bool} (h1 : a = true) (h2 : b = true) : (a && b) = true := by rw [h1, h2]; rfl
set_option maxHeartbeats 8000000 in
theorem closed : joinedFacts Try.prog 6 Try.f6 Rows.fnExactMinimalTimesSpec Rows.fnExactMinimalTimesRow = true := by
  unfold joinedFacts
  repeat' (with_reducible refine andTT ?_ ?_)
  all_goals (first | (with_reducible exact clo_laid) | (with_reducible exact clo_maps) | (with_reducible exact clo_heard) | (with_reducible exact clo_enter) | ((with_reducible refine clo_plain _ ?_); rfl) | ((with_reducible refine clo_lifts _ ?_); rfl) | (as_aux_lemma => kernel_rfl))

theorem over : Rows.fnExactMinimalTimesRow.holds Try.pinned (OpenSpec.ofChange Rows.fnExactMinimalTimesSpec) :=
  OpenClaim.holds_of_wide 6 Try.f6 rfl rfl rfl rfl rfl rfl rfl ⟨rfl, rfl, rfl, rfl, rfl⟩ rfl rfl rfl rfl rfl (by kernel_rfl) Try.func6 closed
    (of_decide_eq_true (by kernel_rfl)) (by unfold Func.isWrapper; first | (rw [if_pos (by decide +kernel)]; kernel_rfl) | (rw [if_neg (by decide +kernel)]; exact ⟨rfl, rfl⟩))
    (fun os started H enc _ => lifted os started H enc)

/-- THE STATEMENT. -/
theorem proved : Rows.FnExactMinimalTimesSaid := over
end lawFnExactMinimalTimes
end Go.Proofs.Ytkonhjdfcfljpaa
