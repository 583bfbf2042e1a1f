/- The law FnExactCertifyPath returns true at every argument; no condition. -/
import Derived.Test.YtifjenleoagefaaEntL
import Derived.Test.YtifjenleoagefaaEntM
import Derived.Test.YtifjenleoagefaaCap
import Derived.Test.YtifjenleoagefaaPts
import Derived.Test.YtifjenleoagefaaCpi
import Derived.Test.YtifjenleoagefaaClo
import Derived.Carry
import Derived.ChangeOld
import Derived.Lib.SmallJoins
namespace Go.Proofs.Ytifjenleoagefaa
open Go.ChangeShapes Go.WideShapes Go.ChangeAt Go.RowKit
set_option linter.unusedVariables false
set_option linter.unusedSimpArgs false

theorem RowOwS.ofOwn {w0 w : World} {A : Option Addr} {c : Nat} {xs : List Int} (h : IntsOwn w w0.heap.size A c xs) : RowOwS w (news w0 w) A c xs :=
  ⟨fun k hk => hk.2, fun k hk => by
    rcases h.form with ⟨e, _⟩ | ⟨g, e, h1, h2⟩
    · rw [e] at hk; cases hk
    · rw [e] at hk; simp [blk] at hk; subst hk; exact ⟨h1, h2⟩, h.mono (Nat.zero_le _)⟩
theorem RowOwS.at_ {w : World} {S : Fp} {A : Option Addr} {c : Nat} {xs : List Int} (h : RowOwS w S A c xs) : IntsAt w A xs := h.own.at_
set_option maxHeartbeats 12800000 in
theorem FnExactCertifyPath_walk (A0 : Option Addr) (c0 : Nat) (z0 : List Ent) (n1 : Int) (n2 : Int) (w : World) (hx0 : EntsAt w A0 z0) (hm0 : z0.length ≤ maxLen) (hw1 : (Lit.int IntKind.i64 n1).wf = true) (hw2 : (Lit.int IntKind.i64 n2).wf = true) :
    Calls Try.prog 3 #[.slice A0 z0.length c0, .int .i64 n1, .int .i64 n2] w fun e w' => e = .returned (.bool true) ∧ Below w.heap.size w w' := by
  have nn0 := entSz_nn z0
  by_cases s0 : 1048576 < entSz z0
  · go_enter Try.func3, Try.ntmps3
    go_wp2_with fail
    refine (szEntryS_no _ _ z0 _ _ hx0 (by omega) (by omega) hm0 s0).mono ?_
    rintro e q0 ⟨rfl, p0⟩
    go_wp2_with fail
    go_ret
    exact ⟨rfl, p0⟩
  have l0 : entSz z0 ≤ 1048576 := by omega
  have n0 : z0.length ≤ 4194304 := by have := entSz_len l0; omega
  have m0 : z0.length ≤ 2097152 := by have := entSz_len l0; omega
  have r0 : rowsIn z0 4194304 := entSz_row (by omega)
  have fl : (PthF z0 n1 n2).length ≤ 4194304 := by have := PthF_len z0 n1 n2; omega
  have conW := fun (A0 : Option Addr) (c0 : Nat) (w : World) (h0 : EntsAt w A0 z0) => CertifyPath_s A0 c0 z0 n1 n2 w h0 n0 r0
  have conG := fun (A0 : Option Addr) (c0 : Nat) (w : World) (h0 : EntsAt w A0 z0) => CertifyPath_i A0 c0 z0 n1 n2 w h0 n0 r0
  generalize PthF z0 n1 n2 = Z at fl conW conG
  generalize PthB z0 n1 n2 = kb at conW conG
  have hbb : (kb != kb) = false := by simp
  have hq : ((1 + (Z.length : Int)) != (1 + (Z.length : Int))) = false := by simp
  have cb0 := cnt_bd n0 r0
  clear hw1 hw2
  go_enter Try.func3, Try.ntmps3
  go_wp2_with fail
  refine (szEntryS_yes _ _ z0 _ _ hx0 (by omega) (by omega) hm0 (by omega)).mono ?_
  rintro e w1 ⟨rfl, b1⟩
  have B1 := b1
  go_wp2_with fail
  refine (toEntryS_any _ _ z0 _ (hx0.below entR b1) n0 r0).mono ?_
  rintro e w2 ⟨rfl, ks0, b2⟩
  have B2 := btr B1 b2
  have as0 := EntsOw.at_ ks0
  go_wp2_with fail
  refine (conW _ _ _ as0).mono ?_
  rintro e w3 ⟨AW, cW, rfl, uW, b3⟩
  have B3 := btr B2 b3
  have kW := RowOwS.ofOwn uW
  have aW := kW.at_
  clear uW
  go_wp2_with fail
  refine (toEntryS_any _ _ z0 _ (hx0.below entR (btr (btr b1 b2) b3)) n0 r0).mono ?_
  rintro e w4 ⟨rfl, ki0, b4⟩
  have B4 := btr B3 b4
  have ai0 := EntsOw.at_ ki0
  go_wp2_with fail
  refine (conG _ _ _ ai0).mono ?_
  rintro e w5 ⟨AG, cG, rfl, uG, b5⟩
  have B5 := btr B4 b5
  have kG := RowOwS.ofOwn uG
  have aG := kG.at_
  clear uG
  have tZ : decide (Z = Z) = true := by simp
  go_wp2_with fail
  refine (eqIntS_any _ _ _ _ Z Z _ aG (aW.below (btr b4 b5)) (by omega) (by omega)).mono ?_
  rintro e w6 ⟨rfl, b6⟩
  have B6 := btr B5 b6
  go_wp2_with fail
  refine (toEntryS_any _ _ z0 _ (hx0.below entR (btr (btr (btr (btr (btr b1 b2) b3) b4) b5) b6)) n0 r0).mono ?_
  rintro e w7 ⟨rfl, kc0, b7⟩
  have B7 := btr B6 b7
  have ac0 := EntsOw.at_ kc0
  have t0 : decide (z0 = z0) = true := by simp
  go_wp2_with fail
  refine (eqEntryS_any _ _ _ _ z0 z0 _ (ai0.below entR (btr (btr b5 b6) b7)) ac0 n0 n0 r0 r0).mono ?_
  rintro e w8 ⟨rfl, b8⟩
  have B8 := btr B7 b8
  go_wp2_with fail
  refine (markEntryS_any _ _ _ z0 _ _ (ki0.below entO (btr (btr (btr b5 b6) b7) b8)) n0 r0 (by omega) (by omega)).mono ?_
  rintro e w9 ⟨rfl, mk0, g9⟩
  have D0_9 : Below w.heap.size w w9 := g9.below (btr (btr (btr (btr (btr (btr (btr b1 b2) b3) b4) b5) b6) b7) b8) (fun q hq => Nat.le_trans ((btr (btr b1 b2) b3)).size hq.1)
  have D3_9 : Below w3.heap.size w3 w9 := g9.below (btr (btr (btr (btr b4 b5) b6) b7) b8) (fun q hq => Nat.le_trans (Nat.le_refl w3.heap.size) hq.1)
  have kG_9 := (kG.below (btr (btr b6 b7) b8)).kept g9 (fun q hq hr => by have h3 := (Nat.le_refl w4.heap.size); have h1 := hq.1; have h2 := hr.2; omega)
  have B9 := D0_9
  have aG2 := RowOwS.at_ kG_9
  go_wp2_with fail
  refine (eqIntS_any _ _ _ _ Z Z _ aG2 (aW.below D3_9) (by omega) (by omega)).mono ?_
  rintro e w10 ⟨rfl, b10⟩
  have B10 := btr B9 b10
  go_wp2_with fail
  refine (markRow2_any _ _ _ Z _ _ (kG_9.below b10) fl (by omega) (by omega)).mono ?_
  rintro e w11 ⟨rfl, kM, g11⟩
  have D0_11 : Below w.heap.size w w11 := g11.below (btr D0_9 b10) (fun q hq => Nat.le_trans ((btr (btr (btr b1 b2) b3) b4)).size hq.1)
  have D3_11 : Below w3.heap.size w3 w11 := g11.below (btr D3_9 b10) (fun q hq => Nat.le_trans (b4).size hq.1)
  have B11 := D0_11
  go_wp2_with fail
  refine (heldIntS_any _ _ Z.length 1 _ (IntsOwn.at_ kM) fl (by omega) (by omega)).mono ?_
  rintro e wsame ⟨rfl, rfl⟩
  go_wp2_with fail
  refine (toEntryS_any _ _ z0 _ (hx0.below entR D0_11) n0 r0).mono ?_
  rintro e w12 ⟨rfl, kh0, b12⟩
  have B12 := btr B11 b12
  have ah0 := EntsOw.at_ kh0
  go_wp2_with fail
  refine (conG _ _ _ ah0).mono ?_
  rintro e w13 ⟨AH, cH, rfl, uH, b13⟩
  have B13 := btr B12 b13
  have kH := RowOwS.ofOwn uH
  have aH := kH.at_
  clear uH
  go_wp2_with fail
  refine (eqIntS_any _ _ _ _ Z Z _ aH (aW.below (btr (btr D3_11 b12) b13)) (by omega) (by omega)).mono ?_
  rintro e w14 ⟨rfl, b14⟩
  have B14 := btr B13 b14
  go_wp2_with fail
  refine (heldIntS_any _ _ Z.length 1 _ (IntsOwn.at_ (kM.below (btr (btr b12 b13) b14))) fl (by omega) (by omega)).mono ?_
  rintro e wsame ⟨rfl, rfl⟩
  go_wp2_with fail
  go_ret
  exact ⟨rfl, B14⟩

namespace lawFnExactCertifyPath
theorem own : ownKnob Try.prog.godebug = none := by kernel_rfl
theorem laidOut : laidOutB Try.prog = true := clo_laid
set_option maxRecDepth 100000 in
theorem lifted (os : Os) (started : os.Started) (H : Type) (enc : TypeId × Value → H) :
    ReturnsInHanded {} Try.checked os 3 .any (Rows.fnExactCertifyPathSpec.pre6 enc Try.prog Try.f3 Rows.fnExactCertifyPathRow.domain false) (Rows.fnExactCertifyPathSpec.post enc Try.prog Try.f3 false true false false) := by
  refine returnsInHanded_of_change (C := Try.checked) own started (by kernel_rfl) Try.func3
    (ChangeSpec.witness6 (enc := enc) (C := Try.checked) false ⟨#[], #[.slice none 0 0, .int .i64 0, .int .i64 0], []⟩ 8 (by kernel_rfl) (by kernel_rfl) (by kernel_rfl) (by kernel_rfl)) ?_
  intro W base args ds gs before hval0 hW hcnd _
  have hval : ∀ (j : Nat) t v, Try.f3.params[j]? = some t → args[j]? = some v → Value.okWide Try.prog W .any base t v := hval0
  have hW' := hW
  obtain ⟨p, q, hA0, hV, rfl, hfz, hnd⟩ := hW
  have hA : DataW.TrodAll enc Try.prog W 0 (fun _ => true) true Try.f3.params.toList args.toList ds p := hA0
  rw [Try.params3] at hA hval
  obtain ⟨v0, vs0, d0, ds0, p0, q0, hargs, rfl, rfl, h0, r0⟩ := trodAll_cons hA
  obtain ⟨v1, vs1, d1, ds1, p1, q1, rfl, rfl, rfl, h1, r1⟩ := trodAll_cons r0
  obtain ⟨v2, vs2, d2, ds2, p2, q2, rfl, rfl, rfl, h2, r2⟩ := trodAll_cons r1
  obtain ⟨rfl, rfl, rfl⟩ := trodAll_nil r2
  obtain rfl : args = #[v0, v1, v2] := by cases args; simp_all
  obtain ⟨rfl, rfl⟩ := trodVars_none hV
  have k0 := h0
  have lt0 : ∀ x ∈ p0, x.block < W.heap.size := by obtain ⟨m, hm⟩ := k0; exact DataW.trod_lt m _ _ _ hm
  obtain ⟨a0, len0, cap0, rfl⟩ := okWide_slice Try.underlying22 (hval 0 22 v0 rfl rfl)
  obtain ⟨z0, rfl, l0, w0⟩ := entries_of h0
  have k1 := h1
  have lt1 : ∀ x ∈ p1, x.block < W.heap.size := by obtain ⟨m, hm⟩ := k1; exact DataW.trod_lt m _ _ _ hm
  obtain ⟨a1, rfl, -, -, wa1⟩ := open_int Try.underlying3 (hval 1 3 v1 rfl rfl) h1
  have k2 := h2
  have lt2 : ∀ x ∈ p2, x.block < W.heap.size := by obtain ⟨m, hm⟩ := k2; exact DataW.trod_lt m _ _ _ hm
  obtain ⟨a2, rfl, -, -, wa2⟩ := open_int Try.underlying3 (hval 2 3 v2 rfl rfl) h2
  clear hA0 hval0
  refine (FnExactCertifyPath_walk a0 cap0 z0 a1 a2 W w0 l0 wa1 wa2).mono fun e W' ⟨he, bel⟩ => ?_
  subst he
  exact ⟨_, rfl, _, _, _, [], _, [], hW', trodAll_mk1 (shut_bool Try.underlying4 _), (trodAll_cons_mk (Below.trod laidOut (by kernel_rfl) (of_decide_eq_true (by kernel_rfl)) k0 bel lt0) (trodAll_cons_mk (Below.trod laidOut (by kernel_rfl) (of_decide_eq_true (by kernel_rfl)) k1 bel lt1) (trodAll_cons_mk (Below.trod laidOut (by kernel_rfl) (of_decide_eq_true (by kernel_rfl)) k2 bel lt2) trodAll_mk0))), rfl, bel.frame _, fun h => by cases h⟩
theorem andTT {a b : Bool} (h1 : a = true) (h2 : b = true) : (a && b) = true := by rw [h1, h2]; rfl
set_option maxHeartbeats 8000000 in
theorem closed : joinedFacts Try.prog 3 Try.f3 Rows.fnExactCertifyPathSpec Rows.fnExactCertifyPathRow = true := by
  unfold joinedFacts
  repeat' (with_reducible refine andTT ?_ ?_)
  all_goals (first | (with_reducible exact clo_laid) | (with_reducible exact clo_maps) | (with_reducible exact clo_heard) | (with_reducible exact clo_enter) | ((with_reducible refine clo_plain _ ?_); rfl) | ((with_reducible refine clo_lifts _ ?_); rfl) | (as_aux_lemma => kernel_rfl))

theorem over : Rows.fnExactCertifyPathRow.holds Try.pinned (OpenSpec.ofChange Rows.fnExactCertifyPathSpec) :=
  OpenClaim.holds_of_wide 3 Try.f3 rfl rfl rfl rfl rfl rfl rfl ⟨rfl, rfl, rfl, rfl, rfl⟩ rfl rfl rfl rfl rfl (by kernel_rfl) Try.func3 closed
    (of_decide_eq_true (by kernel_rfl)) (by unfold Func.isWrapper; first | (rw [if_pos (by decide +kernel)]; kernel_rfl) | (rw [if_neg (by decide +kernel)]; exact ⟨rfl, rfl⟩))
    (fun os started H enc _ => lifted os started H enc)

/-- THE STATEMENT. -/
theorem proved : Rows.FnExactCertifyPathSaid := over
end lawFnExactCertifyPath
end Go.Proofs.Ytifjenleoagefaa
