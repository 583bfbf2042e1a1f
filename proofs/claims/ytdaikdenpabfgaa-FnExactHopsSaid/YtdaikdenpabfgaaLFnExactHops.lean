/- The law FnExactHops returns true at every argument; no condition. -/
import Derived.Test.YtdaikdenpabfgaaEntL
import Derived.Test.YtdaikdenpabfgaaEntM
import Derived.Test.YtdaikdenpabfgaaHos
import Derived.Test.YtdaikdenpabfgaaHop
import Derived.Test.YtdaikdenpabfgaaClo
import Derived.Carry
import Derived.ChangeOld
import Derived.Lib.SmallJoins
namespace Go.Proofs.Ytdaikdenpabfgaa
open Go.ChangeShapes Go.WideShapes Go.ChangeAt Go.RowKit
set_option linter.unusedVariables false
set_option linter.unusedSimpArgs false
theorem lit64 {a : Int} (h : (Lit.int IntKind.i64 a).wf = true) : -9223372036854775808 ≤ a ∧ a ≤ 9223372036854775807 := by
  simp [Lit.wf, IntKind.min, IntKind.max, IntKind.bits, IntKind.signed] at h
  omega

set_option maxHeartbeats 12800000 in
theorem FnExactHops_walk (A0 : Option Addr) (c0 : Nat) (z0 : List Ent) (n1 : Int) (w : World) (hx0 : EntsAt w A0 z0) (hm0 : z0.length ≤ maxLen) (hw1 : -9223372036854775808 ≤ n1 ∧ n1 ≤ 9223372036854775807) :
    Calls Try.prog 5 #[.slice A0 z0.length c0, .int .i64 n1] w fun e w' => e = .returned (.bool true) ∧ Below w.heap.size w w' := by
  have nn0 := entSz_nn z0
  by_cases s0 : 1048576 < entSz z0
  · go_enter Try.func5, Try.ntmps5
    go_wp2_with fail
    refine (szEntryS_no _ _ z0 _ _ hx0 (by omega) (by omega) hm0 s0).mono ?_
    rintro e q0 ⟨rfl, p0⟩
    go_wp2_with fail
    go_ret
    exact ⟨rfl, p0⟩
  have l0 : entSz z0 ≤ 1048576 := by omega
  have n0 : z0.length ≤ 4194304 := by have := entSz_len l0; omega
  have m0 : z0.length ≤ 2097152 := by have := entSz_len l0; omega
  have r0 : rowsIn z0 4194304 := entSz_row (by omega)
  have fl : (HopsF z0 n1).length ≤ 4194304 := by have := HopsF_len z0 n1; omega
  have fr : rowsIn (HopsF z0 n1) 4194304 := fun e he => by have := HopsF_row z0 n1 e he; omega
  have conW := fun (A0 : Option Addr) (c0 : Nat) (w : World) (h0 : EntsAt w A0 z0)  => Hops_s A0 c0 z0 n1 w h0  n0 r0
  have conG := fun (A0 : Option Addr) (c0 : Nat) (w : World) (h0 : EntsAt w A0 z0)  => Hops_i A0 c0 z0 n1 w h0  n0 r0
  generalize HopsF z0 n1 = Z at fl fr conW conG
  have fc := cnt_bd fl fr
  have cb0 := cnt_bd n0 r0
  go_enter Try.func5, Try.ntmps5
  go_wp2_with fail
  refine (szEntryS_yes _ _ z0 _ _ hx0 (by omega) (by omega) hm0 (by omega)).mono ?_
  rintro e w1 ⟨rfl, b1⟩
  have B1 := b1
  go_wp2_with fail
  refine (toEntryS_any _ _ z0 _ (hx0.below entR b1) n0 r0).mono ?_
  rintro e w2 ⟨rfl, ks0, b2⟩
  have B2 := btr B1 b2
  have as0 := EntsOw.at_ ks0
  go_wp2_with fail
  refine (conW _ _ _ as0).mono ?_
  rintro e w3 ⟨AW, cW, rfl, kW, b3⟩
  have B3 := btr B2 b3
  have aW := EntsOw.at_ kW
  go_wp2_with fail
  refine (toEntryS_any _ _ z0 _ (hx0.below entR (btr (btr b1 b2) b3)) n0 r0).mono ?_
  rintro e w4 ⟨rfl, ki0, b4⟩
  have B4 := btr B3 b4
  have ai0 := EntsOw.at_ ki0
  go_wp2_with fail
  refine (conG _ _ _ ai0).mono ?_
  rintro e w5 ⟨AG, cG, rfl, kG, b5⟩
  have B5 := btr B4 b5
  have aG := EntsOw.at_ kG
  have tZ : decide (Z = Z) = true := by simp
  go_wp2_with fail
  refine (eqEntryS_any _ _ _ _ Z Z _ aG (aW.below entR (btr b4 b5)) fl fl fr fr).mono ?_
  rintro e w6 ⟨rfl, b6⟩
  have B6 := btr B5 b6
  go_wp2_with fail
  refine (toEntryS_any _ _ z0 _ (hx0.below entR (btr (btr (btr (btr (btr b1 b2) b3) b4) b5) b6)) n0 r0).mono ?_
  rintro e w7 ⟨rfl, kc0, b7⟩
  have B7 := btr B6 b7
  have ac0 := EntsOw.at_ kc0
  have t0 : decide (z0 = z0) = true := by simp
  go_wp2_with fail
  refine (eqEntryS_any _ _ _ _ z0 z0 _ (ai0.below entR (btr (btr b5 b6) b7)) ac0 n0 n0 r0 r0).mono ?_
  rintro e w8 ⟨rfl, b8⟩
  have B8 := btr B7 b8
  go_wp2_with fail
  refine (markEntryS_any _ _ _ z0 _ _ (ki0.below entO (btr (btr (btr b5 b6) b7) b8)) n0 r0 (by omega) (by omega)).mono ?_
  rintro e w9 ⟨rfl, mk0, g9⟩
  have D0_9 : Below w.heap.size w w9 := g9.below (btr (btr (btr (btr (btr (btr (btr b1 b2) b3) b4) b5) b6) b7) b8) (fun q hq => Nat.le_trans ((btr (btr b1 b2) b3)).size hq.1)
  have D3_9 : Below w3.heap.size w3 w9 := g9.below (btr (btr (btr (btr b4 b5) b6) b7) b8) (fun q hq => Nat.le_trans (Nat.le_refl w3.heap.size) hq.1)
  have kG_9 := (kG.below entO (btr (btr b6 b7) b8)).kept entO g9 (fun q hq hr => by have h3 := (Nat.le_refl w4.heap.size); have h1 := hq.1; have h2 := hr.2; omega)
  have B9 := D0_9
  have aG2 := EntsOw.at_ kG_9
  go_wp2_with fail
  refine (eqEntryS_any _ _ _ _ Z Z _ aG2 (aW.below entR D3_9) fl fl fr fr).mono ?_
  rintro e w10 ⟨rfl, b10⟩
  have B10 := btr B9 b10
  go_wp2_with fail
  refine (markEntryS_any _ _ _ Z _ _ (kG_9.below entO b10) fl fr (by omega) (by omega)).mono ?_
  rintro e w11 ⟨rfl, kM, g11⟩
  have D0_11 : Below w.heap.size w w11 := g11.below (btr D0_9 b10) (fun q hq => Nat.le_trans ((btr (btr (btr b1 b2) b3) b4)).size hq.1)
  have D3_11 : Below w3.heap.size w3 w11 := g11.below (btr D3_9 b10) (fun q hq => Nat.le_trans (b4).size hq.1)
  have B11 := D0_11
  go_wp2_with fail
  refine (heldEntryS_any _ _ Z 1 _ (EntsOw.at_ kM) fl fr (by omega) (by omega)).mono ?_
  rintro e wsame ⟨rfl, rfl⟩
  go_wp2_with fail
  refine (toEntryS_any _ _ z0 _ (hx0.below entR D0_11) n0 r0).mono ?_
  rintro e w12 ⟨rfl, kh0, b12⟩
  have B12 := btr B11 b12
  have ah0 := EntsOw.at_ kh0
  go_wp2_with fail
  refine (conG _ _ _ ah0).mono ?_
  rintro e w13 ⟨AH, cH, rfl, kH, b13⟩
  have B13 := btr B12 b13
  have aH := EntsOw.at_ kH
  go_wp2_with fail
  refine (eqEntryS_any _ _ _ _ Z Z _ aH (aW.below entR (btr (btr D3_11 b12) b13)) fl fl fr fr).mono ?_
  rintro e w14 ⟨rfl, b14⟩
  have B14 := btr B13 b14
  go_wp2_with fail
  refine (heldEntryS_any _ _ Z 1 _ (EntsOw.at_ (kM.below entO (btr (btr b12 b13) b14))) fl fr (by omega) (by omega)).mono ?_
  rintro e wsame ⟨rfl, rfl⟩
  go_wp2_with fail
  go_ret
  exact ⟨rfl, B14⟩

namespace lawFnExactHops
theorem own : ownKnob Try.prog.godebug = none := by kernel_rfl
theorem laidOut : laidOutB Try.prog = true := clo_laid
set_option maxRecDepth 100000 in
theorem lifted (os : Os) (started : os.Started) (H : Type) (enc : TypeId × Value → H) :
    ReturnsInHanded {} Try.checked os 5 .any (Rows.fnExactHopsSpec.pre6 enc Try.prog Try.f5 Rows.fnExactHopsRow.domain false) (Rows.fnExactHopsSpec.post enc Try.prog Try.f5 false true false false) := by
  refine returnsInHanded_of_change (C := Try.checked) own started (by kernel_rfl) Try.func5
    (ChangeSpec.witness6 (enc := enc) (C := Try.checked) false ⟨#[], #[.slice none 0 0, .int .i64 0], []⟩ 8 (by kernel_rfl) (by kernel_rfl) (by kernel_rfl) (by kernel_rfl)) ?_
  intro W base args ds gs before hval0 hW hcnd _
  have hval : ∀ (j : Nat) t v, Try.f5.params[j]? = some t → args[j]? = some v → Value.okWide Try.prog W .any base t v := hval0
  have hW' := hW
  obtain ⟨p, q, hA0, hV, rfl, hfz, hnd⟩ := hW
  have hA : DataW.TrodAll enc Try.prog W 0 (fun _ => true) true Try.f5.params.toList args.toList ds p := hA0
  rw [Try.params5] at hA hval
  obtain ⟨v0, vs0, d0, ds0, p0, q0, hargs, rfl, rfl, h0, r0⟩ := trodAll_cons hA
  obtain ⟨v1, vs1, d1, ds1, p1, q1, rfl, rfl, rfl, h1, r1⟩ := trodAll_cons r0
  obtain ⟨rfl, rfl, rfl⟩ := trodAll_nil r1
  obtain rfl : args = #[v0, v1] := by cases args; simp_all
  obtain ⟨rfl, rfl⟩ := trodVars_none hV
  have k0 := h0
  have lt0 : ∀ x ∈ p0, x.block < W.heap.size := by obtain ⟨m, hm⟩ := k0; exact DataW.trod_lt m _ _ _ hm
  obtain ⟨a0, len0, cap0, rfl⟩ := okWide_slice Try.underlying22 (hval 0 22 v0 rfl rfl)
  obtain ⟨z0, rfl, l0, w0⟩ := entries_of h0
  have k1 := h1
  have lt1 : ∀ x ∈ p1, x.block < W.heap.size := by obtain ⟨m, hm⟩ := k1; exact DataW.trod_lt m _ _ _ hm
  obtain ⟨a1, rfl, -, -, wa1⟩ := open_int Try.underlying3 (hval 1 3 v1 rfl rfl) h1
  clear hA0 hval0
  refine (FnExactHops_walk a0 cap0 z0 a1 W w0 l0 (lit64 wa1)).mono fun e W' ⟨he, bel⟩ => ?_
  subst he
  exact ⟨_, rfl, _, _, _, [], _, [], hW', trodAll_mk1 (shut_bool Try.underlying4 _), (trodAll_cons_mk (Below.trod laidOut (by kernel_rfl) (of_decide_eq_true (by kernel_rfl)) k0 bel lt0) (trodAll_cons_mk (Below.trod laidOut (by kernel_rfl) (of_decide_eq_true (by kernel_rfl)) k1 bel lt1) trodAll_mk0)), rfl, bel.frame _, fun h => by cases h⟩
theorem andTT {a b : Bool} (h1 : a = true) (h2 : b = true) : (a && b) = true := by rw [h1, h2]; rfl
set_option maxHeartbeats 8000000 in
theorem closed : joinedFacts Try.prog 5 Try.f5 Rows.fnExactHopsSpec Rows.fnExactHopsRow = true := by
  unfold joinedFacts
  repeat' (with_reducible refine andTT ?_ ?_)
  all_goals (first | (with_reducible exact clo_laid) | (with_reducible exact clo_maps) | (with_reducible exact clo_heard) | (with_reducible exact clo_enter) | ((with_reducible refine clo_plain _ ?_); rfl) | ((with_reducible refine clo_lifts _ ?_); rfl) | (as_aux_lemma => kernel_rfl))

theorem over : Rows.fnExactHopsRow.holds Try.pinned (OpenSpec.ofChange Rows.fnExactHopsSpec) :=
  OpenClaim.holds_of_wide 5 Try.f5 rfl rfl rfl rfl rfl rfl rfl ⟨rfl, rfl, rfl, rfl, rfl⟩ rfl rfl rfl rfl rfl (by kernel_rfl) Try.func5 closed
    (of_decide_eq_true (by kernel_rfl)) (by unfold Func.isWrapper; first | (rw [if_pos (by decide +kernel)]; kernel_rfl) | (rw [if_neg (by decide +kernel)]; exact ⟨rfl, rfl⟩))
    (fun os started H enc _ => lifted os started H enc)

/-- THE STATEMENT. -/
theorem proved : Rows.FnExactHopsSaid := over
end lawFnExactHops
end Go.Proofs.Ytdaikdenpabfgaa
