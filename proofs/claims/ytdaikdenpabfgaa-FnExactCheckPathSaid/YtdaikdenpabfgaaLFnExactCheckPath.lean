/- The law FnExactCheckPath returns true at every argument; no condition. -/
import Derived.Test.YtdaikdenpabfgaaEntL
import Derived.Test.YtdaikdenpabfgaaCks
import Derived.Test.YtdaikdenpabfgaaClo
namespace Go.Proofs.Ytdaikdenpabfgaa
open Go.ChangeShapes Go.WideShapes Go.ChangeAt Go.RowKit
set_option linter.unusedVariables false
set_option linter.unusedSimpArgs false

set_option maxHeartbeats 3200000 in
theorem FnExactCheckPath_walk (A0 : Option Addr) (c0 : Nat) (z0 : List Ent) (n1 : Int) (n2 : Int) (A3 : Option Addr) (c3 : Nat) (z3 : List Int) (w : World) (hx0 : EntsAt w A0 z0) (hm0 : z0.length ≤ maxLen) (hx3 : IntsAt w A3 z3) :
    Calls Try.prog 11 #[.slice A0 z0.length c0, .int .i64 n1, .int .i64 n2, .slice A3 z3.length c3] w fun e w' => e = .returned (.bool true) ∧ Below w.heap.size w w' := by
  by_cases s3 : (1048576 : Int) < z3.length
  · go_enter Try.func11, Try.ntmps11
    go_wp2
    go_ret
    exact ⟨rfl, Below.refl _ _⟩
  have l3 : (z3.length : Int) ≤ 1048576 := by omega
  have n3 : z3.length ≤ 4194304 := by omega
  have nn0 := entSz_nn z0
  by_cases s0 : 1048576 < entSz z0
  · go_enter Try.func11, Try.ntmps11
    go_wp2_with fail
    refine (szEntryS_no _ _ z0 _ _ hx0 (by omega) (by omega) hm0 s0).mono ?_
    rintro e q0 ⟨rfl, p0⟩
    go_wp2_with fail
    go_ret
    exact ⟨rfl, p0⟩
  have l0 : entSz z0 ≤ 1048576 := by omega
  have n0 : z0.length ≤ 4194304 := by have := entSz_len l0; omega
  have r0 : rowsIn z0 4194304 := entSz_row (by omega)
  go_enter Try.func11, Try.ntmps11
  go_wp2_with fail
  refine (szEntryS_yes _ _ z0 _ _ hx0 (by omega) (by omega) hm0 (by omega)).mono ?_
  rintro e w1 ⟨rfl, b1⟩
  have B1 := b1
  go_wp2_with fail
  refine (toEntryS_any _ _ z0 _ (hx0.below entR b1) n0 r0).mono ?_
  rintro e w2 ⟨rfl, ks0, b2⟩
  have B2 := btr B1 b2
  have as0 := EntsOw.at_ ks0
  go_wp2_with fail
  refine (toIntS_any _ _ z3 _ (hx3.below (btr b1 b2)) (by omega)).mono ?_
  rintro e w3 ⟨rfl, ks3, b3⟩
  have B3 := btr B2 b3
  have as3 := IntsAt.ofBlk ks3
  go_wp2_with fail
  refine (CheckPath_s _ _ _ _ _ _ _ _ _ (as0.below entR b3) as3 n0 r0 n3 (Nat.le_refl _)).mono ?_
  rintro e w4 ⟨rfl, b4⟩
  have B4 := btr B3 b4
  go_wp2_with fail
  refine (toEntryS_any _ _ z0 _ (hx0.below entR (btr (btr (btr b1 b2) b3) b4)) n0 r0).mono ?_
  rintro e w5 ⟨rfl, ki0, b5⟩
  have B5 := btr B4 b5
  have ai0 := EntsOw.at_ ki0
  go_wp2_with fail
  refine (toIntS_any _ _ z3 _ (hx3.below (btr (btr (btr (btr b1 b2) b3) b4) b5)) (by omega)).mono ?_
  rintro e w6 ⟨rfl, ki3, b6⟩
  have B6 := btr B5 b6
  have ai3 := IntsAt.ofBlk ki3
  go_wp2_with fail
  refine (CheckPath_i _ _ _ _ _ _ _ _ _ (ai0.below entR b6) ai3 n0 r0 n3 (Nat.le_refl _)).mono ?_
  rintro e w7 ⟨rfl, b7⟩
  have B7 := btr B6 b7
  go_wp2_with fail
  refine (toEntryS_any _ _ z0 _ (hx0.below entR (btr (btr (btr (btr (btr (btr b1 b2) b3) b4) b5) b6) b7)) n0 r0).mono ?_
  rintro e w8 ⟨rfl, kc0, b8⟩
  have B8 := btr B7 b8
  have ac0 := EntsOw.at_ kc0
  have t0 : decide (z0 = z0) = true := by simp
  go_wp2_with fail
  refine (eqEntryS_any _ _ _ _ z0 z0 _ (ai0.below entR (btr (btr b6 b7) b8)) ac0 n0 n0 r0 r0).mono ?_
  rintro e w9 ⟨rfl, b9⟩
  have B9 := btr B8 b9
  go_wp2_with fail
  refine (toIntS_any _ _ z3 _ (hx3.below (btr (btr (btr (btr (btr (btr (btr (btr b1 b2) b3) b4) b5) b6) b7) b8) b9)) (by omega)).mono ?_
  rintro e w10 ⟨rfl, kc3, b10⟩
  have B10 := btr B9 b10
  have ac3 := IntsAt.ofBlk kc3
  have t3 : decide (z3 = z3) = true := by simp
  go_wp2_with fail
  refine (eqIntS_any _ _ _ _ z3 z3 _ (ai3.below (btr (btr (btr b7 b8) b9) b10)) ac3 (by omega) (by omega)).mono ?_
  rintro e w11 ⟨rfl, b11⟩
  have B11 := btr B10 b11
  go_wp2_with fail
  go_ret
  exact ⟨rfl, B11⟩

namespace lawFnExactCheckPath
theorem own : ownKnob Try.prog.godebug = none := by kernel_rfl
theorem laidOut : laidOutB Try.prog = true := clo_laid
set_option maxRecDepth 100000 in
theorem lifted (os : Os) (started : os.Started) (H : Type) (enc : TypeId × Value → H) :
    ReturnsInHanded {} Try.checked os 11 .any (Rows.fnExactCheckPathSpec.pre6 enc Try.prog Try.f11 Rows.fnExactCheckPathRow.domain false) (Rows.fnExactCheckPathSpec.post enc Try.prog Try.f11 false true false false) := by
  refine returnsInHanded_of_change (C := Try.checked) own started (by kernel_rfl) Try.func11
    (ChangeSpec.witness6 (enc := enc) (C := Try.checked) false ⟨#[], #[.slice none 0 0, .int .i64 0, .int .i64 0, .slice none 0 0], []⟩ 8 (by kernel_rfl) (by kernel_rfl) (by kernel_rfl) (by kernel_rfl)) ?_
  intro W base args ds gs before hval0 hW hcnd _
  have hval : ∀ (j : Nat) t v, Try.f11.params[j]? = some t → args[j]? = some v → Value.okWide Try.prog W .any base t v := hval0
  have hW' := hW
  obtain ⟨p, q, hA0, hV, rfl, hfz, hnd⟩ := hW
  have hA : DataW.TrodAll enc Try.prog W 0 (fun _ => true) true Try.f11.params.toList args.toList ds p := hA0
  rw [Try.params11] at hA hval
  obtain ⟨v0, vs0, d0, ds0, p0, q0, hargs, rfl, rfl, h0, r0⟩ := trodAll_cons hA
  obtain ⟨v1, vs1, d1, ds1, p1, q1, rfl, rfl, rfl, h1, r1⟩ := trodAll_cons r0
  obtain ⟨v2, vs2, d2, ds2, p2, q2, rfl, rfl, rfl, h2, r2⟩ := trodAll_cons r1
  obtain ⟨v3, vs3, d3, ds3, p3, q3, rfl, rfl, rfl, h3, r3⟩ := trodAll_cons r2
  obtain ⟨rfl, rfl, rfl⟩ := trodAll_nil r3
  obtain rfl : args = #[v0, v1, v2, v3] := by cases args; simp_all
  obtain ⟨rfl, rfl⟩ := trodVars_none hV
  have k0 := h0
  have lt0 : ∀ x ∈ p0, x.block < W.heap.size := by obtain ⟨m, hm⟩ := k0; exact DataW.trod_lt m _ _ _ hm
  obtain ⟨a0, len0, cap0, rfl⟩ := okWide_slice Try.underlying22 (hval 0 22 v0 rfl rfl)
  obtain ⟨z0, rfl, l0, w0⟩ := entries_of h0
  have k1 := h1
  have lt1 : ∀ x ∈ p1, x.block < W.heap.size := by obtain ⟨m, hm⟩ := k1; exact DataW.trod_lt m _ _ _ hm
  obtain ⟨a1, rfl, -, -, wa1⟩ := open_int Try.underlying3 (hval 1 3 v1 rfl rfl) h1
  have k2 := h2
  have lt2 : ∀ x ∈ p2, x.block < W.heap.size := by obtain ⟨m, hm⟩ := k2; exact DataW.trod_lt m _ _ _ hm
  obtain ⟨a2, rfl, -, -, wa2⟩ := open_int Try.underlying3 (hval 2 3 v2 rfl rfl) h2
  have k3 := h3
  have lt3 : ∀ x ∈ p3, x.block < W.heap.size := by obtain ⟨m, hm⟩ := k3; exact DataW.trod_lt m _ _ _ hm
  obtain ⟨a3, len3, cap3, rfl⟩ := okWide_slice Try.underlying39 (hval 3 39 v3 rfl rfl)
  obtain ⟨z3, rfl, w3⟩ := ints_of Try.underlying39 Try.underlying3 (by kernel_rfl) h3
  clear hA0 hval0
  refine (FnExactCheckPath_walk a0 cap0 z0 a1 a2 a3 cap3 z3 W w0 l0 w3).mono fun e W' ⟨he, bel⟩ => ?_
  subst he
  exact ⟨_, rfl, _, _, _, [], _, [], hW', trodAll_mk1 (shut_bool Try.underlying4 _), (trodAll_cons_mk (Below.trod laidOut (by kernel_rfl) (of_decide_eq_true (by kernel_rfl)) k0 bel lt0) (trodAll_cons_mk (Below.trod laidOut (by kernel_rfl) (of_decide_eq_true (by kernel_rfl)) k1 bel lt1) (trodAll_cons_mk (Below.trod laidOut (by kernel_rfl) (of_decide_eq_true (by kernel_rfl)) k2 bel lt2) (trodAll_cons_mk (Below.trod laidOut (by kernel_rfl) (of_decide_eq_true (by kernel_rfl)) k3 bel lt3) trodAll_mk0)))), rfl, bel.frame _, fun h => by cases h⟩
theorem andTT {a b : Bool} (h1 : a = true) (h2 : b = true) : (a && b) = true := by rw [h1, h2]; rfl
set_option maxHeartbeats 8000000 in
theorem closed : joinedFacts Try.prog 11 Try.f11 Rows.fnExactCheckPathSpec Rows.fnExactCheckPathRow = true := by
  unfold joinedFacts
  repeat' (with_reducible refine andTT ?_ ?_)
  all_goals (first | (with_reducible exact clo_laid) | (with_reducible exact clo_maps) | (with_reducible exact clo_heard) | (with_reducible exact clo_enter) | ((with_reducible refine clo_plain _ ?_); rfl) | ((with_reducible refine clo_lifts _ ?_); rfl) | (as_aux_lemma => kernel_rfl))

theorem over : Rows.fnExactCheckPathRow.holds Try.pinned (OpenSpec.ofChange Rows.fnExactCheckPathSpec) :=
  OpenClaim.holds_of_wide 11 Try.f11 rfl rfl rfl rfl rfl rfl rfl ⟨rfl, rfl, rfl, rfl, rfl⟩ rfl rfl rfl rfl rfl (by kernel_rfl) Try.func11 closed
    (of_decide_eq_true (by kernel_rfl)) (by unfold Func.isWrapper; first | (rw [if_pos (by decide +kernel)]; kernel_rfl) | (rw [if_neg (by decide +kernel)]; exact ⟨rfl, rfl⟩))
    (fun os started H enc _ => lifted os started H enc)

/-- THE STATEMENT. -/
theorem proved : Rows.FnExactCheckPathSaid := over
end lawFnExactCheckPath
end Go.Proofs.Ytdaikdenpabfgaa
