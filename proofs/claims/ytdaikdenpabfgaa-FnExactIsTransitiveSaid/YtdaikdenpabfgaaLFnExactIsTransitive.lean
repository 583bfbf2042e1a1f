/- The law FnExactIsTransitive returns true at every argument; no condition. -/
import Derived.Test.YtdaikdenpabfgaaEntL
import Derived.Test.YtdaikdenpabfgaaRt
import Derived.Test.YtdaikdenpabfgaaClo
namespace Go.Proofs.Ytdaikdenpabfgaa
open Go.ChangeShapes Go.WideShapes Go.ChangeAt Go.RowKit
set_option linter.unusedVariables false
set_option linter.unusedSimpArgs false

set_option maxHeartbeats 3200000 in
theorem FnExactIsTransitive_walk (A0 : Option Addr) (c0 : Nat) (z0 : List Ent) (w : World) (hx0 : EntsAt w A0 z0) (hm0 : z0.length ≤ maxLen) :
    Calls Try.prog 6 #[.slice A0 z0.length c0] w fun e w' => e = .returned (.bool true) ∧ Below w.heap.size w w' := by
  have nn0 := entSz_nn z0
  by_cases s0 : 1048576 < entSz z0
  · go_enter Try.func6, Try.ntmps6
    go_wp2_with fail
    refine (szEntryS_no _ _ z0 _ _ hx0 (by omega) (by omega) hm0 s0).mono ?_
    rintro e q0 ⟨rfl, p0⟩
    go_wp2_with fail
    go_ret
    exact ⟨rfl, p0⟩
  have l0 : entSz z0 ≤ 1048576 := by omega
  have n0 : z0.length ≤ 4194304 := by have := entSz_len l0; omega
  have r0 : rowsIn z0 4194304 := entSz_row (by omega)
  go_enter Try.func6, Try.ntmps6
  go_wp2_with fail
  refine (szEntryS_yes _ _ z0 _ _ hx0 (by omega) (by omega) hm0 (by omega)).mono ?_
  rintro e w1 ⟨rfl, b1⟩
  have B1 := b1
  go_wp2_with fail
  refine (toEntryS_any _ _ z0 _ (hx0.below entR b1) n0 r0).mono ?_
  rintro e w2 ⟨rfl, ks0, b2⟩
  have B2 := btr B1 b2
  have as0 := EntsOw.at_ ks0
  go_wp2_with fail
  refine (IsTransitive_s _ _ _ _ as0 n0 r0).mono ?_
  rintro e w3 ⟨rfl, b3⟩
  have B3 := btr B2 b3
  go_wp2_with fail
  refine (toEntryS_any _ _ z0 _ (hx0.below entR (btr (btr b1 b2) b3)) n0 r0).mono ?_
  rintro e w4 ⟨rfl, ki0, b4⟩
  have B4 := btr B3 b4
  have ai0 := EntsOw.at_ ki0
  go_wp2_with fail
  refine (IsTransitive_i _ _ _ _ ai0 n0 r0).mono ?_
  rintro e w5 ⟨rfl, b5⟩
  have B5 := btr B4 b5
  go_wp2_with fail
  refine (toEntryS_any _ _ z0 _ (hx0.below entR (btr (btr (btr (btr b1 b2) b3) b4) b5)) n0 r0).mono ?_
  rintro e w6 ⟨rfl, kc0, b6⟩
  have B6 := btr B5 b6
  have ac0 := EntsOw.at_ kc0
  have t0 : decide (z0 = z0) = true := by simp
  go_wp2_with fail
  refine (eqEntryS_any _ _ _ _ z0 z0 _ (ai0.below entR (btr b5 b6)) ac0 n0 n0 r0 r0).mono ?_
  rintro e w7 ⟨rfl, b7⟩
  have B7 := btr B6 b7
  go_wp2_with fail
  go_ret
  exact ⟨rfl, B7⟩

namespace lawFnExactIsTransitive
theorem own : ownKnob Try.prog.godebug = none := by kernel_rfl
theorem laidOut : laidOutB Try.prog = true := clo_laid
set_option maxRecDepth 100000 in
theorem lifted (os : Os) (started : os.Started) (H : Type) (enc : TypeId × Value → H) :
    ReturnsInHanded {} Try.checked os 6 .any (Rows.fnExactIsTransitiveSpec.pre6 enc Try.prog Try.f6 Rows.fnExactIsTransitiveRow.domain false) (Rows.fnExactIsTransitiveSpec.post enc Try.prog Try.f6 false true false false) := by
  refine returnsInHanded_of_change (C := Try.checked) own started (by kernel_rfl) Try.func6
    (ChangeSpec.witness6 (enc := enc) (C := Try.checked) false ⟨#[], #[.slice none 0 0], []⟩ 8 (by kernel_rfl) (by kernel_rfl) (by kernel_rfl) (by kernel_rfl)) ?_
  intro W base args ds gs before hval0 hW hcnd _
  have hval : ∀ (j : Nat) t v, Try.f6.params[j]? = some t → args[j]? = some v → Value.okWide Try.prog W .any base t v := hval0
  have hW' := hW
  obtain ⟨p, q, hA0, hV, rfl, hfz, hnd⟩ := hW
  have hA : DataW.TrodAll enc Try.prog W 0 (fun _ => true) true Try.f6.params.toList args.toList ds p := hA0
  rw [Try.params6] at hA hval
  obtain ⟨v0, vs0, d0, ds0, p0, q0, hargs, rfl, rfl, h0, r0⟩ := trodAll_cons hA
  obtain ⟨rfl, rfl, rfl⟩ := trodAll_nil r0
  obtain rfl : args = #[v0] := by cases args; simp_all
  obtain ⟨rfl, rfl⟩ := trodVars_none hV
  have k0 := h0
  have lt0 : ∀ x ∈ p0, x.block < W.heap.size := by obtain ⟨m, hm⟩ := k0; exact DataW.trod_lt m _ _ _ hm
  obtain ⟨a0, len0, cap0, rfl⟩ := okWide_slice Try.underlying22 (hval 0 22 v0 rfl rfl)
  obtain ⟨z0, rfl, l0, w0⟩ := entries_of h0
  clear hA0 hval0
  refine (FnExactIsTransitive_walk a0 cap0 z0 W w0 l0).mono fun e W' ⟨he, bel⟩ => ?_
  subst he
  exact ⟨_, rfl, _, _, _, [], _, [], hW', trodAll_mk1 (shut_bool Try.underlying4 _), (trodAll_cons_mk (Below.trod laidOut (by kernel_rfl) (of_decide_eq_true (by kernel_rfl)) k0 bel lt0) trodAll_mk0), rfl, bel.frame _, fun h => by cases h⟩
theorem andTT {a b : Bool} (h1 : a = true) (h2 : b = true) : (a && b) = true := by rw [h1, h2]; rfl
set_option maxHeartbeats 8000000 in
theorem closed : joinedFacts Try.prog 6 Try.f6 Rows.fnExactIsTransitiveSpec Rows.fnExactIsTransitiveRow = true := by
  unfold joinedFacts
  repeat' (with_reducible refine andTT ?_ ?_)
  all_goals (first | (with_reducible exact clo_laid) | (with_reducible exact clo_maps) | (with_reducible exact clo_heard) | (with_reducible exact clo_enter) | ((with_reducible refine clo_plain _ ?_); rfl) | ((with_reducible refine clo_lifts _ ?_); rfl) | (as_aux_lemma => kernel_rfl))

theorem over : Rows.fnExactIsTransitiveRow.holds Try.pinned (OpenSpec.ofChange Rows.fnExactIsTransitiveSpec) :=
  OpenClaim.holds_of_wide 6 Try.f6 rfl rfl rfl rfl rfl rfl rfl ⟨rfl, rfl, rfl, rfl, rfl⟩ rfl rfl rfl rfl rfl (by kernel_rfl) Try.func6 closed
    (of_decide_eq_true (by kernel_rfl)) (by unfold Func.isWrapper; first | (rw [if_pos (by decide +kernel)]; kernel_rfl) | (rw [if_neg (by decide +kernel)]; exact ⟨rfl, rfl⟩))
    (fun os started H enc _ => lifted os started H enc)

/-- THE STATEMENT. -/
theorem proved : Rows.FnExactIsTransitiveSaid := over
end lawFnExactIsTransitive
end Go.Proofs.Ytdaikdenpabfgaa
