/- The law FnExactValidInputs returns true at every argument; no condition. -/
import Derived.Test.YtjobecoogjojjaaVin
import Derived.Test.YtjobecoogjojjaaClo
import Derived.Carry
import Derived.ChangeOld
import Derived.Lib.SmallJoins
namespace Go.Proofs.Ytjobecoogjojjaa
open Go.ChangeShapes Go.WideShapes Go.ChangeAt Go.RowKit Go.Sort
set_option linter.unusedVariables false
set_option linter.unusedSimpArgs false

set_option maxHeartbeats 6400000 in
theorem FnExactValidInputs_walk (A0 : Option Addr) (c0 : Nat) (ws : List Int) (A1 : Option Addr) (c1 : Nat) (zs : List Zs) (w : World) (hx0 : IntsAt w A0 ws) (hx1 : ZssAt w A1 zs) (hm1 : zs.length ≤ maxLen) :
    Calls Try.prog 11 #[.slice A0 ws.length c0, .slice A1 zs.length c1] w fun e w' => e = .returned (.bool true) ∧ Below w.heap.size w w' := by
  by_cases s0 : (1048576 : Int) < ws.length
  · go_enter Try.func11, Try.ntmps11
    go_wp2
    go_ret
    exact ⟨rfl, Below.refl _ _⟩
  have l0 : (ws.length : Int) ≤ 1048576 := by omega
  have n0 : ws.length ≤ 4194304 := by omega
  have nn1 := zsSz_nn zs
  by_cases s1 : 1048576 < zsSz zs
  · go_enter Try.func11, Try.ntmps11
    go_wp2_with fail
    refine (szEntrySS_no _ _ zs _ _ hx1 (by omega) (by omega) hm1 s1).mono ?_
    rintro e q0 ⟨rfl, p0⟩
    go_wp2_with fail
    go_ret
    exact ⟨rfl, p0⟩
  have l1 : zsSz zs ≤ 1048576 := by omega
  have n1 : zs.length ≤ 4194304 := by have := zsSz_len l1; omega
  have r1 : zsIn zs 4194304 := zsSz_in (by omega)
  obtain ⟨R, hR⟩ : ∃ R, VInB ws zs = R := ⟨_, rfl⟩
  have conW := fun (A B : Option Addr) (c d : Nat) (w : World) (h0 : ZssAt w A zs) (h1 : IntsAt w B ws) => ValidInputs_s A B c d zs ws w h0 h1 n1 n0 r1
  have conG := fun (A B : Option Addr) (c d : Nat) (w : World) (h0 : ZssAt w A zs) (h1 : IntsAt w B ws) => ValidInputs_i A B c d zs ws w h0 h1 n1 n0 r1
  simp only [hR] at conW conG
  clear hR
  go_enter Try.func11, Try.ntmps11
  go_wp2_with fail
  refine (szEntrySS_yes _ _ zs _ _ hx1 (by omega) (by omega) hm1 (by omega)).mono ?_
  rintro e w1 ⟨rfl, b1⟩
  have B1 := b1
  go_wp2_with fail
  refine (toIntS_any _ _ ws _ (hx0.below b1) (by omega)).mono ?_
  rintro e w2 ⟨rfl, ks0, b2⟩
  have B2 := btr B1 b2
  go_wp2_with fail
  refine (toEntrySS_any _ _ zs _ (hx1.below B2) n1 r1).mono ?_
  rintro e w3 ⟨rfl, ks1, b3⟩
  have B3 := btr B2 b3
  have as1 : ZssAt w3 _ zs := SlOw.at_ zlO ks1
  go_wp2_with fail
  refine (conW _ _ _ _ _ as1 ((IntsAt.ofBlk ks0).below b3)).mono ?_
  rintro e w4 ⟨rfl, b4⟩
  have B4 := btr B3 b4
  clear as1 ks0 ks1 conW
  go_wp2_with fail
  refine (toIntS_any _ _ ws _ (hx0.below B4) (by omega)).mono ?_
  rintro e w5 ⟨rfl, ki0, b5⟩
  have B5 := btr B4 b5
  have ai0 := IntsAt.ofBlk ki0
  go_wp2_with fail
  refine (toEntrySS_any _ _ zs _ (hx1.below B5) n1 r1).mono ?_
  rintro e w6 ⟨rfl, ki1, b6⟩
  have B6 := btr B5 b6
  have ai1 : ZssAt w6 _ zs := SlOw.at_ zlO ki1
  go_wp2_with fail
  refine (conG _ _ _ _ _ ai1 (ai0.below b6)).mono ?_
  rintro e w7 ⟨rfl, b7⟩
  have B7 := btr B6 b7
  have hRR : (R != R) = false := by simp
  clear conG ki0 ki1
  go_wp2_with fail
  refine (toIntS_any _ _ ws _ (hx0.below B7) (by omega)).mono ?_
  rintro e w8 ⟨rfl, kc0, b8⟩
  have B8 := btr B7 b8
  have t0 : decide (ws = ws) = true := by simp
  have t1 : decide (zs = zs) = true := by simp
  go_wp2_with fail
  refine (eqIntS_any _ _ _ _ ws ws _ (ai0.below (btr (btr b6 b7) b8)) (IntsAt.ofBlk kc0) (by omega) (by omega)).mono ?_
  rintro e w9 ⟨rfl, b9⟩
  have B9 := btr B8 b9
  go_wp2_with fail
  refine (toEntrySS_any _ _ zs _ (hx1.below B9) n1 r1).mono ?_
  rintro e w10 ⟨rfl, kc1, b10⟩
  have B10 := btr B9 b10
  have ac1 : ZssAt w10 _ zs := SlOw.at_ zlO kc1
  go_wp2_with fail
  refine (eqEntrySS_any _ _ _ _ zs zs _ (ai1.below (btr (btr (btr b7 b8) b9) b10)) ac1 n1 n1 r1 r1).mono ?_
  rintro e w11 ⟨rfl, b11⟩
  have B11 := btr B10 b11
  go_wp2_with fail
  go_ret
  exact ⟨rfl, B11⟩

namespace lawFnExactValidInputs
theorem own : ownKnob Try.prog.godebug = none := by kernel_rfl
theorem laidOut : laidOutB Try.prog = true := clo_laid
set_option maxRecDepth 100000 in
theorem lifted (os : Os) (started : os.Started) (H : Type) (enc : TypeId × Value → H) :
    ReturnsInHanded {} Try.checked os 11 .any (Rows.fnExactValidInputsSpec.pre6 enc Try.prog Try.f11 Rows.fnExactValidInputsRow.domain false) (Rows.fnExactValidInputsSpec.post enc Try.prog Try.f11 false true false false) := by
  refine returnsInHanded_of_change (C := Try.checked) own started (by kernel_rfl) Try.func11
    (ChangeSpec.witness6 (enc := enc) (C := Try.checked) false ⟨#[], #[.slice none 0 0, .slice none 0 0], []⟩ 8 (by kernel_rfl) (by kernel_rfl) (by kernel_rfl) (by kernel_rfl)) ?_
  intro W base args ds gs before hval0 hW hcnd _
  have hval : ∀ (j : Nat) t v, Try.f11.params[j]? = some t → args[j]? = some v → Value.okWide Try.prog W .any base t v := hval0
  have hW' := hW
  obtain ⟨p, q, hA0, hV, rfl, hfz, hnd⟩ := hW
  have hA : DataW.TrodAll enc Try.prog W 0 (fun _ => true) true Try.f11.params.toList args.toList ds p := hA0
  rw [Try.params11] at hA hval
  obtain ⟨v0, vs0, d0, ds0, p0, q0, hargs, rfl, rfl, h0, r0⟩ := trodAll_cons hA
  obtain ⟨v1, vs1, d1, ds1, p1, q1, rfl, rfl, rfl, h1, r1⟩ := trodAll_cons r0
  obtain ⟨rfl, rfl, rfl⟩ := trodAll_nil r1
  obtain rfl : args = #[v0, v1] := by cases args; simp_all
  obtain ⟨rfl, rfl⟩ := trodVars_none hV
  have k0 := h0
  have lt0 : ∀ x ∈ p0, x.block < W.heap.size := by obtain ⟨m, hm⟩ := k0; exact DataW.trod_lt m _ _ _ hm
  obtain ⟨a0, len0, cap0, rfl⟩ := okWide_slice Try.underlying23 (hval 0 23 v0 rfl rfl)
  obtain ⟨z0, rfl, w0⟩ := ints_of Try.underlying23 Try.underlying3 (by kernel_rfl) h0
  have k1 := h1
  have lt1 : ∀ x ∈ p1, x.block < W.heap.size := by obtain ⟨m, hm⟩ := k1; exact DataW.trod_lt m _ _ _ hm
  obtain ⟨a1, len1, cap1, rfl⟩ := okWide_slice Try.underlying74 (hval 1 74 v1 rfl rfl)
  obtain ⟨z1, rfl, l1, w1⟩ := zss_of h1
  clear hA0 hval0
  refine (FnExactValidInputs_walk a0 cap0 z0 a1 cap1 z1 W w0 w1 l1).mono fun e W' ⟨he, bel⟩ => ?_
  subst he
  exact ⟨_, rfl, _, _, _, [], _, [], hW', trodAll_mk1 (shut_bool Try.underlying4 _), (trodAll_cons_mk (Below.trod laidOut (by kernel_rfl) (of_decide_eq_true (by kernel_rfl)) k0 bel lt0) (trodAll_cons_mk (Below.trod laidOut (by kernel_rfl) (of_decide_eq_true (by kernel_rfl)) k1 bel lt1) trodAll_mk0)), rfl, bel.frame _, fun h => by cases h⟩
theorem andTT {a b : Bool} (h1 : a = true) (h2 : b = true) : (a && b) = true := by rw [h1, h2]; rfl
set_option maxHeartbeats 8000000 in
theorem closed : joinedFacts Try.prog 11 Try.f11 Rows.fnExactValidInputsSpec Rows.fnExactValidInputsRow = true := by
  unfold joinedFacts
  repeat' (with_reducible refine andTT ?_ ?_)
  all_goals (first | (with_reducible exact clo_laid) | (with_reducible exact clo_maps) | (with_reducible exact clo_heard) | (with_reducible exact clo_enter) | ((with_reducible refine clo_plain _ ?_); rfl) | ((with_reducible refine clo_lifts _ ?_); rfl) | (as_aux_lemma => kernel_rfl))

theorem over : Rows.fnExactValidInputsRow.holds Try.pinned (OpenSpec.ofChange Rows.fnExactValidInputsSpec) :=
  OpenClaim.holds_of_wide 11 Try.f11 rfl rfl rfl rfl rfl rfl rfl ⟨rfl, rfl, rfl, rfl, rfl⟩ rfl rfl rfl rfl rfl (by kernel_rfl) Try.func11 closed
    (of_decide_eq_true (by kernel_rfl)) (by unfold Func.isWrapper; first | (rw [if_pos (by decide +kernel)]; kernel_rfl) | (rw [if_neg (by decide +kernel)]; exact ⟨rfl, rfl⟩))
    (fun os started H enc _ => lifted os started H enc)

/-- THE STATEMENT. -/
theorem proved : Rows.FnExactValidInputsSaid := over
end lawFnExactValidInputs
end Go.Proofs.Ytjobecoogjojjaa
