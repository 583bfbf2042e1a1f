/- The law FnExactFrontierLessEqual returns true at every two lists of times; no condition. -/
import Derived.Test.YtfndglpfhdphiabFrontL
namespace Go.Proofs.Ytfndglpfhdphiab
open Go.ChangeShapes Go.WideShapes Go.ChangeAt Go.RowKit
set_option linter.unusedVariables false
set_option linter.unusedSimpArgs false

set_option maxHeartbeats 1600000 in
theorem FnExactFrontierLessEqual_walk (A : Option Addr) (c : Nat) (xs : List Tm) (B : Option Addr) (d : Nat) (ys : List Tm) (w : World) (hl : xs.length ≤ maxLen) (hx : TimesAt w A xs) (hk : ys.length ≤ maxLen) (hy : TimesAt w B ys) :
    Calls Try.prog 6 #[.slice A xs.length c, .slice B ys.length d] w fun e w' => e = .returned (.bool true) ∧ Below w.heap.size w w' := by
  by_cases hbig : (1048576 : Int) < xs.length
  · go_enter Try.func6, Try.ntmps6
    go_wp2_with fail
    refine (szTimeS_no _ _ _ _ _ (by omega) (by omega) hl hbig).mono ?_
    rintro e w1 ⟨rfl, rfl⟩
    go_wp2_with fail
    go_ret
    exact ⟨rfl, Below.refl _ _⟩
  have hs : (xs.length : Int) ≤ 1048576 := by omega
  have hs2 : (0 : Int) ≤ 1048576 - xs.length := by omega
  clear hbig
  by_cases hbig : (1048576 - xs.length : Int) < ys.length
  · go_enter Try.func6, Try.ntmps6
    go_wp2_with fail
    refine (szTimeS_yes _ _ _ _ _ (by omega) (by omega) hl hs).mono ?_
    rintro e w1 ⟨rfl, rfl⟩
    go_wp2_with fail
    refine (szTimeS_no _ _ _ _ _ (by omega) (by omega) hk hbig).mono ?_
    rintro e w2 ⟨rfl, rfl⟩
    go_wp2_with fail
    go_ret
    exact ⟨rfl, Below.refl _ _⟩
  have ht : (ys.length : Int) ≤ 1048576 - xs.length := by omega
  have ht2 : (0 : Int) ≤ 1048576 - xs.length - ys.length := by omega
  have hn : xs.length ≤ 4194304 := by omega
  have hm : ys.length ≤ 4194304 := by omega
  have he : decide (xs = xs) = true := by simp
  have he2 : decide (ys = ys) = true := by simp
  clear hbig
  go_enter Try.func6, Try.ntmps6
  go_wp2_with fail
  refine (szTimeS_yes _ _ _ _ _ (by omega) (by omega) hl hs).mono ?_
  rintro e w0 ⟨rfl, rfl⟩
  go_wp2_with fail
  refine (szTimeS_yes _ _ _ _ _ (by omega) (by omega) hk ht).mono ?_
  rintro e w0 ⟨rfl, rfl⟩
  go_wp2_with fail
  refine (toTimeS_any _ _ _ _ hx hn).mono ?_
  rintro e w1 ⟨rfl, k1, b1⟩
  go_wp2_with fail
  refine (toTimeS_any _ _ _ _ (hy.below b1) hm).mono ?_
  rintro e w2 ⟨rfl, k2, b2⟩
  have B2 := btr b1 b2
  go_wp2_with fail
  refine (FrontierLessEqual_s _ _ _ _ _ _ _ (.ofBlk (k1.below b2)) hn (.ofBlk k2) hm).mono ?_
  rintro e w3 ⟨rfl, b3⟩
  have B3 := btr B2 b3
  go_wp2_with fail
  refine (toTimeS_any _ _ _ _ (hx.below B3) hn).mono ?_
  rintro e w4 ⟨rfl, k4, b4⟩
  have B4 := btr B3 b4
  go_wp2_with fail
  refine (toTimeS_any _ _ _ _ (hy.below B4) hm).mono ?_
  rintro e w5 ⟨rfl, k5, b5⟩
  have B5 := btr B4 b5
  go_wp2_with fail
  refine (FrontierLessEqual_i _ _ _ _ _ _ _ (.ofBlk (k4.below b5)) hn (.ofBlk k5) hm).mono ?_
  rintro e w6 ⟨rfl, b6⟩
  have B6 := btr B5 b6
  go_wp2_with fail
  refine (toTimeS_any _ _ _ _ (hx.below B6) hn).mono ?_
  rintro e w7 ⟨rfl, k7, b7⟩
  have B7 := btr B6 b7
  go_wp2_with fail
  refine (eqTimeS_any _ _ _ _ _ _ _ (.ofBlk (k4.below (btr (btr b5 b6) b7))) (.ofBlk k7) hn hn).mono ?_
  rintro e w8 ⟨rfl, b8⟩
  have B8 := btr B7 b8
  go_wp2_with fail
  refine (toTimeS_any _ _ _ _ (hy.below B8) hm).mono ?_
  rintro e w9 ⟨rfl, k9, b9⟩
  have B9 := btr B8 b9
  go_wp2_with fail
  refine (eqTimeS_any _ _ _ _ _ _ _ (.ofBlk (k5.below (btr (btr (btr b6 b7) b8) b9))) (.ofBlk k9) hm hm).mono ?_
  rintro e w10 ⟨rfl, b10⟩
  go_wp2_with fail
  go_ret
  exact ⟨rfl, btr B9 b10⟩

namespace lawFnExactFrontierLessEqual
theorem own : ownKnob Try.prog.godebug = none := by kernel_rfl
theorem laidOut : laidOutB Try.prog = true := by kernel_rfl
set_option maxRecDepth 100000 in
theorem lifted (os : Os) (started : os.Started) (H : Type) (enc : TypeId × Value → H) :
    ReturnsInHanded {} Try.checked os 6 .any (Rows.fnExactFrontierLessEqualSpec.pre6 enc Try.prog Try.f6 Rows.fnExactFrontierLessEqualRow.domain false) (Rows.fnExactFrontierLessEqualSpec.post enc Try.prog Try.f6 false true false false) := by
  refine returnsInHanded_of_change (C := Try.checked) own started (by kernel_rfl) Try.func6
    (ChangeSpec.witness6 (enc := enc) (C := Try.checked) false ⟨#[], #[.slice none 0 0, .slice none 0 0], []⟩ 8 (by kernel_rfl) (by kernel_rfl) (by kernel_rfl) (by kernel_rfl)) ?_
  intro W base args ds gs before hval0 hW hcnd _
  have hval : ∀ (j : Nat) t v, Try.f6.params[j]? = some t → args[j]? = some v → Value.okWide Try.prog W .any base t v := hval0
  have hW' := hW
  obtain ⟨p, q, hA0, hV, rfl, hfz, hnd⟩ := hW
  have hA : DataW.TrodAll enc Try.prog W 0 (fun _ => true) true Try.f6.params.toList args.toList ds p := hA0
  rw [Try.params6] at hA hval
  obtain ⟨v0, vs0, d0, ds0, p0, q0, hargs, rfl, rfl, h0, r0⟩ := trodAll_cons hA
  obtain ⟨v1, vs1, d1, ds1, p1, q1, rfl, rfl, rfl, h1, r1⟩ := trodAll_cons r0
  obtain ⟨rfl, rfl, rfl⟩ := trodAll_nil r1
  obtain rfl : args = #[v0, v1] := by cases args; simp_all
  obtain ⟨rfl, rfl⟩ := trodVars_none hV
  have k0 := h0
  have lt0 : ∀ x ∈ p0, x.block < W.heap.size := by obtain ⟨m, hm⟩ := k0; exact DataW.trod_lt m _ _ _ hm
  obtain ⟨a0, len0, cap0, rfl⟩ := okWide_slice Try.underlying22 (hval 0 22 v0 rfl rfl)
  obtain ⟨z0, rfl, l0, w0⟩ := times_of Try.underlying22 Try.underlying32 (by kernel_rfl) rfl rfl (by kernel_rfl) (by kernel_rfl) Try.underlying3 Try.underlying3 h0
  have k1 := h1
  have lt1 : ∀ x ∈ p1, x.block < W.heap.size := by obtain ⟨m, hm⟩ := k1; exact DataW.trod_lt m _ _ _ hm
  obtain ⟨a1, len1, cap1, rfl⟩ := okWide_slice Try.underlying22 (hval 1 22 v1 rfl rfl)
  obtain ⟨z1, rfl, l1, w1⟩ := times_of Try.underlying22 Try.underlying32 (by kernel_rfl) rfl rfl (by kernel_rfl) (by kernel_rfl) Try.underlying3 Try.underlying3 h1
  clear hA0 hval0
  refine (FnExactFrontierLessEqual_walk a0 cap0 z0 a1 cap1 z1 W l0 w0 l1 w1).mono fun e W' ⟨he, bel⟩ => ?_
  subst he
  exact ⟨_, rfl, _, _, _, [], _, [], hW', trodAll_mk1 (shut_bool Try.underlying4 _), (trodAll_cons_mk (Below.trod laidOut (by kernel_rfl) (of_decide_eq_true (by kernel_rfl)) k0 bel lt0) (trodAll_cons_mk (Below.trod laidOut (by kernel_rfl) (of_decide_eq_true (by kernel_rfl)) k1 bel lt1) trodAll_mk0)), rfl, bel.frame _, fun h => by cases h⟩

theorem over : Rows.fnExactFrontierLessEqualRow.holds Try.pinned (OpenSpec.ofChange Rows.fnExactFrontierLessEqualSpec) :=
  OpenClaim.holds_of_wide 6 Try.f6 rfl rfl rfl rfl rfl rfl rfl ⟨rfl, rfl, rfl, rfl, rfl⟩ rfl rfl rfl rfl rfl (by kernel_rfl) Try.func6 (by kernel_rfl)
    (of_decide_eq_true (by kernel_rfl)) (by unfold Func.isWrapper; first | (rw [if_pos (by decide +kernel)]; kernel_rfl) | (rw [if_neg (by decide +kernel)]; exact ⟨rfl, rfl⟩))
    (fun os started H enc _ => lifted os started H enc)

/-- THE STATEMENT. -/
theorem proved : Rows.FnExactFrontierLessEqualSaid := over
end lawFnExactFrontierLessEqual
end Go.Proofs.Ytfndglpfhdphiab
