/- The law FnExactValidView returns true at every argument; no condition. -/
import Derived.Test.YtnfffgpjgkhjlaaVwa
import Derived.Test.YtnfffgpjgkhjlaaVwc
import Derived.Test.YtnfffgpjgkhjlaaClo
import Derived.Carry
import Derived.ChangeOld
import Derived.Lib.SmallJoins
namespace Go.Proofs.Ytnfffgpjgkhjlaa
open Go.ChangeShapes Go.WideShapes Go.ChangeAt Go.RowKit Go.Sort
set_option linter.unusedVariables false
set_option linter.unusedSimpArgs false

set_option maxRecDepth 100000 in
set_option maxHeartbeats 6400000 in
theorem FnExactValidView_walk (LA : Option Addr) (lc : Nat) (lo : List Tm) (UA : Option Addr) (uc : Nat) (up : List Tm) (TA : Option Addr) (tc : Nat) (us : List Upd) (w : World) (m1 : lo.length ≤ maxLen) (h1 : TimesAt w LA lo) (m2 : up.length ≤ maxLen) (h2 : TimesAt w UA up) (m3 : us.length ≤ maxLen) (h3 : UpdsAt w TA us) :
    Calls Try.prog 3 #[.agg #[.slice LA lo.length lc, .slice UA up.length uc, .slice TA us.length tc]] w fun e w' => e = .returned (.bool true) ∧ Below w.heap.size w w' := by
  have hB0 : Below w.heap.size w (w.alloc (.cells #[.slice LA lo.length lc, .slice UA up.length uc, .slice TA us.length tc] 25)) := bal (Below.refl _ _) _
  have kA0 : Blk (w.alloc (.cells #[.slice LA lo.length lc, .slice UA up.length uc, .slice TA us.length tc] 25)) w.heap.size 25 #[.slice LA lo.length lc, .slice UA up.length uc, .slice TA us.length tc] := Blk.newAt rfl
  by_cases hsz : 1048576 < batSz (lo, (up, us))
  · have hcon := fun W (h : UpdsAt W TA us) => szView_no LA UA TA lc uc tc lo up us 1048576 W h m1 m2 m3 (by omega) (by omega) hsz
    go_enter Try.func3, Try.ntmps3
    go_wp2_with fail
    refine (hcon _ (h3.below updR hB0)).mono ?_
    rintro e w1 ⟨rfl, b1⟩
    have HB := Lib.hid (btr hB0 b1)
    clear hcon hB0 b1 kA0
    go_wp2
    go_ret
    exact ⟨rfl, HB.out⟩
  have hsz' : batSz (lo, (up, us)) ≤ 1048576 := by omega
  have hu0 := updSz_nn us
  have hls : (lo.length : Int) + up.length + updSz us ≤ 1048576 := hsz'
  have n1 : lo.length ≤ 4194304 := by omega
  have n2 : up.length ≤ 4194304 := by omega
  have hul := updSz_len (es := us) (n := 1048576) (by omega)
  have n3 : us.length ≤ 4194304 := by omega
  have n3' : us.length ≤ 2097152 := by omega
  have r3 : rowsU us 4194304 := updSz_row (by omega)
  have hnn := batSz_nn (lo, (up, us))
  have hneg : ¬ (1048576 - batSz (lo, (up, us)) : Int) < 0 := by omega
  have hcon := fun W (h : UpdsAt W TA us) => szView_yes LA UA TA lc uc tc lo up us 1048576 W h m1 m2 m3 (by omega) (by omega) hsz'
  have hto := fun W (h : Below w.heap.size w W) => toView_any LA UA TA lc uc tc lo up us W (h1.below h) (h2.below h) (h3.below updR h) n1 n2 n3' r3
  clear hsz hsz' hu0 hls hul hnn
  go_enter Try.func3, Try.ntmps3
  go_wp2_with fail
  refine (hcon _ (h3.below updR hB0)).mono ?_
  rintro e w1 ⟨rfl, b1⟩
  have B1 := btr hB0 b1
  have kA1 := kA0.below b1
  have p0 := kA1.cell 0
  have p1 := kA1.cell 1
  have p2 := kA1.cell 2
  simp at p0 p1 p2
  clear hcon kA0 b1 hB0
  go_wp2_with fail
  refine (hto _ B1).mono ?_
  rintro e w2 ⟨L1, U1, T1, rfl, o1, b2⟩
  have B2 := btr B1 b2
  have kA2 := kA1.below b2
  obtain ⟨x1, x2, x3⟩ := batO_rd o1
  clear p0 p1 p2 kA1 o1 b2 B1
  go_wp2_with fail
  refine (ValidView_s L1 U1 T1 _ _ _ lo up us _ x1 x2 x3 n1 n2 n3 r3).mono ?_
  rintro e w3 ⟨rfl, b3⟩
  have B3 := btr B2 b3
  have kA3 := kA2.below b3
  have p0 := kA3.cell 0
  have p1 := kA3.cell 1
  have p2 := kA3.cell 2
  simp at p0 p1 p2
  clear x1 x2 x3 kA2 b3 B2
  go_wp2_with fail
  refine (hto _ B3).mono ?_
  rintro e w4 ⟨L2, U2, T2, rfl, o2, b4⟩
  have B4 := btr B3 b4
  have kA4 := kA3.below b4
  obtain ⟨x1, x2, x3⟩ := batO_rd o2
  have hb5 : Below w4.heap.size w4 (w4.alloc (.cells #[.slice L2 lo.length lo.length, .slice U2 up.length up.length, .slice T2 us.length us.length] 31)) := bal (Below.refl _ _) _
  have kX : Blk (w4.alloc (.cells #[.slice L2 lo.length lo.length, .slice U2 up.length up.length, .slice T2 us.length us.length] 31)) w4.heap.size 31 #[.slice L2 lo.length lo.length, .slice U2 up.length up.length, .slice T2 us.length us.length] := Blk.newAt rfl
  have hV := ValidView_i L2 U2 T2 lo.length up.length us.length lo up us _ (x1.below hb5) (x2.below hb5) (x3.below updR hb5) n1 n2 n3 r3
  clear p0 p1 p2 kA3 o2 b4 B3
  go_wp2_with fail
  refine hV.mono ?_
  rintro e w5 ⟨rfl, b5⟩
  have b45 := btr hb5 b5
  have H5 : Hid (Below w.heap.size w w5 ∧ Blk w5 w.heap.size 25 #[.slice LA lo.length lc, .slice UA up.length uc, .slice TA us.length tc] ∧ Blk w5 w4.heap.size 31 #[.slice L2 lo.length lo.length, .slice U2 up.length up.length, .slice T2 us.length us.length] ∧ TimesAt w5 L2 lo ∧ TimesAt w5 U2 up ∧ UpdsAt w5 T2 us) :=
    ⟨btr B4 b45, kA4.below b45, kX.below b5, x1.below b45, x2.below b45, x3.below updR b45⟩
  clear hV kA4 kX x1 x2 x3 b5 b45 hb5 B4
  have hbb : (vewB (lo, (up, us)) != vewB (lo, (up, us))) = false := by simp
  generalize vewB (lo, (up, us)) = bb at hbb
  generalize w4.heap.size = B5 at *
  go_wp2_with fail
  obtain ⟨B5', kA, kX, a1, a2, a3⟩ := H5.out
  have ct := fun W (h : Below w5.heap.size w5 W) => hto W (btr B5' h)
  clear H5 hto
  refine wp_region_facts [[], [], [1], [0, 1, 2]]
    [fun v' _ => v' = .agg #[.slice L2 lo.length lo.length, .slice U2 up.length up.length, .slice T2 us.length us.length], fun v' _ => v' = .agg #[.slice LA lo.length lc, .slice UA up.length uc, .slice TA us.length tc], BatAt lo up us, fun v' _ => v' = .bool true]
    (by kernel_rfl) (by kernel_rfl) rfl ⟨stable_pure _, stable_pure _, stable_batAt _ _ _, stable_pure _, trivial⟩ ?_
  refine wf_stepK [] [] (by kernel_rfl) (by kernel_rfl) (fun wf hb hf => ?_) (fun t0 => ?_)
  · refine ⟨?_⟩
    have p0 := (kX.below hb).cell 0
    have p1 := (kX.below hb).cell 1
    have p2 := (kX.below hb).cell 2
    simp at p0 p1 p2
    go_wp2
    exact ⟨rfl, .agg #[.slice L2 lo.length lo.length, .slice U2 up.length up.length, .slice T2 us.length us.length], by kernel_rfl, Below.refl _ _, rfl⟩
  refine wf_stepK [] [] (by kernel_rfl) (by kernel_rfl) (fun wf hb hf => ?_) (fun t1 => ?_)
  · refine ⟨?_⟩
    have p0 := (kA.below hb).cell 0
    have p1 := (kA.below hb).cell 1
    have p2 := (kA.below hb).cell 2
    simp at p0 p1 p2
    go_wp2
    exact ⟨rfl, .agg #[.slice LA lo.length lc, .slice UA up.length uc, .slice TA us.length tc], by kernel_rfl, Below.refl _ _, rfl⟩
  refine wf_stepK [1] [fun _ => t1 = .agg #[.slice LA lo.length lc, .slice UA up.length uc, .slice TA us.length tc]] (by kernel_rfl) (by kernel_rfl) (fun wf hb hf => ?_) (fun t2 => ?_)
  · obtain ⟨rfl, -⟩ := hf
    refine ⟨?_⟩
    go_wp2_with (go_at_call 8; refine (ct _ hb).mono ?_; rintro e w2 ⟨L3, U3, T3, rfl, o3, hb2⟩)
    exact ⟨rfl, _, by kernel_rfl, hb2, batAt_of o3⟩
  refine wf_stepK [0, 2] [fun _ => t0 = .agg #[.slice L2 lo.length lo.length, .slice U2 up.length up.length, .slice T2 us.length us.length], BatAt lo up us t2] (by kernel_rfl) (by kernel_rfl) (fun wf hb hf => ?_) (fun t3 => ?_)
  · obtain ⟨rfl, ⟨L3, l3, U3, u3, T3, t3, rfl, g1, g2, g3⟩, -⟩ := hf
    refine ⟨?_⟩
    go_wp2_with (go_at_call 10; refine (eqView_yes L2 U2 T2 L3 U3 T3 _ _ _ _ _ _ lo up us _ (a1.below hb) (a2.below hb) (a3.below updR hb) g1 g2 g3 n1 n2 n3 r3).mono ?_; rintro e w2 ⟨rfl, hb2⟩)
    exact ⟨rfl, .bool true, by kernel_rfl, hb2, rfl⟩
  refine wf_doneK [3] [fun _ => t3 = .bool true] (by kernel_rfl) (by kernel_rfl) (fun w9 b9 hf => ?_)
  obtain ⟨rfl, -⟩ := hf
  show wpList _ _ _ [_] _ _
  refine wpList_frame (by simp [Act.put]; rfl) ?_
  have HBB := Lib.hid (btr B5' b9)
  clear b9 kA kX a1 a2 a3 ct B5'
  go_wp2
  go_ret
  exact ⟨rfl, HBB.out⟩

namespace lawFnExactValidView
theorem own : ownKnob Try.prog.godebug = none := by kernel_rfl
theorem laidOut : laidOutB Try.prog = true := clo_laid
set_option maxRecDepth 100000 in
theorem lifted (os : Os) (started : os.Started) (H : Type) (enc : TypeId × Value → H) :
    ReturnsInHanded {} Try.checked os 3 .any (Rows.fnExactValidViewSpec.pre6 enc Try.prog Try.f3 Rows.fnExactValidViewRow.domain false) (Rows.fnExactValidViewSpec.post enc Try.prog Try.f3 false true false false) := by
  refine returnsInHanded_of_change (C := Try.checked) own started (by kernel_rfl) Try.func3
    (ChangeSpec.witness6 (enc := enc) (C := Try.checked) false ⟨#[], #[.agg #[.slice none 0 0, .slice none 0 0, .slice none 0 0]], []⟩ 8 (by kernel_rfl) (by kernel_rfl) (by kernel_rfl) (by kernel_rfl)) ?_
  intro W base args ds gs before hval0 hW hcnd _
  have hval : ∀ (j : Nat) t v, Try.f3.params[j]? = some t → args[j]? = some v → Value.okWide Try.prog W .any base t v := hval0
  have hW' := hW
  obtain ⟨p, q, hA0, hV, rfl, hfz, hnd⟩ := hW
  have hA : DataW.TrodAll enc Try.prog W 0 (fun _ => true) true Try.f3.params.toList args.toList ds p := hA0
  rw [Try.params3] at hA hval
  obtain ⟨v0, vs0, d0, ds0, p0, q0, hargs, rfl, rfl, h0, r0⟩ := trodAll_cons hA
  obtain ⟨rfl, rfl, rfl⟩ := trodAll_nil r0
  obtain rfl : args = #[v0] := by cases args; simp_all
  obtain ⟨rfl, rfl⟩ := trodVars_none hV
  have k0 := h0
  have lt0 : ∀ x ∈ p0, x.block < W.heap.size := by obtain ⟨m, hm⟩ := k0; exact DataW.trod_lt m _ _ _ hm
  obtain ⟨c00, c01, c02, y00, y01, y02, m0, rfl, rfl, rfl, hy00, hy01, hy02⟩ := Go.Joins.open_agg3 Try.underlying25 (by kernel_rfl) (by kernel_rfl) (hval 0 25 v0 rfl rfl) h0
  obtain ⟨z00, a00, cap00, e00, l00, w00⟩ := (opens_tms (enc := enc) (W := W)).2 _ _ _ rfl hy00
  simp only [List.cons.injEq, and_true] at e00
  subst e00
  obtain ⟨z01, a01, cap01, e01, l01, w01⟩ := (opens_tms (enc := enc) (W := W)).2 _ _ _ rfl hy01
  simp only [List.cons.injEq, and_true] at e01
  subst e01
  obtain ⟨z02, a02, cap02, e02, l02, w02⟩ := (opens_ups (enc := enc) (W := W)).2 _ _ _ rfl hy02
  simp only [List.cons.injEq, and_true] at e02
  subst e02
  clear hA0 hval0
  refine (FnExactValidView_walk a00 cap00 z00 a01 cap01 z01 a02 cap02 z02 W l00 w00 l01 w01 l02 w02).mono fun e W' ⟨he, bel⟩ => ?_
  subst he
  exact ⟨_, rfl, _, _, _, [], _, [], hW', trodAll_mk1 (shut_bool Try.underlying4 _), (trodAll_cons_mk (Below.trod laidOut (by kernel_rfl) (of_decide_eq_true (by kernel_rfl)) k0 bel lt0) trodAll_mk0), rfl, bel.frame _, fun h => by cases h⟩
theorem andTT {a b : Bool} (h1 : a = true) (h2 : b = true) : (a && b) = true := by rw [h1, h2]; rfl
set_option maxHeartbeats 8000000 in
theorem closed : joinedFacts Try.prog 3 Try.f3 Rows.fnExactValidViewSpec Rows.fnExactValidViewRow = true := by
  unfold joinedFacts
  repeat' (with_reducible refine andTT ?_ ?_)
  all_goals (first | (with_reducible exact clo_laid) | (with_reducible exact clo_maps) | (with_reducible exact clo_heard) | (with_reducible exact clo_enter) | ((with_reducible refine clo_plain _ ?_); rfl) | ((with_reducible refine clo_lifts _ ?_); rfl) | (as_aux_lemma => kernel_rfl))

theorem over : Rows.fnExactValidViewRow.holds Try.pinned (OpenSpec.ofChange Rows.fnExactValidViewSpec) :=
  OpenClaim.holds_of_wide 3 Try.f3 rfl rfl rfl rfl rfl rfl rfl ⟨rfl, rfl, rfl, rfl, rfl⟩ rfl rfl rfl rfl rfl (by kernel_rfl) Try.func3 closed
    (of_decide_eq_true (by kernel_rfl)) (by unfold Func.isWrapper; first | (rw [if_pos (by decide +kernel)]; kernel_rfl) | (rw [if_neg (by decide +kernel)]; exact ⟨rfl, rfl⟩))
    (fun os started H enc _ => lifted os started H enc)

/-- THE STATEMENT. -/
theorem proved : Rows.FnExactValidViewSaid := over
end lawFnExactValidView
end Go.Proofs.Ytnfffgpjgkhjlaa
