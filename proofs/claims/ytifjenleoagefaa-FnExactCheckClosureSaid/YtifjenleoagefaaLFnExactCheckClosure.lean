/- The law FnExactCheckClosure returns true at every argument; no condition. -/
import Derived.Test.YtifjenleoagefaaEntL
import Derived.Test.YtifjenleoagefaaCcs
import Derived.Test.YtifjenleoagefaaCcm
import Derived.Test.YtifjenleoagefaaClo
namespace Go.Proofs.Ytifjenleoagefaa
open Go.ChangeShapes Go.WideShapes Go.ChangeAt Go.RowKit
set_option linter.unusedVariables false
set_option linter.unusedSimpArgs false

theorem CheckClosure_s2 (A : Option Addr) (c : Nat) (es : List Ent) (D : Option Addr) (d : Nat) (ds : List Ent) (w : World) (hx : EntsAt w A es) (hy : EntsC w D ds) (hn : es.length ≤ 4194304) (hr : rowsIn es 4194304) (hm : ds.length ≤ 4194304) (hrd : rowsIn ds 4194304) :
    Calls Try.prog 18 #[.slice A es.length c, .slice D ds.length d] w fun e w' => e = .returned (.bool (CckF es ds)) ∧ Below w.heap.size w w' :=
  (CheckClosure_s A c es D d ds w hx hy hn hr hm hrd).mono fun e w' ⟨h, b⟩ => ⟨by rw [h, cckS_eq], b⟩
set_option maxHeartbeats 3200000 in
theorem FnExactCheckClosure_walk (A0 : Option Addr) (c0 : Nat) (z0 : List Ent) (A1 : Option Addr) (c1 : Nat) (z1 : List Ent) (w : World) (hx0 : EntsAt w A0 z0) (hm0 : z0.length ≤ maxLen) (hx1 : EntsAt w A1 z1) (hm1 : z1.length ≤ maxLen) :
    Calls Try.prog 4 #[.slice A0 z0.length c0, .slice A1 z1.length c1] w fun e w' => e = .returned (.bool true) ∧ Below w.heap.size w w' := by
  have nn0 := entSz_nn z0
  by_cases s0 : 1048576 < entSz z0
  · go_enter Try.func4, Try.ntmps4
    go_wp2_with fail
    refine (szEntryS_no _ _ z0 _ _ hx0 (by omega) (by omega) hm0 s0).mono ?_
    rintro e q0 ⟨rfl, p0⟩
    go_wp2_with fail
    go_ret
    exact ⟨rfl, p0⟩
  have l0 : entSz z0 ≤ 1048576 := by omega
  have n0 : z0.length ≤ 4194304 := by have := entSz_len l0; omega
  have r0 : rowsIn z0 4194304 := entSz_row (by omega)
  have nn1 := entSz_nn z1
  by_cases s1 : 1048576 - entSz z0 < entSz z1
  · go_enter Try.func4, Try.ntmps4
    go_wp2_with fail
    refine (szEntryS_yes _ _ z0 _ _ hx0 (by omega) (by omega) hm0 (by omega)).mono ?_
    rintro e q0 ⟨rfl, p0⟩
    go_wp2_with fail
    refine (szEntryS_no _ _ z1 _ _ (hx1.below entR p0) (by omega) (by omega) hm1 s1).mono ?_
    rintro e q1 ⟨rfl, p1⟩
    go_wp2_with fail
    go_ret
    exact ⟨rfl, (btr p0 p1)⟩
  have l1 : entSz z1 ≤ 1048576 := by omega
  have n1 : z1.length ≤ 4194304 := by have := entSz_len l1; omega
  have r1 : rowsIn z1 4194304 := entSz_row (by omega)
  go_enter Try.func4, Try.ntmps4
  go_wp2_with fail
  refine (szEntryS_yes _ _ z0 _ _ hx0 (by omega) (by omega) hm0 (by omega)).mono ?_
  rintro e w1 ⟨rfl, b1⟩
  have B1 := b1
  go_wp2_with fail
  refine (szEntryS_yes _ _ z1 _ _ (hx1.below entR b1) (by omega) (by omega) hm1 (by omega)).mono ?_
  rintro e w2 ⟨rfl, b2⟩
  have B2 := btr B1 b2
  go_wp2_with fail
  refine (toEntryS_any _ _ z0 _ (hx0.below entR (btr b1 b2)) n0 r0).mono ?_
  rintro e w3 ⟨rfl, ks0, b3⟩
  have B3 := btr B2 b3
  have as0 := EntsOw.at_ ks0
  go_wp2_with fail
  refine (toEntryS_any _ _ z1 _ (hx1.below entR (btr (btr b1 b2) b3)) n1 r1).mono ?_
  rintro e w4 ⟨rfl, ks1, b4⟩
  have B4 := btr B3 b4
  have as1 := EntsOw.at_ ks1
  go_wp2_with fail
  refine (CheckClosure_s2 _ _ _ _ _ _ _ (as0.below entR b4) (EntsOw.atC ks1) n0 r0 n1 r1).mono ?_
  rintro e w5 ⟨rfl, b5⟩
  have B5 := btr B4 b5
  go_wp2_with fail
  refine (toEntryS_any _ _ z0 _ (hx0.below entR (btr (btr (btr (btr b1 b2) b3) b4) b5)) n0 r0).mono ?_
  rintro e w6 ⟨rfl, ki0, b6⟩
  have B6 := btr B5 b6
  have ai0 := EntsOw.at_ ki0
  go_wp2_with fail
  refine (toEntryS_any _ _ z1 _ (hx1.below entR (btr (btr (btr (btr (btr b1 b2) b3) b4) b5) b6)) n1 r1).mono ?_
  rintro e w7 ⟨rfl, ki1, b7⟩
  have B7 := btr B6 b7
  have ai1 := EntsOw.at_ ki1
  go_wp2_with fail
  refine (CheckClosure_i _ _ _ _ _ _ _ (ai0.below entR b7) ai1 n0 r0 n1 r1).mono ?_
  rintro e w8 ⟨rfl, b8⟩
  have B8 := btr B7 b8
  go_wp2_with fail
  refine (toEntryS_any _ _ z0 _ (hx0.below entR (btr (btr (btr (btr (btr (btr (btr b1 b2) b3) b4) b5) b6) b7) b8)) n0 r0).mono ?_
  rintro e w9 ⟨rfl, kc0, b9⟩
  have B9 := btr B8 b9
  have ac0 := EntsOw.at_ kc0
  have t0 : decide (z0 = z0) = true := by simp
  go_wp2_with fail
  refine (eqEntryS_any _ _ _ _ z0 z0 _ (ai0.below entR (btr (btr b7 b8) b9)) ac0 n0 n0 r0 r0).mono ?_
  rintro e w10 ⟨rfl, b10⟩
  have B10 := btr B9 b10
  go_wp2_with fail
  refine (toEntryS_any _ _ z1 _ (hx1.below entR (btr (btr (btr (btr (btr (btr (btr (btr (btr b1 b2) b3) b4) b5) b6) b7) b8) b9) b10)) n1 r1).mono ?_
  rintro e w11 ⟨rfl, kc1, b11⟩
  have B11 := btr B10 b11
  have ac1 := EntsOw.at_ kc1
  have t1 : decide (z1 = z1) = true := by simp
  go_wp2_with fail
  refine (eqEntryS_any _ _ _ _ z1 z1 _ (ai1.below entR (btr (btr (btr b8 b9) b10) b11)) ac1 n1 n1 r1 r1).mono ?_
  rintro e w12 ⟨rfl, b12⟩
  have B12 := btr B11 b12
  go_wp2_with fail
  go_ret
  exact ⟨rfl, B12⟩

namespace lawFnExactCheckClosure
theorem own : ownKnob Try.prog.godebug = none := by kernel_rfl
theorem laidOut : laidOutB Try.prog = true := clo_laid
set_option maxRecDepth 100000 in
theorem lifted (os : Os) (started : os.Started) (H : Type) (enc : TypeId × Value → H) :
    ReturnsInHanded {} Try.checked os 4 .any (Rows.fnExactCheckClosureSpec.pre6 enc Try.prog Try.f4 Rows.fnExactCheckClosureRow.domain false) (Rows.fnExactCheckClosureSpec.post enc Try.prog Try.f4 false true false false) := by
  refine returnsInHanded_of_change (C := Try.checked) own started (by kernel_rfl) Try.func4
    (ChangeSpec.witness6 (enc := enc) (C := Try.checked) false ⟨#[], #[.slice none 0 0, .slice none 0 0], []⟩ 8 (by kernel_rfl) (by kernel_rfl) (by kernel_rfl) (by kernel_rfl)) ?_
  intro W base args ds gs before hval0 hW hcnd _
  have hval : ∀ (j : Nat) t v, Try.f4.params[j]? = some t → args[j]? = some v → Value.okWide Try.prog W .any base t v := hval0
  have hW' := hW
  obtain ⟨p, q, hA0, hV, rfl, hfz, hnd⟩ := hW
  have hA : DataW.TrodAll enc Try.prog W 0 (fun _ => true) true Try.f4.params.toList args.toList ds p := hA0
  rw [Try.params4] at hA hval
  obtain ⟨v0, vs0, d0, ds0, p0, q0, hargs, rfl, rfl, h0, r0⟩ := trodAll_cons hA
  obtain ⟨v1, vs1, d1, ds1, p1, q1, rfl, rfl, rfl, h1, r1⟩ := trodAll_cons r0
  obtain ⟨rfl, rfl, rfl⟩ := trodAll_nil r1
  obtain rfl : args = #[v0, v1] := by cases args; simp_all
  obtain ⟨rfl, rfl⟩ := trodVars_none hV
  have k0 := h0
  have lt0 : ∀ x ∈ p0, x.block < W.heap.size := by obtain ⟨m, hm⟩ := k0; exact DataW.trod_lt m _ _ _ hm
  obtain ⟨a0, len0, cap0, rfl⟩ := okWide_slice Try.underlying22 (hval 0 22 v0 rfl rfl)
  obtain ⟨z0, rfl, l0, w0⟩ := entries_of h0
  have k1 := h1
  have lt1 : ∀ x ∈ p1, x.block < W.heap.size := by obtain ⟨m, hm⟩ := k1; exact DataW.trod_lt m _ _ _ hm
  obtain ⟨a1, len1, cap1, rfl⟩ := okWide_slice Try.underlying22 (hval 1 22 v1 rfl rfl)
  obtain ⟨z1, rfl, l1, w1⟩ := entries_of h1
  clear hA0 hval0
  refine (FnExactCheckClosure_walk a0 cap0 z0 a1 cap1 z1 W w0 l0 w1 l1).mono fun e W' ⟨he, bel⟩ => ?_
  subst he
  exact ⟨_, rfl, _, _, _, [], _, [], hW', trodAll_mk1 (shut_bool Try.underlying4 _), (trodAll_cons_mk (Below.trod laidOut (by kernel_rfl) (of_decide_eq_true (by kernel_rfl)) k0 bel lt0) (trodAll_cons_mk (Below.trod laidOut (by kernel_rfl) (of_decide_eq_true (by kernel_rfl)) k1 bel lt1) trodAll_mk0)), rfl, bel.frame _, fun h => by cases h⟩
theorem andTT {a b : Bool} (h1 : a = true) (h2 : b = true) : (a && b) = true := by rw [h1, h2]; rfl
set_option maxHeartbeats 8000000 in
theorem closed : joinedFacts Try.prog 4 Try.f4 Rows.fnExactCheckClosureSpec Rows.fnExactCheckClosureRow = true := by
  unfold joinedFacts
  repeat' (with_reducible refine andTT ?_ ?_)
  all_goals (first | (with_reducible exact clo_laid) | (with_reducible exact clo_maps) | (with_reducible exact clo_heard) | (with_reducible exact clo_enter) | ((with_reducible refine clo_plain _ ?_); rfl) | ((with_reducible refine clo_lifts _ ?_); rfl) | (as_aux_lemma => kernel_rfl))

theorem over : Rows.fnExactCheckClosureRow.holds Try.pinned (OpenSpec.ofChange Rows.fnExactCheckClosureSpec) :=
  OpenClaim.holds_of_wide 4 Try.f4 rfl rfl rfl rfl rfl rfl rfl ⟨rfl, rfl, rfl, rfl, rfl⟩ rfl rfl rfl rfl rfl (by kernel_rfl) Try.func4 closed
    (of_decide_eq_true (by kernel_rfl)) (by unfold Func.isWrapper; first | (rw [if_pos (by decide +kernel)]; kernel_rfl) | (rw [if_neg (by decide +kernel)]; exact ⟨rfl, rfl⟩))
    (fun os started H enc _ => lifted os started H enc)

/-- THE STATEMENT. -/
theorem proved : Rows.FnExactCheckClosureSaid := over
end lawFnExactCheckClosure
end Go.Proofs.Ytifjenleoagefaa
