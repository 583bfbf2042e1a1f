/- The law FnNegate returns true at every code; no condition. -/
import Derived.Test.YthbphdaklkaeaaaDrawE
import Derived.Test.YthbphdaklkaeaaaEqZ
import Derived.Test.YthbphdaklkaeaaaZl
import Derived.Test.YthbphdaklkaeaaaPl
import Derived.Test.YthbphdaklkaeaaaEntO
import Derived.Test.YthbphdaklkaeaaaClo
import Derived.Carry
import Derived.ChangeOld
import Derived.Lib.SmallJoins
import Derived.Lib.QuietBelow
namespace Go.Proofs.Ythbphdaklkaeaaa
open Go.ChangeShapes Go.WideShapes Go.ChangeAt Go.RowKit Go.Sort
set_option linter.unusedVariables false
set_option linter.unusedSimpArgs false

set_option maxHeartbeats 6400000 in
theorem FnNegate_walk (A : Option Addr) (n c : Nat) (w : World) (hc : n ≤ c) (hl : n ≤ maxLen) (hb : BytesAt w w.heap.size A n) :
    Calls Try.prog 3 #[.slice A n c] w fun e w' => e = .returned (.bool true) ∧ Below w.heap.size w w' := by
  unfold maxLen at hl
  by_cases hbign : 1048576 < n
  · have hb' : (1048576 : Int) < n := by omega
    go_enter Try.func3, Try.ntmps3
    go_wp2
    go_ret
    exact ⟨rfl, Below.refl _ _⟩
  have hbn' : (n : Int) ≤ 1048576 := by omega
  have HB := Lib.hid hb
  clear hb hbign
  go_enter Try.func3, Try.ntmps3
  go_wp2_with fail
  refine (DrawNegate_r _ _ _ _ HB.out hc (by omega)).mono ?_
  rintro e w1 ⟨z, Az, cz, rfl, hz, B1⟩
  have nz : z.length ≤ 4194304 := by have := hz.2.1; omega
  have rz : rowsIn z 4194304 := rows_big hz.2.2.1 (by decide)
  have hbd := TotF_bd z
  have hbn := TotF_bd (NegF z)
  by_cases hv : zsB z = true
  · have HV := Lib.hid hv
    have htw : (TotF (NegF z) == -TotF z) = true := by rw [TotF_NegF hv]; simp
    clear hv
    go_wp2_with fail
    refine (Negate_i _ _ (z) _ (SlOw.at_ entO hz.1) nz rz).mono ?_
    rintro e w2 ⟨A2, c2, rfl, o2, b2⟩
    have B2 := btr B1 b2
    have a2 : EntsAt w2 A2 (NegF (z)) := SlOw.at_ entO o2
    go_wp2_with fail
    refine (Negate_s _ _ (z) _ ((SlOw.at_ entO hz.1).below entR b2) nz rz).mono ?_
    rintro e w3 ⟨A3, c3, rfl, o3, b3⟩
    have B3 := btr B2 b3
    have a3 : EntsAt w3 A3 (NegF (z)) := SlOw.at_ entO o3
    go_wp2_with fail
    refine (equalZ (xs := NegF (z)) (ys := NegF (z)) true (decide_eq_true rfl) (a2.below entR b3) a3 (Nat.le_trans (NegF_len _) (by decide)) (Nat.le_trans (NegF_len _) (by decide)) (rows_big (NegF_row _) (by decide)) (rows_big (NegF_row _) (by decide))).mono ?_
    rintro e w4 ⟨rfl, b4⟩
    have B4 := btr B3 b4
    go_wp2_with fail
    refine (validZ true HV.out ((SlOw.at_ entO hz.1).below entR (btr (btr b2 b3) b4)) nz rz).mono ?_
    rintro e w5 ⟨rfl, b5⟩
    have B5 := btr B4 b5
    go_wp2_with fail
    refine (Negate_i _ _ (NegF (z)) _ (a2.below entR (btr (btr b3 b4) b5)) (Nat.le_trans (NegF_len _) (by decide)) (rows_big (NegF_row _) (by decide))).mono ?_
    rintro e w6 ⟨A6, c6, rfl, o6, b6⟩
    have B6 := btr B5 b6
    have a6 : EntsAt w6 A6 (NegF (NegF (z))) := SlOw.at_ entO o6
    go_wp2_with fail
    refine (equalZ (xs := NegF (NegF (z))) (ys := z) true (decide_eq_true (NegF_NegF HV.out)) a6 ((SlOw.at_ entO hz.1).below entR (btr (btr (btr (btr b2 b3) b4) b5) b6)) (Nat.le_trans (NegF_len _) (by decide)) nz (rows_big (NegF_row _) (by decide)) rz).mono ?_
    rintro e w7 ⟨rfl, b7⟩
    have B7 := btr B6 b7
    go_wp2_with fail
    refine (TotalWeight_i _ _ (NegF (z)) _ (a2.below entR (btr (btr (btr (btr b3 b4) b5) b6) b7)) (Nat.le_trans (NegF_len _) (by decide)) (rows_big (NegF_row _) (by decide))).mono ?_
    rintro e w8 ⟨rfl, b8⟩
    have B8 := btr B7 b8
    go_wp2_with fail
    refine (TotalWeight_i _ _ (z) _ ((SlOw.at_ entO hz.1).below entR (btr (btr (btr (btr (btr (btr b2 b3) b4) b5) b6) b7) b8)) nz rz).mono ?_
    rintro e w9 ⟨rfl, b9⟩
    have B9 := btr B8 b9
    go_wp2_with fail
    refine (validZ true (zsB_NegF HV.out) (a2.below entR (btr (btr (btr (btr (btr (btr b3 b4) b5) b6) b7) b8) b9)) (Nat.le_trans (NegF_len _) (by decide)) (rows_big (NegF_row _) (by decide))).mono ?_
    rintro e w10 ⟨rfl, b10⟩
    have B10 := btr B9 b10
    go_wp2_with fail
    go_ret
    exact ⟨rfl, B10⟩
  · have hv' : zsB z = false := by simpa using hv
    have HV := Lib.hid hv'
    clear hv hv'
    go_wp2_with fail
    refine (Negate_i _ _ (z) _ (SlOw.at_ entO hz.1) nz rz).mono ?_
    rintro e w2 ⟨A2, c2, rfl, o2, b2⟩
    have B2 := btr B1 b2
    have a2 : EntsAt w2 A2 (NegF (z)) := SlOw.at_ entO o2
    go_wp2_with fail
    refine (Negate_s _ _ (z) _ ((SlOw.at_ entO hz.1).below entR b2) nz rz).mono ?_
    rintro e w3 ⟨A3, c3, rfl, o3, b3⟩
    have B3 := btr B2 b3
    have a3 : EntsAt w3 A3 (NegF (z)) := SlOw.at_ entO o3
    go_wp2_with fail
    refine (equalZ (xs := NegF (z)) (ys := NegF (z)) true (decide_eq_true rfl) (a2.below entR b3) a3 (Nat.le_trans (NegF_len _) (by decide)) (Nat.le_trans (NegF_len _) (by decide)) (rows_big (NegF_row _) (by decide)) (rows_big (NegF_row _) (by decide))).mono ?_
    rintro e w4 ⟨rfl, b4⟩
    have B4 := btr B3 b4
    go_wp2_with fail
    refine (validZ false HV.out ((SlOw.at_ entO hz.1).below entR (btr (btr b2 b3) b4)) nz rz).mono ?_
    rintro e w5 ⟨rfl, b5⟩
    have B5 := btr B4 b5
    go_wp2_with fail
    refine (Negate_s _ _ (z) _ ((SlOw.at_ entO hz.1).below entR (btr (btr (btr b2 b3) b4) b5)) nz rz).mono ?_
    rintro e w6 ⟨A6, c6, rfl, o6, b6⟩
    have B6 := btr B5 b6
    have a6 : EntsAt w6 A6 (NegF (z)) := SlOw.at_ entO o6
    go_wp2_with fail
    refine (equalZ (xs := NegF (z)) (ys := NegF (z)) true (decide_eq_true rfl) (a2.below entR (btr (btr (btr b3 b4) b5) b6)) a6 (Nat.le_trans (NegF_len _) (by decide)) (Nat.le_trans (NegF_len _) (by decide)) (rows_big (NegF_row _) (by decide)) (rows_big (NegF_row _) (by decide))).mono ?_
    rintro e w7 ⟨rfl, b7⟩
    have B7 := btr B6 b7
    go_wp2_with fail
    go_ret
    exact ⟨rfl, B7⟩

namespace lawFnNegate
theorem own : ownKnob Try.prog.godebug = none := by kernel_rfl
theorem laidOut : laidOutB Try.prog = true := clo_laid
set_option maxRecDepth 100000 in
theorem lifted (os : Os) (started : os.Started) (H : Type) (enc : TypeId × Value → H) :
    ReturnsInHanded {} Try.checked os 3 .any (Rows.fnNegateSpec.pre6 enc Try.prog Try.f3 Rows.fnNegateRow.domain false) (Rows.fnNegateSpec.post enc Try.prog Try.f3 false true false false) := by
  refine returnsInHanded_of_change (C := Try.checked) own started (by kernel_rfl) Try.func3
    (ChangeSpec.witness6 (enc := enc) (C := Try.checked) false ⟨#[], #[.slice none 0 0], []⟩ 8 (by kernel_rfl) (by kernel_rfl) (by kernel_rfl) (by kernel_rfl)) ?_
  intro W base args ds gs before hval0 hW hcnd _
  have hval : ∀ (j : Nat) t v, Try.f3.params[j]? = some t → args[j]? = some v → Value.okWide Try.prog W .any base t v := hval0
  have hW' := hW
  obtain ⟨p, q, hA0, hV, rfl, hfz, hnd⟩ := hW
  have hA : DataW.TrodAll enc Try.prog W 0 (fun _ => true) true Try.f3.params.toList args.toList ds p := hA0
  rw [Try.params3] at hA hval
  obtain ⟨v0, vs0, d0, ds0, p0, q0, hargs, rfl, rfl, h0, r0⟩ := trodAll_cons hA
  obtain ⟨rfl, rfl, rfl⟩ := trodAll_nil r0
  obtain rfl : args = #[v0] := by cases args; simp_all
  obtain ⟨rfl, rfl⟩ := trodVars_none hV
  have k0 := h0
  have lt0 : ∀ x ∈ p0, x.block < W.heap.size := by obtain ⟨m, hm⟩ := k0; exact DataW.trod_lt m _ _ _ hm
  obtain ⟨a0, len0, cap0, rfl⟩ := okWide_slice Try.underlying22 (hval 0 22 v0 rfl rfl)
  obtain ⟨l0, m0, w0⟩ := bytes_of Try.underlying22 Try.underlying5 (by kernel_rfl) h0
  clear hA0 hval0
  refine (FnNegate_walk a0 len0 cap0 W l0 m0 w0).mono fun e W' ⟨he, bel⟩ => ?_
  subst he
  exact ⟨_, rfl, _, _, _, [], _, [], hW', trodAll_mk1 (shut_bool Try.underlying4 _), (trodAll_cons_mk (Below.trod laidOut (by kernel_rfl) (of_decide_eq_true (by kernel_rfl)) k0 bel lt0) trodAll_mk0), rfl, bel.frame _, fun h => by cases h⟩
theorem andTT {a b : Bool} (h1 : a = true) (h2 : b = true) : (a && b) = true := by rw [h1, h2]; rfl
set_option maxHeartbeats 8000000 in
theorem closed : joinedFacts Try.prog 3 Try.f3 Rows.fnNegateSpec Rows.fnNegateRow = true := by
  unfold joinedFacts
  repeat' (with_reducible refine andTT ?_ ?_)
  all_goals (first | (with_reducible exact clo_laid) | (with_reducible exact clo_maps) | (with_reducible exact clo_heard) | (with_reducible exact clo_enter) | ((with_reducible refine clo_plain _ ?_); rfl) | ((with_reducible refine clo_lifts _ ?_); rfl) | (as_aux_lemma => kernel_rfl))

theorem over : Rows.fnNegateRow.holds Try.pinned (OpenSpec.ofChange Rows.fnNegateSpec) :=
  OpenClaim.holds_of_wide 3 Try.f3 rfl rfl rfl rfl rfl rfl rfl ⟨rfl, rfl, rfl, rfl, rfl⟩ rfl rfl rfl rfl rfl (by kernel_rfl) Try.func3 closed
    (of_decide_eq_true (by kernel_rfl)) (by unfold Func.isWrapper; first | (rw [if_pos (by decide +kernel)]; kernel_rfl) | (rw [if_neg (by decide +kernel)]; exact ⟨rfl, rfl⟩))
    (fun os started H enc _ => lifted os started H enc)

/-- THE STATEMENT. -/
theorem proved : Rows.FnNegateSaid := over
end lawFnNegate
end Go.Proofs.Ythbphdaklkaeaaa
