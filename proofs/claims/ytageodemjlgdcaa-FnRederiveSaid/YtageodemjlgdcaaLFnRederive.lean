/- The law FnRederive returns true at every code; no condition. -/
import Derived.Test.YtageodemjlgdcaaDrawEm
import Derived.Test.YtageodemjlgdcaaEqZ
import Derived.Test.YtageodemjlgdcaaPc
import Derived.Test.YtageodemjlgdcaaDisI
import Derived.Test.YtageodemjlgdcaaAddI
import Derived.Test.YtageodemjlgdcaaCls
import Derived.Test.YtageodemjlgdcaaCrd
import Derived.Test.YtageodemjlgdcaaMnt
import Derived.Test.YtageodemjlgdcaaMns
import Derived.Test.YtageodemjlgdcaaMnx
import Derived.Test.YtageodemjlgdcaaZbx
import Derived.Test.YtageodemjlgdcaaPl
import Derived.Test.YtageodemjlgdcaaZbn
import Derived.Test.YtageodemjlgdcaaClo
import Derived.Carry
import Derived.ChangeOld
import Derived.Lib.SmallJoins
import Derived.Lib.QuietBelow
namespace Go.Proofs.Ytageodemjlgdcaa
open Go.ChangeShapes Go.WideShapes Go.ChangeAt Go.RowKit Go.Sort
set_option linter.unusedVariables false
set_option linter.unusedSimpArgs false

set_option maxRecDepth 100000 in
set_option maxHeartbeats 6400000 in
theorem FnRederive_walk (A : Option Addr) (n c : Nat) (w : World) (hc : n ≤ c) (hl : n ≤ maxLen) (hb : BytesAt w w.heap.size A n) :
    Calls Try.prog 11 #[.slice A n c] w fun e w' => e = .returned (.bool true) ∧ Below w.heap.size w w' := by
  unfold maxLen at hl
  by_cases hbign : 1048576 < n
  · have hb' : (1048576 : Int) < n := by omega
    go_enter Try.func11, Try.ntmps11
    go_wp2
    go_ret
    exact ⟨rfl, Below.refl _ _⟩
  have hbn' : (n : Int) ≤ 1048576 := by omega
  have HB := Lib.hid hb
  clear hb hbign
  go_enter Try.func11, Try.ntmps11
  go_wp2_with fail
  refine (DrawRederive_r _ _ _ _ HB.out hc (by omega)).mono ?_
  rintro e w1 ⟨z, y, x, Az, Ay, Ax, cz, cy, cx, rfl, hz, hy, hx, B1⟩
  have nz : z.length ≤ 4194304 := by have := hz.2.2.1; omega
  have rz : rowsIn z 4194304 := rows_big hz.2.2.2 (by decide)
  have ny : y.length ≤ 4194304 := by have := hy.2.2.1; omega
  have ry : rowsIn y 4194304 := rows_big hy.2.2.2 (by decide)
  have nx : x.length ≤ 4194304 := by have := hx.2.2.1; omega
  have rx : rowsIn x 4194304 := rows_big hx.2.2.2 (by decide)
  rcases Nat.eq_zero_or_pos (MntF redG z y x).length with h0 | h0
  · have hz0 : (((MntF redG z y x).length : Int) == 0) = true := by simp [h0]
    clear h0
    go_wp2_with fail
    refine (Rederive_i _ _ (z) _ _ (y) _ _ (x) _ hz.1 hy.1 hx.1 nz rz ny ry nx rx).mono ?_
    rintro e w2 ⟨A2, c2, rfl, o2, b2⟩
    have B2 := btr B1 b2
    have a2 : EntsAt w2 A2 (MntF redG (z) (y) (x)) := SlOw.at_ entO o2
    go_wp2_with fail
    refine (Rederive_s _ _ (z) _ _ (y) _ _ (x) _ (hz.1.below entR b2) (hy.1.below entR b2) (hx.1.below entR b2) nz rz ny ry nx rx).mono ?_
    rintro e w3 ⟨A3, c3, rfl, o3, b3⟩
    have B3 := btr B2 b3
    have a3 : EntsAt w3 A3 (MntF redG (z) (y) (x)) := SlOw.at_ entO o3
    go_wp2_with fail
    refine (equalZ (xs := MntF redG (z) (y) (x)) (ys := MntF redG (z) (y) (x)) true (decide_eq_true rfl) (a2.below entR b3) a3 (Nat.le_trans (MntF_len _ _ _ _) (by decide)) (Nat.le_trans (MntF_len _ _ _ _) (by decide)) (MntF_row _ _ _ _) (MntF_row _ _ _ _)).mono ?_
    rintro e w4 ⟨rfl, b4⟩
    have B4 := btr B3 b4
    go_wp2_with fail
    refine (Rederive_s _ _ (z) _ _ (y) _ _ (x) _ (hz.1.below entR (btr (btr b2 b3) b4)) (hy.1.below entR (btr (btr b2 b3) b4)) (hx.1.below entR (btr (btr b2 b3) b4)) nz rz ny ry nx rx).mono ?_
    rintro e w5 ⟨A5, c5, rfl, o5, b5⟩
    have B5 := btr B4 b5
    have a5 : EntsAt w5 A5 (MntF redG (z) (y) (x)) := SlOw.at_ entO o5
    go_wp2_with fail
    refine (equalZ (xs := MntF redG (z) (y) (x)) (ys := MntF redG (z) (y) (x)) true (decide_eq_true rfl) (a2.below entR (btr (btr b3 b4) b5)) a5 (Nat.le_trans (MntF_len _ _ _ _) (by decide)) (Nat.le_trans (MntF_len _ _ _ _) (by decide)) (MntF_row _ _ _ _) (MntF_row _ _ _ _)).mono ?_
    rintro e w6 ⟨rfl, b6⟩
    have B6 := btr B5 b6
    go_wp2_with fail
    go_ret
    exact ⟨rfl, B6⟩
  have hz0 : (((MntF redG z y x).length : Int) == 0) = false := by rw [beq_eq_false_iff_ne]; omega
  have HL := Lib.hid (red_law (z := z) (y := y) (x := x) (fun e => by rw [e] at h0; simp at h0))
  clear h0
  go_wp2_with fail
  refine (Rederive_i _ _ (z) _ _ (y) _ _ (x) _ hz.1 hy.1 hx.1 nz rz ny ry nx rx).mono ?_
  rintro e w2 ⟨A2, c2, rfl, o2, b2⟩
  have B2 := btr B1 b2
  have a2 : EntsAt w2 A2 (MntF redG (z) (y) (x)) := SlOw.at_ entO o2
  go_wp2_with fail
  refine (Rederive_s _ _ (z) _ _ (y) _ _ (x) _ (hz.1.below entR b2) (hy.1.below entR b2) (hx.1.below entR b2) nz rz ny ry nx rx).mono ?_
  rintro e w3 ⟨A3, c3, rfl, o3, b3⟩
  have B3 := btr B2 b3
  have a3 : EntsAt w3 A3 (MntF redG (z) (y) (x)) := SlOw.at_ entO o3
  go_wp2_with fail
  refine (equalZ (xs := MntF redG (z) (y) (x)) (ys := MntF redG (z) (y) (x)) true (decide_eq_true rfl) (a2.below entR b3) a3 (Nat.le_trans (MntF_len _ _ _ _) (by decide)) (Nat.le_trans (MntF_len _ _ _ _) (by decide)) (MntF_row _ _ _ _) (MntF_row _ _ _ _)).mono ?_
  rintro e w4 ⟨rfl, b4⟩
  have B4 := btr B3 b4
  go_wp2_with fail
  refine (minus_l _ _ (z) _ _ (x) _ (hz.1.below entR (btr (btr b2 b3) b4)) (hx.1.below entR (btr (btr b2 b3) b4)) hz.2.1 hx.2.1 nz rz nx rx).mono ?_
  rintro e w5 ⟨A5, c5, rfl, o5, b5⟩
  have B5 := btr B4 b5
  have a5 : EntsAt w5 A5 (AddF (z) (NegF (x))) := SlOw.at_ entO o5
  go_wp2_with fail
  refine (Distinct_i _ _ (AddF (z) (NegF (x))) _ a5 (Nat.le_trans (AddF_len' _ _) (by decide)) (rows_big (AddF_row' _ _) (by decide))).mono ?_
  rintro e w6 ⟨A6, c6, rfl, o6, b6⟩
  have B6 := btr B5 b6
  have a6 : EntsAt w6 A6 (DisF (AddF (z) (NegF (x)))) := SlOw.at_ entO o6
  go_wp2_with fail
  refine (Closure_i _ _ (DisF (AddF (z) (NegF (x)))) _ a6 (Nat.le_trans (DisF_len _) (by decide)) (rows_big (DisF_row _) (by decide))).mono ?_
  rintro e w7 ⟨A7, c7, rfl, o7, b7⟩
  have B7 := btr B6 b7
  have a7 : EntsAt w7 A7 (ClosF (DisF (AddF (z) (NegF (x))))) := SlOw.at_ entO o7
  go_wp2_with fail
  refine (Overdelete_i _ _ (z) _ _ (y) _ _ (x) _ (hz.1.below entR (btr (btr (btr (btr (btr b2 b3) b4) b5) b6) b7)) (hy.1.below entR (btr (btr (btr (btr (btr b2 b3) b4) b5) b6) b7)) (hx.1.below entR (btr (btr (btr (btr (btr b2 b3) b4) b5) b6) b7)) nz rz ny ry nx rx).mono ?_
  rintro e w8 ⟨A8, c8, rfl, o8, b8⟩
  have B8 := btr B7 b8
  have a8 : EntsAt w8 A8 (MntF ovrG (z) (y) (x)) := SlOw.at_ entO o8
  go_wp2_with fail
  refine (subZ true (subE_of HL.out.1) (a2.below entR (btr (btr (btr (btr (btr b3 b4) b5) b6) b7) b8)) a8 (Nat.le_trans (MntF_len _ _ _ _) (by decide)) (MntF_row _ _ _ _) (Nat.le_trans (MntF_len _ _ _ _) (by decide)) (MntF_row _ _ _ _)).mono ?_
  rintro e w9 ⟨rfl, b9⟩
  have B9 := btr B8 b9
  go_wp2_with fail
  refine (subZ true (subE_of HL.out.2) (a2.below entR (btr (btr (btr (btr (btr (btr b3 b4) b5) b6) b7) b8) b9)) (a7.below entR (btr b8 b9)) (Nat.le_trans (MntF_len _ _ _ _) (by decide)) (MntF_row _ _ _ _) (ClosF_len _) (ClosF_row _)).mono ?_
  rintro e w10 ⟨rfl, b10⟩
  have B10 := btr B9 b10
  go_wp2_with fail
  go_ret
  exact ⟨rfl, B10⟩

namespace lawFnRederive
theorem own : ownKnob Try.prog.godebug = none := by kernel_rfl
theorem laidOut : laidOutB Try.prog = true := clo_laid
set_option maxRecDepth 100000 in
theorem lifted (os : Os) (started : os.Started) (H : Type) (enc : TypeId × Value → H) :
    ReturnsInHanded {} Try.checked os 11 .any (Rows.fnRederiveSpec.pre6 enc Try.prog Try.f11 Rows.fnRederiveRow.domain false) (Rows.fnRederiveSpec.post enc Try.prog Try.f11 false true false false) := by
  refine returnsInHanded_of_change (C := Try.checked) own started (by kernel_rfl) Try.func11
    (ChangeSpec.witness6 (enc := enc) (C := Try.checked) false ⟨#[], #[.slice none 0 0], []⟩ 8 (by kernel_rfl) (by kernel_rfl) (by kernel_rfl) (by kernel_rfl)) ?_
  intro W base args ds gs before hval0 hW hcnd _
  have hval : ∀ (j : Nat) t v, Try.f11.params[j]? = some t → args[j]? = some v → Value.okWide Try.prog W .any base t v := hval0
  have hW' := hW
  obtain ⟨p, q, hA0, hV, rfl, hfz, hnd⟩ := hW
  have hA : DataW.TrodAll enc Try.prog W 0 (fun _ => true) true Try.f11.params.toList args.toList ds p := hA0
  rw [Try.params11] at hA hval
  obtain ⟨v0, vs0, d0, ds0, p0, q0, hargs, rfl, rfl, h0, r0⟩ := trodAll_cons hA
  obtain ⟨rfl, rfl, rfl⟩ := trodAll_nil r0
  obtain rfl : args = #[v0] := by cases args; simp_all
  obtain ⟨rfl, rfl⟩ := trodVars_none hV
  have k0 := h0
  have lt0 : ∀ x ∈ p0, x.block < W.heap.size := by obtain ⟨m, hm⟩ := k0; exact DataW.trod_lt m _ _ _ hm
  obtain ⟨a0, len0, cap0, rfl⟩ := okWide_slice Try.underlying22 (hval 0 22 v0 rfl rfl)
  obtain ⟨l0, m0, w0⟩ := bytes_of Try.underlying22 Try.underlying5 (by kernel_rfl) h0
  clear hA0 hval0
  refine (FnRederive_walk a0 len0 cap0 W l0 m0 w0).mono fun e W' ⟨he, bel⟩ => ?_
  subst he
  exact ⟨_, rfl, _, _, _, [], _, [], hW', trodAll_mk1 (shut_bool Try.underlying4 _), (trodAll_cons_mk (Below.trod laidOut (by kernel_rfl) (of_decide_eq_true (by kernel_rfl)) k0 bel lt0) trodAll_mk0), rfl, bel.frame _, fun h => by cases h⟩
theorem andTT {a b : Bool} (h1 : a = true) (h2 : b = true) : (a && b) = true := by rw [h1, h2]; rfl
set_option maxHeartbeats 8000000 in
theorem closed : joinedFacts Try.prog 11 Try.f11 Rows.fnRederiveSpec Rows.fnRederiveRow = true := by
  unfold joinedFacts
  repeat' (with_reducible refine andTT ?_ ?_)
  all_goals (first | (with_reducible exact clo_laid) | (with_reducible exact clo_maps) | (with_reducible exact clo_heard) | (with_reducible exact clo_enter) | ((with_reducible refine clo_plain _ ?_); rfl) | ((with_reducible refine clo_lifts _ ?_); rfl) | (as_aux_lemma => kernel_rfl))

theorem over : Rows.fnRederiveRow.holds Try.pinned (OpenSpec.ofChange Rows.fnRederiveSpec) :=
  OpenClaim.holds_of_wide 11 Try.f11 rfl rfl rfl rfl rfl rfl rfl ⟨rfl, rfl, rfl, rfl, rfl⟩ rfl rfl rfl rfl rfl (by kernel_rfl) Try.func11 closed
    (of_decide_eq_true (by kernel_rfl)) (by unfold Func.isWrapper; first | (rw [if_pos (by decide +kernel)]; kernel_rfl) | (rw [if_neg (by decide +kernel)]; exact ⟨rfl, rfl⟩))
    (fun os started H enc _ => lifted os started H enc)

/-- THE STATEMENT. -/
theorem proved : Rows.FnRederiveSaid := over
end lawFnRederive
end Go.Proofs.Ytageodemjlgdcaa
