/- The law FnClosureInsert returns true at every code; no condition. -/
import Derived.Test.YtageodemjlgdcaaDrawEm
import Derived.Test.YtageodemjlgdcaaEqZ
import Derived.Test.YtageodemjlgdcaaPc
import Derived.Test.YtageodemjlgdcaaDisI
import Derived.Test.YtageodemjlgdcaaAddI
import Derived.Test.YtageodemjlgdcaaCls
import Derived.Test.YtageodemjlgdcaaCrd
import Derived.Test.YtageodemjlgdcaaMnt
import Derived.Test.YtageodemjlgdcaaMns
import Derived.Test.YtageodemjlgdcaaZbx
import Derived.Test.YtageodemjlgdcaaPl
import Derived.Test.YtageodemjlgdcaaZbn
import Derived.Test.YtageodemjlgdcaaClo
import Derived.Carry
import Derived.ChangeOld
import Derived.Lib.SmallJoins
import Derived.Lib.QuietBelow
namespace Go.Proofs.Ytageodemjlgdcaa
open Go.ChangeShapes Go.WideShapes Go.ChangeAt Go.RowKit Go.Sort
set_option linter.unusedVariables false
set_option linter.unusedSimpArgs false

set_option maxRecDepth 100000 in
set_option maxHeartbeats 6400000 in
theorem FnClosureInsert_walk (A : Option Addr) (n c : Nat) (w : World) (hc : n ≤ c) (hl : n ≤ maxLen) (hb : BytesAt w w.heap.size A n) :
    Calls Try.prog 8 #[.slice A n c] w fun e w' => e = .returned (.bool true) ∧ Below w.heap.size w w' := by
  unfold maxLen at hl
  by_cases hbign : 1048576 < n
  · have hb' : (1048576 : Int) < n := by omega
    go_enter Try.func8, Try.ntmps8
    go_wp2
    go_ret
    exact ⟨rfl, Below.refl _ _⟩
  have hbn' : (n : Int) ≤ 1048576 := by omega
  have HB := Lib.hid hb
  clear hb hbign
  go_enter Try.func8, Try.ntmps8
  go_wp2_with fail
  refine (DrawClosureInsert_r _ _ _ _ HB.out hc (by omega)).mono ?_
  rintro e w1 ⟨z, y, x, Az, Ay, Ax, cz, cy, cx, rfl, hz, hy, hx, B1⟩
  have nz : z.length ≤ 4194304 := by have := hz.2.2.1; omega
  have rz : rowsIn z 4194304 := rows_big hz.2.2.2 (by decide)
  have ny : y.length ≤ 4194304 := by have := hy.2.2.1; omega
  have ry : rowsIn y 4194304 := rows_big hy.2.2.2 (by decide)
  have nx : x.length ≤ 4194304 := by have := hx.2.2.1; omega
  have rx : rowsIn x 4194304 := rows_big hx.2.2.2 (by decide)
  cases h1 : edgB z
  · have H1 := Lib.hid h1
    clear h1
    go_wp2_with fail
    refine (ClosureInsert_i _ _ (z) _ _ (y) _ _ (x) _ hz.1 hy.1 hx.1 nz rz ny ry nx rx).mono ?_
    rintro e w2 ⟨A2, c2, rfl, o2, b2⟩
    have B2 := btr B1 b2
    have a2 : EntsAt w2 A2 (MntF insG (z) (y) (x)) := SlOw.at_ entO o2
    go_wp2_with fail
    refine (ClosureInsert_s _ _ (z) _ _ (y) _ _ (x) _ (hz.1.below entR b2) (hy.1.below entR b2) (hx.1.below entR b2) nz rz ny ry nx rx).mono ?_
    rintro e w3 ⟨A3, c3, rfl, o3, b3⟩
    have B3 := btr B2 b3
    have a3 : EntsAt w3 A3 (MntF insG (z) (y) (x)) := SlOw.at_ entO o3
    go_wp2_with fail
    refine (equalZ (xs := MntF insG (z) (y) (x)) (ys := MntF insG (z) (y) (x)) true (decide_eq_true rfl) (a2.below entR b3) a3 (Nat.le_trans (MntF_len _ _ _ _) (by decide)) (Nat.le_trans (MntF_len _ _ _ _) (by decide)) (MntF_row _ _ _ _) (MntF_row _ _ _ _)).mono ?_
    rintro e w4 ⟨rfl, b4⟩
    have B4 := btr B3 b4
    go_wp2_with fail
    refine (edgZ false H1.out (hz.1.below entR (btr (btr b2 b3) b4)) nz rz).mono ?_
    rintro e w5 ⟨rfl, b5⟩
    have B5 := btr B4 b5
    go_wp2_with fail
    refine (ClosureInsert_s _ _ (z) _ _ (y) _ _ (x) _ (hz.1.below entR (btr (btr (btr b2 b3) b4) b5)) (hy.1.below entR (btr (btr (btr b2 b3) b4) b5)) (hx.1.below entR (btr (btr (btr b2 b3) b4) b5)) nz rz ny ry nx rx).mono ?_
    rintro e w6 ⟨A6, c6, rfl, o6, b6⟩
    have B6 := btr B5 b6
    have a6 : EntsAt w6 A6 (MntF insG (z) (y) (x)) := SlOw.at_ entO o6
    go_wp2_with fail
    refine (equalZ (xs := MntF insG (z) (y) (x)) (ys := MntF insG (z) (y) (x)) true (decide_eq_true rfl) (a2.below entR (btr (btr (btr b3 b4) b5) b6)) a6 (Nat.le_trans (MntF_len _ _ _ _) (by decide)) (Nat.le_trans (MntF_len _ _ _ _) (by decide)) (MntF_row _ _ _ _) (MntF_row _ _ _ _)).mono ?_
    rintro e w7 ⟨rfl, b7⟩
    have B7 := btr B6 b7
    go_wp2_with fail
    go_ret
    exact ⟨rfl, B7⟩
  cases h2 : edgB x
  · have H1 := Lib.hid h1
    have H2 := Lib.hid h2
    clear h1 h2
    go_wp2_with fail
    refine (ClosureInsert_i _ _ (z) _ _ (y) _ _ (x) _ hz.1 hy.1 hx.1 nz rz ny ry nx rx).mono ?_
    rintro e w2 ⟨A2, c2, rfl, o2, b2⟩
    have B2 := btr B1 b2
    have a2 : EntsAt w2 A2 (MntF insG (z) (y) (x)) := SlOw.at_ entO o2
    go_wp2_with fail
    refine (ClosureInsert_s _ _ (z) _ _ (y) _ _ (x) _ (hz.1.below entR b2) (hy.1.below entR b2) (hx.1.below entR b2) nz rz ny ry nx rx).mono ?_
    rintro e w3 ⟨A3, c3, rfl, o3, b3⟩
    have B3 := btr B2 b3
    have a3 : EntsAt w3 A3 (MntF insG (z) (y) (x)) := SlOw.at_ entO o3
    go_wp2_with fail
    refine (equalZ (xs := MntF insG (z) (y) (x)) (ys := MntF insG (z) (y) (x)) true (decide_eq_true rfl) (a2.below entR b3) a3 (Nat.le_trans (MntF_len _ _ _ _) (by decide)) (Nat.le_trans (MntF_len _ _ _ _) (by decide)) (MntF_row _ _ _ _) (MntF_row _ _ _ _)).mono ?_
    rintro e w4 ⟨rfl, b4⟩
    have B4 := btr B3 b4
    go_wp2_with fail
    refine (edgZ true H1.out (hz.1.below entR (btr (btr b2 b3) b4)) nz rz).mono ?_
    rintro e w5 ⟨rfl, b5⟩
    have B5 := btr B4 b5
    go_wp2_with fail
    refine (edgZ false H2.out (hx.1.below entR (btr (btr (btr b2 b3) b4) b5)) nx rx).mono ?_
    rintro e w6 ⟨rfl, b6⟩
    have B6 := btr B5 b6
    go_wp2_with fail
    refine (ClosureInsert_s _ _ (z) _ _ (y) _ _ (x) _ (hz.1.below entR (btr (btr (btr (btr b2 b3) b4) b5) b6)) (hy.1.below entR (btr (btr (btr (btr b2 b3) b4) b5) b6)) (hx.1.below entR (btr (btr (btr (btr b2 b3) b4) b5) b6)) nz rz ny ry nx rx).mono ?_
    rintro e w7 ⟨A7, c7, rfl, o7, b7⟩
    have B7 := btr B6 b7
    have a7 : EntsAt w7 A7 (MntF insG (z) (y) (x)) := SlOw.at_ entO o7
    go_wp2_with fail
    refine (equalZ (xs := MntF insG (z) (y) (x)) (ys := MntF insG (z) (y) (x)) true (decide_eq_true rfl) (a2.below entR (btr (btr (btr (btr b3 b4) b5) b6) b7)) a7 (Nat.le_trans (MntF_len _ _ _ _) (by decide)) (Nat.le_trans (MntF_len _ _ _ _) (by decide)) (MntF_row _ _ _ _) (MntF_row _ _ _ _)).mono ?_
    rintro e w8 ⟨rfl, b8⟩
    have B8 := btr B7 b8
    go_wp2_with fail
    go_ret
    exact ⟨rfl, B8⟩
  cases h3 : decide (ClosF z = y)
  · have H1 := Lib.hid h1
    have H2 := Lib.hid h2
    have H3 := Lib.hid h3
    clear h1 h2 h3
    go_wp2_with fail
    refine (ClosureInsert_i _ _ (z) _ _ (y) _ _ (x) _ hz.1 hy.1 hx.1 nz rz ny ry nx rx).mono ?_
    rintro e w2 ⟨A2, c2, rfl, o2, b2⟩
    have B2 := btr B1 b2
    have a2 : EntsAt w2 A2 (MntF insG (z) (y) (x)) := SlOw.at_ entO o2
    go_wp2_with fail
    refine (ClosureInsert_s _ _ (z) _ _ (y) _ _ (x) _ (hz.1.below entR b2) (hy.1.below entR b2) (hx.1.below entR b2) nz rz ny ry nx rx).mono ?_
    rintro e w3 ⟨A3, c3, rfl, o3, b3⟩
    have B3 := btr B2 b3
    have a3 : EntsAt w3 A3 (MntF insG (z) (y) (x)) := SlOw.at_ entO o3
    go_wp2_with fail
    refine (equalZ (xs := MntF insG (z) (y) (x)) (ys := MntF insG (z) (y) (x)) true (decide_eq_true rfl) (a2.below entR b3) a3 (Nat.le_trans (MntF_len _ _ _ _) (by decide)) (Nat.le_trans (MntF_len _ _ _ _) (by decide)) (MntF_row _ _ _ _) (MntF_row _ _ _ _)).mono ?_
    rintro e w4 ⟨rfl, b4⟩
    have B4 := btr B3 b4
    go_wp2_with fail
    refine (edgZ true H1.out (hz.1.below entR (btr (btr b2 b3) b4)) nz rz).mono ?_
    rintro e w5 ⟨rfl, b5⟩
    have B5 := btr B4 b5
    go_wp2_with fail
    refine (edgZ true H2.out (hx.1.below entR (btr (btr (btr b2 b3) b4) b5)) nx rx).mono ?_
    rintro e w6 ⟨rfl, b6⟩
    have B6 := btr B5 b6
    go_wp2_with fail
    refine (Closure_i _ _ (z) _ (hz.1.below entR (btr (btr (btr (btr b2 b3) b4) b5) b6)) nz rz).mono ?_
    rintro e w7 ⟨A7, c7, rfl, o7, b7⟩
    have B7 := btr B6 b7
    have a7 : EntsAt w7 A7 (ClosF (z)) := SlOw.at_ entO o7
    go_wp2_with fail
    refine (equalZ (xs := ClosF (z)) (ys := y) false H3.out a7 (hy.1.below entR (btr (btr (btr (btr (btr b2 b3) b4) b5) b6) b7)) (ClosF_len _) ny (ClosF_row _) ry).mono ?_
    rintro e w8 ⟨rfl, b8⟩
    have B8 := btr B7 b8
    go_wp2_with fail
    refine (ClosureInsert_s _ _ (z) _ _ (y) _ _ (x) _ (hz.1.below entR (btr (btr (btr (btr (btr (btr b2 b3) b4) b5) b6) b7) b8)) (hy.1.below entR (btr (btr (btr (btr (btr (btr b2 b3) b4) b5) b6) b7) b8)) (hx.1.below entR (btr (btr (btr (btr (btr (btr b2 b3) b4) b5) b6) b7) b8)) nz rz ny ry nx rx).mono ?_
    rintro e w9 ⟨A9, c9, rfl, o9, b9⟩
    have B9 := btr B8 b9
    have a9 : EntsAt w9 A9 (MntF insG (z) (y) (x)) := SlOw.at_ entO o9
    go_wp2_with fail
    refine (equalZ (xs := MntF insG (z) (y) (x)) (ys := MntF insG (z) (y) (x)) true (decide_eq_true rfl) (a2.below entR (btr (btr (btr (btr (btr (btr b3 b4) b5) b6) b7) b8) b9)) a9 (Nat.le_trans (MntF_len _ _ _ _) (by decide)) (Nat.le_trans (MntF_len _ _ _ _) (by decide)) (MntF_row _ _ _ _) (MntF_row _ _ _ _)).mono ?_
    rintro e w10 ⟨rfl, b10⟩
    have B10 := btr B9 b10
    go_wp2_with fail
    go_ret
    exact ⟨rfl, B10⟩
  have HL := Lib.hid (ins_law h1 h2 (of_decide_eq_true h3))
  have H1 := Lib.hid h1
  have H2 := Lib.hid h2
  have H3 := Lib.hid h3
  clear h1 h2 h3
  go_wp2_with fail
  refine (ClosureInsert_i _ _ (z) _ _ (y) _ _ (x) _ hz.1 hy.1 hx.1 nz rz ny ry nx rx).mono ?_
  rintro e w2 ⟨A2, c2, rfl, o2, b2⟩
  have B2 := btr B1 b2
  have a2 : EntsAt w2 A2 (MntF insG (z) (y) (x)) := SlOw.at_ entO o2
  go_wp2_with fail
  refine (ClosureInsert_s _ _ (z) _ _ (y) _ _ (x) _ (hz.1.below entR b2) (hy.1.below entR b2) (hx.1.below entR b2) nz rz ny ry nx rx).mono ?_
  rintro e w3 ⟨A3, c3, rfl, o3, b3⟩
  have B3 := btr B2 b3
  have a3 : EntsAt w3 A3 (MntF insG (z) (y) (x)) := SlOw.at_ entO o3
  go_wp2_with fail
  refine (equalZ (xs := MntF insG (z) (y) (x)) (ys := MntF insG (z) (y) (x)) true (decide_eq_true rfl) (a2.below entR b3) a3 (Nat.le_trans (MntF_len _ _ _ _) (by decide)) (Nat.le_trans (MntF_len _ _ _ _) (by decide)) (MntF_row _ _ _ _) (MntF_row _ _ _ _)).mono ?_
  rintro e w4 ⟨rfl, b4⟩
  have B4 := btr B3 b4
  go_wp2_with fail
  refine (edgZ true H1.out (hz.1.below entR (btr (btr b2 b3) b4)) nz rz).mono ?_
  rintro e w5 ⟨rfl, b5⟩
  have B5 := btr B4 b5
  go_wp2_with fail
  refine (edgZ true H2.out (hx.1.below entR (btr (btr (btr b2 b3) b4) b5)) nx rx).mono ?_
  rintro e w6 ⟨rfl, b6⟩
  have B6 := btr B5 b6
  go_wp2_with fail
  refine (Closure_i _ _ (z) _ (hz.1.below entR (btr (btr (btr (btr b2 b3) b4) b5) b6)) nz rz).mono ?_
  rintro e w7 ⟨A7, c7, rfl, o7, b7⟩
  have B7 := btr B6 b7
  have a7 : EntsAt w7 A7 (ClosF (z)) := SlOw.at_ entO o7
  go_wp2_with fail
  refine (equalZ (xs := ClosF (z)) (ys := y) true H3.out a7 (hy.1.below entR (btr (btr (btr (btr (btr b2 b3) b4) b5) b6) b7)) (ClosF_len _) ny (ClosF_row _) ry).mono ?_
  rintro e w8 ⟨rfl, b8⟩
  have B8 := btr B7 b8
  go_wp2_with fail
  refine (Add_i _ _ (y) _ _ (MntF insG (z) (y) (x)) _ (hy.1.below entR (btr (btr (btr (btr (btr (btr b2 b3) b4) b5) b6) b7) b8)) (a2.below entR (btr (btr (btr (btr (btr b3 b4) b5) b6) b7) b8)) hy.2.1 (EntsOw.cap o2) ny ry (Nat.le_trans (MntF_len _ _ _ _) (by decide)) (MntF_row _ _ _ _)).mono ?_
  rintro e w9 ⟨A9, c9, rfl, o9, b9⟩
  have B9 := btr B8 b9
  have a9 : EntsAt w9 A9 (AddF (y) (MntF insG (z) (y) (x))) := SlOw.at_ entO o9
  go_wp2_with fail
  refine (Add_i _ _ (z) _ _ (x) _ (hz.1.below entR (btr (btr (btr (btr (btr (btr (btr b2 b3) b4) b5) b6) b7) b8) b9)) (hx.1.below entR (btr (btr (btr (btr (btr (btr (btr b2 b3) b4) b5) b6) b7) b8) b9)) hz.2.1 hx.2.1 nz rz nx rx).mono ?_
  rintro e w10 ⟨A10, c10, rfl, o10, b10⟩
  have B10 := btr B9 b10
  have a10 : EntsAt w10 A10 (AddF (z) (x)) := SlOw.at_ entO o10
  go_wp2_with fail
  refine (Distinct_i _ _ (AddF (z) (x)) _ a10 (Nat.le_trans (AddF_len' _ _) (by decide)) (rows_big (AddF_row' _ _) (by decide))).mono ?_
  rintro e w11 ⟨A11, c11, rfl, o11, b11⟩
  have B11 := btr B10 b11
  have a11 : EntsAt w11 A11 (DisF (AddF (z) (x))) := SlOw.at_ entO o11
  go_wp2_with fail
  refine (Closure_i _ _ (DisF (AddF (z) (x))) _ a11 (Nat.le_trans (DisF_len _) (by decide)) (rows_big (DisF_row _) (by decide))).mono ?_
  rintro e w12 ⟨A12, c12, rfl, o12, b12⟩
  have B12 := btr B11 b12
  have a12 : EntsAt w12 A12 (ClosF (DisF (AddF (z) (x)))) := SlOw.at_ entO o12
  go_wp2_with fail
  refine (equalZ (xs := AddF (y) (MntF insG (z) (y) (x))) (ys := ClosF (DisF (AddF (z) (x)))) true (decide_eq_true HL.out) (a9.below entR (btr (btr b10 b11) b12)) a12 (Nat.le_trans (AddF_len' _ _) (by decide)) (ClosF_len _) (rows_big (AddF_row' _ _) (by decide)) (ClosF_row _)).mono ?_
  rintro e w13 ⟨rfl, b13⟩
  have B13 := btr B12 b13
  go_wp2_with fail
  go_ret
  exact ⟨rfl, B13⟩

namespace lawFnClosureInsert
theorem own : ownKnob Try.prog.godebug = none := by kernel_rfl
theorem laidOut : laidOutB Try.prog = true := clo_laid
set_option maxRecDepth 100000 in
theorem lifted (os : Os) (started : os.Started) (H : Type) (enc : TypeId × Value → H) :
    ReturnsInHanded {} Try.checked os 8 .any (Rows.fnClosureInsertSpec.pre6 enc Try.prog Try.f8 Rows.fnClosureInsertRow.domain false) (Rows.fnClosureInsertSpec.post enc Try.prog Try.f8 false true false false) := by
  refine returnsInHanded_of_change (C := Try.checked) own started (by kernel_rfl) Try.func8
    (ChangeSpec.witness6 (enc := enc) (C := Try.checked) false ⟨#[], #[.slice none 0 0], []⟩ 8 (by kernel_rfl) (by kernel_rfl) (by kernel_rfl) (by kernel_rfl)) ?_
  intro W base args ds gs before hval0 hW hcnd _
  have hval : ∀ (j : Nat) t v, Try.f8.params[j]? = some t → args[j]? = some v → Value.okWide Try.prog W .any base t v := hval0
  have hW' := hW
  obtain ⟨p, q, hA0, hV, rfl, hfz, hnd⟩ := hW
  have hA : DataW.TrodAll enc Try.prog W 0 (fun _ => true) true Try.f8.params.toList args.toList ds p := hA0
  rw [Try.params8] at hA hval
  obtain ⟨v0, vs0, d0, ds0, p0, q0, hargs, rfl, rfl, h0, r0⟩ := trodAll_cons hA
  obtain ⟨rfl, rfl, rfl⟩ := trodAll_nil r0
  obtain rfl : args = #[v0] := by cases args; simp_all
  obtain ⟨rfl, rfl⟩ := trodVars_none hV
  have k0 := h0
  have lt0 : ∀ x ∈ p0, x.block < W.heap.size := by obtain ⟨m, hm⟩ := k0; exact DataW.trod_lt m _ _ _ hm
  obtain ⟨a0, len0, cap0, rfl⟩ := okWide_slice Try.underlying22 (hval 0 22 v0 rfl rfl)
  obtain ⟨l0, m0, w0⟩ := bytes_of Try.underlying22 Try.underlying5 (by kernel_rfl) h0
  clear hA0 hval0
  refine (FnClosureInsert_walk a0 len0 cap0 W l0 m0 w0).mono fun e W' ⟨he, bel⟩ => ?_
  subst he
  exact ⟨_, rfl, _, _, _, [], _, [], hW', trodAll_mk1 (shut_bool Try.underlying4 _), (trodAll_cons_mk (Below.trod laidOut (by kernel_rfl) (of_decide_eq_true (by kernel_rfl)) k0 bel lt0) trodAll_mk0), rfl, bel.frame _, fun h => by cases h⟩
theorem andTT {a b : Bool} (h1 : a = true) (h2 : b = true) : (a && b) = true := by rw [h1, h2]; rfl
set_option maxHeartbeats 8000000 in
theorem closed : joinedFacts Try.prog 8 Try.f8 Rows.fnClosureInsertSpec Rows.fnClosureInsertRow = true := by
  unfold joinedFacts
  repeat' (with_reducible refine andTT ?_ ?_)
  all_goals (first | (with_reducible exact clo_laid) | (with_reducible exact clo_maps) | (with_reducible exact clo_heard) | (with_reducible exact clo_enter) | ((with_reducible refine clo_plain _ ?_); rfl) | ((with_reducible refine clo_lifts _ ?_); rfl) | (as_aux_lemma => kernel_rfl))

theorem over : Rows.fnClosureInsertRow.holds Try.pinned (OpenSpec.ofChange Rows.fnClosureInsertSpec) :=
  OpenClaim.holds_of_wide 8 Try.f8 rfl rfl rfl rfl rfl rfl rfl ⟨rfl, rfl, rfl, rfl, rfl⟩ rfl rfl rfl rfl rfl (by kernel_rfl) Try.func8 closed
    (of_decide_eq_true (by kernel_rfl)) (by unfold Func.isWrapper; first | (rw [if_pos (by decide +kernel)]; kernel_rfl) | (rw [if_neg (by decide +kernel)]; exact ⟨rfl, rfl⟩))
    (fun os started H enc _ => lifted os started H enc)

/-- THE STATEMENT. -/
theorem proved : Rows.FnClosureInsertSaid := over
end lawFnClosureInsert
end Go.Proofs.Ytageodemjlgdcaa
