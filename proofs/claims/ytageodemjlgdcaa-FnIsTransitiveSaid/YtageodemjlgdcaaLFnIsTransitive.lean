/- The law FnIsTransitive returns true at every code; no condition. -/
import Derived.Test.YtageodemjlgdcaaDrawEd
import Derived.Test.YtageodemjlgdcaaEqZ
import Derived.Test.YtageodemjlgdcaaPc
import Derived.Test.YtageodemjlgdcaaDisI
import Derived.Test.YtageodemjlgdcaaAddI
import Derived.Test.YtageodemjlgdcaaCls
import Derived.Test.YtageodemjlgdcaaCrd
import Derived.Test.YtageodemjlgdcaaZbx
import Derived.Test.YtageodemjlgdcaaPl
import Derived.Test.YtageodemjlgdcaaZbn
import Derived.Test.YtageodemjlgdcaaClo
import Derived.Carry
import Derived.ChangeOld
import Derived.Lib.SmallJoins
import Derived.Lib.QuietBelow
namespace Go.Proofs.Ytageodemjlgdcaa
open Go.ChangeShapes Go.WideShapes Go.ChangeAt Go.RowKit Go.Sort
set_option linter.unusedVariables false
set_option linter.unusedSimpArgs false

set_option maxRecDepth 100000 in
set_option maxHeartbeats 6400000 in
theorem FnIsTransitive_walk (A : Option Addr) (n c : Nat) (w : World) (hc : n ≤ c) (hl : n ≤ maxLen) (hb : BytesAt w w.heap.size A n) :
    Calls Try.prog 4 #[.slice A n c] w fun e w' => e = .returned (.bool true) ∧ Below w.heap.size w w' := by
  unfold maxLen at hl
  by_cases hbign : 1048576 < n
  · have hb' : (1048576 : Int) < n := by omega
    go_enter Try.func4, Try.ntmps4
    go_wp2
    go_ret
    exact ⟨rfl, Below.refl _ _⟩
  have hbn' : (n : Int) ≤ 1048576 := by omega
  have HB := Lib.hid hb
  clear hb hbign
  go_enter Try.func4, Try.ntmps4
  go_wp2_with fail
  refine (DrawIsTransitive_r _ _ _ _ HB.out hc (by omega)).mono ?_
  rintro e w1 ⟨z, Az, cz, rfl, hz, B1⟩
  have nz : z.length ≤ 4194304 := by have := hz.2.2.1; omega
  have rz : rowsIn z 4194304 := rows_big hz.2.2.2 (by decide)
  cases hv : edgB z
  · have HT : Hid (TrB z = false) := by simp [Hid, TrB, hv]
    have HV := Lib.hid hv
    clear hv
    go_wp2_with fail
    refine (trZ false HT.out hz.1 nz rz).mono ?_
    rintro e w2 ⟨rfl, b2⟩
    have B2 := btr B1 b2
    go_wp2_with fail
    refine (trZs false HT.out (hz.1.below entR b2) nz rz).mono ?_
    rintro e w3 ⟨rfl, b3⟩
    have B3 := btr B2 b3
    go_wp2_with fail
    refine (edgZ false HV.out (hz.1.below entR (btr b2 b3)) nz rz).mono ?_
    rintro e w4 ⟨rfl, b4⟩
    have B4 := btr B3 b4
    go_wp2_with fail
    refine (trZs false HT.out (hz.1.below entR (btr (btr b2 b3) b4)) nz rz).mono ?_
    rintro e w5 ⟨rfl, b5⟩
    have B5 := btr B4 b5
    go_wp2_with fail
    go_ret
    exact ⟨rfl, B5⟩
  have hl := tr_law hv
  cases ht : TrB z
  · have HE := Lib.hid (hl.trans ht)
    have HT := Lib.hid ht
    have HV := Lib.hid hv
    clear hv hl ht
    go_wp2_with fail
    refine (trZ false HT.out hz.1 nz rz).mono ?_
    rintro e w2 ⟨rfl, b2⟩
    have B2 := btr B1 b2
    go_wp2_with fail
    refine (trZs false HT.out (hz.1.below entR b2) nz rz).mono ?_
    rintro e w3 ⟨rfl, b3⟩
    have B3 := btr B2 b3
    go_wp2_with fail
    refine (edgZ true HV.out (hz.1.below entR (btr b2 b3)) nz rz).mono ?_
    rintro e w4 ⟨rfl, b4⟩
    have B4 := btr B3 b4
    go_wp2_with fail
    refine (Closure_i _ _ (z) _ (hz.1.below entR (btr (btr b2 b3) b4)) nz rz).mono ?_
    rintro e w5 ⟨A5, c5, rfl, o5, b5⟩
    have B5 := btr B4 b5
    have a5 : EntsAt w5 A5 (ClosF (z)) := SlOw.at_ entO o5
    go_wp2_with fail
    refine (equalZ (xs := ClosF (z)) (ys := z) false HE.out a5 (hz.1.below entR (btr (btr (btr b2 b3) b4) b5)) (ClosF_len _) nz (ClosF_row _) rz).mono ?_
    rintro e w6 ⟨rfl, b6⟩
    have B6 := btr B5 b6
    go_wp2_with fail
    go_ret
    exact ⟨rfl, B6⟩
  · have HE := Lib.hid (hl.trans ht)
    have HT := Lib.hid ht
    have HV := Lib.hid hv
    clear hv hl ht
    go_wp2_with fail
    refine (trZ true HT.out hz.1 nz rz).mono ?_
    rintro e w2 ⟨rfl, b2⟩
    have B2 := btr B1 b2
    go_wp2_with fail
    refine (trZs true HT.out (hz.1.below entR b2) nz rz).mono ?_
    rintro e w3 ⟨rfl, b3⟩
    have B3 := btr B2 b3
    go_wp2_with fail
    refine (edgZ true HV.out (hz.1.below entR (btr b2 b3)) nz rz).mono ?_
    rintro e w4 ⟨rfl, b4⟩
    have B4 := btr B3 b4
    go_wp2_with fail
    refine (Closure_i _ _ (z) _ (hz.1.below entR (btr (btr b2 b3) b4)) nz rz).mono ?_
    rintro e w5 ⟨A5, c5, rfl, o5, b5⟩
    have B5 := btr B4 b5
    have a5 : EntsAt w5 A5 (ClosF (z)) := SlOw.at_ entO o5
    go_wp2_with fail
    refine (equalZ (xs := ClosF (z)) (ys := z) true HE.out a5 (hz.1.below entR (btr (btr (btr b2 b3) b4) b5)) (ClosF_len _) nz (ClosF_row _) rz).mono ?_
    rintro e w6 ⟨rfl, b6⟩
    have B6 := btr B5 b6
    go_wp2_with fail
    go_ret
    exact ⟨rfl, B6⟩

namespace lawFnIsTransitive
theorem own : ownKnob Try.prog.godebug = none := by kernel_rfl
theorem laidOut : laidOutB Try.prog = true := clo_laid
set_option maxRecDepth 100000 in
theorem lifted (os : Os) (started : os.Started) (H : Type) (enc : TypeId × Value → H) :
    ReturnsInHanded {} Try.checked os 4 .any (Rows.fnIsTransitiveSpec.pre6 enc Try.prog Try.f4 Rows.fnIsTransitiveRow.domain false) (Rows.fnIsTransitiveSpec.post enc Try.prog Try.f4 false true false false) := by
  refine returnsInHanded_of_change (C := Try.checked) own started (by kernel_rfl) Try.func4
    (ChangeSpec.witness6 (enc := enc) (C := Try.checked) false ⟨#[], #[.slice none 0 0], []⟩ 8 (by kernel_rfl) (by kernel_rfl) (by kernel_rfl) (by kernel_rfl)) ?_
  intro W base args ds gs before hval0 hW hcnd _
  have hval : ∀ (j : Nat) t v, Try.f4.params[j]? = some t → args[j]? = some v → Value.okWide Try.prog W .any base t v := hval0
  have hW' := hW
  obtain ⟨p, q, hA0, hV, rfl, hfz, hnd⟩ := hW
  have hA : DataW.TrodAll enc Try.prog W 0 (fun _ => true) true Try.f4.params.toList args.toList ds p := hA0
  rw [Try.params4] at hA hval
  obtain ⟨v0, vs0, d0, ds0, p0, q0, hargs, rfl, rfl, h0, r0⟩ := trodAll_cons hA
  obtain ⟨rfl, rfl, rfl⟩ := trodAll_nil r0
  obtain rfl : args = #[v0] := by cases args; simp_all
  obtain ⟨rfl, rfl⟩ := trodVars_none hV
  have k0 := h0
  have lt0 : ∀ x ∈ p0, x.block < W.heap.size := by obtain ⟨m, hm⟩ := k0; exact DataW.trod_lt m _ _ _ hm
  obtain ⟨a0, len0, cap0, rfl⟩ := okWide_slice Try.underlying22 (hval 0 22 v0 rfl rfl)
  obtain ⟨l0, m0, w0⟩ := bytes_of Try.underlying22 Try.underlying5 (by kernel_rfl) h0
  clear hA0 hval0
  refine (FnIsTransitive_walk a0 len0 cap0 W l0 m0 w0).mono fun e W' ⟨he, bel⟩ => ?_
  subst he
  exact ⟨_, rfl, _, _, _, [], _, [], hW', trodAll_mk1 (shut_bool Try.underlying4 _), (trodAll_cons_mk (Below.trod laidOut (by kernel_rfl) (of_decide_eq_true (by kernel_rfl)) k0 bel lt0) trodAll_mk0), rfl, bel.frame _, fun h => by cases h⟩
theorem andTT {a b : Bool} (h1 : a = true) (h2 : b = true) : (a && b) = true := by rw [h1, h2]; rfl
set_option maxHeartbeats 8000000 in
theorem closed : joinedFacts Try.prog 4 Try.f4 Rows.fnIsTransitiveSpec Rows.fnIsTransitiveRow = true := by
  unfold joinedFacts
  repeat' (with_reducible refine andTT ?_ ?_)
  all_goals (first | (with_reducible exact clo_laid) | (with_reducible exact clo_maps) | (with_reducible exact clo_heard) | (with_reducible exact clo_enter) | ((with_reducible refine clo_plain _ ?_); rfl) | ((with_reducible refine clo_lifts _ ?_); rfl) | (as_aux_lemma => kernel_rfl))

theorem over : Rows.fnIsTransitiveRow.holds Try.pinned (OpenSpec.ofChange Rows.fnIsTransitiveSpec) :=
  OpenClaim.holds_of_wide 4 Try.f4 rfl rfl rfl rfl rfl rfl rfl ⟨rfl, rfl, rfl, rfl, rfl⟩ rfl rfl rfl rfl rfl (by kernel_rfl) Try.func4 closed
    (of_decide_eq_true (by kernel_rfl)) (by unfold Func.isWrapper; first | (rw [if_pos (by decide +kernel)]; kernel_rfl) | (rw [if_neg (by decide +kernel)]; exact ⟨rfl, rfl⟩))
    (fun os started H enc _ => lifted os started H enc)

/-- THE STATEMENT. -/
theorem proved : Rows.FnIsTransitiveSaid := over
end lawFnIsTransitive
end Go.Proofs.Ytageodemjlgdcaa
