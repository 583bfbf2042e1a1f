/- The law FnClosureMonotone returns true at every code; no condition. -/
import Derived.Test.YtageodemjlgdcaaDrawEm
import Derived.Test.YtageodemjlgdcaaDrawEd
import Derived.Test.YtageodemjlgdcaaEqZ
import Derived.Test.YtageodemjlgdcaaPc
import Derived.Test.YtageodemjlgdcaaDisI
import Derived.Test.YtageodemjlgdcaaAddI
import Derived.Test.YtageodemjlgdcaaCls
import Derived.Test.YtageodemjlgdcaaCrd
import Derived.Test.YtageodemjlgdcaaZbx
import Derived.Test.YtageodemjlgdcaaPl
import Derived.Test.YtageodemjlgdcaaZbn
import Derived.Test.YtageodemjlgdcaaClo
import Derived.Carry
import Derived.ChangeOld
import Derived.Lib.SmallJoins
import Derived.Lib.QuietBelow
namespace Go.Proofs.Ytageodemjlgdcaa
open Go.ChangeShapes Go.WideShapes Go.ChangeAt Go.RowKit Go.Sort
set_option linter.unusedVariables false
set_option linter.unusedSimpArgs false

set_option maxRecDepth 100000 in
set_option maxHeartbeats 6400000 in
theorem FnClosureMonotone_walk (A : Option Addr) (n c : Nat) (AA : Option Addr) (nn cc : Nat) (w : World) (hc : n ≤ c) (hl : n ≤ maxLen) (hb : BytesAt w w.heap.size A n) (hcc : nn ≤ cc) (hll : nn ≤ maxLen) (hbb : BytesAt w w.heap.size AA nn) :
    Calls Try.prog 5 #[.slice A n c, .slice AA nn cc] w fun e w' => e = .returned (.bool true) ∧ Below w.heap.size w w' := by
  unfold maxLen at hl hll
  by_cases hbign : 1048576 < n
  · have hb' : (1048576 : Int) < n := by omega
    go_enter Try.func5, Try.ntmps5
    go_wp2
    go_ret
    exact ⟨rfl, Below.refl _ _⟩
  have hbn' : (n : Int) ≤ 1048576 := by omega
  by_cases hbignn : 1048576 < nn
  · have hb' : (1048576 : Int) < nn := by omega
    go_enter Try.func5, Try.ntmps5
    go_wp2
    go_ret
    exact ⟨rfl, Below.refl _ _⟩
  have hbnn' : (nn : Int) ≤ 1048576 := by omega
  have HB := Lib.hid hb
  clear hb hbign
  have HBB := Lib.hid hbb
  clear hbb hbignn
  go_enter Try.func5, Try.ntmps5
  go_wp2_with fail
  refine (DrawClosure_r _ _ _ _ HB.out hc (by omega)).mono ?_
  rintro e w1 ⟨z, Az, cz, rfl, hz, B1⟩
  have nz : z.length ≤ 4194304 := by have := hz.2.2.1; omega
  have rz : rowsIn z 4194304 := rows_big hz.2.2.2 (by decide)
  cases hv : edgB z
  · have HV := Lib.hid hv
    clear hv
    go_wp2_with fail
    refine (Closure_i _ _ (z) _ hz.1 nz rz).mono ?_
    rintro e w2 ⟨A2, c2, rfl, o2, b2⟩
    have B2 := btr B1 b2
    have a2 : EntsAt w2 A2 (ClosF (z)) := SlOw.at_ entO o2
    go_wp2_with fail
    refine (Closure_s _ _ (z) _ (hz.1.below entR b2) nz rz).mono ?_
    rintro e w3 ⟨A3, c3, rfl, o3, b3⟩
    have B3 := btr B2 b3
    have a3 : EntsAt w3 A3 (ClosF (z)) := SlOw.at_ entO o3
    go_wp2_with fail
    refine (equalZ (xs := ClosF (z)) (ys := ClosF (z)) true (decide_eq_true rfl) (a2.below entR b3) a3 (ClosF_len _) (ClosF_len _) (ClosF_row _) (ClosF_row _)).mono ?_
    rintro e w4 ⟨rfl, b4⟩
    have B4 := btr B3 b4
    go_wp2_with fail
    refine (edgZ false HV.out (hz.1.below entR (btr (btr b2 b3) b4)) nz rz).mono ?_
    rintro e w5 ⟨rfl, b5⟩
    have B5 := btr B4 b5
    go_wp2_with fail
    refine (Closure_s _ _ (z) _ (hz.1.below entR (btr (btr (btr b2 b3) b4) b5)) nz rz).mono ?_
    rintro e w6 ⟨A6, c6, rfl, o6, b6⟩
    have B6 := btr B5 b6
    have a6 : EntsAt w6 A6 (ClosF (z)) := SlOw.at_ entO o6
    go_wp2_with fail
    refine (equalZ (xs := ClosF (z)) (ys := ClosF (z)) true (decide_eq_true rfl) (a2.below entR (btr (btr (btr b3 b4) b5) b6)) a6 (ClosF_len _) (ClosF_len _) (ClosF_row _) (ClosF_row _)).mono ?_
    rintro e w7 ⟨rfl, b7⟩
    have B7 := btr B6 b7
    go_wp2_with fail
    go_ret
    exact ⟨rfl, B7⟩
  have hm1 := fun k : Nat => subE_of (mono_law hv (List.take_sublist k z))
  have hm2 := fun k : Nat => subE_of (mono_law hv (List.drop_sublist k z))
  obtain ⟨k, hkm, hk⟩ : ∃ k : Nat, Int.tmod (nn : Int) ((z.length : Int) + 1) = (k : Int) ∧ k ≤ z.length := by
    refine ⟨nn % (z.length + 1), ?_, by have := Nat.mod_lt nn (show 0 < z.length + 1 by omega); omega⟩
    have h1 : (z.length : Int) + 1 = ((z.length + 1 : Nat) : Int) := by omega
    rw [h1, ← Int.ofNat_tmod]
  have hzc := hz.2.1
  have hk0 : (0 : Int) ≤ k := by omega
  have hk1 : (k : Int) ≤ z.length := by omega
  have hk2 : (k : Int) ≤ cz := by omega
  have hd0 : (z.length : Int) + 1 ≠ 0 := by omega
  by_cases hck : cz = k
  · subst hck
    have HV := Lib.hid hv
    have HM1 := Lib.hid (hm1 cz)
    have HM2 := Lib.hid (hm2 cz)
    clear hv hm1 hm2
    go_wp2_with fail
    refine (Closure_i _ _ (z) _ hz.1 nz rz).mono ?_
    rintro e w2 ⟨A2, c2, rfl, o2, b2⟩
    have B2 := btr B1 b2
    have a2 : EntsAt w2 A2 (ClosF (z)) := SlOw.at_ entO o2
    go_wp2_with fail
    refine (Closure_s _ _ (z) _ (hz.1.below entR b2) nz rz).mono ?_
    rintro e w3 ⟨A3, c3, rfl, o3, b3⟩
    have B3 := btr B2 b3
    have a3 : EntsAt w3 A3 (ClosF (z)) := SlOw.at_ entO o3
    go_wp2_with fail
    refine (equalZ (xs := ClosF (z)) (ys := ClosF (z)) true (decide_eq_true rfl) (a2.below entR b3) a3 (ClosF_len _) (ClosF_len _) (ClosF_row _) (ClosF_row _)).mono ?_
    rintro e w4 ⟨rfl, b4⟩
    have B4 := btr B3 b4
    go_wp2_with fail
    refine (edgZ true HV.out (hz.1.below entR (btr (btr b2 b3) b4)) nz rz).mono ?_
    rintro e w5 ⟨rfl, b5⟩
    have B5 := btr B4 b5
    have ad1 := EntsAt.takeC ((hz.1.below entR (btr (btr (btr b2 b3) b4) b5))) cz
    have ht := Closure_i Az cz (z.take cz) w5 ad1 (by rw [List.length_take]; omega) (fun e he => rz e (List.mem_of_mem_take he))
    rw [show (z.take cz).length = cz by rw [List.length_take]; omega] at ht
    go_wp2_with fail
    refine (ht).mono ?_
    rintro e w6 ⟨A6, c6, rfl, o6, b6⟩
    have B6 := btr B5 b6
    have a6 : EntsAt w6 A6 (ClosF (z.take cz)) := SlOw.at_ entO o6
    go_wp2_with fail
    refine (subZ true HM1.out a6 (a2.below entR (btr (btr (btr b3 b4) b5) b6)) (ClosF_len _) (ClosF_row _) (ClosF_len _) (ClosF_row _)).mono ?_
    rintro e w7 ⟨rfl, b7⟩
    have B7 := btr B6 b7
    have ad2 := EntsAt.dropC ((hz.1.below entR (btr (btr (btr (btr (btr b2 b3) b4) b5) b6) b7))) hzc cz
    rw [if_pos rfl] at ad2
    have ht2 := Closure_i Az 0 (z.drop cz) w7 ad2 (by rw [List.length_drop]; omega) (fun e he => rz e (List.mem_of_mem_drop he))
    rw [show (z.drop cz).length = 0 by rw [List.length_drop]; omega] at ht2
    go_wp2_with fail
    refine (ht2).mono ?_
    rintro e w8 ⟨A8, c8, rfl, o8, b8⟩
    have B8 := btr B7 b8
    have a8 : EntsAt w8 A8 (ClosF (z.drop cz)) := SlOw.at_ entO o8
    go_wp2_with fail
    refine (subZ true HM2.out a8 (a2.below entR (btr (btr (btr (btr (btr b3 b4) b5) b6) b7) b8)) (ClosF_len _) (ClosF_row _) (ClosF_len _) (ClosF_row _)).mono ?_
    rintro e w9 ⟨rfl, b9⟩
    have B9 := btr B8 b9
    go_wp2_with fail
    go_ret
    exact ⟨rfl, B9⟩
  · have HV := Lib.hid hv
    have HM1 := Lib.hid (hm1 k)
    have HM2 := Lib.hid (hm2 k)
    clear hv hm1 hm2
    go_wp2_with fail
    refine (Closure_i _ _ (z) _ hz.1 nz rz).mono ?_
    rintro e w2 ⟨A2, c2, rfl, o2, b2⟩
    have B2 := btr B1 b2
    have a2 : EntsAt w2 A2 (ClosF (z)) := SlOw.at_ entO o2
    go_wp2_with fail
    refine (Closure_s _ _ (z) _ (hz.1.below entR b2) nz rz).mono ?_
    rintro e w3 ⟨A3, c3, rfl, o3, b3⟩
    have B3 := btr B2 b3
    have a3 : EntsAt w3 A3 (ClosF (z)) := SlOw.at_ entO o3
    go_wp2_with fail
    refine (equalZ (xs := ClosF (z)) (ys := ClosF (z)) true (decide_eq_true rfl) (a2.below entR b3) a3 (ClosF_len _) (ClosF_len _) (ClosF_row _) (ClosF_row _)).mono ?_
    rintro e w4 ⟨rfl, b4⟩
    have B4 := btr B3 b4
    go_wp2_with fail
    refine (edgZ true HV.out (hz.1.below entR (btr (btr b2 b3) b4)) nz rz).mono ?_
    rintro e w5 ⟨rfl, b5⟩
    have B5 := btr B4 b5
    have ad1 := EntsAt.takeC ((hz.1.below entR (btr (btr (btr b2 b3) b4) b5))) k
    have ht := Closure_i Az cz (z.take k) w5 ad1 (by rw [List.length_take]; omega) (fun e he => rz e (List.mem_of_mem_take he))
    rw [show (z.take k).length = k by rw [List.length_take]; omega] at ht
    go_wp2_with fail
    refine (ht).mono ?_
    rintro e w6 ⟨A6, c6, rfl, o6, b6⟩
    have B6 := btr B5 b6
    have a6 : EntsAt w6 A6 (ClosF (z.take k)) := SlOw.at_ entO o6
    go_wp2_with fail
    refine (subZ true HM1.out a6 (a2.below entR (btr (btr (btr b3 b4) b5) b6)) (ClosF_len _) (ClosF_row _) (ClosF_len _) (ClosF_row _)).mono ?_
    rintro e w7 ⟨rfl, b7⟩
    have B7 := btr B6 b7
    have ad2 := EntsAt.dropC ((hz.1.below entR (btr (btr (btr (btr (btr b2 b3) b4) b5) b6) b7))) hzc k
    rw [if_neg hck] at ad2
    have ht2 := Closure_i (Az.map (·.add (k * 2))) (cz - k) (z.drop k) w7 ad2 (by rw [List.length_drop]; omega) (fun e he => rz e (List.mem_of_mem_drop he))
    rw [show (z.drop k).length = z.length - k from List.length_drop] at ht2
    go_wp2_with fail
    refine (ht2).mono ?_
    rintro e w8 ⟨A8, c8, rfl, o8, b8⟩
    have B8 := btr B7 b8
    have a8 : EntsAt w8 A8 (ClosF (z.drop k)) := SlOw.at_ entO o8
    go_wp2_with fail
    refine (subZ true HM2.out a8 (a2.below entR (btr (btr (btr (btr (btr b3 b4) b5) b6) b7) b8)) (ClosF_len _) (ClosF_row _) (ClosF_len _) (ClosF_row _)).mono ?_
    rintro e w9 ⟨rfl, b9⟩
    have B9 := btr B8 b9
    go_wp2_with fail
    go_ret
    exact ⟨rfl, B9⟩

namespace lawFnClosureMonotone
theorem own : ownKnob Try.prog.godebug = none := by kernel_rfl
theorem laidOut : laidOutB Try.prog = true := clo_laid
set_option maxRecDepth 100000 in
theorem lifted (os : Os) (started : os.Started) (H : Type) (enc : TypeId × Value → H) :
    ReturnsInHanded {} Try.checked os 5 .any (Rows.fnClosureMonotoneSpec.pre6 enc Try.prog Try.f5 Rows.fnClosureMonotoneRow.domain false) (Rows.fnClosureMonotoneSpec.post enc Try.prog Try.f5 false true false false) := by
  refine returnsInHanded_of_change (C := Try.checked) own started (by kernel_rfl) Try.func5
    (ChangeSpec.witness6 (enc := enc) (C := Try.checked) false ⟨#[], #[.slice none 0 0, .slice none 0 0], []⟩ 8 (by kernel_rfl) (by kernel_rfl) (by kernel_rfl) (by kernel_rfl)) ?_
  intro W base args ds gs before hval0 hW hcnd _
  have hval : ∀ (j : Nat) t v, Try.f5.params[j]? = some t → args[j]? = some v → Value.okWide Try.prog W .any base t v := hval0
  have hW' := hW
  obtain ⟨p, q, hA0, hV, rfl, hfz, hnd⟩ := hW
  have hA : DataW.TrodAll enc Try.prog W 0 (fun _ => true) true Try.f5.params.toList args.toList ds p := hA0
  rw [Try.params5] at hA hval
  obtain ⟨v0, vs0, d0, ds0, p0, q0, hargs, rfl, rfl, h0, r0⟩ := trodAll_cons hA
  obtain ⟨v1, vs1, d1, ds1, p1, q1, rfl, rfl, rfl, h1, r1⟩ := trodAll_cons r0
  obtain ⟨rfl, rfl, rfl⟩ := trodAll_nil r1
  obtain rfl : args = #[v0, v1] := by cases args; simp_all
  obtain ⟨rfl, rfl⟩ := trodVars_none hV
  have k0 := h0
  have lt0 : ∀ x ∈ p0, x.block < W.heap.size := by obtain ⟨m, hm⟩ := k0; exact DataW.trod_lt m _ _ _ hm
  obtain ⟨a0, len0, cap0, rfl⟩ := okWide_slice Try.underlying22 (hval 0 22 v0 rfl rfl)
  obtain ⟨l0, m0, w0⟩ := bytes_of Try.underlying22 Try.underlying5 (by kernel_rfl) h0
  have k1 := h1
  have lt1 : ∀ x ∈ p1, x.block < W.heap.size := by obtain ⟨m, hm⟩ := k1; exact DataW.trod_lt m _ _ _ hm
  obtain ⟨a1, len1, cap1, rfl⟩ := okWide_slice Try.underlying22 (hval 1 22 v1 rfl rfl)
  obtain ⟨l1, m1, w1⟩ := bytes_of Try.underlying22 Try.underlying5 (by kernel_rfl) h1
  clear hA0 hval0
  refine (FnClosureMonotone_walk a0 len0 cap0 a1 len1 cap1 W l0 m0 w0 l1 m1 w1).mono fun e W' ⟨he, bel⟩ => ?_
  subst he
  exact ⟨_, rfl, _, _, _, [], _, [], hW', trodAll_mk1 (shut_bool Try.underlying4 _), (trodAll_cons_mk (Below.trod laidOut (by kernel_rfl) (of_decide_eq_true (by kernel_rfl)) k0 bel lt0) (trodAll_cons_mk (Below.trod laidOut (by kernel_rfl) (of_decide_eq_true (by kernel_rfl)) k1 bel lt1) trodAll_mk0)), rfl, bel.frame _, fun h => by cases h⟩
theorem andTT {a b : Bool} (h1 : a = true) (h2 : b = true) : (a && b) = true := by rw [h1, h2]; rfl
set_option maxHeartbeats 8000000 in
theorem closed : joinedFacts Try.prog 5 Try.f5 Rows.fnClosureMonotoneSpec Rows.fnClosureMonotoneRow = true := by
  unfold joinedFacts
  repeat' (with_reducible refine andTT ?_ ?_)
  all_goals (first | (with_reducible exact clo_laid) | (with_reducible exact clo_maps) | (with_reducible exact clo_heard) | (with_reducible exact clo_enter) | ((with_reducible refine clo_plain _ ?_); rfl) | ((with_reducible refine clo_lifts _ ?_); rfl) | (as_aux_lemma => kernel_rfl))

theorem over : Rows.fnClosureMonotoneRow.holds Try.pinned (OpenSpec.ofChange Rows.fnClosureMonotoneSpec) :=
  OpenClaim.holds_of_wide 5 Try.f5 rfl rfl rfl rfl rfl rfl rfl ⟨rfl, rfl, rfl, rfl, rfl⟩ rfl rfl rfl rfl rfl (by kernel_rfl) Try.func5 closed
    (of_decide_eq_true (by kernel_rfl)) (by unfold Func.isWrapper; first | (rw [if_pos (by decide +kernel)]; kernel_rfl) | (rw [if_neg (by decide +kernel)]; exact ⟨rfl, rfl⟩))
    (fun os started H enc _ => lifted os started H enc)

/-- THE STATEMENT. -/
theorem proved : Rows.FnClosureMonotoneSaid := over
end lawFnClosureMonotone
end Go.Proofs.Ytageodemjlgdcaa
