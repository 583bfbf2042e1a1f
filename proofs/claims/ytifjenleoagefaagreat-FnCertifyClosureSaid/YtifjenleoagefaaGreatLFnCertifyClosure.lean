/- The law FnCertifyClosure returns true at every code; no condition. -/
import Derived.Test.YtifjenleoagefaaGreatCgi
import Derived.Test.YtifjenleoagefaaGreatCtn
import Derived.Test.YtifjenleoagefaaGreatCcm
import Derived.Test.YtifjenleoagefaaGreatCgh
import Derived.Test.YtifjenleoagefaaGreatNrm
import Derived.Test.YtifjenleoagefaaGreatEqZ
import Derived.Test.YtifjenleoagefaaGreatCgn
import Derived.Test.YtifjenleoagefaaGreatCgk
import Derived.Test.YtifjenleoagefaaGreatCrd
import Derived.Test.YtifjenleoagefaaGreatZbx
import Derived.Test.YtifjenleoagefaaGreatZbn
import Derived.Test.YtifjenleoagefaaGreatClo
import Derived.Carry
import Derived.ChangeOld
import Derived.Lib.SmallJoins
import Derived.Lib.QuietBelow
namespace Go.Proofs.YtifjenleoagefaaGreat
open Go.ChangeShapes Go.WideShapes Go.ChangeAt Go.RowKit Go.Sort
set_option linter.unusedVariables false
set_option linter.unusedSimpArgs false

set_option maxHeartbeats 1600000 in
theorem DrawCertifyClosure_r (A : Option Addr) (n c : Nat) (w : World) (hb : BytesAt w w.heap.size A n) (hc : n ≤ c) (hn : n ≤ 1048576) :
    Calls Tryz.prog 14 #[.slice A n c] w (OneE w) := by
  go_enter Tryz.func14, Tryz.ntmps14
  go_wp2_with fail
  refine (newReader_r _ _ _ _ hb hc hn).mono ?_
  rintro e w1 ⟨A1, m1, c1, rfl, r1, b1⟩
  clear hb
  go_wp2_with fail
  refine (anyEdges_r _ _ _ _ _ _ r1 (by omega)).mono ?_
  rintro e w3 ⟨z, A3, c3, q3, rfl, hz, -, -, r3, g3⟩
  go_wp2_with fail
  go_ret
  exact ⟨z, A3, c3, rfl, .of hz, gbelow b1 g3 (Nat.le_refl _)⟩
theorem CckF_cer {es : List Ent} (h : edgB es = true) : CckF es (CerF es) = true := by simp [CckF, CerF, h]
theorem MapF_cer {es : List Ent} (h : edgB es = true) : MapF (CerF es) [0, 1] = ClosF es := by
  have hr := relOf_ok h
  have hz := ent_zs hr
  have hm := map_cer hr
  rw [CerF, if_pos h, ClosF, if_pos h]
  cases he : entT (distT (relOf es)) with
  | nil => rw [← hm, he]; exact MapF_no (colB_zero _)
  | cons e l =>
    have hw : wid (entT (distT (relOf es))) = 3 := by
      obtain ⟨x, y, _, _, _, rfl⟩ := mem_entT.1 (show e ∈ entT (distT (relOf es)) by rw [he]; simp)
      rw [he]; simp [wid, nth]
    rw [← he]
    have e1 : (entT (distT (relOf es))).map (mapE [0, 1]) = prs (closR (relOf es)) := hm
    rw [MapF, hz, hw, e1, NormF_self (prs_zs _)]
    rfl

set_option maxRecDepth 100000 in
set_option maxHeartbeats 6400000 in
theorem FnCertifyClosure_walk (A : Option Addr) (n c : Nat) (w : World) (hc : n ≤ c) (hl : n ≤ maxLen) (hb : BytesAt w w.heap.size A n) :
    Calls Tryz.prog 4 #[.slice A n c] w fun e w' => e = .returned (.bool true) ∧ Below w.heap.size w w' := by
  unfold maxLen at hl
  by_cases hbign : 1048576 < n
  · have hb' : (1048576 : Int) < n := by omega
    go_enter Tryz.func4, Tryz.ntmps4
    go_wp2
    go_ret
    exact ⟨rfl, Below.refl _ _⟩
  have hbn' : (n : Int) ≤ 1048576 := by omega
  have HB := Lib.hid hb
  clear hb hbign
  go_enter Tryz.func4, Tryz.ntmps4
  go_wp2_with fail
  refine (DrawCertifyClosure_r _ _ _ _ HB.out hc (by omega)).mono ?_
  rintro e w1 ⟨z, Az, cz, rfl, hz, B1⟩
  have nz : z.length ≤ 4194304 := by have := hz.2.2.1; omega
  have rz : rowsIn z 4194304 := rows_big hz.2.2.2 (by decide)
  cases hv : edgB z
  · have HV := Lib.hid hv
    clear hv
    go_wp2_with fail
    refine (CertifyClosure_i _ _ (z) _ hz.1 nz rz).mono ?_
    rintro e w2 ⟨A2, c2, rfl, o2, b2⟩
    have B2 := btr B1 b2
    have a2 : EntsAt w2 A2 (CerF z) := SlOw.at_ entO o2
    go_wp2_with fail
    refine (CertifyClosure_s _ _ (z) _ (hz.1.below entR b2) nz rz).mono ?_
    rintro e w3 ⟨A3, c3, rfl, o3, b3⟩
    have B3 := btr B2 b3
    have a3 : EntsAt w3 A3 (CerF z) := SlOw.at_ entO o3
    go_wp2_with fail
    refine (equalZ (xs := CerF z) (ys := CerF z) true (decide_eq_true rfl) (a2.below entR b3) a3 (Nat.le_trans (CerF_len _) (by decide)) (Nat.le_trans (CerF_len _) (by decide)) (CerF_row _) (CerF_row _)).mono ?_
    rintro e w4 ⟨rfl, b4⟩
    have B4 := btr B3 b4
    go_wp2_with fail
    refine (edgZ false HV.out (hz.1.below entR (btr (btr b2 b3) b4)) nz rz).mono ?_
    rintro e w5 ⟨rfl, b5⟩
    have B5 := btr B4 b5
    go_wp2_with fail
    refine (CertifyClosure_s _ _ (z) _ (hz.1.below entR (btr (btr (btr b2 b3) b4) b5)) nz rz).mono ?_
    rintro e w6 ⟨A6, c6, rfl, o6, b6⟩
    have B6 := btr B5 b6
    have a6 : EntsAt w6 A6 (CerF z) := SlOw.at_ entO o6
    go_wp2_with fail
    refine (equalZ (xs := CerF z) (ys := CerF z) true (decide_eq_true rfl) (a2.below entR (btr (btr (btr b3 b4) b5) b6)) a6 (Nat.le_trans (CerF_len _) (by decide)) (Nat.le_trans (CerF_len _) (by decide)) (CerF_row _) (CerF_row _)).mono ?_
    rintro e w7 ⟨rfl, b7⟩
    have B7 := btr B6 b7
    go_wp2_with fail
    go_ret
    exact ⟨rfl, B7⟩
  have HL := Lib.hid (CckF_cer hv)
  have HM := Lib.hid (MapF_cer hv)
  have HV := Lib.hid hv
  clear hv
  go_wp2_with fail
  refine (CertifyClosure_i _ _ (z) _ hz.1 nz rz).mono ?_
  rintro e w2 ⟨A2, c2, rfl, o2, b2⟩
  have B2 := btr B1 b2
  have a2 : EntsAt w2 A2 (CerF z) := SlOw.at_ entO o2
  go_wp2_with fail
  refine (CertifyClosure_s _ _ (z) _ (hz.1.below entR b2) nz rz).mono ?_
  rintro e w3 ⟨A3, c3, rfl, o3, b3⟩
  have B3 := btr B2 b3
  have a3 : EntsAt w3 A3 (CerF z) := SlOw.at_ entO o3
  go_wp2_with fail
  refine (equalZ (xs := CerF z) (ys := CerF z) true (decide_eq_true rfl) (a2.below entR b3) a3 (Nat.le_trans (CerF_len _) (by decide)) (Nat.le_trans (CerF_len _) (by decide)) (CerF_row _) (CerF_row _)).mono ?_
  rintro e w4 ⟨rfl, b4⟩
  have B4 := btr B3 b4
  go_wp2_with fail
  refine (edgZ true HV.out (hz.1.below entR (btr (btr b2 b3) b4)) nz rz).mono ?_
  rintro e w5 ⟨rfl, b5⟩
  have B5 := btr B4 b5
  have hck := CheckClosure_i Az cz z A2 c2 (CerF z) w5 (hz.1.below entR (btr (btr (btr b2 b3) b4) b5)) (a2.below entR (btr (btr b3 b4) b5)) nz rz (Nat.le_trans (CerF_len _) (by decide)) (CerF_row _)
  rw [HL.out] at hck
  go_wp2_with fail
  refine (hck).mono ?_
  rintro e w6 ⟨rfl, b6⟩
  have B6 := btr B5 b6
  have bl : Below w6.heap.size w6 (w6.alloc (.cells #[.int .i64 0, .int .i64 1] 3)) := bal (Below.refl _ _) _
  have hI : IntsAt (w6.alloc (.cells #[.int .i64 0, .int .i64 1] 3)) (some ⟨w6.heap.size, 0, none⟩) [0, 1] := NewI.ints (Blk.newAt rfl)
  go_wp2_with fail
  refine (MapColumns_i _ c2 (CerF z) _ 2 [0, 1] _ (((a2.below entR (btr (btr (btr b3 b4) b5) b6))).below entR bl) hI (Nat.le_trans (CerF_len _) (by decide)) (CerF_row _) (by simp)).mono ?_
  rintro e w7 ⟨A7, c7, rfl, o7, bm⟩
  have b7 := btr bl bm
  have B7 := btr B6 b7
  have a7 : EntsAt w7 A7 (MapF (CerF z) [0, 1]) := SlOw.at_ entO o7
  go_wp2_with fail
  refine (Closure_i _ _ (z) _ (hz.1.below entR (btr (btr (btr (btr (btr b2 b3) b4) b5) b6) b7)) nz rz).mono ?_
  rintro e w8 ⟨A8, c8, rfl, o8, b8⟩
  have B8 := btr B7 b8
  have a8 : EntsAt w8 A8 (ClosF (z)) := SlOw.at_ entO o8
  go_wp2_with fail
  refine (equalZ (xs := MapF (CerF z) [0, 1]) (ys := ClosF (z)) true (decide_eq_true HM.out) (a7.below entR b8) a8 (Nat.le_trans (MapF_len _ _) (by decide)) (ClosF_len _) (rows_big (MapF_row _ _) (by decide)) (ClosF_row _)).mono ?_
  rintro e w9 ⟨rfl, b9⟩
  have B9 := btr B8 b9
  go_wp2_with fail
  go_ret
  exact ⟨rfl, B9⟩

namespace lawFnCertifyClosure
theorem own : ownKnob Tryz.prog.godebug = none := by kernel_rfl
theorem laidOut : laidOutB Tryz.prog = true := clo_laid
set_option maxRecDepth 100000 in
theorem lifted (os : Os) (started : os.Started) (H : Type) (enc : TypeId × Value → H) :
    ReturnsInHanded {} Tryz.checked os 4 .any (Rows.fnCertifyClosureSpec.pre6 enc Tryz.prog Tryz.f4 Rows.fnCertifyClosureRow.domain false) (Rows.fnCertifyClosureSpec.post enc Tryz.prog Tryz.f4 false true false false) := by
  refine returnsInHanded_of_change (C := Tryz.checked) own started (by kernel_rfl) Tryz.func4
    (ChangeSpec.witness6 (enc := enc) (C := Tryz.checked) false ⟨#[], #[.slice none 0 0], []⟩ 8 (by kernel_rfl) (by kernel_rfl) (by kernel_rfl) (by kernel_rfl)) ?_
  intro W base args ds gs before hval0 hW hcnd _
  have hval : ∀ (j : Nat) t v, Tryz.f4.params[j]? = some t → args[j]? = some v → Value.okWide Tryz.prog W .any base t v := hval0
  have hW' := hW
  obtain ⟨p, q, hA0, hV, rfl, hfz, hnd⟩ := hW
  have hA : DataW.TrodAll enc Tryz.prog W 0 (fun _ => true) true Tryz.f4.params.toList args.toList ds p := hA0
  rw [Tryz.params4] at hA hval
  obtain ⟨v0, vs0, d0, ds0, p0, q0, hargs, rfl, rfl, h0, r0⟩ := trodAll_cons hA
  obtain ⟨rfl, rfl, rfl⟩ := trodAll_nil r0
  obtain rfl : args = #[v0] := by cases args; simp_all
  obtain ⟨rfl, rfl⟩ := trodVars_none hV
  have k0 := h0
  have lt0 : ∀ x ∈ p0, x.block < W.heap.size := by obtain ⟨m, hm⟩ := k0; exact DataW.trod_lt m _ _ _ hm
  obtain ⟨a0, len0, cap0, rfl⟩ := okWide_slice Tryz.underlying22 (hval 0 22 v0 rfl rfl)
  obtain ⟨l0, m0, w0⟩ := bytes_of Tryz.underlying22 Tryz.underlying5 (by kernel_rfl) h0
  clear hA0 hval0
  refine (FnCertifyClosure_walk a0 len0 cap0 W l0 m0 w0).mono fun e W' ⟨he, bel⟩ => ?_
  subst he
  exact ⟨_, rfl, _, _, _, [], _, [], hW', trodAll_mk1 (shut_bool Tryz.underlying4 _), (trodAll_cons_mk (Below.trod laidOut (by kernel_rfl) (of_decide_eq_true (by kernel_rfl)) k0 bel lt0) trodAll_mk0), rfl, bel.frame _, fun h => by cases h⟩
theorem andTT {a b : Bool} (h1 : a = true) (h2 : b = true) : (a && b) = true := by rw [h1, h2]; rfl
set_option maxHeartbeats 8000000 in
theorem closed : joinedFacts Tryz.prog 4 Tryz.f4 Rows.fnCertifyClosureSpec Rows.fnCertifyClosureRow = true := by
  unfold joinedFacts
  repeat' (with_reducible refine andTT ?_ ?_)
  all_goals (first | (with_reducible exact clo_laid) | (with_reducible exact clo_maps) | (with_reducible exact clo_heard) | (with_reducible exact clo_enter) | ((with_reducible refine clo_plain _ ?_); rfl) | ((with_reducible refine clo_lifts _ ?_); rfl) | (as_aux_lemma => kernel_rfl))

theorem over : Rows.fnCertifyClosureRow.holds Tryz.pinned (OpenSpec.ofChange Rows.fnCertifyClosureSpec) :=
  OpenClaim.holds_of_wide 4 Tryz.f4 rfl rfl rfl rfl rfl rfl rfl ⟨rfl, rfl, rfl, rfl, rfl⟩ rfl rfl rfl rfl rfl (by kernel_rfl) Tryz.func4 closed
    (of_decide_eq_true (by kernel_rfl)) (by unfold Func.isWrapper; first | (rw [if_pos (by decide +kernel)]; kernel_rfl) | (rw [if_neg (by decide +kernel)]; exact ⟨rfl, rfl⟩))
    (fun os started H enc _ => lifted os started H enc)

/-- THE STATEMENT. -/
theorem proved : Rows.FnCertifyClosureSaid := over
end lawFnCertifyClosure
end Go.Proofs.YtifjenleoagefaaGreat
