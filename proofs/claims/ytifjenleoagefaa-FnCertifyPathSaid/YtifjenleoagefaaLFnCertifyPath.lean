/- The law FnCertifyPath returns true at every code; no condition. -/
import Derived.Test.YtifjenleoagefaaCgi
import Derived.Test.YtifjenleoagefaaCge
import Derived.Test.YtifjenleoagefaaCgg
import Derived.Test.YtifjenleoagefaaCtl
import Derived.Test.YtifjenleoagefaaCgf
import Derived.Test.YtifjenleoagefaaCgh
import Derived.Test.YtifjenleoagefaaCgm
import Derived.Test.YtifjenleoagefaaEqZ
import Derived.Test.YtifjenleoagefaaCgn
import Derived.Test.YtifjenleoagefaaCgk
import Derived.Test.YtifjenleoagefaaZbx
import Derived.Test.YtifjenleoagefaaZbn
import Derived.Test.YtifjenleoagefaaClo
import Derived.Carry
import Derived.ChangeOld
import Derived.Lib.SmallJoins
import Derived.Lib.QuietBelow
namespace Go.Proofs.Ytifjenleoagefaa
open Go.ChangeShapes Go.WideShapes Go.ChangeAt Go.RowKit Go.Sort
set_option linter.unusedVariables false
set_option linter.unusedSimpArgs false

set_option maxRecDepth 100000 in
set_option maxHeartbeats 6400000 in
theorem FnCertifyPath_walk (A : Option Addr) (n c : Nat) (w : World) (hc : n ≤ c) (hl : n ≤ maxLen) (hb : BytesAt w w.heap.size A n) :
    Calls Try.prog 6 #[.slice A n c] w fun e w' => e = .returned (.bool true) ∧ Below w.heap.size w w' := by
  unfold maxLen at hl
  by_cases hbign : 1048576 < n
  · have hb' : (1048576 : Int) < n := by omega
    go_enter Try.func6, Try.ntmps6
    go_wp2
    go_ret
    exact ⟨rfl, Below.refl _ _⟩
  have hbn' : (n : Int) ≤ 1048576 := by omega
  have HB := Lib.hid hb
  clear hb hbign
  go_enter Try.func6, Try.ntmps6
  go_wp2_with fail
  refine (DrawCertifyPath_r _ _ _ _ HB.out hc (by omega)).mono ?_
  rintro e w1 ⟨z, Az, cz, x, y, rfl, hz, hx, hy, B1⟩
  have nz : z.length ≤ 4194304 := by have := hz.2.2.1; omega
  have rz : rowsIn z 4194304 := rows_big hz.2.2.2 (by decide)
  have hFl : (PthF z x y).length ≤ 402 := PthF_len z x y
  have conI := fun (W : World) (hb : Below w1.heap.size w1 W) => CertifyPath_i Az cz z x y W (hz.1.below entR hb) nz rz
  have conS := fun (W : World) (hb : Below w1.heap.size w1 W) => CertifyPath_s Az cz z x y W (hz.1.below entR hb) nz rz
  cases hv : edgB z
  · have hB : PthB z x y = false := by simp [PthB, hv]
    rw [hB] at conI conS
    have HV := Lib.hid hv
    clear hv hB
    go_wp2_with fail
    refine (conI _ (Below.refl _ _)).mono ?_
    rintro e w2 ⟨A2, c2, rfl, o2, b2⟩
    have B2 := btr B1 b2
    have a2 := o2.at_
    have k2 := IntsOwn.cap o2
    clear o2
    go_wp2_with fail
    refine (conS _ b2).mono ?_
    rintro e w3 ⟨A3, c3, rfl, o3, b3⟩
    have B3 := btr B2 b3
    have a3 := o3.at_
    clear o3
    go_wp2_with fail
    refine (eqI true (decide_eq_true rfl) (a2.below b3) a3 (by omega) (by omega)).mono ?_
    rintro e w4 ⟨rfl, b4⟩
    have B4 := btr B3 b4
    go_wp2_with fail
    refine (edgZ false HV.out (hz.1.below entR (btr (btr b2 b3) b4)) nz rz).mono ?_
    rintro e w5 ⟨rfl, b5⟩
    have B5 := btr B4 b5
    go_wp2_with fail
    refine (eqI true (decide_eq_true rfl) (a2.below (btr (btr b3 b4) b5)) (a3.below (btr b4 b5)) (by omega) (by omega)).mono ?_
    rintro e w6 ⟨rfl, b6⟩
    have B6 := btr B5 b6
    go_wp2_with fail
    go_ret
    exact ⟨rfl, B6⟩
  cases hB : PthB z x y
  · have HW := Lib.hid (noP_law hv hB)
    rw [hB] at conI conS
    have HV := Lib.hid hv
    clear hv hB
    go_wp2_with fail
    refine (conI _ (Below.refl _ _)).mono ?_
    rintro e w2 ⟨A2, c2, rfl, o2, b2⟩
    have B2 := btr B1 b2
    have a2 := o2.at_
    have k2 := IntsOwn.cap o2
    clear o2
    go_wp2_with fail
    refine (conS _ b2).mono ?_
    rintro e w3 ⟨A3, c3, rfl, o3, b3⟩
    have B3 := btr B2 b3
    have a3 := o3.at_
    clear o3
    go_wp2_with fail
    refine (eqI true (decide_eq_true rfl) (a2.below b3) a3 (by omega) (by omega)).mono ?_
    rintro e w4 ⟨rfl, b4⟩
    have B4 := btr B3 b4
    go_wp2_with fail
    refine (edgZ true HV.out (hz.1.below entR (btr (btr b2 b3) b4)) nz rz).mono ?_
    rintro e w5 ⟨rfl, b5⟩
    have B5 := btr B4 b5
    go_wp2_with fail
    refine (Closure_i _ _ (z) _ (hz.1.below entR (btr (btr (btr b2 b3) b4) b5)) nz rz).mono ?_
    rintro e w6 ⟨A6, c6, rfl, o6, b6⟩
    have B6 := btr B5 b6
    have a6 : EntsAt w6 A6 (ClosF (z)) := SlOw.at_ entO o6
    have bl : Below w6.heap.size w6 (w6.alloc (.cells #[.int .i64 x, .int .i64 y] 3)) := bal (Below.refl _ _) _
    have hI : IntsAt (w6.alloc (.cells #[.int .i64 x, .int .i64 y] 3)) (some ⟨w6.heap.size, 0, none⟩) [x, y] := NewI.ints (Blk.newAt rfl)
    go_wp2_with fail
    refine (weightZ (c := c6) (d := 2) 0 HW.out ((a6).below entR bl) hI (ClosF_len _) (ClosF_row _) (by simp)).mono ?_
    rintro e w7 ⟨rfl, b7⟩
    have B7 := btr (btr B6 bl) b7
    go_wp2_with fail
    go_ret
    exact ⟨rfl, B7⟩
  · have HL := Lib.hid (CerF_law hv hB)
    rw [hB] at conI conS
    have HV := Lib.hid hv
    clear hv hB
    go_wp2_with fail
    refine (conI _ (Below.refl _ _)).mono ?_
    rintro e w2 ⟨A2, c2, rfl, o2, b2⟩
    have B2 := btr B1 b2
    have a2 := o2.at_
    have k2 := IntsOwn.cap o2
    clear o2
    go_wp2_with fail
    refine (conS _ b2).mono ?_
    rintro e w3 ⟨A3, c3, rfl, o3, b3⟩
    have B3 := btr B2 b3
    have a3 := o3.at_
    clear o3
    go_wp2_with fail
    refine (eqI true (decide_eq_true rfl) (a2.below b3) a3 (by omega) (by omega)).mono ?_
    rintro e w4 ⟨rfl, b4⟩
    have B4 := btr B3 b4
    go_wp2_with fail
    refine (edgZ true HV.out (hz.1.below entR (btr (btr b2 b3) b4)) nz rz).mono ?_
    rintro e w5 ⟨rfl, b5⟩
    have B5 := btr B4 b5
    have hck := CheckPath_i Az cz z x y A2 c2 (PthF z x y) w5 ((hz.1.below entR (btr (btr (btr b2 b3) b4) b5))) (a2.below (btr (btr b3 b4) b5)) nz rz (by omega) k2
    rw [HL.out.1] at hck
    go_wp2_with fail
    refine (hck).mono ?_
    rintro e w6 ⟨rfl, b6⟩
    have B6 := btr B5 b6
    go_wp2_with fail
    refine (CertifyClosure_i _ _ (z) _ (hz.1.below entR (btr (btr (btr (btr b2 b3) b4) b5) b6)) nz rz).mono ?_
    rintro e w7 ⟨A7, c7, rfl, o7, b7⟩
    have B7 := btr B6 b7
    have a7 : EntsAt w7 A7 (CerF z) := SlOw.at_ entO o7
    have HLW : Hid (WeightF (CerF z) [x, y, ((PthF z x y).length : Int) - 1] = 1) := HL.out.2
    generalize hPL : (PthF z x y).length = pl at *
    have HPL := Lib.hid hPL
    clear hPL
    have bl : Below w7.heap.size w7 (w7.alloc (.cells #[.int .i64 x, .int .i64 y, .int .i64 ((pl : Int) - 1)] 3)) := bal (Below.refl _ _) _
    have hI : IntsAt (w7.alloc (.cells #[.int .i64 x, .int .i64 y, .int .i64 ((pl : Int) - 1)] 3)) (some ⟨w7.heap.size, 0, none⟩) [x, y, (pl : Int) - 1] := IntsOwn.at_ (base := w7.heap.size) (c := 3) (World.ownsRow_lit (base := w7.heap.size) (size := 1) (e := 3) w7 #[.int .i64 x, .int .i64 y, .int .i64 ((pl : Int) - 1)] 3 (Nat.le_refl _) (by simp [maxLen]) (by simp))
    go_wp2_with fail
    refine (weightZ (c := c7) (d := 3) 1 HLW.out ((a7).below entR bl) hI (Nat.le_trans (CerF_len _) (by decide)) (CerF_row _) (by simp)).mono ?_
    rintro e w8 ⟨rfl, b8⟩
    have B8 := btr (btr B7 bl) b8
    go_wp2_with fail
    go_ret
    exact ⟨rfl, B8⟩

namespace lawFnCertifyPath
theorem own : ownKnob Try.prog.godebug = none := by kernel_rfl
theorem laidOut : laidOutB Try.prog = true := clo_laid
set_option maxRecDepth 100000 in
theorem lifted (os : Os) (started : os.Started) (H : Type) (enc : TypeId × Value → H) :
    ReturnsInHanded {} Try.checked os 6 .any (Rows.fnCertifyPathSpec.pre6 enc Try.prog Try.f6 Rows.fnCertifyPathRow.domain false) (Rows.fnCertifyPathSpec.post enc Try.prog Try.f6 false true false false) := by
  refine returnsInHanded_of_change (C := Try.checked) own started (by kernel_rfl) Try.func6
    (ChangeSpec.witness6 (enc := enc) (C := Try.checked) false ⟨#[], #[.slice none 0 0], []⟩ 8 (by kernel_rfl) (by kernel_rfl) (by kernel_rfl) (by kernel_rfl)) ?_
  intro W base args ds gs before hval0 hW hcnd _
  have hval : ∀ (j : Nat) t v, Try.f6.params[j]? = some t → args[j]? = some v → Value.okWide Try.prog W .any base t v := hval0
  have hW' := hW
  obtain ⟨p, q, hA0, hV, rfl, hfz, hnd⟩ := hW
  have hA : DataW.TrodAll enc Try.prog W 0 (fun _ => true) true Try.f6.params.toList args.toList ds p := hA0
  rw [Try.params6] at hA hval
  obtain ⟨v0, vs0, d0, ds0, p0, q0, hargs, rfl, rfl, h0, r0⟩ := trodAll_cons hA
  obtain ⟨rfl, rfl, rfl⟩ := trodAll_nil r0
  obtain rfl : args = #[v0] := by cases args; simp_all
  obtain ⟨rfl, rfl⟩ := trodVars_none hV
  have k0 := h0
  have lt0 : ∀ x ∈ p0, x.block < W.heap.size := by obtain ⟨m, hm⟩ := k0; exact DataW.trod_lt m _ _ _ hm
  obtain ⟨a0, len0, cap0, rfl⟩ := okWide_slice Try.underlying35 (hval 0 35 v0 rfl rfl)
  obtain ⟨l0, m0, w0⟩ := bytes_of Try.underlying35 Try.underlying5 (by kernel_rfl) h0
  clear hA0 hval0
  refine (FnCertifyPath_walk a0 len0 cap0 W l0 m0 w0).mono fun e W' ⟨he, bel⟩ => ?_
  subst he
  exact ⟨_, rfl, _, _, _, [], _, [], hW', trodAll_mk1 (shut_bool Try.underlying4 _), (trodAll_cons_mk (Below.trod laidOut (by kernel_rfl) (of_decide_eq_true (by kernel_rfl)) k0 bel lt0) trodAll_mk0), rfl, bel.frame _, fun h => by cases h⟩
theorem andTT {a b : Bool} (h1 : a = true) (h2 : b = true) : (a && b) = true := by rw [h1, h2]; rfl
set_option maxHeartbeats 8000000 in
theorem closed : joinedFacts Try.prog 6 Try.f6 Rows.fnCertifyPathSpec Rows.fnCertifyPathRow = true := by
  unfold joinedFacts
  repeat' (with_reducible refine andTT ?_ ?_)
  all_goals (first | (with_reducible exact clo_laid) | (with_reducible exact clo_maps) | (with_reducible exact clo_heard) | (with_reducible exact clo_enter) | ((with_reducible refine clo_plain _ ?_); rfl) | ((with_reducible refine clo_lifts _ ?_); rfl) | (as_aux_lemma => kernel_rfl))

theorem over : Rows.fnCertifyPathRow.holds Try.pinned (OpenSpec.ofChange Rows.fnCertifyPathSpec) :=
  OpenClaim.holds_of_wide 6 Try.f6 rfl rfl rfl rfl rfl rfl rfl ⟨rfl, rfl, rfl, rfl, rfl⟩ rfl rfl rfl rfl rfl (by kernel_rfl) Try.func6 closed
    (of_decide_eq_true (by kernel_rfl)) (by unfold Func.isWrapper; first | (rw [if_pos (by decide +kernel)]; kernel_rfl) | (rw [if_neg (by decide +kernel)]; exact ⟨rfl, rfl⟩))
    (fun os started H enc _ => lifted os started H enc)

/-- THE STATEMENT. -/
theorem proved : Rows.FnCertifyPathSaid := over
end lawFnCertifyPath
end Go.Proofs.Ytifjenleoagefaa
