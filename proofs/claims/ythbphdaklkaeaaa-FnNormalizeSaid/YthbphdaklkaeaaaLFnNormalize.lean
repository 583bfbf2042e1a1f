/- The law FnNormalize returns true at every code; no condition. -/
import Derived.Test.YthbphdaklkaeaaaDrawM
import Derived.Test.YthbphdaklkaeaaaEqZ
import Derived.Test.YthbphdaklkaeaaaZn
import Derived.Test.YthbphdaklkaeaaaPl
import Derived.Test.YthbphdaklkaeaaaNormI
import Derived.Test.YthbphdaklkaeaaaNormS
import Derived.Test.YthbphdaklkaeaaaClo
import Derived.Carry
import Derived.ChangeOld
import Derived.Lib.SmallJoins
import Derived.Lib.QuietBelow
namespace Go.Proofs.Ythbphdaklkaeaaa
open Go.ChangeShapes Go.WideShapes Go.ChangeAt Go.RowKit Go.Sort
set_option linter.unusedVariables false
set_option linter.unusedSimpArgs false

set_option maxRecDepth 100000 in
set_option maxHeartbeats 6400000 in
theorem FnNormalize_walk (A : Option Addr) (n c : Nat) (w : World) (hc : n ≤ c) (hl : n ≤ maxLen) (hb : BytesAt w w.heap.size A n) :
    Calls Try.prog 4 #[.slice A n c] w fun e w' => e = .returned (.bool true) ∧ Below w.heap.size w w' := by
  unfold maxLen at hl
  by_cases hbign : 1048576 < n
  · have hb' : (1048576 : Int) < n := by omega
    go_enter Try.func4, Try.ntmps4
    go_wp2
    go_ret
    exact ⟨rfl, Below.refl _ _⟩
  have hbn' : (n : Int) ≤ 1048576 := by omega
  have HB := Lib.hid hb
  clear hb hbign
  go_enter Try.func4, Try.ntmps4
  go_wp2_with fail
  refine (DrawNormalize_r _ _ _ _ HB.out hc (by omega)).mono ?_
  rintro e w1 ⟨z, Az, cz, rfl, hz, B1⟩
  have nz : z.length ≤ 4194304 := by have := hz.2.1; omega
  have rz : rowsIn z 4194304 := rows_big hz.2.2.1 (by decide)
  go_wp2_with fail
  refine (Normalize_i _ _ (z) _ (SlOw.at_ entO hz.1) nz rz).mono ?_
  rintro e w2 ⟨A2, c2, rfl, o2, b2⟩
  have B2 := btr B1 b2
  have a2 : EntsAt w2 A2 (NormF (z)) := SlOw.at_ entO o2
  go_wp2_with fail
  refine (Normalize_s _ _ (z) _ ((SlOw.at_ entO hz.1).below entR b2) nz rz).mono ?_
  rintro e w3 ⟨A3, c3, rfl, o3, b3⟩
  have B3 := btr B2 b3
  have a3 : EntsAt w3 A3 (NormF (z)) := SlOw.at_ entO o3
  go_wp2_with fail
  refine (equalZ (xs := NormF (z)) (ys := NormF (z)) true (decide_eq_true rfl) (a2.below entR b3) a3 (Nat.le_trans (NormF_len _) (by decide)) (Nat.le_trans (NormF_len _) (by decide)) (rows_big (NormF_row _) (by decide)) (rows_big (NormF_row _) (by decide))).mono ?_
  rintro e w4 ⟨rfl, b4⟩
  have B4 := btr B3 b4
  have hatz : EntsAt w4 Az z := ((SlOw.at_ entO hz.1).below entR (btr (btr b2 b3) b4))
  have hatn : EntsAt w4 A2 (NormF z) := (a2.below entR (btr b3 b4))
  have hzl := hz.2.1
  have HW := Lib.hid hz.2.2.2
  have HNW := Lib.hid (fun e he => NormF_wt (l := z) (e := e) he)
  have HVN := Lib.hid (zsB_NormF z)
  have hnl := NormF_len z
  have HNR := Lib.hid (NormF_row z)
  clear hz
  generalize hNN : NormF z = N at *
  have HSelf : Hid (NormF N = N) := NormF_self HVN.out
  clear hNN
  go_wp2
  go_loopw [5] (fun i wr => ∃ k : Nat, k ≤ N.length ∧ i = .int .i64 k ∧ Below w4.heap.size w4 wr) (fun i _ => N.length - (intOf i).toNat)
  case atStart => exact ⟨0, by omega, rfl, Below.refl _ _⟩
  case round =>
    obtain ⟨i, hi, rfl, b5⟩ := hrel
    by_cases hlt : i < N.length
    · have hi1 : (i : Int) < N.length := by omega
      have hkey := HNW.out _ (List.getElem_mem hlt)
      have HK := Lib.hid hkey
      have hnrl := HNR.out _ (List.getElem_mem hlt)
      obtain ⟨bn, on, RN, cn, hNe, hbn, hn0, hn1, -, hnrow⟩ := hatn.get i hlt
      subst hNe
      clear hkey
      go_wp2
      go_loopw [6, 7] (fun s j wr => ∃ m : Nat, m ≤ z.length ∧ j = .int .i64 m ∧ s = .int .i64 (wsum (z.take m) N[i].1) ∧ Hid (-4000000 * (m : Int) ≤ wsum (z.take m) N[i].1 ∧ wsum (z.take m) N[i].1 ≤ 4000000 * m) ∧ Below w4.heap.size w4 wr) (fun _ j _ => z.length - (intOf j).toNat)
      case atStart => exact ⟨0, by omega, rfl, by simp [wsum_nil], by simp [Hid, wsum_nil], b5⟩
      case round =>
        obtain ⟨m, hm, rfl, rfl, HBD, bm⟩ := hrel
        have hbd := HBD.out
        by_cases hmt : m < z.length
        · have hm1 : (m : Int) < z.length := by omega
          have hst : wsum (z.take (m + 1)) N[i].1 = wsum (z.take m) N[i].1 + if z[m].1 = N[i].1 then z[m].2 else 0 := by
            rw [List.take_succ_eq_append_getElem hmt, wsum_append, wsum_cons, wsum_nil]; omega
          have hwm := HW.out _ (List.getElem_mem hmt)
          obtain ⟨b, off, RA, rc, hAe, hbl, hc0, hc1, -, hrow⟩ := hatz.get m hmt
          subst hAe
          have q0 := cgrowZ ((bm.cell (p := ⟨b, off + m * 2, none⟩) hbl).trans hc0)
          have q2 := cgrowZ ((bm.cell (p := ⟨bn, on + i * 2, none⟩) hbn).trans hn0)
          have hrl := rz.get hmt
          have hcon := fun W (hW : Below wr.heap.size wr W) => equalInts_l RA RN rc cn z[m].1 N[i].1 W ((hrow.below bm).below hW) ((hnrow.below bm).below hW) (by omega) (by omega)
          generalize hS : wsum (z.take m) N[i].1 = sv at *
          by_cases he : z[m].1 = N[i].1
          · rw [if_pos he] at hst
            rw [show decide (z[m].1 = N[i].1) = true by simp [he]] at hcon
            have HST := Lib.hid hst
            clear hst he hS
            go_wp2_with fail
            refine wp_region_quiet_below (by kernel_rfl) (by kernel_rfl) ?_
            repeat (go_big_quiet_step (exact Calls.regrown_of (hcon _ (below_regrown _ _ _))))
            refine wpQuiet_nil ?_
            intro wq hwq
            obtain ⟨⟨dq, osq⟩, rfl⟩ := hwq
            have hbq := btr bm (below_regrown wr dq osq)
            generalize grow (redrawn wr dq) osq = w9 at hbq
            clear q0 q2 hcon
            have q1 := (hbq.cell (p := ⟨b, off + m * 2 + 1, none⟩) hbl).trans hc1
            have HB2 : Hid (-4000000 * ((m + 1 : Nat) : Int) ≤ sv + z[m].2 ∧ sv + z[m].2 ≤ 4000000 * ((m + 1 : Nat) : Int)) := ⟨by omega, by omega⟩
            go_wp2
            go_roundw
            case rel => exact ⟨m + 1, by omega, by go_num, by rw [HST.out], by rw [HST.out]; exact HB2, hbq⟩
            case measure => simp [intOf]; omega
          · rw [if_neg he] at hst
            rw [show decide (z[m].1 = N[i].1) = false by simp [he]] at hcon
            have HST := Lib.hid hst
            clear hst he hS
            go_wp2_with fail
            refine wp_region_quiet_below (by kernel_rfl) (by kernel_rfl) ?_
            repeat (go_big_quiet_step (exact Calls.regrown_of (hcon _ (below_regrown _ _ _))))
            refine wpQuiet_nil ?_
            intro wq hwq
            obtain ⟨⟨dq, osq⟩, rfl⟩ := hwq
            have hbq := btr bm (below_regrown wr dq osq)
            generalize grow (redrawn wr dq) osq = w9 at hbq
            clear q0 q2 hcon
            have HB2 : Hid (-4000000 * ((m + 1 : Nat) : Int) ≤ sv + 0 ∧ sv + 0 ≤ 4000000 * ((m + 1 : Nat) : Int)) := ⟨by omega, by omega⟩
            go_wp2
            go_roundw
            case rel => exact ⟨m + 1, by omega, by go_num, by rw [HST.out, Int.add_zero], by rw [HST.out]; exact HB2, hbq⟩
            case measure => simp [intOf]; omega
        · obtain rfl : m = z.length := by omega
          rw [List.take_length, HK.out]
          have q1 := (bm.cell (p := ⟨bn, on + i * 2 + 1, none⟩) hbn).trans hn1
          have hne : (N[i].2 != N[i].2) = false := by simp
          clear hbd HBD
          go_wp2
          go_roundw
          case rel => exact ⟨i + 1, by omega, by go_num, bm⟩
          case measure => simp [intOf]; omega
    · obtain rfl : i = N.length := by omega
      have B5 := btr B4 b5
      go_wp2_with fail
      refine (validZ true HVN.out (hatn.below entR b5) (Nat.le_trans hnl (by decide)) (rows_big HNR.out (by decide))).mono ?_
      rintro e w6 ⟨rfl, b6⟩
      have B6 := btr B5 b6
      go_wp2_with fail
      refine (Normalize_i _ _ (N) _ (hatn.below entR (btr b5 b6)) (Nat.le_trans hnl (by decide)) (rows_big HNR.out (by decide))).mono ?_
      rintro e w7 ⟨A7, c7, rfl, o7, b7⟩
      have B7 := btr B6 b7
      have a7 : EntsAt w7 A7 (NormF (N)) := SlOw.at_ entO o7
      go_wp2_with fail
      refine (equalZ (xs := NormF (N)) (ys := N) true (decide_eq_true HSelf.out) a7 (hatn.below entR (btr (btr b5 b6) b7)) (Nat.le_trans (NormF_len _) (by decide)) (Nat.le_trans hnl (by decide)) (rows_big (NormF_row _) (by decide)) (rows_big HNR.out (by decide))).mono ?_
      rintro e w8 ⟨rfl, b8⟩
      have B8 := btr B7 b8
      go_wp2_with fail
      go_ret
      exact ⟨rfl, B8⟩

namespace lawFnNormalize
theorem own : ownKnob Try.prog.godebug = none := by kernel_rfl
theorem laidOut : laidOutB Try.prog = true := clo_laid
set_option maxRecDepth 100000 in
theorem lifted (os : Os) (started : os.Started) (H : Type) (enc : TypeId × Value → H) :
    ReturnsInHanded {} Try.checked os 4 .any (Rows.fnNormalizeSpec.pre6 enc Try.prog Try.f4 Rows.fnNormalizeRow.domain false) (Rows.fnNormalizeSpec.post enc Try.prog Try.f4 false true false false) := by
  refine returnsInHanded_of_change (C := Try.checked) own started (by kernel_rfl) Try.func4
    (ChangeSpec.witness6 (enc := enc) (C := Try.checked) false ⟨#[], #[.slice none 0 0], []⟩ 8 (by kernel_rfl) (by kernel_rfl) (by kernel_rfl) (by kernel_rfl)) ?_
  intro W base args ds gs before hval0 hW hcnd _
  have hval : ∀ (j : Nat) t v, Try.f4.params[j]? = some t → args[j]? = some v → Value.okWide Try.prog W .any base t v := hval0
  have hW' := hW
  obtain ⟨p, q, hA0, hV, rfl, hfz, hnd⟩ := hW
  have hA : DataW.TrodAll enc Try.prog W 0 (fun _ => true) true Try.f4.params.toList args.toList ds p := hA0
  rw [Try.params4] at hA hval
  obtain ⟨v0, vs0, d0, ds0, p0, q0, hargs, rfl, rfl, h0, r0⟩ := trodAll_cons hA
  obtain ⟨rfl, rfl, rfl⟩ := trodAll_nil r0
  obtain rfl : args = #[v0] := by cases args; simp_all
  obtain ⟨rfl, rfl⟩ := trodVars_none hV
  have k0 := h0
  have lt0 : ∀ x ∈ p0, x.block < W.heap.size := by obtain ⟨m, hm⟩ := k0; exact DataW.trod_lt m _ _ _ hm
  obtain ⟨a0, len0, cap0, rfl⟩ := okWide_slice Try.underlying22 (hval 0 22 v0 rfl rfl)
  obtain ⟨l0, m0, w0⟩ := bytes_of Try.underlying22 Try.underlying5 (by kernel_rfl) h0
  clear hA0 hval0
  refine (FnNormalize_walk a0 len0 cap0 W l0 m0 w0).mono fun e W' ⟨he, bel⟩ => ?_
  subst he
  exact ⟨_, rfl, _, _, _, [], _, [], hW', trodAll_mk1 (shut_bool Try.underlying4 _), (trodAll_cons_mk (Below.trod laidOut (by kernel_rfl) (of_decide_eq_true (by kernel_rfl)) k0 bel lt0) trodAll_mk0), rfl, bel.frame _, fun h => by cases h⟩
theorem andTT {a b : Bool} (h1 : a = true) (h2 : b = true) : (a && b) = true := by rw [h1, h2]; rfl
set_option maxHeartbeats 8000000 in
theorem closed : joinedFacts Try.prog 4 Try.f4 Rows.fnNormalizeSpec Rows.fnNormalizeRow = true := by
  unfold joinedFacts
  repeat' (with_reducible refine andTT ?_ ?_)
  all_goals (first | (with_reducible exact clo_laid) | (with_reducible exact clo_maps) | (with_reducible exact clo_heard) | (with_reducible exact clo_enter) | ((with_reducible refine clo_plain _ ?_); rfl) | ((with_reducible refine clo_lifts _ ?_); rfl) | (as_aux_lemma => kernel_rfl))

theorem over : Rows.fnNormalizeRow.holds Try.pinned (OpenSpec.ofChange Rows.fnNormalizeSpec) :=
  OpenClaim.holds_of_wide 4 Try.f4 rfl rfl rfl rfl rfl rfl rfl ⟨rfl, rfl, rfl, rfl, rfl⟩ rfl rfl rfl rfl rfl (by kernel_rfl) Try.func4 closed
    (of_decide_eq_true (by kernel_rfl)) (by unfold Func.isWrapper; first | (rw [if_pos (by decide +kernel)]; kernel_rfl) | (rw [if_neg (by decide +kernel)]; exact ⟨rfl, rfl⟩))
    (fun os started H enc _ => lifted os started H enc)

/-- THE STATEMENT. -/
theorem proved : Rows.FnNormalizeSaid := over
end lawFnNormalize
end Go.Proofs.Ythbphdaklkaeaaa
