/- The law FnDistinct returns true at every code; no condition. -/
import Derived.Test.YthbphdaklkaeaaaDrawE
import Derived.Test.YthbphdaklkaeaaaEqZ
import Derived.Test.YthbphdaklkaeaaaZn
import Derived.Test.YthbphdaklkaeaaaPl
import Derived.Test.YthbphdaklkaeaaaDisI
import Derived.Test.YthbphdaklkaeaaaClo
import Derived.Carry
import Derived.ChangeOld
import Derived.Lib.SmallJoins
import Derived.Lib.QuietBelow
namespace Go.Proofs.Ythbphdaklkaeaaa
open Go.ChangeShapes Go.WideShapes Go.ChangeAt Go.RowKit Go.Sort
set_option linter.unusedVariables false
set_option linter.unusedSimpArgs false

set_option maxRecDepth 100000 in
set_option maxHeartbeats 6400000 in
theorem FnDistinct_walk (A : Option Addr) (n c : Nat) (w : World) (hc : n ≤ c) (hl : n ≤ maxLen) (hb : BytesAt w w.heap.size A n) :
    Calls Try.prog 9 #[.slice A n c] w fun e w' => e = .returned (.bool true) ∧ Below w.heap.size w w' := by
  unfold maxLen at hl
  by_cases hbign : 1048576 < n
  · have hb' : (1048576 : Int) < n := by omega
    go_enter Try.func9, Try.ntmps9
    go_wp2
    go_ret
    exact ⟨rfl, Below.refl _ _⟩
  have hbn' : (n : Int) ≤ 1048576 := by omega
  have HB := Lib.hid hb
  clear hb hbign
  go_enter Try.func9, Try.ntmps9
  go_wp2_with fail
  refine (DrawDistinct_r _ _ _ _ HB.out hc (by omega)).mono ?_
  rintro e w1 ⟨z, Az, cz, rfl, hz, B1⟩
  have nz : z.length ≤ 4194304 := by have := hz.2.1; omega
  have rz : rowsIn z 4194304 := rows_big hz.2.2.1 (by decide)
  by_cases hv : zsB z = true
  · have HV := Lib.hid hv
    have htd : (TotF (DisF z) == ((DisF z).length : Int)) = true := by rw [TotF_DisF hv]; simp
    have hdl := DisF_len z
    have hse := setB_eq hv
    clear hv
    cases hS : setB z
    · have HS := Lib.hid hS
      have HE := Lib.hid (hse.symm.trans hS)
      clear hS hse
      go_wp2_with fail
      refine (Distinct_i _ _ (z) _ (SlOw.at_ entO hz.1) nz rz).mono ?_
      rintro e w2 ⟨A2, c2, rfl, o2, b2⟩
      have B2 := btr B1 b2
      have a2 : EntsAt w2 A2 (DisF (z)) := SlOw.at_ entO o2
      go_wp2_with fail
      refine (Distinct_s _ _ (z) _ ((SlOw.at_ entO hz.1).below entR b2) nz rz).mono ?_
      rintro e w3 ⟨A3, c3, rfl, o3, b3⟩
      have B3 := btr B2 b3
      have a3 : EntsAt w3 A3 (DisF (z)) := SlOw.at_ entO o3
      go_wp2_with fail
      refine (equalZ (xs := DisF (z)) (ys := DisF (z)) true (decide_eq_true rfl) (a2.below entR b3) a3 (Nat.le_trans (DisF_len _) (by decide)) (Nat.le_trans (DisF_len _) (by decide)) (rows_big (DisF_row _) (by decide)) (rows_big (DisF_row _) (by decide))).mono ?_
      rintro e w4 ⟨rfl, b4⟩
      have B4 := btr B3 b4
      go_wp2_with fail
      refine (validZ true HV.out ((SlOw.at_ entO hz.1).below entR (btr (btr b2 b3) b4)) nz rz).mono ?_
      rintro e w5 ⟨rfl, b5⟩
      have B5 := btr B4 b5
      have hatz : EntsAt w5 Az z := ((SlOw.at_ entO hz.1).below entR (btr (btr (btr b2 b3) b4) b5))
      have hatd : EntsAt w5 A2 (DisF z) := (a2.below entR (btr (btr b3 b4) b5))
      go_wp2
      go_loopw [5] (fun i wr => ∃ k : Nat, k ≤ z.length ∧ i = .int .i64 k ∧ Below w5.heap.size w5 wr) (fun i _ => z.length - (intOf i).toNat)
      case atStart => exact ⟨0, by omega, rfl, Below.refl _ _⟩
      case round =>
        obtain ⟨k, hk, rfl, b6⟩ := hrel
        by_cases hlt : k < z.length
        · obtain ⟨b, off, RA, rc, hAe, hbl, hc0, hc1, -, hrow⟩ := EntsAt.get (hatz.below entR b6) k hlt
          subst hAe
          have q0 := cgrowZ hc0
          have q1 := cgrowZ hc1
          have hrl := rz.get hlt
          have hk1 : (k : Int) < z.length := by omega
          clear hc0 hc1
          by_cases hp : 0 < z[k].2
          · have hcon := fun W (hW : Below wr.heap.size wr W) => weightZ (c := c2) (d := rc) 1 (WeightF_dis_pos HV.out hlt hp) ((hatd.below entR b6).below entR hW) (hrow.below hW) (Nat.le_trans (DisF_len _) (by decide)) (rows_big (DisF_row _) (by decide)) hrl
            have hgt : decide (0 < z[k].2) = true := by simpa using hp
            clear hp
            go_wp2_with fail
            refine wp_region_quiet_below (by kernel_rfl) (by kernel_rfl) ?_
            repeat (go_big_quiet_step (exact Calls.regrown_of (hcon _ (below_regrown _ _ _))))
            refine wpQuiet_nil ?_
            intro wq hwq
            obtain ⟨⟨dq, osq⟩, rfl⟩ := hwq
            have hbq := btr b6 (below_regrown wr dq osq)
            generalize grow (redrawn wr dq) osq = w4 at hbq
            clear q0 q1 hcon
            go_wp2
            go_roundw
            case rel => exact ⟨k + 1, by omega, by go_num, hbq⟩
            case measure => simp [intOf]; omega
          · have hcon := fun W (hW : Below wr.heap.size wr W) => weightZ (c := c2) (d := rc) 0 (WeightF_dis_neg HV.out hlt hp) ((hatd.below entR b6).below entR hW) (hrow.below hW) (Nat.le_trans (DisF_len _) (by decide)) (rows_big (DisF_row _) (by decide)) hrl
            have hgt : decide (0 < z[k].2) = false := by simpa using hp
            clear hp
            go_wp2_with fail
            refine wp_region_quiet_below (by kernel_rfl) (by kernel_rfl) ?_
            repeat (go_big_quiet_step (exact Calls.regrown_of (hcon _ (below_regrown _ _ _))))
            refine wpQuiet_nil ?_
            intro wq hwq
            obtain ⟨⟨dq, osq⟩, rfl⟩ := hwq
            have hbq := btr b6 (below_regrown wr dq osq)
            generalize grow (redrawn wr dq) osq = w4 at hbq
            clear q0 q1 hcon
            go_wp2
            go_roundw
            case rel => exact ⟨k + 1, by omega, by go_num, hbq⟩
            case measure => simp [intOf]; omega
        · obtain rfl : k = z.length := by omega
          have B6 := btr B5 b6
          go_wp2_with fail
          refine (issetZ true (setB_DisF HV.out) (a2.below entR (btr (btr (btr b3 b4) b5) b6)) (Nat.le_trans (DisF_len _) (by decide)) (rows_big (DisF_row _) (by decide))).mono ?_
          rintro e w7 ⟨rfl, b7⟩
          have B7 := btr B6 b7
          go_wp2_with fail
          refine (Distinct_i _ _ (DisF (z)) _ (a2.below entR (btr (btr (btr (btr b3 b4) b5) b6) b7)) (Nat.le_trans (DisF_len _) (by decide)) (rows_big (DisF_row _) (by decide))).mono ?_
          rintro e w8 ⟨A8, c8, rfl, o8, b8⟩
          have B8 := btr B7 b8
          have a8 : EntsAt w8 A8 (DisF (DisF (z))) := SlOw.at_ entO o8
          go_wp2_with fail
          refine (equalZ (xs := DisF (DisF (z))) (ys := DisF (z)) true (decide_eq_true (DisF_DisF HV.out)) a8 (a2.below entR (btr (btr (btr (btr (btr b3 b4) b5) b6) b7) b8)) (Nat.le_trans (DisF_len _) (by decide)) (Nat.le_trans (DisF_len _) (by decide)) (rows_big (DisF_row _) (by decide)) (rows_big (DisF_row _) (by decide))).mono ?_
          rintro e w9 ⟨rfl, b9⟩
          have B9 := btr B8 b9
          go_wp2_with fail
          refine (issetZ false HS.out ((SlOw.at_ entO hz.1).below entR (btr (btr (btr (btr (btr (btr (btr b2 b3) b4) b5) b6) b7) b8) b9)) nz rz).mono ?_
          rintro e w10 ⟨rfl, b10⟩
          have B10 := btr B9 b10
          go_wp2_with fail
          refine (equalZ (xs := DisF (z)) (ys := z) false HE.out (a2.below entR (btr (btr (btr (btr (btr (btr (btr b3 b4) b5) b6) b7) b8) b9) b10)) ((SlOw.at_ entO hz.1).below entR (btr (btr (btr (btr (btr (btr (btr (btr b2 b3) b4) b5) b6) b7) b8) b9) b10)) (Nat.le_trans (DisF_len _) (by decide)) nz (rows_big (DisF_row _) (by decide)) rz).mono ?_
          rintro e w11 ⟨rfl, b11⟩
          have B11 := btr B10 b11
          go_wp2_with fail
          refine (TotalWeight_i _ _ (DisF (z)) _ (a2.below entR (btr (btr (btr (btr (btr (btr (btr (btr b3 b4) b5) b6) b7) b8) b9) b10) b11)) (Nat.le_trans (DisF_len _) (by decide)) (rows_big (DisF_row _) (by decide))).mono ?_
          rintro e w12 ⟨rfl, b12⟩
          have B12 := btr B11 b12
          go_wp2_with fail
          go_ret
          exact ⟨rfl, B12⟩
    · have HS := Lib.hid hS
      have HE := Lib.hid (hse.symm.trans hS)
      clear hS hse
      go_wp2_with fail
      refine (Distinct_i _ _ (z) _ (SlOw.at_ entO hz.1) nz rz).mono ?_
      rintro e w2 ⟨A2, c2, rfl, o2, b2⟩
      have B2 := btr B1 b2
      have a2 : EntsAt w2 A2 (DisF (z)) := SlOw.at_ entO o2
      go_wp2_with fail
      refine (Distinct_s _ _ (z) _ ((SlOw.at_ entO hz.1).below entR b2) nz rz).mono ?_
      rintro e w3 ⟨A3, c3, rfl, o3, b3⟩
      have B3 := btr B2 b3
      have a3 : EntsAt w3 A3 (DisF (z)) := SlOw.at_ entO o3
      go_wp2_with fail
      refine (equalZ (xs := DisF (z)) (ys := DisF (z)) true (decide_eq_true rfl) (a2.below entR b3) a3 (Nat.le_trans (DisF_len _) (by decide)) (Nat.le_trans (DisF_len _) (by decide)) (rows_big (DisF_row _) (by decide)) (rows_big (DisF_row _) (by decide))).mono ?_
      rintro e w4 ⟨rfl, b4⟩
      have B4 := btr B3 b4
      go_wp2_with fail
      refine (validZ true HV.out ((SlOw.at_ entO hz.1).below entR (btr (btr b2 b3) b4)) nz rz).mono ?_
      rintro e w5 ⟨rfl, b5⟩
      have B5 := btr B4 b5
      have hatz : EntsAt w5 Az z := ((SlOw.at_ entO hz.1).below entR (btr (btr (btr b2 b3) b4) b5))
      have hatd : EntsAt w5 A2 (DisF z) := (a2.below entR (btr (btr b3 b4) b5))
      go_wp2
      go_loopw [5] (fun i wr => ∃ k : Nat, k ≤ z.length ∧ i = .int .i64 k ∧ Below w5.heap.size w5 wr) (fun i _ => z.length - (intOf i).toNat)
      case atStart => exact ⟨0, by omega, rfl, Below.refl _ _⟩
      case round =>
        obtain ⟨k, hk, rfl, b6⟩ := hrel
        by_cases hlt : k < z.length
        · obtain ⟨b, off, RA, rc, hAe, hbl, hc0, hc1, -, hrow⟩ := EntsAt.get (hatz.below entR b6) k hlt
          subst hAe
          have q0 := cgrowZ hc0
          have q1 := cgrowZ hc1
          have hrl := rz.get hlt
          have hk1 : (k : Int) < z.length := by omega
          clear hc0 hc1
          by_cases hp : 0 < z[k].2
          · have hcon := fun W (hW : Below wr.heap.size wr W) => weightZ (c := c2) (d := rc) 1 (WeightF_dis_pos HV.out hlt hp) ((hatd.below entR b6).below entR hW) (hrow.below hW) (Nat.le_trans (DisF_len _) (by decide)) (rows_big (DisF_row _) (by decide)) hrl
            have hgt : decide (0 < z[k].2) = true := by simpa using hp
            clear hp
            go_wp2_with fail
            refine wp_region_quiet_below (by kernel_rfl) (by kernel_rfl) ?_
            repeat (go_big_quiet_step (exact Calls.regrown_of (hcon _ (below_regrown _ _ _))))
            refine wpQuiet_nil ?_
            intro wq hwq
            obtain ⟨⟨dq, osq⟩, rfl⟩ := hwq
            have hbq := btr b6 (below_regrown wr dq osq)
            generalize grow (redrawn wr dq) osq = w4 at hbq
            clear q0 q1 hcon
            go_wp2
            go_roundw
            case rel => exact ⟨k + 1, by omega, by go_num, hbq⟩
            case measure => simp [intOf]; omega
          · have hcon := fun W (hW : Below wr.heap.size wr W) => weightZ (c := c2) (d := rc) 0 (WeightF_dis_neg HV.out hlt hp) ((hatd.below entR b6).below entR hW) (hrow.below hW) (Nat.le_trans (DisF_len _) (by decide)) (rows_big (DisF_row _) (by decide)) hrl
            have hgt : decide (0 < z[k].2) = false := by simpa using hp
            clear hp
            go_wp2_with fail
            refine wp_region_quiet_below (by kernel_rfl) (by kernel_rfl) ?_
            repeat (go_big_quiet_step (exact Calls.regrown_of (hcon _ (below_regrown _ _ _))))
            refine wpQuiet_nil ?_
            intro wq hwq
            obtain ⟨⟨dq, osq⟩, rfl⟩ := hwq
            have hbq := btr b6 (below_regrown wr dq osq)
            generalize grow (redrawn wr dq) osq = w4 at hbq
            clear q0 q1 hcon
            go_wp2
            go_roundw
            case rel => exact ⟨k + 1, by omega, by go_num, hbq⟩
            case measure => simp [intOf]; omega
        · obtain rfl : k = z.length := by omega
          have B6 := btr B5 b6
          go_wp2_with fail
          refine (issetZ true (setB_DisF HV.out) (a2.below entR (btr (btr (btr b3 b4) b5) b6)) (Nat.le_trans (DisF_len _) (by decide)) (rows_big (DisF_row _) (by decide))).mono ?_
          rintro e w7 ⟨rfl, b7⟩
          have B7 := btr B6 b7
          go_wp2_with fail
          refine (Distinct_i _ _ (DisF (z)) _ (a2.below entR (btr (btr (btr (btr b3 b4) b5) b6) b7)) (Nat.le_trans (DisF_len _) (by decide)) (rows_big (DisF_row _) (by decide))).mono ?_
          rintro e w8 ⟨A8, c8, rfl, o8, b8⟩
          have B8 := btr B7 b8
          have a8 : EntsAt w8 A8 (DisF (DisF (z))) := SlOw.at_ entO o8
          go_wp2_with fail
          refine (equalZ (xs := DisF (DisF (z))) (ys := DisF (z)) true (decide_eq_true (DisF_DisF HV.out)) a8 (a2.below entR (btr (btr (btr (btr (btr b3 b4) b5) b6) b7) b8)) (Nat.le_trans (DisF_len _) (by decide)) (Nat.le_trans (DisF_len _) (by decide)) (rows_big (DisF_row _) (by decide)) (rows_big (DisF_row _) (by decide))).mono ?_
          rintro e w9 ⟨rfl, b9⟩
          have B9 := btr B8 b9
          go_wp2_with fail
          refine (issetZ true HS.out ((SlOw.at_ entO hz.1).below entR (btr (btr (btr (btr (btr (btr (btr b2 b3) b4) b5) b6) b7) b8) b9)) nz rz).mono ?_
          rintro e w10 ⟨rfl, b10⟩
          have B10 := btr B9 b10
          go_wp2_with fail
          refine (equalZ (xs := DisF (z)) (ys := z) true HE.out (a2.below entR (btr (btr (btr (btr (btr (btr (btr b3 b4) b5) b6) b7) b8) b9) b10)) ((SlOw.at_ entO hz.1).below entR (btr (btr (btr (btr (btr (btr (btr (btr b2 b3) b4) b5) b6) b7) b8) b9) b10)) (Nat.le_trans (DisF_len _) (by decide)) nz (rows_big (DisF_row _) (by decide)) rz).mono ?_
          rintro e w11 ⟨rfl, b11⟩
          have B11 := btr B10 b11
          go_wp2_with fail
          refine (TotalWeight_i _ _ (DisF (z)) _ (a2.below entR (btr (btr (btr (btr (btr (btr (btr (btr b3 b4) b5) b6) b7) b8) b9) b10) b11)) (Nat.le_trans (DisF_len _) (by decide)) (rows_big (DisF_row _) (by decide))).mono ?_
          rintro e w12 ⟨rfl, b12⟩
          have B12 := btr B11 b12
          go_wp2_with fail
          go_ret
          exact ⟨rfl, B12⟩
  · have hv' : zsB z = false := by simpa using hv
    have HV := Lib.hid hv'
    clear hv hv'
    go_wp2_with fail
    refine (Distinct_i _ _ (z) _ (SlOw.at_ entO hz.1) nz rz).mono ?_
    rintro e w2 ⟨A2, c2, rfl, o2, b2⟩
    have B2 := btr B1 b2
    have a2 : EntsAt w2 A2 (DisF (z)) := SlOw.at_ entO o2
    go_wp2_with fail
    refine (Distinct_s _ _ (z) _ ((SlOw.at_ entO hz.1).below entR b2) nz rz).mono ?_
    rintro e w3 ⟨A3, c3, rfl, o3, b3⟩
    have B3 := btr B2 b3
    have a3 : EntsAt w3 A3 (DisF (z)) := SlOw.at_ entO o3
    go_wp2_with fail
    refine (equalZ (xs := DisF (z)) (ys := DisF (z)) true (decide_eq_true rfl) (a2.below entR b3) a3 (Nat.le_trans (DisF_len _) (by decide)) (Nat.le_trans (DisF_len _) (by decide)) (rows_big (DisF_row _) (by decide)) (rows_big (DisF_row _) (by decide))).mono ?_
    rintro e w4 ⟨rfl, b4⟩
    have B4 := btr B3 b4
    go_wp2_with fail
    refine (validZ false HV.out ((SlOw.at_ entO hz.1).below entR (btr (btr b2 b3) b4)) nz rz).mono ?_
    rintro e w5 ⟨rfl, b5⟩
    have B5 := btr B4 b5
    go_wp2_with fail
    refine (Distinct_s _ _ (z) _ ((SlOw.at_ entO hz.1).below entR (btr (btr (btr b2 b3) b4) b5)) nz rz).mono ?_
    rintro e w6 ⟨A6, c6, rfl, o6, b6⟩
    have B6 := btr B5 b6
    have a6 : EntsAt w6 A6 (DisF (z)) := SlOw.at_ entO o6
    go_wp2_with fail
    refine (equalZ (xs := DisF (z)) (ys := DisF (z)) true (decide_eq_true rfl) (a2.below entR (btr (btr (btr b3 b4) b5) b6)) a6 (Nat.le_trans (DisF_len _) (by decide)) (Nat.le_trans (DisF_len _) (by decide)) (rows_big (DisF_row _) (by decide)) (rows_big (DisF_row _) (by decide))).mono ?_
    rintro e w7 ⟨rfl, b7⟩
    have B7 := btr B6 b7
    go_wp2_with fail
    go_ret
    exact ⟨rfl, B7⟩

namespace lawFnDistinct
theorem own : ownKnob Try.prog.godebug = none := by kernel_rfl
theorem laidOut : laidOutB Try.prog = true := clo_laid
set_option maxRecDepth 100000 in
theorem lifted (os : Os) (started : os.Started) (H : Type) (enc : TypeId × Value → H) :
    ReturnsInHanded {} Try.checked os 9 .any (Rows.fnDistinctSpec.pre6 enc Try.prog Try.f9 Rows.fnDistinctRow.domain false) (Rows.fnDistinctSpec.post enc Try.prog Try.f9 false true false false) := by
  refine returnsInHanded_of_change (C := Try.checked) own started (by kernel_rfl) Try.func9
    (ChangeSpec.witness6 (enc := enc) (C := Try.checked) false ⟨#[], #[.slice none 0 0], []⟩ 8 (by kernel_rfl) (by kernel_rfl) (by kernel_rfl) (by kernel_rfl)) ?_
  intro W base args ds gs before hval0 hW hcnd _
  have hval : ∀ (j : Nat) t v, Try.f9.params[j]? = some t → args[j]? = some v → Value.okWide Try.prog W .any base t v := hval0
  have hW' := hW
  obtain ⟨p, q, hA0, hV, rfl, hfz, hnd⟩ := hW
  have hA : DataW.TrodAll enc Try.prog W 0 (fun _ => true) true Try.f9.params.toList args.toList ds p := hA0
  rw [Try.params9] at hA hval
  obtain ⟨v0, vs0, d0, ds0, p0, q0, hargs, rfl, rfl, h0, r0⟩ := trodAll_cons hA
  obtain ⟨rfl, rfl, rfl⟩ := trodAll_nil r0
  obtain rfl : args = #[v0] := by cases args; simp_all
  obtain ⟨rfl, rfl⟩ := trodVars_none hV
  have k0 := h0
  have lt0 : ∀ x ∈ p0, x.block < W.heap.size := by obtain ⟨m, hm⟩ := k0; exact DataW.trod_lt m _ _ _ hm
  obtain ⟨a0, len0, cap0, rfl⟩ := okWide_slice Try.underlying22 (hval 0 22 v0 rfl rfl)
  obtain ⟨l0, m0, w0⟩ := bytes_of Try.underlying22 Try.underlying5 (by kernel_rfl) h0
  clear hA0 hval0
  refine (FnDistinct_walk a0 len0 cap0 W l0 m0 w0).mono fun e W' ⟨he, bel⟩ => ?_
  subst he
  exact ⟨_, rfl, _, _, _, [], _, [], hW', trodAll_mk1 (shut_bool Try.underlying4 _), (trodAll_cons_mk (Below.trod laidOut (by kernel_rfl) (of_decide_eq_true (by kernel_rfl)) k0 bel lt0) trodAll_mk0), rfl, bel.frame _, fun h => by cases h⟩
theorem andTT {a b : Bool} (h1 : a = true) (h2 : b = true) : (a && b) = true := by rw [h1, h2]; rfl
set_option maxHeartbeats 8000000 in
theorem closed : joinedFacts Try.prog 9 Try.f9 Rows.fnDistinctSpec Rows.fnDistinctRow = true := by
  unfold joinedFacts
  repeat' (with_reducible refine andTT ?_ ?_)
  all_goals (first | (with_reducible exact clo_laid) | (with_reducible exact clo_maps) | (with_reducible exact clo_heard) | (with_reducible exact clo_enter) | ((with_reducible refine clo_plain _ ?_); rfl) | ((with_reducible refine clo_lifts _ ?_); rfl) | (as_aux_lemma => kernel_rfl))

theorem over : Rows.fnDistinctRow.holds Try.pinned (OpenSpec.ofChange Rows.fnDistinctSpec) :=
  OpenClaim.holds_of_wide 9 Try.f9 rfl rfl rfl rfl rfl rfl rfl ⟨rfl, rfl, rfl, rfl, rfl⟩ rfl rfl rfl rfl rfl (by kernel_rfl) Try.func9 closed
    (of_decide_eq_true (by kernel_rfl)) (by unfold Func.isWrapper; first | (rw [if_pos (by decide +kernel)]; kernel_rfl) | (rw [if_neg (by decide +kernel)]; exact ⟨rfl, rfl⟩))
    (fun os started H enc _ => lifted os started H enc)

/-- THE STATEMENT. -/
theorem proved : Rows.FnDistinctSaid := over
end lawFnDistinct
end Go.Proofs.Ythbphdaklkaeaaa
