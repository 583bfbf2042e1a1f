/- The law FnHops returns true at every code; no condition. -/
import Derived.Test.YtifjenleoagefaaGreatCgi
import Derived.Test.YtifjenleoagefaaGreatCht
import Derived.Test.YtifjenleoagefaaGreatCho
import Derived.Test.YtifjenleoagefaaGreatGrpE
import Derived.Test.YtifjenleoagefaaGreatCgf
import Derived.Test.YtifjenleoagefaaGreatRdi
import Derived.Test.YtifjenleoagefaaGreatCgm
import Derived.Test.YtifjenleoagefaaGreatEqZ
import Derived.Test.YtifjenleoagefaaGreatCgn
import Derived.Test.YtifjenleoagefaaGreatCgk
import Derived.Test.YtifjenleoagefaaGreatZbx
import Derived.Test.YtifjenleoagefaaGreatZbn
import Derived.Test.YtifjenleoagefaaGreatClo
import Derived.Carry
import Derived.ChangeOld
import Derived.Lib.SmallJoins
import Derived.Lib.QuietBelow
namespace Go.Proofs.YtifjenleoagefaaGreat
open Go.ChangeShapes Go.WideShapes Go.ChangeAt Go.RowKit Go.Sort
set_option linter.unusedVariables false
set_option linter.unusedSimpArgs false

set_option maxRecDepth 100000 in
set_option maxHeartbeats 6400000 in
theorem FnHops_walk (A : Option Addr) (n c : Nat) (w : World) (hc : n ≤ c) (hl : n ≤ maxLen) (hb : BytesAt w w.heap.size A n) :
    Calls Tryz.prog 3 #[.slice A n c] w fun e w' => e = .returned (.bool true) ∧ Below w.heap.size w w' := by
  unfold maxLen at hl
  by_cases hbign : 1048576 < n
  · have hb' : (1048576 : Int) < n := by omega
    go_enter Tryz.func3, Tryz.ntmps3
    go_wp2
    go_ret
    exact ⟨rfl, Below.refl _ _⟩
  have hbn' : (n : Int) ≤ 1048576 := by omega
  have HB := Lib.hid hb
  clear hb hbign
  go_enter Tryz.func3, Tryz.ntmps3
  go_wp2_with fail
  refine (DrawHops_r _ _ _ _ HB.out hc (by omega)).mono ?_
  rintro e w1 ⟨z, Az, cz, s, rfl, hz, ⟨hs1, hs2⟩, B1⟩
  have nz : z.length ≤ 4194304 := by have := hz.2.2.1; omega
  have rz : rowsIn z 4194304 := rows_big hz.2.2.2 (by decide)
  cases hv : edgB z
  · have HV := Lib.hid hv
    clear hv
    go_wp2_with fail
    refine (Hops_i Az cz z s _ hz.1 nz rz).mono ?_
    rintro e w2 ⟨A2, c2, rfl, o2, b2⟩
    have B2 := btr B1 b2
    have a2 : EntsAt w2 A2 (HopsF z s) := SlOw.at_ entO o2
    go_wp2_with fail
    refine (Hops_s Az cz z s _ (hz.1.below entR b2) nz rz).mono ?_
    rintro e w3 ⟨A3, c3, rfl, o3, b3⟩
    have B3 := btr B2 b3
    have a3 : EntsAt w3 A3 (HopsF z s) := SlOw.at_ entO o3
    go_wp2_with fail
    refine (equalZ (xs := HopsF z s) (ys := HopsF z s) true (decide_eq_true rfl) (a2.below entR b3) a3 (Nat.le_trans (HopsF_len _ _) (by decide)) (Nat.le_trans (HopsF_len _ _) (by decide)) (HopsF_row _ _) (HopsF_row _ _)).mono ?_
    rintro e w4 ⟨rfl, b4⟩
    have B4 := btr B3 b4
    go_wp2_with fail
    refine (edgZ false HV.out (hz.1.below entR (btr (btr b2 b3) b4)) nz rz).mono ?_
    rintro e w5 ⟨rfl, b5⟩
    have B5 := btr B4 b5
    go_wp2_with fail
    refine (Hops_s Az cz z s _ (hz.1.below entR (btr (btr (btr b2 b3) b4) b5)) nz rz).mono ?_
    rintro e w6 ⟨A6, c6, rfl, o6, b6⟩
    have B6 := btr B5 b6
    have a6 : EntsAt w6 A6 (HopsF z s) := SlOw.at_ entO o6
    go_wp2_with fail
    refine (equalZ (xs := HopsF z s) (ys := HopsF z s) true (decide_eq_true rfl) (a2.below entR (btr (btr (btr b3 b4) b5) b6)) a6 (Nat.le_trans (HopsF_len _ _) (by decide)) (Nat.le_trans (HopsF_len _ _) (by decide)) (HopsF_row _ _) (HopsF_row _ _)).mono ?_
    rintro e w7 ⟨rfl, b7⟩
    have B7 := btr B6 b7
    go_wp2_with fail
    go_ret
    exact ⟨rfl, B7⟩
  by_cases hlo : s < 0
  · have HV := Lib.hid hv
    clear hv
    go_wp2_with fail
    refine (Hops_i Az cz z s _ hz.1 nz rz).mono ?_
    rintro e w2 ⟨A2, c2, rfl, o2, b2⟩
    have B2 := btr B1 b2
    have a2 : EntsAt w2 A2 (HopsF z s) := SlOw.at_ entO o2
    go_wp2_with fail
    refine (Hops_s Az cz z s _ (hz.1.below entR b2) nz rz).mono ?_
    rintro e w3 ⟨A3, c3, rfl, o3, b3⟩
    have B3 := btr B2 b3
    have a3 : EntsAt w3 A3 (HopsF z s) := SlOw.at_ entO o3
    go_wp2_with fail
    refine (equalZ (xs := HopsF z s) (ys := HopsF z s) true (decide_eq_true rfl) (a2.below entR b3) a3 (Nat.le_trans (HopsF_len _ _) (by decide)) (Nat.le_trans (HopsF_len _ _) (by decide)) (HopsF_row _ _) (HopsF_row _ _)).mono ?_
    rintro e w4 ⟨rfl, b4⟩
    have B4 := btr B3 b4
    go_wp2_with fail
    refine (edgZ true HV.out (hz.1.below entR (btr (btr b2 b3) b4)) nz rz).mono ?_
    rintro e w5 ⟨rfl, b5⟩
    have B5 := btr B4 b5
    go_wp2_with fail
    refine (Hops_s Az cz z s _ (hz.1.below entR (btr (btr (btr b2 b3) b4) b5)) nz rz).mono ?_
    rintro e w6 ⟨A6, c6, rfl, o6, b6⟩
    have B6 := btr B5 b6
    have a6 : EntsAt w6 A6 (HopsF z s) := SlOw.at_ entO o6
    go_wp2_with fail
    refine (equalZ (xs := HopsF z s) (ys := HopsF z s) true (decide_eq_true rfl) (a2.below entR (btr (btr (btr b3 b4) b5) b6)) a6 (Nat.le_trans (HopsF_len _ _) (by decide)) (Nat.le_trans (HopsF_len _ _) (by decide)) (HopsF_row _ _) (HopsF_row _ _)).mono ?_
    rintro e w7 ⟨rfl, b7⟩
    have B7 := btr B6 b7
    go_wp2_with fail
    go_ret
    exact ⟨rfl, B7⟩
  by_cases hhi : 19 < s
  · have HV := Lib.hid hv
    clear hv
    go_wp2_with fail
    refine (Hops_i Az cz z s _ hz.1 nz rz).mono ?_
    rintro e w2 ⟨A2, c2, rfl, o2, b2⟩
    have B2 := btr B1 b2
    have a2 : EntsAt w2 A2 (HopsF z s) := SlOw.at_ entO o2
    go_wp2_with fail
    refine (Hops_s Az cz z s _ (hz.1.below entR b2) nz rz).mono ?_
    rintro e w3 ⟨A3, c3, rfl, o3, b3⟩
    have B3 := btr B2 b3
    have a3 : EntsAt w3 A3 (HopsF z s) := SlOw.at_ entO o3
    go_wp2_with fail
    refine (equalZ (xs := HopsF z s) (ys := HopsF z s) true (decide_eq_true rfl) (a2.below entR b3) a3 (Nat.le_trans (HopsF_len _ _) (by decide)) (Nat.le_trans (HopsF_len _ _) (by decide)) (HopsF_row _ _) (HopsF_row _ _)).mono ?_
    rintro e w4 ⟨rfl, b4⟩
    have B4 := btr B3 b4
    go_wp2_with fail
    refine (edgZ true HV.out (hz.1.below entR (btr (btr b2 b3) b4)) nz rz).mono ?_
    rintro e w5 ⟨rfl, b5⟩
    have B5 := btr B4 b5
    go_wp2_with fail
    refine (Hops_s Az cz z s _ (hz.1.below entR (btr (btr (btr b2 b3) b4) b5)) nz rz).mono ?_
    rintro e w6 ⟨A6, c6, rfl, o6, b6⟩
    have B6 := btr B5 b6
    have a6 : EntsAt w6 A6 (HopsF z s) := SlOw.at_ entO o6
    go_wp2_with fail
    refine (equalZ (xs := HopsF z s) (ys := HopsF z s) true (decide_eq_true rfl) (a2.below entR (btr (btr (btr b3 b4) b5) b6)) a6 (Nat.le_trans (HopsF_len _ _) (by decide)) (Nat.le_trans (HopsF_len _ _) (by decide)) (HopsF_row _ _) (HopsF_row _ _)).mono ?_
    rintro e w7 ⟨rfl, b7⟩
    have B7 := btr B6 b7
    go_wp2_with fail
    go_ret
    exact ⟨rfl, B7⟩
  obtain ⟨S, rfl⟩ : ∃ S : Nat, s = S := ⟨s.toNat, by omega⟩
  have hS : S < 20 := by omega
  have HRD := Lib.hid (fun i (hi : i < (HopsF z (S : Int)).length) => hop_round hv hS hi)
  have HCN := Lib.hid (hop_count hv hS)
  have HV := Lib.hid hv
  clear hv
  go_wp2_with fail
  refine (Hops_i Az cz z (S : Int) _ hz.1 nz rz).mono ?_
  rintro e w2 ⟨A2, c2, rfl, o2, b2⟩
  have B2 := btr B1 b2
  have a2 : EntsAt w2 A2 (HopsF z (S : Int)) := SlOw.at_ entO o2
  go_wp2_with fail
  refine (Hops_s Az cz z (S : Int) _ (hz.1.below entR b2) nz rz).mono ?_
  rintro e w3 ⟨A3, c3, rfl, o3, b3⟩
  have B3 := btr B2 b3
  have a3 : EntsAt w3 A3 (HopsF z (S : Int)) := SlOw.at_ entO o3
  go_wp2_with fail
  refine (equalZ (xs := HopsF z (S : Int)) (ys := HopsF z (S : Int)) true (decide_eq_true rfl) (a2.below entR b3) a3 (Nat.le_trans (HopsF_len _ _) (by decide)) (Nat.le_trans (HopsF_len _ _) (by decide)) (HopsF_row _ _) (HopsF_row _ _)).mono ?_
  rintro e w4 ⟨rfl, b4⟩
  have B4 := btr B3 b4
  go_wp2_with fail
  refine (edgZ true HV.out (hz.1.below entR (btr (btr b2 b3) b4)) nz rz).mono ?_
  rintro e w5 ⟨rfl, b5⟩
  have B5 := btr B4 b5
  go_wp2_with fail
  refine (ClosureRounds_i Az cz z w5 (hz.1.below entR (btr (btr (btr b2 b3) b4) b5)) nz rz).mono ?_
  rintro e w6 ⟨A6, c6, rfl, o6, b6⟩
  have B6 := btr B5 b6
  have HZS : Hid (ZssAt w6 A6 (RoundsF z)) := SlOw.at_ zlO o6
  have HH := Lib.hid (a2.below entR (btr (btr (btr b3 b4) b5) b6))
  have HZ := Lib.hid (hz.1.below entR (btr (btr (btr (btr b2 b3) b4) b5) b6))
  have HBW := Lib.hid B6
  have hrw := HopsF_row z (S : Int)
  have hln := HopsF_len z (S : Int)
  have HCL := Lib.hid (And.intro (ClosF_len z) (ClosF_row z))
  clear o2 o3 o6 a2 a3 b2 b3 b4 b5 b6 B1 B2 B3 B4 B5 B6 hz
  generalize hHg : HopsF z (S : Int) = H at *
  clear hHg
  generalize RoundsF z = Zs at *
  have hc2 : c2 = c2 := rfl
  clear hc2
  go_wp2
  go_loopw [7, 8] (fun iv _ wr => ∃ i : Nat, i ≤ H.length ∧ iv = .int .i64 (i : Nat) ∧ Below w6.heap.size w6 wr) (fun iv _ _ => H.length - (intOf iv).toNat)
  case atStart => exact ⟨0, by omega, rfl, Below.refl _ _⟩
  case round =>
    obtain ⟨i, hi, rfl, hbel⟩ := hrel
    by_cases hlt : i < H.length
    · have hltI : (i : Int) < H.length := by omega
      obtain ⟨u, m, hm, hrow, hwt, hm4, hnm, hrm⟩ := HRD.out i hlt
      have HWT := Lib.hid hwt
      have HNM := Lib.hid (And.intro hnm hrm)
      have HMZ := Lib.hid hm
      obtain ⟨b, off, RA, rc, hAe, hbl, hc0, -, -, hri⟩ := EntsAt.get HH.out i hlt
      rw [hrow] at hc0 hri
      subst hAe
      obtain ⟨rb, ro, rfl⟩ := hri.open2 (by simp)
      have r0 := IntsAt.cellG hri (k := 0) (by simp)
      have r1 := IntsAt.cellG hri (k := 1) (by simp)
      rw [Nat.add_zero] at r0
      obtain ⟨lb, lo, ZA, zc, hAl, hll, hl0, -, hzm⟩ := ZssAt.get HZS.out m hm
      subst hAl
      have HZm := Lib.hid (hzm.below entR hbel)
      have qH := (hbel.cell (p := ⟨b, off + i * 2, none⟩) hbl).trans hc0
      have qR := (hbel.cell (p := ⟨rb, ro, none⟩) r0.1).trans r0.2
      have qN := (hbel.cell (p := ⟨rb, ro + 1, none⟩) r0.1).trans r1.2
      have qL := (hbel.cell (p := ⟨lb, lo + m, none⟩) hll).trans hl0
      simp only [gi, List.getD_cons_zero, List.getD_cons_succ, List.length_cons, List.length_nil, Nat.zero_add, Nat.reduceAdd] at qH qR qN
      have hbb := Nat.lt_of_lt_of_le hbl hbel.size
      have hrb := Nat.lt_of_lt_of_le r0.1 hbel.size
      have hlb := Nat.lt_of_lt_of_le hll hbel.size
      obtain ⟨n, hn⟩ : ∃ n : Int, ((m + 1 : Nat) : Int) = n := ⟨_, rfl⟩
      rw [hn] at qN
      have HC1 : Hid (1 ≤ n) := by rw [Hid]; omega
      have HC2 : Hid (n ≤ (Zs.length : Int)) := by rw [Hid]; omega
      have hn0 : (0 : Int) ≤ n - 1 := by omega
      have hn1 : n - 1 < Zs.length := by omega
      have hn2 : n ≤ 400 := by omega
      have hn3 : 1 ≤ n := by omega
      have hn4 : (n - 1).toNat = m := by omega
      clear hc0 hri r0 r1 hl0 hzm hrow hwt hnm hrm hbl hll
      generalize Zs[m] = zm at *
      clear hm HMZ hn hm4
      go_wp2_with fail
      refine wp_region_facts [[], [0], [0, 1], [0, 1, 2], [0, 1, 2], [0, 1, 2, 4], List.range 6, List.range 7, List.range 8, List.range 9, List.range 9, [0, 1, 2, 3, 4, 5, 6, 7, 8, 10], List.range 12, List.range 13, List.range 9, List.range 9, List.range 9, [0, 1, 2, 3, 4, 5, 6, 7, 8, 15, 16], [0, 1, 2, 3, 4, 5, 6, 7, 8, 15, 16, 17], [0, 1, 2, 3, 4, 5, 6, 7, 8, 15, 16, 17, 18], [0, 1, 2, 3, 4, 5, 6, 7, 8, 15, 16, 17, 18, 19], [0, 1, 2, 3, 4, 5, 6, 7, 8, 15, 16, 17, 18, 19, 20], [0, 1, 2, 3, 4, 5, 6, 7, 8, 14, 15, 16, 17, 18, 19, 20, 21], List.range 23, List.range 24]
        [fun v' _ => v' = .int .i64 (n), fun v' _ => v' = .bool false, fun v' _ => v' = .bool false, fun v' _ => v' = .int .i64 (n), fun v' _ => v' = .slice (some ⟨lb, lo, none⟩) Zs.length c6, fun v' _ => v' = .int .i64 ((Zs.length : Nat)), fun v' _ => v' = .bool false, fun v' _ => v' = .bool false, fun v' _ => v' = .bool false, fun v' _ => v' = .slice (some ⟨lb, lo, none⟩) Zs.length c6, fun v' _ => v' = .int .i64 (n), fun v' _ => v' = .int .i64 (n - 1), fun v' _ => v' = .pointer (some ⟨lb, lo + m, none⟩), fun v' _ => v' = .slice ZA zm.length zc, fun v' _ => v' = .int .i64 ((S : Nat)), fun v' _ => v' = .slice (some ⟨b, off, none⟩) H.length c2, fun v' _ => v' = .int .i64 ((i : Nat)), fun v' _ => v' = .pointer (some ⟨b, off + i * 2, none⟩), fun v' _ => v' = .pointer (some ⟨b, off + i * 2, none⟩), fun v' _ => v' = .slice (some ⟨rb, ro, none⟩) 2 rc, fun v' _ => v' = .pointer (some ⟨rb, ro, none⟩), fun v' _ => v' = .int .i64 ((u : Nat)), NewI wr.heap.size (S : Nat) (u : Nat), fun v' _ => v' = .int .i64 1, fun v' _ => v' = .bool false]
        (by kernel_rfl) (by kernel_rfl) rfl ⟨stable_pure _, stable_pure _, stable_pure _, stable_pure _, stable_pure _, stable_pure _, stable_pure _, stable_pure _, stable_pure _, stable_pure _, stable_pure _, stable_pure _, stable_pure _, stable_pure _, stable_pure _, stable_pure _, stable_pure _, stable_pure _, stable_pure _, stable_pure _, stable_pure _, stable_pure _, stable_newI _ _ _, stable_pure _, stable_pure _, trivial⟩ ?_
      refine wf_stepK [] [] (by kernel_rfl) (by kernel_rfl) (fun wf hb hf => ?_) (fun t0 => ?_)
      · refine ⟨?_⟩
        go_wp2
        exact ⟨rfl, .int .i64 (n), by kernel_rfl, Below.refl _ _, rfl⟩
      refine wf_stepK [0] [fun _ => t0 = .int .i64 (n)] (by kernel_rfl) (by kernel_rfl) (fun wf hb hf => ?_) (fun t1 => ?_)
      · obtain ⟨rfl, -⟩ := hf
        refine ⟨?_⟩
        go_wp2
        exact ⟨rfl, .bool (decide (n < 1)), by kernel_rfl, Below.refl _ _, congrArg Value.bool (decide_eq_false (Int.not_lt.2 HC1.out))⟩
      refine wf_stepK [1] [fun _ => t1 = .bool false] (by kernel_rfl) (by kernel_rfl) (fun wf hb hf => ?_) (fun t2 => ?_)
      · obtain ⟨rfl, -⟩ := hf
        refine ⟨?_⟩
        go_wp2
        exact ⟨rfl, .bool false, by kernel_rfl, Below.refl _ _, rfl⟩
      refine wf_stepK [2] [fun _ => t2 = .bool false] (by kernel_rfl) (by kernel_rfl) (fun wf hb hf => ?_) (fun t3 => ?_)
      · obtain ⟨rfl, -⟩ := hf
        refine WfOp.yes (by kernel_rfl) ?_
        dsimp only
        go_wp2
        exact ⟨rfl, .int .i64 (n), by kernel_rfl, Below.refl _ _, rfl⟩
      refine wf_stepK [2] [fun _ => t2 = .bool false] (by kernel_rfl) (by kernel_rfl) (fun wf hb hf => ?_) (fun t4 => ?_)
      · obtain ⟨rfl, -⟩ := hf
        refine WfOp.yes (by kernel_rfl) ?_
        dsimp only
        go_wp2
        exact ⟨rfl, .slice (some ⟨lb, lo, none⟩) Zs.length c6, by kernel_rfl, Below.refl _ _, rfl⟩
      refine wf_stepK [2, 4] [fun _ => t2 = .bool false, fun _ => t4 = .slice (some ⟨lb, lo, none⟩) Zs.length c6] (by kernel_rfl) (by kernel_rfl) (fun wf hb hf => ?_) (fun t5 => ?_)
      · obtain ⟨rfl, rfl, -⟩ := hf
        refine WfOp.yes (by kernel_rfl) ?_
        dsimp only
        go_wp2
        exact ⟨rfl, .int .i64 ((Zs.length : Nat)), by kernel_rfl, Below.refl _ _, rfl⟩
      refine wf_stepK [2, 3, 5] [fun _ => t2 = .bool false, fun _ => t3 = .int .i64 (n), fun _ => t5 = .int .i64 ((Zs.length : Nat))] (by kernel_rfl) (by kernel_rfl) (fun wf hb hf => ?_) (fun t6 => ?_)
      · obtain ⟨rfl, rfl, rfl, -⟩ := hf
        refine WfOp.yes (by kernel_rfl) ?_
        dsimp only
        go_wp2
        exact ⟨rfl, .bool (decide (Zs.length < n)), by kernel_rfl, Below.refl _ _, congrArg Value.bool (decide_eq_false (Int.not_lt.2 HC2.out))⟩
      refine wf_stepK [2, 6] [fun _ => t2 = .bool false, fun _ => t6 = .bool false] (by kernel_rfl) (by kernel_rfl) (fun wf hb hf => ?_) (fun t7 => ?_)
      · obtain ⟨rfl, rfl, -⟩ := hf
        refine ⟨?_⟩
        go_wp2
        exact ⟨rfl, .bool false, by kernel_rfl, Below.refl _ _, rfl⟩
      refine wf_stepK [7] [fun _ => t7 = .bool false] (by kernel_rfl) (by kernel_rfl) (fun wf hb hf => ?_) (fun t8 => ?_)
      · obtain ⟨rfl, -⟩ := hf
        refine ⟨?_⟩
        go_wp2
        exact ⟨rfl, .bool false, by kernel_rfl, Below.refl _ _, rfl⟩
      refine wf_stepK [8] [fun _ => t8 = .bool false] (by kernel_rfl) (by kernel_rfl) (fun wf hb hf => ?_) (fun t9 => ?_)
      · obtain ⟨rfl, -⟩ := hf
        refine WfOp.yes (by kernel_rfl) ?_
        dsimp only
        go_wp2
        exact ⟨rfl, .slice (some ⟨lb, lo, none⟩) Zs.length c6, by kernel_rfl, Below.refl _ _, rfl⟩
      refine wf_stepK [8] [fun _ => t8 = .bool false] (by kernel_rfl) (by kernel_rfl) (fun wf hb hf => ?_) (fun t10 => ?_)
      · obtain ⟨rfl, -⟩ := hf
        refine WfOp.yes (by kernel_rfl) ?_
        dsimp only
        go_wp2
        exact ⟨rfl, .int .i64 (n), by kernel_rfl, Below.refl _ _, rfl⟩
      refine wf_stepK [8, 10] [fun _ => t8 = .bool false, fun _ => t10 = .int .i64 (n)] (by kernel_rfl) (by kernel_rfl) (fun wf hb hf => ?_) (fun t11 => ?_)
      · obtain ⟨rfl, rfl, -⟩ := hf
        refine WfOp.yes (by kernel_rfl) ?_
        dsimp only
        go_wp2
        exact ⟨rfl, .int .i64 (n - 1), by kernel_rfl, Below.refl _ _, rfl⟩
      refine wf_stepK [8, 9, 11] [fun _ => t8 = .bool false, fun _ => t9 = .slice (some ⟨lb, lo, none⟩) Zs.length c6, fun _ => t11 = .int .i64 (n - 1)] (by kernel_rfl) (by kernel_rfl) (fun wf hb hf => ?_) (fun t12 => ?_)
      · obtain ⟨rfl, rfl, rfl, -⟩ := hf
        refine WfOp.yes (by kernel_rfl) ?_
        dsimp only
        go_wp2
        exact ⟨rfl, .pointer (some ⟨lb, lo + m, none⟩), by kernel_rfl, Below.refl _ _, rfl⟩
      refine wf_stepK [8, 12] [fun _ => t8 = .bool false, fun _ => t12 = .pointer (some ⟨lb, lo + m, none⟩)] (by kernel_rfl) (by kernel_rfl) (fun wf hb hf => ?_) (fun t13 => ?_)
      · obtain ⟨rfl, rfl, -⟩ := hf
        refine WfOp.yes (by kernel_rfl) ?_
        dsimp only
        have z0 := (hb.cell (p := ⟨lb, lo + m, none⟩) hlb).trans qL
        go_wp2
        exact ⟨rfl, .slice ZA zm.length zc, by kernel_rfl, Below.refl _ _, rfl⟩
      refine wf_stepK [8] [fun _ => t8 = .bool false] (by kernel_rfl) (by kernel_rfl) (fun wf hb hf => ?_) (fun t14 => ?_)
      · obtain ⟨rfl, -⟩ := hf
        refine WfOp.yes (by kernel_rfl) ?_
        dsimp only
        go_wp2
        exact ⟨rfl, .int .i64 ((S : Nat)), by kernel_rfl, Below.refl _ _, rfl⟩
      refine wf_stepK [8] [fun _ => t8 = .bool false] (by kernel_rfl) (by kernel_rfl) (fun wf hb hf => ?_) (fun t15 => ?_)
      · obtain ⟨rfl, -⟩ := hf
        refine WfOp.yes (by kernel_rfl) ?_
        dsimp only
        go_wp2
        exact ⟨rfl, .slice (some ⟨b, off, none⟩) H.length c2, by kernel_rfl, Below.refl _ _, rfl⟩
      refine wf_stepK [8] [fun _ => t8 = .bool false] (by kernel_rfl) (by kernel_rfl) (fun wf hb hf => ?_) (fun t16 => ?_)
      · obtain ⟨rfl, -⟩ := hf
        refine WfOp.yes (by kernel_rfl) ?_
        dsimp only
        go_wp2
        exact ⟨rfl, .int .i64 ((i : Nat)), by kernel_rfl, Below.refl _ _, rfl⟩
      refine wf_stepK [8, 15, 16] [fun _ => t8 = .bool false, fun _ => t15 = .slice (some ⟨b, off, none⟩) H.length c2, fun _ => t16 = .int .i64 ((i : Nat))] (by kernel_rfl) (by kernel_rfl) (fun wf hb hf => ?_) (fun t17 => ?_)
      · obtain ⟨rfl, rfl, rfl, -⟩ := hf
        refine WfOp.yes (by kernel_rfl) ?_
        dsimp only
        go_wp2
        exact ⟨rfl, .pointer (some ⟨b, off + i * 2, none⟩), by kernel_rfl, Below.refl _ _, rfl⟩
      refine wf_stepK [8, 17] [fun _ => t8 = .bool false, fun _ => t17 = .pointer (some ⟨b, off + i * 2, none⟩)] (by kernel_rfl) (by kernel_rfl) (fun wf hb hf => ?_) (fun t18 => ?_)
      · obtain ⟨rfl, rfl, -⟩ := hf
        refine WfOp.yes (by kernel_rfl) ?_
        dsimp only
        go_wp2
        exact ⟨rfl, .pointer (some ⟨b, off + i * 2, none⟩), by kernel_rfl, Below.refl _ _, rfl⟩
      refine wf_stepK [8, 18] [fun _ => t8 = .bool false, fun _ => t18 = .pointer (some ⟨b, off + i * 2, none⟩)] (by kernel_rfl) (by kernel_rfl) (fun wf hb hf => ?_) (fun t19 => ?_)
      · obtain ⟨rfl, rfl, -⟩ := hf
        refine WfOp.yes (by kernel_rfl) ?_
        dsimp only
        have z0 := (hb.cell (p := ⟨b, off + i * 2, none⟩) hbb).trans qH
        go_wp2
        exact ⟨rfl, .slice (some ⟨rb, ro, none⟩) 2 rc, by kernel_rfl, Below.refl _ _, rfl⟩
      refine wf_stepK [8, 19] [fun _ => t8 = .bool false, fun _ => t19 = .slice (some ⟨rb, ro, none⟩) 2 rc] (by kernel_rfl) (by kernel_rfl) (fun wf hb hf => ?_) (fun t20 => ?_)
      · obtain ⟨rfl, rfl, -⟩ := hf
        refine WfOp.yes (by kernel_rfl) ?_
        dsimp only
        go_wp2
        exact ⟨rfl, .pointer (some ⟨rb, ro, none⟩), by kernel_rfl, Below.refl _ _, rfl⟩
      refine wf_stepK [8, 20] [fun _ => t8 = .bool false, fun _ => t20 = .pointer (some ⟨rb, ro, none⟩)] (by kernel_rfl) (by kernel_rfl) (fun wf hb hf => ?_) (fun t21 => ?_)
      · obtain ⟨rfl, rfl, -⟩ := hf
        refine WfOp.yes (by kernel_rfl) ?_
        dsimp only
        have z0 := (hb.cell (p := ⟨rb, ro, none⟩) hrb).trans qR
        go_wp2
        exact ⟨rfl, .int .i64 ((u : Nat)), by kernel_rfl, Below.refl _ _, rfl⟩
      refine wf_stepK [8, 14, 21] [fun _ => t8 = .bool false, fun _ => t14 = .int .i64 ((S : Nat)), fun _ => t21 = .int .i64 ((u : Nat))] (by kernel_rfl) (by kernel_rfl) (fun wf hb hf => ?_) (fun t22 => ?_)
      · obtain ⟨rfl, rfl, rfl, -⟩ := hf
        refine WfOp.yes (by kernel_rfl) ?_
        dsimp only
        go_wp2
        exact ⟨rfl, .slice (some ⟨wf.heap.size, 0, none⟩) 2 2, by kernel_rfl, bal (Below.refl _ _) _, _, rfl, hb.size, Blk.newAt rfl⟩
      refine wf_stepK [8, 13, 22] [fun _ => t8 = .bool false, fun _ => t13 = .slice ZA zm.length zc, NewI wr.heap.size (S : Nat) (u : Nat) t22] (by kernel_rfl) (by kernel_rfl) (fun wf hb hf => ?_) (fun t23 => ?_)
      · obtain ⟨rfl, rfl, ⟨G, rfl, hGl, hG⟩, -⟩ := hf
        refine WfOp.yes (by kernel_rfl) ?_
        dsimp only
        have hI := NewI.ints hG
        have hcon := weightZ (c := zc) (d := 2) 1 HWT.out (HZm.out.below entR hb) hI HNM.out.1 HNM.out.2 (by simp)
        go_wp2_with fail
        refine hcon.mono ?_
        rintro e w2 ⟨rfl, b2⟩
        go_wp2
        exact ⟨rfl, .int .i64 1, by kernel_rfl, b2, rfl⟩
      refine wf_stepK [8, 23] [fun _ => t8 = .bool false, fun _ => t23 = .int .i64 1] (by kernel_rfl) (by kernel_rfl) (fun wf hb hf => ?_) (fun t24 => ?_)
      · obtain ⟨rfl, rfl, -⟩ := hf
        refine WfOp.yes (by kernel_rfl) ?_
        dsimp only
        go_wp2
        exact ⟨rfl, .bool false, by kernel_rfl, Below.refl _ _, rfl⟩
      refine wf_doneK [8, 24] [fun _ => t8 = .bool false, fun _ => t24 = .bool false] (by kernel_rfl) (by kernel_rfl) (fun w9 b9 hf => ?_)
      obtain ⟨rfl, rfl, -⟩ := hf
      show wpList _ _ _ [_] _ _
      refine wpList_frame (by simp [Act.put]; rfl) ?_
      have hb9 := btr hbel b9
      clear qH qR qN qL hbb hrb hlb
      go_wp2
      go_roundw
      case rel => exact ⟨i + 1, by omega, by go_num, hb9⟩
      case measure => simp [intOf]; omega
    · obtain rfl : i = H.length := by omega
      have HZ2 := Lib.hid (HZ.out.below entR hbel)
      have HB5 := Lib.hid (btr HBW.out hbel)
      clear hbel HZ HBW HRD HZS HH
      go_wp2_with fail
      refine (Closure_i _ _ z _ HZ2.out nz rz).mono ?_
      rintro e w6 ⟨A6, c6, rfl, o6, b6⟩
      have B6 := btr HB5.out b6
      have a6 : EntsC w6 A6 (ClosF z) := EntsOw.atC o6
      have bl : Below w6.heap.size w6 (w6.alloc (.cells #[.int .i64 (S : Nat)] 3)) := bal (Below.refl _ _) _
      have hI : IntsAt (w6.alloc (.cells #[.int .i64 (S : Nat)] 3)) (some ⟨w6.heap.size, 0, none⟩) [((S : Nat) : Int)] := IntsAt.ofBlk (Blk.newAt (t := 3) rfl)
      have hgi := Group_i A6 c6 (ClosF z) (some ⟨w6.heap.size, 0, none⟩) 1 [((S : Nat) : Int)] _ (SlAt.below entC a6 bl) hI HCL.out.1 HCL.out.2 (by simp)
      have hlen : ((H.length : Int) == ((GrpF (ClosF z) [(S : Int)]).length : Int)) = true := by rw [← HCN.out]; simp
      generalize GrpF (ClosF z) [(S : Int)] = GG at *
      clear HCN hI
      go_wp2_with fail
      refine hgi.mono ?_
      rintro e w7 ⟨A7, c7, rfl, o7, b7⟩
      have B7 := btr (btr B6 bl) b7
      clear o7 hgi
      go_wp2_with fail
      go_ret
      exact ⟨rfl, B7⟩

namespace lawFnHops
theorem own : ownKnob Tryz.prog.godebug = none := by kernel_rfl
theorem laidOut : laidOutB Tryz.prog = true := clo_laid
set_option maxRecDepth 100000 in
theorem lifted (os : Os) (started : os.Started) (H : Type) (enc : TypeId × Value → H) :
    ReturnsInHanded {} Tryz.checked os 3 .any (Rows.fnHopsSpec.pre6 enc Tryz.prog Tryz.f3 Rows.fnHopsRow.domain false) (Rows.fnHopsSpec.post enc Tryz.prog Tryz.f3 false true false false) := by
  refine returnsInHanded_of_change (C := Tryz.checked) own started (by kernel_rfl) Tryz.func3
    (ChangeSpec.witness6 (enc := enc) (C := Tryz.checked) false ⟨#[], #[.slice none 0 0], []⟩ 8 (by kernel_rfl) (by kernel_rfl) (by kernel_rfl) (by kernel_rfl)) ?_
  intro W base args ds gs before hval0 hW hcnd _
  have hval : ∀ (j : Nat) t v, Tryz.f3.params[j]? = some t → args[j]? = some v → Value.okWide Tryz.prog W .any base t v := hval0
  have hW' := hW
  obtain ⟨p, q, hA0, hV, rfl, hfz, hnd⟩ := hW
  have hA : DataW.TrodAll enc Tryz.prog W 0 (fun _ => true) true Tryz.f3.params.toList args.toList ds p := hA0
  rw [Tryz.params3] at hA hval
  obtain ⟨v0, vs0, d0, ds0, p0, q0, hargs, rfl, rfl, h0, r0⟩ := trodAll_cons hA
  obtain ⟨rfl, rfl, rfl⟩ := trodAll_nil r0
  obtain rfl : args = #[v0] := by cases args; simp_all
  obtain ⟨rfl, rfl⟩ := trodVars_none hV
  have k0 := h0
  have lt0 : ∀ x ∈ p0, x.block < W.heap.size := by obtain ⟨m, hm⟩ := k0; exact DataW.trod_lt m _ _ _ hm
  obtain ⟨a0, len0, cap0, rfl⟩ := okWide_slice Tryz.underlying22 (hval 0 22 v0 rfl rfl)
  obtain ⟨l0, m0, w0⟩ := bytes_of Tryz.underlying22 Tryz.underlying5 (by kernel_rfl) h0
  clear hA0 hval0
  refine (FnHops_walk a0 len0 cap0 W l0 m0 w0).mono fun e W' ⟨he, bel⟩ => ?_
  subst he
  exact ⟨_, rfl, _, _, _, [], _, [], hW', trodAll_mk1 (shut_bool Tryz.underlying4 _), (trodAll_cons_mk (Below.trod laidOut (by kernel_rfl) (of_decide_eq_true (by kernel_rfl)) k0 bel lt0) trodAll_mk0), rfl, bel.frame _, fun h => by cases h⟩
theorem andTT {a b : Bool} (h1 : a = true) (h2 : b = true) : (a && b) = true := by rw [h1, h2]; rfl
set_option maxHeartbeats 8000000 in
theorem closed : joinedFacts Tryz.prog 3 Tryz.f3 Rows.fnHopsSpec Rows.fnHopsRow = true := by
  unfold joinedFacts
  repeat' (with_reducible refine andTT ?_ ?_)
  all_goals (first | (with_reducible exact clo_laid) | (with_reducible exact clo_maps) | (with_reducible exact clo_heard) | (with_reducible exact clo_enter) | ((with_reducible refine clo_plain _ ?_); rfl) | ((with_reducible refine clo_lifts _ ?_); rfl) | (as_aux_lemma => kernel_rfl))

theorem over : Rows.fnHopsRow.holds Tryz.pinned (OpenSpec.ofChange Rows.fnHopsSpec) :=
  OpenClaim.holds_of_wide 3 Tryz.f3 rfl rfl rfl rfl rfl rfl rfl ⟨rfl, rfl, rfl, rfl, rfl⟩ rfl rfl rfl rfl rfl (by kernel_rfl) Tryz.func3 closed
    (of_decide_eq_true (by kernel_rfl)) (by unfold Func.isWrapper; first | (rw [if_pos (by decide +kernel)]; kernel_rfl) | (rw [if_neg (by decide +kernel)]; exact ⟨rfl, rfl⟩))
    (fun os started H enc _ => lifted os started H enc)

/-- THE STATEMENT. -/
theorem proved : Rows.FnHopsSaid := over
end lawFnHops
end Go.Proofs.YtifjenleoagefaaGreat
