/- The law FnGroup returns true at every code; no condition. -/
import Derived.Test.YthbphdaklkaeaaaDrawM
import Derived.Test.YthbphdaklkaeaaaEqZ
import Derived.Test.YthbphdaklkaeaaaZn
import Derived.Test.YthbphdaklkaeaaaPl
import Derived.Test.YthbphdaklkaeaaaGrpE
import Derived.Test.YthbphdaklkaeaaaClo
import Derived.Carry
import Derived.ChangeOld
import Derived.Lib.SmallJoins
import Derived.Lib.QuietBelow
namespace Go.Proofs.Ythbphdaklkaeaaa
open Go.ChangeShapes Go.WideShapes Go.ChangeAt Go.RowKit Go.Sort
set_option linter.unusedVariables false
set_option linter.unusedSimpArgs false

set_option maxRecDepth 100000 in
set_option maxHeartbeats 6400000 in
theorem FnGroup_walk (A : Option Addr) (n c : Nat) (w : World) (hc : n ≤ c) (hl : n ≤ maxLen) (hb : BytesAt w w.heap.size A n) :
    Calls Try.prog 13 #[.slice A n c] w fun e w' => e = .returned (.bool true) ∧ Below w.heap.size w w' := by
  unfold maxLen at hl
  by_cases hbign : 1048576 < n
  · have hb' : (1048576 : Int) < n := by omega
    go_enter Try.func13, Try.ntmps13
    go_wp2
    go_ret
    exact ⟨rfl, Below.refl _ _⟩
  have hbn' : (n : Int) ≤ 1048576 := by omega
  have HB := Lib.hid hb
  clear hb hbign
  go_enter Try.func13, Try.ntmps13
  go_wp2_with fail
  refine (DrawGroup_r _ _ _ _ HB.out hc (by omega)).mono ?_
  rintro e w1 ⟨z, key, Az, Ak, cz, ck, rfl, hz, hK, hkl, B1⟩
  have nz : z.length ≤ 4194304 := by have := hz.2.1; omega
  have rz : rowsIn z 4194304 := rows_big hz.2.2.1 (by decide)
  have hzl := hz.2.1
  have hgl := GrpF_len z key
  by_cases hv : zsB z = true
  · have HV := Lib.hid hv
    rcases Nat.eq_zero_or_pos z.length with h0 | hp
    · have h0' : ((z.length : Int) == 0) = true := by rw [h0]; rfl
      clear hv h0
      go_wp2_with fail
      refine (Group_i _ _ z _ _ key _ (EntsOw.atC hz.1) hK nz rz (by omega)).mono ?_
      rintro e w2 ⟨A2, c2, rfl, o2, b2⟩
      have B2 := btr B1 b2
      have a2 : EntsAt w2 A2 (GrpF z key) := SlOw.at_ entO o2
      go_wp2_with fail
      refine (Group_s _ _ z _ _ key _ ((EntsOw.atC hz.1).below entC b2) (hK.below b2) nz rz (by omega)).mono ?_
      rintro e w3 ⟨A3, c3, rfl, o3, b3⟩
      have B3 := btr B2 b3
      have a3 : EntsAt w3 A3 (GrpF z key) := SlOw.at_ entO o3
      go_wp2_with fail
      refine (equalZ (xs := GrpF z key) (ys := GrpF z key) true (decide_eq_true rfl) (a2.below entR b3) a3 (Nat.le_trans (GrpF_len _ _) (by decide)) (Nat.le_trans (GrpF_len _ _) (by decide)) (rows_big (GrpF_row _ _) (by decide)) (rows_big (GrpF_row _ _) (by decide))).mono ?_
      rintro e w4 ⟨rfl, b4⟩
      have B4 := btr B3 b4
      go_wp2_with fail
      refine (validZ true HV.out ((SlOw.at_ entO hz.1).below entR (btr (btr b2 b3) b4)) nz rz).mono ?_
      rintro e w5 ⟨rfl, b5⟩
      have B5 := btr B4 b5
      go_wp2_with fail
      refine (Group_s _ _ z _ _ key _ ((EntsOw.atC hz.1).below entC (btr (btr (btr b2 b3) b4) b5)) (hK.below (btr (btr (btr b2 b3) b4) b5)) nz rz (by omega)).mono ?_
      rintro e w6 ⟨A6, c6, rfl, o6, b6⟩
      have B6 := btr B5 b6
      have a6 : EntsAt w6 A6 (GrpF z key) := SlOw.at_ entO o6
      go_wp2_with fail
      refine (equalZ (xs := GrpF z key) (ys := GrpF z key) true (decide_eq_true rfl) (a2.below entR (btr (btr (btr b3 b4) b5) b6)) a6 (Nat.le_trans (GrpF_len _ _) (by decide)) (Nat.le_trans (GrpF_len _ _) (by decide)) (rows_big (GrpF_row _ _) (by decide)) (rows_big (GrpF_row _ _) (by decide))).mono ?_
      rintro e w7 ⟨rfl, b7⟩
      have B7 := btr B6 b7
      go_wp2_with fail
      go_ret
      exact ⟨rfl, B7⟩
    · have hw := wid_row hv hp
      have hp' : ((z.length : Int) == 0) = false := by rw [beq_eq_false_iff_ne]; omega
      have hp2 : (0 : Int) < z.length := by omega
      have hwz := wid_get hp
      obtain ⟨b, off, RA0, rc0, hAe, hbl, hz0, -, -, -⟩ := (EntsAt.get (SlOw.at_ entO hz.1) 0 hp)
      simp only [Nat.zero_mul, Nat.add_zero] at hz0
      subst hAe
      rcases Nat.eq_zero_or_pos key.length with k0 | kp
      · have k0' : ((key.length : Int) == 0) = true := by rw [k0]; rfl
        clear hv k0
        go_wp2_with fail
        refine (Group_i _ _ z _ _ key _ (EntsOw.atC hz.1) hK nz rz (by omega)).mono ?_
        rintro e w2 ⟨A2, c2, rfl, o2, b2⟩
        have B2 := btr B1 b2
        have a2 : EntsAt w2 A2 (GrpF z key) := SlOw.at_ entO o2
        go_wp2_with fail
        refine (Group_s _ _ z _ _ key _ ((EntsOw.atC hz.1).below entC b2) (hK.below b2) nz rz (by omega)).mono ?_
        rintro e w3 ⟨A3, c3, rfl, o3, b3⟩
        have B3 := btr B2 b3
        have a3 : EntsAt w3 A3 (GrpF z key) := SlOw.at_ entO o3
        go_wp2_with fail
        refine (equalZ (xs := GrpF z key) (ys := GrpF z key) true (decide_eq_true rfl) (a2.below entR b3) a3 (Nat.le_trans (GrpF_len _ _) (by decide)) (Nat.le_trans (GrpF_len _ _) (by decide)) (rows_big (GrpF_row _ _) (by decide)) (rows_big (GrpF_row _ _) (by decide))).mono ?_
        rintro e w4 ⟨rfl, b4⟩
        have B4 := btr B3 b4
        go_wp2_with fail
        refine (validZ true HV.out ((SlOw.at_ entO hz.1).below entR (btr (btr b2 b3) b4)) nz rz).mono ?_
        rintro e w5 ⟨rfl, b5⟩
        have B5 := btr B4 b5
        go_wp2_with fail
        refine (Group_s _ _ z _ _ key _ ((EntsOw.atC hz.1).below entC (btr (btr (btr b2 b3) b4) b5)) (hK.below (btr (btr (btr b2 b3) b4) b5)) nz rz (by omega)).mono ?_
        rintro e w6 ⟨A6, c6, rfl, o6, b6⟩
        have B6 := btr B5 b6
        have a6 : EntsAt w6 A6 (GrpF z key) := SlOw.at_ entO o6
        go_wp2_with fail
        refine (equalZ (xs := GrpF z key) (ys := GrpF z key) true (decide_eq_true rfl) (a2.below entR (btr (btr (btr b3 b4) b5) b6)) a6 (Nat.le_trans (GrpF_len _ _) (by decide)) (Nat.le_trans (GrpF_len _ _) (by decide)) (rows_big (GrpF_row _ _) (by decide)) (rows_big (GrpF_row _ _) (by decide))).mono ?_
        rintro e w7 ⟨rfl, b7⟩
        have B7 := btr B6 b7
        go_wp2_with fail
        go_ret
        exact ⟨rfl, B7⟩
      · have kp' : ((key.length : Int) == 0) = false := by rw [beq_eq_false_iff_ne]; omega
        by_cases hkw : wid z < key.length
        · rw [hwz] at hkw
          have hkw' : decide ((z[0].1.length : Int) < key.length) = true := by simpa using hkw
          clear hv
          go_wp2_with fail
          refine (Group_i _ _ z _ _ key _ (EntsOw.atC hz.1) hK nz rz (by omega)).mono ?_
          rintro e w2 ⟨A2, c2, rfl, o2, b2⟩
          have B2 := btr B1 b2
          have a2 : EntsAt w2 A2 (GrpF z key) := SlOw.at_ entO o2
          go_wp2_with fail
          refine (Group_s _ _ z _ _ key _ ((EntsOw.atC hz.1).below entC b2) (hK.below b2) nz rz (by omega)).mono ?_
          rintro e w3 ⟨A3, c3, rfl, o3, b3⟩
          have B3 := btr B2 b3
          have a3 : EntsAt w3 A3 (GrpF z key) := SlOw.at_ entO o3
          go_wp2_with fail
          refine (equalZ (xs := GrpF z key) (ys := GrpF z key) true (decide_eq_true rfl) (a2.below entR b3) a3 (Nat.le_trans (GrpF_len _ _) (by decide)) (Nat.le_trans (GrpF_len _ _) (by decide)) (rows_big (GrpF_row _ _) (by decide)) (rows_big (GrpF_row _ _) (by decide))).mono ?_
          rintro e w4 ⟨rfl, b4⟩
          have B4 := btr B3 b4
          go_wp2_with fail
          refine (validZ true HV.out ((SlOw.at_ entO hz.1).below entR (btr (btr b2 b3) b4)) nz rz).mono ?_
          rintro e w5 ⟨rfl, b5⟩
          have B5 := btr B4 b5
          have hz0' := (Below.cell (p := ⟨b, off, none⟩) ((btr (btr (btr b2 b3) b4) b5)) hbl).trans hz0
          go_wp2_with fail
          refine (Group_s _ _ z _ _ key _ ((EntsOw.atC hz.1).below entC (btr (btr (btr b2 b3) b4) b5)) (hK.below (btr (btr (btr b2 b3) b4) b5)) nz rz (by omega)).mono ?_
          rintro e w6 ⟨A6, c6, rfl, o6, b6⟩
          have B6 := btr B5 b6
          have a6 : EntsAt w6 A6 (GrpF z key) := SlOw.at_ entO o6
          go_wp2_with fail
          refine (equalZ (xs := GrpF z key) (ys := GrpF z key) true (decide_eq_true rfl) (a2.below entR (btr (btr (btr b3 b4) b5) b6)) a6 (Nat.le_trans (GrpF_len _ _) (by decide)) (Nat.le_trans (GrpF_len _ _) (by decide)) (rows_big (GrpF_row _ _) (by decide)) (rows_big (GrpF_row _ _) (by decide))).mono ?_
          rintro e w7 ⟨rfl, b7⟩
          have B7 := btr B6 b7
          go_wp2_with fail
          go_ret
          exact ⟨rfl, B7⟩
        · have hkw' : ¬ z[0].1.length < key.length := by rw [hwz] at hkw; omega
          have HKW : Hid (∀ e ∈ z, key.length ≤ e.1.length) := fun e he => by have := zsB_wid hv e he; omega
          have hGF : GrpF z key = z.filter (fun e => grpB key e.1) := by
            unfold GrpF
            rw [if_pos (by simp [hv]; omega)]
          have HGF := Lib.hid hGF
          clear hv hkw hGF
          go_wp2_with fail
          refine (Group_i _ _ z _ _ key _ (EntsOw.atC hz.1) hK nz rz (by omega)).mono ?_
          rintro e w2 ⟨A2, c2, rfl, o2, b2⟩
          have B2 := btr B1 b2
          have a2 : EntsAt w2 A2 (GrpF z key) := SlOw.at_ entO o2
          go_wp2_with fail
          refine (Group_s _ _ z _ _ key _ ((EntsOw.atC hz.1).below entC b2) (hK.below b2) nz rz (by omega)).mono ?_
          rintro e w3 ⟨A3, c3, rfl, o3, b3⟩
          have B3 := btr B2 b3
          have a3 : EntsAt w3 A3 (GrpF z key) := SlOw.at_ entO o3
          go_wp2_with fail
          refine (equalZ (xs := GrpF z key) (ys := GrpF z key) true (decide_eq_true rfl) (a2.below entR b3) a3 (Nat.le_trans (GrpF_len _ _) (by decide)) (Nat.le_trans (GrpF_len _ _) (by decide)) (rows_big (GrpF_row _ _) (by decide)) (rows_big (GrpF_row _ _) (by decide))).mono ?_
          rintro e w4 ⟨rfl, b4⟩
          have B4 := btr B3 b4
          go_wp2_with fail
          refine (validZ true HV.out ((SlOw.at_ entO hz.1).below entR (btr (btr b2 b3) b4)) nz rz).mono ?_
          rintro e w5 ⟨rfl, b5⟩
          have B5 := btr B4 b5
          have hz0' := (Below.cell (p := ⟨b, off, none⟩) ((btr (btr (btr b2 b3) b4) b5)) hbl).trans hz0
          have hC : EntsC w5 (some ⟨b, off, none⟩) z := ((EntsOw.atC hz.1).below entC (btr (btr (btr b2 b3) b4) b5))
          have hg : EntsAt w5 A2 (z.filter (fun e => grpB key e.1)) := by rw [← HGF.out]; exact (a2.below entR (btr (btr b3 b4) b5))
          have hKk : IntsAt w5 Ak key := hK.below ((btr (btr (btr b2 b3) b4) b5))
          have hgl2 : (z.filter (fun e => grpB key e.1)).length ≤ 400 := by rw [← HGF.out]; exact hgl
          rw [HGF.out]
          clear hz0 hgl
          generalize hPR : (fun e : Ent => grpB key e.1) = pr at *
          have HPR : Hid (∀ e : Ent, pr e = grpB key e.1) := fun e => by rw [← hPR]
          clear hPR HGF
          go_wp2
          go_loopw [6, 7] (fun n i wr => ∃ k : Nat, k ≤ z.length ∧ i = .int .i64 k ∧ n = .int .i64 (((z.take k).filter pr).length : Nat) ∧ Below w5.heap.size w5 wr) (fun _ i _ => z.length - (intOf i).toNat)
          case atStart => exact ⟨0, by omega, rfl, rfl, Below.refl _ _⟩
          case round =>
            obtain ⟨i, hi, rfl, rfl, bm⟩ := hrel
            have hdl : ((z.take i).filter pr).length ≤ i := Nat.le_trans (List.length_filter_le _ _) (by simp; omega)
            by_cases hlt : i < z.length
            · obtain ⟨b2, off2, RA, rc, hbe, -, hc0, hc1, hcap1, hcap2, hrow⟩ := hC.get i hlt
              injection hbe with hbe
              injection hbe with hbe1 hbe2
              subst hbe1
              subst hbe2
              have hrl := rz.get hlt
              have hkr := HKW.out _ (List.getElem_mem hlt)
              obtain ⟨rb, ro, rfl, -, -⟩ := hrow (by omega)
              have g0 : (0 : Int) ≤ key.length := by omega
              have g1 : (key.length : Int) ≤ rc := by omega
              have g2 : (rc : Int) ≤ 9223372036854775807 := by unfold maxLen at hcap2; omega
              have hi1 : (i : Int) < z.length := by omega
              have q0 := (bm.cell (p := ⟨b, off + i * 2, none⟩) (block_lt_of_cell hc0)).trans hc0
              have q1 := (bm.cell (p := ⟨b, off + i * 2 + 1, none⟩) (block_lt_of_cell hc1)).trans hc1
              have htl : (z[i].1.take key.length).length = key.length := by simp; omega
              have hst : (z.take (i + 1)).filter pr = (z.take i).filter pr ++ if pr z[i] = true then [z[i]] else [] := by
                rw [List.take_succ_eq_append_getElem hlt, List.filter_append]
                congr 1
                by_cases h : pr z[i] = true <;> simp [h]
              have hpz := HPR.out z[i]
              by_cases hp : pr z[i] = true
              · rw [if_pos hp] at hst
                have he : decide (z[i].1.take key.length = key) = true := by
                  rw [hpz] at hp
                  simpa [grpB] using hp
                have hn1 : ((z.take i).filter pr).length < (z.filter pr).length := by
                  have : z.filter pr = (z.take i).filter pr ++ (z.drop i).filter pr := by rw [← List.filter_append, List.take_append_drop]
                  rw [this, List.length_append, List.drop_eq_getElem_cons hlt, List.filter_cons_of_pos hp]
                  simp
                have hgn : (z.filter pr)[((z.take i).filter pr).length] = z[i] := by
                  have : z.filter pr = (z.take i).filter pr ++ (z.drop i).filter pr := by rw [← List.filter_append, List.take_append_drop]
                  have h2 : (z.filter pr)[((z.take i).filter pr).length]? = some z[i] := by
                    rw [this, List.getElem?_append_right (Nat.le_refl _), Nat.sub_self, List.drop_eq_getElem_cons hlt, List.filter_cons_of_pos hp]
                    rfl
                  rw [List.getElem?_eq_getElem hn1] at h2
                  injection h2
                obtain ⟨gb, go_, RG, gc, hGe, hgb, hg0, hg1, -, hgrow⟩ := hg.get _ hn1
                rw [hgn] at hg0 hg1 hgrow
                have HST : Hid (((z.take (i + 1)).filter pr).length = ((z.take i).filter pr).length + 1) := by rw [hst]; simp [Hid]
                have HT := Lib.hid htl
                generalize ((z.take i).filter pr).length = nn at *
                clear hst hpz hp hgn htl
                subst hGe
                go_wp2_with fail
                refine (eqIL (x := z[i].1.take key.length) true key.length he HT.out ((hrow.below bm).take key.length) (hKk.below bm) (by omega) (by omega)).mono ?_
                rintro e w9 ⟨rfl, b9⟩
                have hB9 := btr bm b9
                have r0 := cgrowZ ((hB9.cell (p := ⟨b, off + i * 2, none⟩) (block_lt_of_cell hc0)).trans hc0)
                have r1 := cgrowZ ((hB9.cell (p := ⟨b, off + i * 2 + 1, none⟩) (block_lt_of_cell hc1)).trans hc1)
                have r2 := cgrowZ ((hB9.cell (p := ⟨gb, go_ + nn * 2, none⟩) hgb).trans hg0)
                have r3 := cgrowZ ((hB9.cell (p := ⟨gb, go_ + nn * 2 + 1, none⟩) hgb).trans hg1)
                have hn2 : (nn : Int) < (z.filter pr).length := by omega
                have hge : decide (((z.filter pr).length : Int) ≤ nn) = false := by simp; omega
                have hge2 : decide ((z.filter pr).length ≤ nn) = false := by simp; omega
                have hge3 : ¬ (z.filter pr).length ≤ nn := by omega
                have hne : (z[i].2 != z[i].2) = false := by simp
                have hcon := fun W (hW : Below w9.heap.size w9 W) => eqIL (c := gc) (d := rc) (x := z[i].1) (y := z[i].1) true z[i].1.length (decide_eq_true rfl) rfl ((hgrow.below hB9).below hW) ((hrow.below hB9).below hW) (by omega) (by omega)
                clear q0 q1 he
                go_wp2_with fail
                refine wp_region_quiet_below (by kernel_rfl) (by kernel_rfl) ?_
                repeat (go_big_quiet_step (exact Calls.regrown_of (hcon _ (below_regrown _ _ _))))
                refine wpQuiet_nil ?_
                intro wq hwq
                obtain ⟨⟨dq, osq⟩, rfl⟩ := hwq
                have hbq := btr hB9 (below_regrown w9 dq osq)
                generalize grow (redrawn w9 dq) osq = w10 at hbq
                clear r0 r1 r2 r3 hcon
                go_wp2
                go_roundw
                case rel => exact ⟨i + 1, by omega, by go_num, by rw [HST.out]; go_num, hbq⟩
                case measure => simp [intOf]; omega
              · rw [if_neg hp] at hst
                have he : decide (z[i].1.take key.length = key) = false := by
                  rw [hpz] at hp
                  simpa [grpB] using hp
                rw [List.append_nil] at hst
                have HST := Lib.hid hst
                have HT := Lib.hid htl
                clear hst hpz hp htl
                go_wp2_with fail
                refine (eqIL (x := z[i].1.take key.length) false key.length he HT.out ((hrow.below bm).take key.length) (hKk.below bm) (by omega) (by omega)).mono ?_
                rintro e w9 ⟨rfl, b9⟩
                have hB9 := btr bm b9
                clear q0 q1 he
                go_wp2
                go_roundw
                case rel => exact ⟨i + 1, by omega, by go_num, by rw [HST.out], hB9⟩
                case measure => simp [intOf]; omega
            · obtain rfl : i = z.length := by omega
              rw [List.take_length]
              have BB := btr B5 bm
              have heq : (((z.filter pr).length : Int) == ((z.filter pr).length : Int)) = true := by simp
              go_wp2
              go_ret
              exact ⟨rfl, BB⟩
  · have hv' : zsB z = false := by simpa using hv
    have HV := Lib.hid hv'
    clear hv hv'
    go_wp2_with fail
    refine (Group_i _ _ z _ _ key _ (EntsOw.atC hz.1) hK nz rz (by omega)).mono ?_
    rintro e w2 ⟨A2, c2, rfl, o2, b2⟩
    have B2 := btr B1 b2
    have a2 : EntsAt w2 A2 (GrpF z key) := SlOw.at_ entO o2
    go_wp2_with fail
    refine (Group_s _ _ z _ _ key _ ((EntsOw.atC hz.1).below entC b2) (hK.below b2) nz rz (by omega)).mono ?_
    rintro e w3 ⟨A3, c3, rfl, o3, b3⟩
    have B3 := btr B2 b3
    have a3 : EntsAt w3 A3 (GrpF z key) := SlOw.at_ entO o3
    go_wp2_with fail
    refine (equalZ (xs := GrpF z key) (ys := GrpF z key) true (decide_eq_true rfl) (a2.below entR b3) a3 (Nat.le_trans (GrpF_len _ _) (by decide)) (Nat.le_trans (GrpF_len _ _) (by decide)) (rows_big (GrpF_row _ _) (by decide)) (rows_big (GrpF_row _ _) (by decide))).mono ?_
    rintro e w4 ⟨rfl, b4⟩
    have B4 := btr B3 b4
    go_wp2_with fail
    refine (validZ false HV.out ((SlOw.at_ entO hz.1).below entR (btr (btr b2 b3) b4)) nz rz).mono ?_
    rintro e w5 ⟨rfl, b5⟩
    have B5 := btr B4 b5
    go_wp2_with fail
    refine (Group_s _ _ z _ _ key _ ((EntsOw.atC hz.1).below entC (btr (btr (btr b2 b3) b4) b5)) (hK.below (btr (btr (btr b2 b3) b4) b5)) nz rz (by omega)).mono ?_
    rintro e w6 ⟨A6, c6, rfl, o6, b6⟩
    have B6 := btr B5 b6
    have a6 : EntsAt w6 A6 (GrpF z key) := SlOw.at_ entO o6
    go_wp2_with fail
    refine (equalZ (xs := GrpF z key) (ys := GrpF z key) true (decide_eq_true rfl) (a2.below entR (btr (btr (btr b3 b4) b5) b6)) a6 (Nat.le_trans (GrpF_len _ _) (by decide)) (Nat.le_trans (GrpF_len _ _) (by decide)) (rows_big (GrpF_row _ _) (by decide)) (rows_big (GrpF_row _ _) (by decide))).mono ?_
    rintro e w7 ⟨rfl, b7⟩
    have B7 := btr B6 b7
    go_wp2_with fail
    go_ret
    exact ⟨rfl, B7⟩

namespace lawFnGroup
theorem own : ownKnob Try.prog.godebug = none := by kernel_rfl
theorem laidOut : laidOutB Try.prog = true := clo_laid
set_option maxRecDepth 100000 in
theorem lifted (os : Os) (started : os.Started) (H : Type) (enc : TypeId × Value → H) :
    ReturnsInHanded {} Try.checked os 13 .any (Rows.fnGroupSpec.pre6 enc Try.prog Try.f13 Rows.fnGroupRow.domain false) (Rows.fnGroupSpec.post enc Try.prog Try.f13 false true false false) := by
  refine returnsInHanded_of_change (C := Try.checked) own started (by kernel_rfl) Try.func13
    (ChangeSpec.witness6 (enc := enc) (C := Try.checked) false ⟨#[], #[.slice none 0 0], []⟩ 8 (by kernel_rfl) (by kernel_rfl) (by kernel_rfl) (by kernel_rfl)) ?_
  intro W base args ds gs before hval0 hW hcnd _
  have hval : ∀ (j : Nat) t v, Try.f13.params[j]? = some t → args[j]? = some v → Value.okWide Try.prog W .any base t v := hval0
  have hW' := hW
  obtain ⟨p, q, hA0, hV, rfl, hfz, hnd⟩ := hW
  have hA : DataW.TrodAll enc Try.prog W 0 (fun _ => true) true Try.f13.params.toList args.toList ds p := hA0
  rw [Try.params13] at hA hval
  obtain ⟨v0, vs0, d0, ds0, p0, q0, hargs, rfl, rfl, h0, r0⟩ := trodAll_cons hA
  obtain ⟨rfl, rfl, rfl⟩ := trodAll_nil r0
  obtain rfl : args = #[v0] := by cases args; simp_all
  obtain ⟨rfl, rfl⟩ := trodVars_none hV
  have k0 := h0
  have lt0 : ∀ x ∈ p0, x.block < W.heap.size := by obtain ⟨m, hm⟩ := k0; exact DataW.trod_lt m _ _ _ hm
  obtain ⟨a0, len0, cap0, rfl⟩ := okWide_slice Try.underlying22 (hval 0 22 v0 rfl rfl)
  obtain ⟨l0, m0, w0⟩ := bytes_of Try.underlying22 Try.underlying5 (by kernel_rfl) h0
  clear hA0 hval0
  refine (FnGroup_walk a0 len0 cap0 W l0 m0 w0).mono fun e W' ⟨he, bel⟩ => ?_
  subst he
  exact ⟨_, rfl, _, _, _, [], _, [], hW', trodAll_mk1 (shut_bool Try.underlying4 _), (trodAll_cons_mk (Below.trod laidOut (by kernel_rfl) (of_decide_eq_true (by kernel_rfl)) k0 bel lt0) trodAll_mk0), rfl, bel.frame _, fun h => by cases h⟩
theorem andTT {a b : Bool} (h1 : a = true) (h2 : b = true) : (a && b) = true := by rw [h1, h2]; rfl
set_option maxHeartbeats 8000000 in
theorem closed : joinedFacts Try.prog 13 Try.f13 Rows.fnGroupSpec Rows.fnGroupRow = true := by
  unfold joinedFacts
  repeat' (with_reducible refine andTT ?_ ?_)
  all_goals (first | (with_reducible exact clo_laid) | (with_reducible exact clo_maps) | (with_reducible exact clo_heard) | (with_reducible exact clo_enter) | ((with_reducible refine clo_plain _ ?_); rfl) | ((with_reducible refine clo_lifts _ ?_); rfl) | (as_aux_lemma => kernel_rfl))

theorem over : Rows.fnGroupRow.holds Try.pinned (OpenSpec.ofChange Rows.fnGroupSpec) :=
  OpenClaim.holds_of_wide 13 Try.f13 rfl rfl rfl rfl rfl rfl rfl ⟨rfl, rfl, rfl, rfl, rfl⟩ rfl rfl rfl rfl rfl (by kernel_rfl) Try.func13 closed
    (of_decide_eq_true (by kernel_rfl)) (by unfold Func.isWrapper; first | (rw [if_pos (by decide +kernel)]; kernel_rfl) | (rw [if_neg (by decide +kernel)]; exact ⟨rfl, rfl⟩))
    (fun os started H enc _ => lifted os started H enc)

/-- THE STATEMENT. -/
theorem proved : Rows.FnGroupSaid := over
end lawFnGroup
end Go.Proofs.Ythbphdaklkaeaaa
