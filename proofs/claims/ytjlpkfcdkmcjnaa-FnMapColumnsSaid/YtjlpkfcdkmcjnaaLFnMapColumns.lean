/- The law FnMapColumns returns true at every code; no condition. -/
import Derived.Test.YtjlpkfcdkmcjnaaDrawQ
import Derived.Test.YtjlpkfcdkmcjnaaGrd
import Derived.Test.YtjlpkfcdkmcjnaaEntO
import Derived.Test.YtjlpkfcdkmcjnaaClo
import Derived.Carry
import Derived.ChangeOld
import Derived.Lib.SmallJoins
import Derived.Lib.QuietBelow
namespace Go.Proofs.Ytjlpkfcdkmcjnaa
open Go.ChangeShapes Go.WideShapes Go.ChangeAt Go.RowKit Go.Sort
set_option linter.unusedVariables false
set_option linter.unusedSimpArgs false

set_option maxRecDepth 100000 in
set_option maxHeartbeats 6400000 in
theorem FnMapColumns_walk (A : Option Addr) (n c : Nat) (w : World) (hc : n ≤ c) (hl : n ≤ maxLen) (hb : BytesAt w w.heap.size A n) :
    Calls Try.prog 5 #[.slice A n c] w fun e w' => e = .returned (.bool true) ∧ Below w.heap.size w w' := by
  unfold maxLen at hl
  by_cases hbign : 1048576 < n
  · have hb' : (1048576 : Int) < n := by omega
    go_enter Try.func5, Try.ntmps5
    go_wp2
    go_ret
    exact ⟨rfl, Below.refl _ _⟩
  have hbn' : (n : Int) ≤ 1048576 := by omega
  have HB := Lib.hid hb
  clear hb hbign
  go_enter Try.func5, Try.ntmps5
  go_wp2_with fail
  refine (DrawMapColumns_r _ _ _ _ HB.out hc (by omega)).mono ?_
  rintro e w1 ⟨x, cols, Ax, Ak, cx, ck, rfl, hx, hcols, hcl, B1⟩
  have nx : x.length ≤ 4194304 := by have := hx.2.1; omega
  have rx : rowsIn x 4194304 := rows_big hx.2.2.1 (by decide)
  cases hS : smB x
  · have HS := Lib.hid hS
    clear hS
    go_wp2_with fail
    refine (MapColumns_i _ _ (x) _ _ cols _ (SlOw.at_ entO hx.1) hcols nx rx (by omega)).mono ?_
    rintro e w2 ⟨A2, c2, rfl, o2, b2⟩
    have B2 := btr B1 b2
    have a2 : EntsAt w2 A2 (MapF (x) cols) := SlOw.at_ entO o2
    go_wp2_with fail
    refine (MapColumns_s _ _ (x) _ _ cols _ ((SlOw.at_ entO hx.1).below entR b2) (hcols.below b2) nx rx (by omega)).mono ?_
    rintro e w3 ⟨A3, c3, rfl, o3, b3⟩
    have B3 := btr B2 b3
    have a3 : EntsAt w3 A3 (MapF (x) cols) := SlOw.at_ entO o3
    go_wp2_with fail
    refine (equalZ (xs := MapF (x) cols) (ys := MapF (x) cols) true (decide_eq_true rfl) (a2.below entR b3) a3 (Nat.le_trans (MapF_len _ _) (by decide)) (Nat.le_trans (MapF_len _ _) (by decide)) (rows_big (MapF_row _ _) (by decide)) (rows_big (MapF_row _ _) (by decide))).mono ?_
    rintro e w4 ⟨rfl, b4⟩
    have B4 := btr B3 b4
    go_wp2_with fail
    refine (smallZ false HS.out ((SlOw.at_ entO hx.1).below entR (btr (btr b2 b3) b4)) nx rx).mono ?_
    rintro e w5 ⟨rfl, b5⟩
    have B5 := btr B4 b5
    go_wp2_with fail
    refine (MapColumns_s _ _ (x) _ _ cols _ ((SlOw.at_ entO hx.1).below entR (btr (btr (btr b2 b3) b4) b5)) (hcols.below (btr (btr (btr b2 b3) b4) b5)) nx rx (by omega)).mono ?_
    rintro e w6 ⟨A6, c6, rfl, o6, b6⟩
    have B6 := btr B5 b6
    have a6 : EntsAt w6 A6 (MapF (x) cols) := SlOw.at_ entO o6
    go_wp2_with fail
    refine (equalZ (xs := MapF (x) cols) (ys := MapF (x) cols) true (decide_eq_true rfl) (a2.below entR (btr (btr (btr b3 b4) b5) b6)) a6 (Nat.le_trans (MapF_len _ _) (by decide)) (Nat.le_trans (MapF_len _ _) (by decide)) (rows_big (MapF_row _ _) (by decide)) (rows_big (MapF_row _ _) (by decide))).mono ?_
    rintro e w7 ⟨rfl, b7⟩
    have B7 := btr B6 b7
    go_wp2_with fail
    go_ret
    exact ⟨rfl, B7⟩
  · have Sx := smB_Sm hS
    have HS := Lib.hid hS
    clear hS
    rcases Nat.eq_zero_or_pos x.length with h0x | hpx
    · have hzx : ((x.length : Int) == 0) = true := by rw [h0x]; rfl
      clear h0x Sx
      go_wp2_with fail
      refine (MapColumns_i _ _ (x) _ _ cols _ (SlOw.at_ entO hx.1) hcols nx rx (by omega)).mono ?_
      rintro e w2 ⟨A2, c2, rfl, o2, b2⟩
      have B2 := btr B1 b2
      have a2 : EntsAt w2 A2 (MapF (x) cols) := SlOw.at_ entO o2
      go_wp2_with fail
      refine (MapColumns_s _ _ (x) _ _ cols _ ((SlOw.at_ entO hx.1).below entR b2) (hcols.below b2) nx rx (by omega)).mono ?_
      rintro e w3 ⟨A3, c3, rfl, o3, b3⟩
      have B3 := btr B2 b3
      have a3 : EntsAt w3 A3 (MapF (x) cols) := SlOw.at_ entO o3
      go_wp2_with fail
      refine (equalZ (xs := MapF (x) cols) (ys := MapF (x) cols) true (decide_eq_true rfl) (a2.below entR b3) a3 (Nat.le_trans (MapF_len _ _) (by decide)) (Nat.le_trans (MapF_len _ _) (by decide)) (rows_big (MapF_row _ _) (by decide)) (rows_big (MapF_row _ _) (by decide))).mono ?_
      rintro e w4 ⟨rfl, b4⟩
      have B4 := btr B3 b4
      go_wp2_with fail
      refine (smallZ true HS.out ((SlOw.at_ entO hx.1).below entR (btr (btr b2 b3) b4)) nx rx).mono ?_
      rintro e w5 ⟨rfl, b5⟩
      have B5 := btr B4 b5
      go_wp2_with fail
      refine (MapColumns_s _ _ (x) _ _ cols _ ((SlOw.at_ entO hx.1).below entR (btr (btr (btr b2 b3) b4) b5)) (hcols.below (btr (btr (btr b2 b3) b4) b5)) nx rx (by omega)).mono ?_
      rintro e w6 ⟨A6, c6, rfl, o6, b6⟩
      have B6 := btr B5 b6
      have a6 : EntsAt w6 A6 (MapF (x) cols) := SlOw.at_ entO o6
      go_wp2_with fail
      refine (equalZ (xs := MapF (x) cols) (ys := MapF (x) cols) true (decide_eq_true rfl) (a2.below entR (btr (btr (btr b3 b4) b5) b6)) a6 (Nat.le_trans (MapF_len _ _) (by decide)) (Nat.le_trans (MapF_len _ _) (by decide)) (rows_big (MapF_row _ _) (by decide)) (rows_big (MapF_row _ _) (by decide))).mono ?_
      rintro e w7 ⟨rfl, b7⟩
      have B7 := btr B6 b7
      go_wp2_with fail
      go_ret
      exact ⟨rfl, B7⟩
    · have hzx : ((x.length : Int) == 0) = false := by rw [beq_eq_false_iff_ne]; omega
      have hqx : (0 : Int) < x.length := by omega
      obtain ⟨i0, hi, hz0, hz1, hz2⟩ := info_parts Try.infoInt
      have hwx := wid_get hpx
      have hw16 := wid_row Sx.zs hpx
      have HALL : Hid (MapF x (allC x[0].1.length) = x) := by rw [Hid, ← hwx]; exact MapF_all Sx (by omega) (by omega)
      have hn6 : x[0].1.length ≤ 6 := by omega
      have HRB := Lib.hid (rowB_key Sx.zs _ (List.getElem_mem hpx))
      have hxl := rx.get hpx
      cases hcB : colB cols (wid x)
      · have HP : Hid (projB x[0].1 cols = false) := by
          rw [Hid, projB, HRB.out, ← hwx, hcB]; rfl
        clear hcB hwx hw16 Sx HRB
        obtain ⟨bbx, oox, RRx, ssx, hAx, hblx, hcx, -, -, hrx⟩ := (EntsAt.get (SlOw.at_ entO hx.1) 0 hpx)
        simp only [Nat.zero_mul, Nat.add_zero] at hcx
        subst hAx
        go_wp2_with fail
        refine (MapColumns_i _ _ (x) _ _ cols _ (SlOw.at_ entO hx.1) hcols nx rx (by omega)).mono ?_
        rintro e w2 ⟨A2, c2, rfl, o2, b2⟩
        have B2 := btr B1 b2
        have a2 : EntsAt w2 A2 (MapF (x) cols) := SlOw.at_ entO o2
        go_wp2_with fail
        refine (MapColumns_s _ _ (x) _ _ cols _ ((SlOw.at_ entO hx.1).below entR b2) (hcols.below b2) nx rx (by omega)).mono ?_
        rintro e w3 ⟨A3, c3, rfl, o3, b3⟩
        have B3 := btr B2 b3
        have a3 : EntsAt w3 A3 (MapF (x) cols) := SlOw.at_ entO o3
        go_wp2_with fail
        refine (equalZ (xs := MapF (x) cols) (ys := MapF (x) cols) true (decide_eq_true rfl) (a2.below entR b3) a3 (Nat.le_trans (MapF_len _ _) (by decide)) (Nat.le_trans (MapF_len _ _) (by decide)) (rows_big (MapF_row _ _) (by decide)) (rows_big (MapF_row _ _) (by decide))).mono ?_
        rintro e w4 ⟨rfl, b4⟩
        have B4 := btr B3 b4
        go_wp2_with fail
        refine (smallZ true HS.out ((SlOw.at_ entO hx.1).below entR (btr (btr b2 b3) b4)) nx rx).mono ?_
        rintro e w5 ⟨rfl, b5⟩
        have B5 := btr B4 b5
        have cz := (Below.cell (p := ⟨bbx, oox, none⟩) (btr (btr (btr b2 b3) b4) b5) hblx).trans hcx
        have hrow0 := hrx.below (btr (btr (btr b2 b3) b4) b5)
        go_wp2_with fail
        refine (ProjectRow_i _ _ _ _ x[0].1 cols _ hrow0 (hcols.below (btr (btr (btr b2 b3) b4) b5)) hxl (by omega)).mono ?_
        rintro e w6 ⟨RP, rp, rfl, hop, b6⟩
        have B6 := btr B5 b6
        rw [HP.out]
        clear cz hrow0 hop
        have hX : EntsAt w6 (some ⟨bbx, oox, none⟩) x := ((SlOw.at_ entO hx.1).below entR (btr (btr (btr (btr b2 b3) b4) b5) b6))
        have hM : EntsAt w6 A2 (MapF x cols) := (a2.below entR (btr (btr (btr b3 b4) b5) b6))
        have cz := (Below.cell (p := ⟨bbx, oox, none⟩) (btr (btr (btr (btr b2 b3) b4) b5) b6) hblx).trans hcx
        have hbl' : bbx < w6.heap.size := Nat.lt_of_lt_of_le hblx ((btr (btr (btr (btr b2 b3) b4) b5) b6)).size
        have hw0 : (w6.alloc (.cells #[] 3)).ownsRow w6.heap.size 3 1 (.slice (some ⟨w6.heap.size, 0, none⟩) 0 0) 0 ([].map (Value.int .i64)) := World.ownsRow_lit (base := w6.heap.size) (size := 1) (e := 3) w6 #[] 0 (Nat.le_refl _) (by simp [maxLen]) (by simp)
        have HW0 := Lib.hid hw0
        clear hw0
        go_wp2
        go_loopw [8, 9] (fun v i wr => ∃ (k : Nat) (A' : Option Addr) (c' : Nat), k ≤ x[0].1.length ∧ i = .int .i64 (k : Nat) ∧ v = .slice A' k c' ∧ wr.ownsRow w6.heap.size 3 1 (.slice A' k c') k ((allC k).map (Value.int .i64)) ∧ Below w6.heap.size w6 wr) (fun _ i _ => x[0].1.length - (intOf i).toNat)
        case atStart => exact ⟨0, _, _, by omega, rfl, rfl, HW0.out, bal (Below.refl _ _) _⟩
        case round =>
          obtain ⟨k, A', c', hk, rfl, rfl, hown, bm⟩ := hrel
          have c1 := (bm.cell (p := ⟨bbx, oox, none⟩) hbl').trans cz
          have hsm := bm.size
          by_cases hlt : k < x[0].1.length
          · have hlt' : (k : Int) < x[0].1.length := by omega
            have HO := Lib.hid hown
            clear hown
            go_wp2_with (at_builtin; refine wpList_append_src _ rfl _ _ 32 rfl w6.heap.size 3 i0 (.int .i64 0) 1 8 Try.underlying32 hi hz0 hz1 hz2 rfl (by decide) _ _ _ rfl (HO.out.alloc _) (some ⟨wr.heap.size, 0, none⟩) 1 1 [.int .i64 (k : Nat)] rfl rfl (fun h => by cases h) (intZ_srcs _) (intZ_ones _) (by unfold maxLen; omega) (by omega) (by simp; omega) ?_)
            intro v' wA hown' hgrow _
            obtain ⟨A3, c3, rfl⟩ := own_slice hown'
            have hbA : Below w6.heap.size w6 wA := (bal bm _).grown hgrow (by simp; omega) (fun q hq => (World.ownsRow.lt HO.out q hq).1)
            have HO3 : Hid (wA.ownsRow w6.heap.size 3 1 (.slice A3 (k + 1) c3) (k + 1) ((allC (k + 1)).map (Value.int .i64))) := by
              rw [Hid, allC_step, List.map_append]
              exact hown'
            clear hown' hgrow c1 HO
            go_wp2
            go_roundw
            case rel => exact ⟨k + 1, A3, c3, by omega, by go_num, rfl, HO3.out, hbA⟩
            case measure => simp [intOf]; omega
          · obtain rfl : k = x[0].1.length := by omega
            have hal : (allC x[0].1.length).length = x[0].1.length := by simp [allC]
            have HI : Hid (IntsAt wr A' (allC x[0].1.length)) := by
              have h : IntsOwn wr w6.heap.size A' c' (allC x[0].1.length) := by
                have : wr.ownsRow w6.heap.size 3 1 (.slice A' (allC x[0].1.length).length c') (allC x[0].1.length).length ((allC x[0].1.length).map (Value.int .i64)) := by rw [hal]; exact hown
                simpa [IntsOwn] using this
              exact h.at_
            clear hown
            have B7 := btr B6 bm
            have hXr := hX.below entR bm
            have hMr := hM.below entR bm
            have hcon := fun W (h : EntsAt W (some ⟨bbx, oox, none⟩) x) (hi : IntsAt W A' (allC x[0].1.length)) => MapColumns_i (some ⟨bbx, oox, none⟩) cx x A' c' (allC x[0].1.length) W h hi nx rx (by omega)
            rw [hal] at hcon
            go_wp2_with fail
            refine (hcon _ hXr HI.out).mono ?_
            rintro e wq ⟨AQ, cq, rfl, oq, bq⟩
            rw [HALL.out] at oq ⊢
            have aq := SlOw.at_ entO oq
            go_wp2_with fail
            refine (equalZ (xs := x) (ys := x) true (decide_eq_true rfl) aq (hXr.below entR bq) nx nx rx rx).mono ?_
            rintro e wr2 ⟨rfl, br2⟩
            go_wp2_with fail
            go_ret
            exact ⟨rfl, btr B7 (btr bq br2)⟩
      · have HP : Hid (projB x[0].1 cols = true) := by
          rw [Hid, projB, HRB.out, ← hwx, hcB]; rfl
        have HTW : Hid ((TotF (MapF x cols) == TotF x) = true) := by rw [Hid, TotF_MapF Sx hcB]; simp
        clear hcB hwx hw16 Sx HRB
        obtain ⟨bbx, oox, RRx, ssx, hAx, hblx, hcx, -, -, hrx⟩ := (EntsAt.get (SlOw.at_ entO hx.1) 0 hpx)
        simp only [Nat.zero_mul, Nat.add_zero] at hcx
        subst hAx
        go_wp2_with fail
        refine (MapColumns_i _ _ (x) _ _ cols _ (SlOw.at_ entO hx.1) hcols nx rx (by omega)).mono ?_
        rintro e w2 ⟨A2, c2, rfl, o2, b2⟩
        have B2 := btr B1 b2
        have a2 : EntsAt w2 A2 (MapF (x) cols) := SlOw.at_ entO o2
        go_wp2_with fail
        refine (MapColumns_s _ _ (x) _ _ cols _ ((SlOw.at_ entO hx.1).below entR b2) (hcols.below b2) nx rx (by omega)).mono ?_
        rintro e w3 ⟨A3, c3, rfl, o3, b3⟩
        have B3 := btr B2 b3
        have a3 : EntsAt w3 A3 (MapF (x) cols) := SlOw.at_ entO o3
        go_wp2_with fail
        refine (equalZ (xs := MapF (x) cols) (ys := MapF (x) cols) true (decide_eq_true rfl) (a2.below entR b3) a3 (Nat.le_trans (MapF_len _ _) (by decide)) (Nat.le_trans (MapF_len _ _) (by decide)) (rows_big (MapF_row _ _) (by decide)) (rows_big (MapF_row _ _) (by decide))).mono ?_
        rintro e w4 ⟨rfl, b4⟩
        have B4 := btr B3 b4
        go_wp2_with fail
        refine (smallZ true HS.out ((SlOw.at_ entO hx.1).below entR (btr (btr b2 b3) b4)) nx rx).mono ?_
        rintro e w5 ⟨rfl, b5⟩
        have B5 := btr B4 b5
        have cz := (Below.cell (p := ⟨bbx, oox, none⟩) (btr (btr (btr b2 b3) b4) b5) hblx).trans hcx
        have hrow0 := hrx.below (btr (btr (btr b2 b3) b4) b5)
        go_wp2_with fail
        refine (ProjectRow_i _ _ _ _ x[0].1 cols _ hrow0 (hcols.below (btr (btr (btr b2 b3) b4) b5)) hxl (by omega)).mono ?_
        rintro e w6 ⟨RP, rp, rfl, hop, b6⟩
        have B6 := btr B5 b6
        rw [HP.out]
        clear cz hrow0 hop
        have hX : EntsAt w6 (some ⟨bbx, oox, none⟩) x := ((SlOw.at_ entO hx.1).below entR (btr (btr (btr (btr b2 b3) b4) b5) b6))
        have hM : EntsAt w6 A2 (MapF x cols) := (a2.below entR (btr (btr (btr b3 b4) b5) b6))
        have cz := (Below.cell (p := ⟨bbx, oox, none⟩) (btr (btr (btr (btr b2 b3) b4) b5) b6) hblx).trans hcx
        have hbl' : bbx < w6.heap.size := Nat.lt_of_lt_of_le hblx ((btr (btr (btr (btr b2 b3) b4) b5) b6)).size
        have hw0 : (w6.alloc (.cells #[] 3)).ownsRow w6.heap.size 3 1 (.slice (some ⟨w6.heap.size, 0, none⟩) 0 0) 0 ([].map (Value.int .i64)) := World.ownsRow_lit (base := w6.heap.size) (size := 1) (e := 3) w6 #[] 0 (Nat.le_refl _) (by simp [maxLen]) (by simp)
        have HW0 := Lib.hid hw0
        clear hw0
        go_wp2
        go_loopw [8, 9] (fun v i wr => ∃ (k : Nat) (A' : Option Addr) (c' : Nat), k ≤ x[0].1.length ∧ i = .int .i64 (k : Nat) ∧ v = .slice A' k c' ∧ wr.ownsRow w6.heap.size 3 1 (.slice A' k c') k ((allC k).map (Value.int .i64)) ∧ Below w6.heap.size w6 wr) (fun _ i _ => x[0].1.length - (intOf i).toNat)
        case atStart => exact ⟨0, _, _, by omega, rfl, rfl, HW0.out, bal (Below.refl _ _) _⟩
        case round =>
          obtain ⟨k, A', c', hk, rfl, rfl, hown, bm⟩ := hrel
          have c1 := (bm.cell (p := ⟨bbx, oox, none⟩) hbl').trans cz
          have hsm := bm.size
          by_cases hlt : k < x[0].1.length
          · have hlt' : (k : Int) < x[0].1.length := by omega
            have HO := Lib.hid hown
            clear hown
            go_wp2_with (at_builtin; refine wpList_append_src _ rfl _ _ 32 rfl w6.heap.size 3 i0 (.int .i64 0) 1 8 Try.underlying32 hi hz0 hz1 hz2 rfl (by decide) _ _ _ rfl (HO.out.alloc _) (some ⟨wr.heap.size, 0, none⟩) 1 1 [.int .i64 (k : Nat)] rfl rfl (fun h => by cases h) (intZ_srcs _) (intZ_ones _) (by unfold maxLen; omega) (by omega) (by simp; omega) ?_)
            intro v' wA hown' hgrow _
            obtain ⟨A3, c3, rfl⟩ := own_slice hown'
            have hbA : Below w6.heap.size w6 wA := (bal bm _).grown hgrow (by simp; omega) (fun q hq => (World.ownsRow.lt HO.out q hq).1)
            have HO3 : Hid (wA.ownsRow w6.heap.size 3 1 (.slice A3 (k + 1) c3) (k + 1) ((allC (k + 1)).map (Value.int .i64))) := by
              rw [Hid, allC_step, List.map_append]
              exact hown'
            clear hown' hgrow c1 HO
            go_wp2
            go_roundw
            case rel => exact ⟨k + 1, A3, c3, by omega, by go_num, rfl, HO3.out, hbA⟩
            case measure => simp [intOf]; omega
          · obtain rfl : k = x[0].1.length := by omega
            have hal : (allC x[0].1.length).length = x[0].1.length := by simp [allC]
            have HI : Hid (IntsAt wr A' (allC x[0].1.length)) := by
              have h : IntsOwn wr w6.heap.size A' c' (allC x[0].1.length) := by
                have : wr.ownsRow w6.heap.size 3 1 (.slice A' (allC x[0].1.length).length c') (allC x[0].1.length).length ((allC x[0].1.length).map (Value.int .i64)) := by rw [hal]; exact hown
                simpa [IntsOwn] using this
              exact h.at_
            clear hown
            have B7 := btr B6 bm
            have hXr := hX.below entR bm
            have hMr := hM.below entR bm
            have hcon := fun W (h : EntsAt W (some ⟨bbx, oox, none⟩) x) (hi : IntsAt W A' (allC x[0].1.length)) => MapColumns_i (some ⟨bbx, oox, none⟩) cx x A' c' (allC x[0].1.length) W h hi nx rx (by omega)
            rw [hal] at hcon
            go_wp2_with fail
            refine (TotalWeight_i _ _ (MapF x cols) _ hMr (Nat.le_trans (MapF_len _ _) (by decide)) (rows_big (MapF_row _ _) (by decide))).mono ?_
            rintro e wt ⟨rfl, bt⟩
            go_wp2_with fail
            refine (TotalWeight_i _ _ x _ (hXr.below entR bt) nx rx).mono ?_
            rintro e wu ⟨rfl, bu⟩
            have htw := HTW.out
            have btu := btr bt bu
            go_wp2_with fail
            refine (hcon _ (hXr.below entR btu) (HI.out.below btu)).mono ?_
            rintro e wq ⟨AQ, cq, rfl, oq, bq⟩
            rw [HALL.out] at oq ⊢
            have aq := SlOw.at_ entO oq
            go_wp2_with fail
            refine (equalZ (xs := x) (ys := x) true (decide_eq_true rfl) aq (hXr.below entR (btr btu bq)) nx nx rx rx).mono ?_
            rintro e wr2 ⟨rfl, br2⟩
            go_wp2_with fail
            go_ret
            exact ⟨rfl, btr B7 (btr (btr btu bq) br2)⟩

namespace lawFnMapColumns
theorem own : ownKnob Try.prog.godebug = none := by kernel_rfl
theorem laidOut : laidOutB Try.prog = true := clo_laid
set_option maxRecDepth 100000 in
theorem lifted (os : Os) (started : os.Started) (H : Type) (enc : TypeId × Value → H) :
    ReturnsInHanded {} Try.checked os 5 .any (Rows.fnMapColumnsSpec.pre6 enc Try.prog Try.f5 Rows.fnMapColumnsRow.domain false) (Rows.fnMapColumnsSpec.post enc Try.prog Try.f5 false true false false) := by
  refine returnsInHanded_of_change (C := Try.checked) own started (by kernel_rfl) Try.func5
    (ChangeSpec.witness6 (enc := enc) (C := Try.checked) false ⟨#[], #[.slice none 0 0], []⟩ 8 (by kernel_rfl) (by kernel_rfl) (by kernel_rfl) (by kernel_rfl)) ?_
  intro W base args ds gs before hval0 hW hcnd _
  have hval : ∀ (j : Nat) t v, Try.f5.params[j]? = some t → args[j]? = some v → Value.okWide Try.prog W .any base t v := hval0
  have hW' := hW
  obtain ⟨p, q, hA0, hV, rfl, hfz, hnd⟩ := hW
  have hA : DataW.TrodAll enc Try.prog W 0 (fun _ => true) true Try.f5.params.toList args.toList ds p := hA0
  rw [Try.params5] at hA hval
  obtain ⟨v0, vs0, d0, ds0, p0, q0, hargs, rfl, rfl, h0, r0⟩ := trodAll_cons hA
  obtain ⟨rfl, rfl, rfl⟩ := trodAll_nil r0
  obtain rfl : args = #[v0] := by cases args; simp_all
  obtain ⟨rfl, rfl⟩ := trodVars_none hV
  have k0 := h0
  have lt0 : ∀ x ∈ p0, x.block < W.heap.size := by obtain ⟨m, hm⟩ := k0; exact DataW.trod_lt m _ _ _ hm
  obtain ⟨a0, len0, cap0, rfl⟩ := okWide_slice Try.underlying22 (hval 0 22 v0 rfl rfl)
  obtain ⟨l0, m0, w0⟩ := bytes_of Try.underlying22 Try.underlying5 (by kernel_rfl) h0
  clear hA0 hval0
  refine (FnMapColumns_walk a0 len0 cap0 W l0 m0 w0).mono fun e W' ⟨he, bel⟩ => ?_
  subst he
  exact ⟨_, rfl, _, _, _, [], _, [], hW', trodAll_mk1 (shut_bool Try.underlying4 _), (trodAll_cons_mk (Below.trod laidOut (by kernel_rfl) (of_decide_eq_true (by kernel_rfl)) k0 bel lt0) trodAll_mk0), rfl, bel.frame _, fun h => by cases h⟩
theorem andTT {a b : Bool} (h1 : a = true) (h2 : b = true) : (a && b) = true := by rw [h1, h2]; rfl
set_option maxHeartbeats 8000000 in
theorem closed : joinedFacts Try.prog 5 Try.f5 Rows.fnMapColumnsSpec Rows.fnMapColumnsRow = true := by
  unfold joinedFacts
  repeat' (with_reducible refine andTT ?_ ?_)
  all_goals (first | (with_reducible exact clo_laid) | (with_reducible exact clo_maps) | (with_reducible exact clo_heard) | (with_reducible exact clo_enter) | ((with_reducible refine clo_plain _ ?_); rfl) | ((with_reducible refine clo_lifts _ ?_); rfl) | (as_aux_lemma => kernel_rfl))

theorem over : Rows.fnMapColumnsRow.holds Try.pinned (OpenSpec.ofChange Rows.fnMapColumnsSpec) :=
  OpenClaim.holds_of_wide 5 Try.f5 rfl rfl rfl rfl rfl rfl rfl ⟨rfl, rfl, rfl, rfl, rfl⟩ rfl rfl rfl rfl rfl (by kernel_rfl) Try.func5 closed
    (of_decide_eq_true (by kernel_rfl)) (by unfold Func.isWrapper; first | (rw [if_pos (by decide +kernel)]; kernel_rfl) | (rw [if_neg (by decide +kernel)]; exact ⟨rfl, rfl⟩))
    (fun os started H enc _ => lifted os started H enc)

/-- THE STATEMENT. -/
theorem proved : Rows.FnMapColumnsSaid := over
end lawFnMapColumns
end Go.Proofs.Ytjlpkfcdkmcjnaa
