/- The law FnExactMergeBatches returns true at every argument; no condition. -/
import Derived.Test.YtffgonddephkkaaGreatMbS
import Derived.Test.YtffgonddephkkaaGreatMbI
import Derived.Test.YtffgonddephkkaaGreatBmk
import Derived.Test.YtffgonddephkkaaGreatEntM
import Derived.Test.YtffgonddephkkaaGreatBatC
import Derived.Test.YtffgonddephkkaaGreatClo
import Derived.Carry
import Derived.ChangeOld
import Derived.Lib.SmallJoins
import Derived.Deep.CutRange
namespace Go.Proofs.YtffgonddephkkaaGreat
open Go.ChangeShapes Go.WideShapes Go.ChangeAt Go.RowKit Go.Sort
set_option linter.unusedVariables false
set_option linter.unusedSimpArgs false

set_option maxRecDepth 100000 in
set_option maxHeartbeats 25600000 in
theorem FnExactMergeBatches_walk (LA0 : Option Addr) (Lc0 : Nat) (lo0 : List Tm) (UA0 : Option Addr) (Uc0 : Nat) (up0 : List Tm) (TA0 : Option Addr) (Tc0 : Nat) (us0 : List Upd) (LA1 : Option Addr) (Lc1 : Nat) (lo1 : List Tm) (UA1 : Option Addr) (Uc1 : Nat) (up1 : List Tm) (TA1 : Option Addr) (Tc1 : Nat) (us1 : List Upd) (wz : World) (m10 : lo0.length ≤ maxLen) (h10 : TimesAt wz LA0 lo0) (m20 : up0.length ≤ maxLen) (h20 : TimesAt wz UA0 up0) (m30 : us0.length ≤ maxLen) (h30 : UpdsAt wz TA0 us0) (m11 : lo1.length ≤ maxLen) (h11 : TimesAt wz LA1 lo1) (m21 : up1.length ≤ maxLen) (h21 : TimesAt wz UA1 up1) (m31 : us1.length ≤ maxLen) (h31 : UpdsAt wz TA1 us1) :
    Calls Tryz.prog 3 #[.agg #[.slice LA0 lo0.length Lc0, .slice UA0 up0.length Uc0, .slice TA0 us0.length Tc0], .agg #[.slice LA1 lo1.length Lc1, .slice UA1 up1.length Uc1, .slice TA1 us1.length Tc1]] wz fun e w' => e = .returned (.bool true) ∧ Below wz.heap.size wz w' := by
  have nn0 := batSz_nn (lo0, (up0, us0))
  by_cases s0 : 1048576 < batSz (lo0, (up0, us0))
  · go_enter Tryz.func3, Tryz.ntmps3
    go_wp2_with fail
    refine absI (fun W => Below wz.heap.size wz W ∧ Blk W wz.heap.size 25 #[.slice LA0 lo0.length Lc0, .slice UA0 up0.length Uc0, .slice TA0 us0.length Tc0] ∧ Blk W (wz.heap.size + 1) 25 #[.slice LA1 lo1.length Lc1, .slice UA1 up1.length Uc1, .slice TA1 us1.length Tc1]) ⟨(bal (bal (Below.refl _ _) _) _), ((Blk.newAt rfl).alloc _), (Blk.newAt (by simp))⟩ ?_
    rintro w0 ⟨hBz, kP0, kP1⟩
    have h10 := h10.below hBz
    have h20 := h20.below hBz
    have h30 := h30.below updR hBz
    have h11 := h11.below hBz
    have h21 := h21.below hBz
    have h31 := h31.below updR hBz
    refine (szBatch_no LA0 UA0 TA0 Lc0 Uc0 Tc0 lo0 up0 us0 _ _ h30 m10 m20 m30 (by omega) (by omega) (by omega)).mono ?_
    rintro e w1 ⟨rfl, b1⟩
    have B1 := b1
    go_wp2
    go_ret
    exact ⟨rfl, btr hBz (B1)⟩
  have hu0 := updSz_nn us0
  have hl0 : (lo0.length : Int) + up0.length + updSz us0 ≤ 1048576 := by have h0 : batSz (lo0, (up0, us0)) = (lo0.length : Int) + up0.length + updSz us0 := rfl; omega
  have n10 : lo0.length ≤ 4194304 := by omega
  have n20 : up0.length ≤ 4194304 := by omega
  have hv0 := updSz_len (es := us0) (n := 1048576) (by omega)
  have n30 : us0.length ≤ 4194303 := by omega
  have nt0 : us0.length ≤ 2097152 := by omega
  have r30 : rowsU us0 4194304 := updSz_row (by omega)
  have cb0 := cntU_bd (es := us0) (by omega) r30
  have cx0 : (cntV (lo0, (up0, us0)) : Int) ≤ 1099511627776000 := by unfold cntV; push_cast; omega
  have sz0 : batSz (lo0, (up0, us0)) ≤ 1048576 := by omega
  have nn1 := batSz_nn (lo1, (up1, us1))
  by_cases s1 : 1048576 - batSz (lo0, (up0, us0)) < batSz (lo1, (up1, us1))
  · go_enter Tryz.func3, Tryz.ntmps3
    go_wp2_with fail
    refine absI (fun W => Below wz.heap.size wz W ∧ Blk W wz.heap.size 25 #[.slice LA0 lo0.length Lc0, .slice UA0 up0.length Uc0, .slice TA0 us0.length Tc0] ∧ Blk W (wz.heap.size + 1) 25 #[.slice LA1 lo1.length Lc1, .slice UA1 up1.length Uc1, .slice TA1 us1.length Tc1]) ⟨(bal (bal (Below.refl _ _) _) _), ((Blk.newAt rfl).alloc _), (Blk.newAt (by simp))⟩ ?_
    rintro w0 ⟨hBz, kP0, kP1⟩
    have h10 := h10.below hBz
    have h20 := h20.below hBz
    have h30 := h30.below updR hBz
    have h11 := h11.below hBz
    have h21 := h21.below hBz
    have h31 := h31.below updR hBz
    refine (szBatch_yes LA0 UA0 TA0 Lc0 Uc0 Tc0 lo0 up0 us0 _ _ h30 m10 m20 m30 (by omega) (by omega) (by omega)).mono ?_
    rintro e w1 ⟨rfl, b1⟩
    have B1 := b1
    have pcP10 := (kP1.below b1).cell 0
    have pcP11 := (kP1.below b1).cell 1
    have pcP12 := (kP1.below b1).cell 2
    simp at pcP10 pcP11 pcP12
    go_wp2_with fail
    refine (szBatch_no LA1 UA1 TA1 Lc1 Uc1 Tc1 lo1 up1 us1 _ _ (h31.below updR b1) m11 m21 m31 (by omega) (by omega) (by omega)).mono ?_
    rintro e w2 ⟨rfl, b2⟩
    have B2 := btr B1 b2
    clear pcP10 pcP11 pcP12
    go_wp2
    go_ret
    exact ⟨rfl, btr hBz (B2)⟩
  have hu1 := updSz_nn us1
  have hl1 : (lo1.length : Int) + up1.length + updSz us1 ≤ 1048576 := by have h0 : batSz (lo1, (up1, us1)) = (lo1.length : Int) + up1.length + updSz us1 := rfl; omega
  have n11 : lo1.length ≤ 4194304 := by omega
  have n21 : up1.length ≤ 4194304 := by omega
  have hv1 := updSz_len (es := us1) (n := 1048576) (by omega)
  have n31 : us1.length ≤ 4194303 := by omega
  have nt1 : us1.length ≤ 2097152 := by omega
  have r31 : rowsU us1 4194304 := updSz_row (by omega)
  have cb1 := cntU_bd (es := us1) (by omega) r31
  have cx1 : (cntV (lo1, (up1, us1)) : Int) ≤ 1099511627776000 := by unfold cntV; push_cast; omega
  have sz1 : batSz (lo1, (up1, us1)) ≤ 1048576 := by omega
  have conW := fun (A0 B0 C0 : Option Addr) (a0 b0 c0 : Nat) (A1 B1 C1 : Option Addr) (a1 b1 c1 : Nat) (W : World) (g10 : TimesAt W A0 lo0) (g20 : TimesAt W B0 up0) (g30 : UpdsAt W C0 us0) (g11 : TimesAt W A1 lo1) (g21 : TimesAt W B1 up1) (g31 : UpdsAt W C1 us1) => MergeBatches_s A0 B0 C0 A1 B1 C1 a0 b0 c0 a1 b1 c1 lo0 up0 us0 lo1 up1 us1 W g10 g20 g30 g11 g21 g31 n10 n20 n30 r30 n11 n21 (by omega) r31
  have conG := fun (A0 B0 C0 : Option Addr) (a0 b0 c0 : Nat) (A1 B1 C1 : Option Addr) (a1 b1 c1 : Nat) (W : World) (g10 : TimesAt W A0 lo0) (g20 : TimesAt W B0 up0) (g30 : UpdsAt W C0 us0) (g11 : TimesAt W A1 lo1) (g21 : TimesAt W B1 up1) (g31 : UpdsAt W C1 us1) (k30 : us0.length ≤ c0) (k31 : us1.length ≤ c1) => MergeBatches_i A0 B0 C0 A1 B1 C1 a0 b0 c0 a1 b1 c1 lo0 up0 us0 lo1 up1 us1 W g10 g20 g30 g11 g21 g31 k30 k31 n10 n20 (by omega) r30 n11 n21 (by omega) r31
  have ⟨fa0, fb0, fc0, fr0⟩ := mrbV_len (lo0, (up0, us0)) (lo1, (up1, us1)) n10 n21
  have fd0 : (mrbV (lo0, (up0, us0)) (lo1, (up1, us1))).2.2.length ≤ 4194304 := by omega
  have fs0 : rowsU (mrbV (lo0, (up0, us0)) (lo1, (up1, us1))).2.2 4194304 := fun e he => by have := fr0 e he; omega
  have fz0 := cntU_bd fd0 fs0
  have fy0 : (cntV (mrbV (lo0, (up0, us0)) (lo1, (up1, us1))) : Int) ≤ 1099511627776000 := by unfold cntV; push_cast; omega
  generalize mrbV (lo0, (up0, us0)) (lo1, (up1, us1)) = Z0 at *
  obtain ⟨P0, Q0, R0⟩ := Z0
  dsimp only at *
  generalize mrbOk (lo0, (up0, us0)) (lo1, (up1, us1)) = k1r at *
  have hbb1 : (k1r != k1r) = false := by simp
  go_enter Tryz.func3, Tryz.ntmps3
  go_wp2_with fail
  refine absI (fun W => Below wz.heap.size wz W ∧ Blk W wz.heap.size 25 #[.slice LA0 lo0.length Lc0, .slice UA0 up0.length Uc0, .slice TA0 us0.length Tc0] ∧ Blk W (wz.heap.size + 1) 25 #[.slice LA1 lo1.length Lc1, .slice UA1 up1.length Uc1, .slice TA1 us1.length Tc1]) ⟨(bal (bal (Below.refl _ _) _) _), ((Blk.newAt rfl).alloc _), (Blk.newAt (by simp))⟩ ?_
  rintro w0 ⟨hBz, kP0, kP1⟩
  have h10 := h10.below hBz
  have h20 := h20.below hBz
  have h30 := h30.below updR hBz
  have h11 := h11.below hBz
  have h21 := h21.below hBz
  have h31 := h31.below updR hBz
  refine (szBatch_yes LA0 UA0 TA0 Lc0 Uc0 Tc0 lo0 up0 us0 _ _ h30 m10 m20 m30 (by omega) (by omega) (by omega)).mono ?_
  rintro e w1 ⟨rfl, b1⟩
  have B1 := b1
  have pcP10 := (kP1.below b1).cell 0
  have pcP11 := (kP1.below b1).cell 1
  have pcP12 := (kP1.below b1).cell 2
  simp at pcP10 pcP11 pcP12
  go_wp2_with fail
  refine (szBatch_yes LA1 UA1 TA1 Lc1 Uc1 Tc1 lo1 up1 us1 _ _ (h31.below updR b1) m11 m21 m31 (by omega) (by omega) (by omega)).mono ?_
  rintro e w2 ⟨rfl, b2⟩
  have B2 := btr B1 b2
  clear pcP10 pcP11 pcP12
  go_upto_region 8 with fail
  go_cut [6, 7] from 27 to 34 (fun v6 v7 W => ∃ L d1 U d2 T d3 g, v6 = .pointer (some ⟨g, 0, none⟩) ∧ v7 = .bool k1r ∧ w2.heap.size ≤ g ∧ Blk W g 30 #[.slice L P0.length d1, .slice U Q0.length d2, .slice T R0.length d3] ∧ TimesAt W L P0 ∧ TimesAt W U Q0 ∧ UpdsAt W T R0 ∧ Below w2.heap.size w2 W)
  case first =>
    refine wp_region_factsQ 7 _ _ [[], [0], [], [2], [0, 1, 2, 3], [0, 1, 2, 3, 4], [0, 1, 2, 3, 4, 5], [0, 1, 2, 3, 4, 5], []]
      [fun v' _ => v' = .agg #[.slice LA0 lo0.length Lc0, .slice UA0 up0.length Uc0, .slice TA0 us0.length Tc0], BatC lo0 up0 us0, fun v' _ => v' = .agg #[.slice LA1 lo1.length Lc1, .slice UA1 up1.length Uc1, .slice TA1 us1.length Tc1], BatC lo1 up1 us1, BatP k1r P0 Q0 R0, BatP k1r P0 Q0 R0, BatAt P0 Q0 R0, fun v' _ => v' = .bool k1r, AtBlk w2.heap.size 30 #[.slice none 0 0, .slice none 0 0, .slice none 0 0]]
      [some (fun v' _ => v' = .agg #[.slice LA0 lo0.length Lc0, .slice UA0 up0.length Uc0, .slice TA0 us0.length Tc0]), some (BatC lo0 up0 us0), some (fun v' _ => v' = .agg #[.slice LA1 lo1.length Lc1, .slice UA1 up1.length Uc1, .slice TA1 us1.length Tc1]), some (BatC lo1 up1 us1), some (BatP k1r P0 Q0 R0), some (BatP k1r P0 Q0 R0), some (BatAt P0 Q0 R0), none, some (AtBlk w2.heap.size 30 #[.slice none 0 0, .slice none 0 0, .slice none 0 0])]
      (by decide) rfl rfl rfl (by kernel_rfl) (by kernel_rfl) rfl ⟨stable_pure _, stable_batC _ _ _, stable_pure _, stable_batC _ _ _, stable_batP _ _ _ _, stable_batP _ _ _ _, stable_batAt _ _ _, stable_pure _, stable_atBlk _ _ _, trivial⟩ ?_ ?_
    · refine wf_stepK [] [] (by kernel_rfl) (by kernel_rfl) (fun wf hb hf => ?_) (fun t0 => ?_)
      · refine ⟨?_⟩
        have p0 := ((kP0.below (btr b1 b2)).below hb).cell 0
        have p1 := ((kP0.below (btr b1 b2)).below hb).cell 1
        have p2 := ((kP0.below (btr b1 b2)).below hb).cell 2
        simp at p0 p1 p2
        go_wp2
        exact ⟨rfl, .agg #[.slice LA0 lo0.length Lc0, .slice UA0 up0.length Uc0, .slice TA0 us0.length Tc0], by kernel_rfl, Below.refl _ _, rfl⟩
      refine wf_stepK [0] [fun _ => t0 = .agg #[.slice LA0 lo0.length Lc0, .slice UA0 up0.length Uc0, .slice TA0 us0.length Tc0]] (by kernel_rfl) (by kernel_rfl) (fun wf hb hf => ?_) (fun t1 => ?_)
      · obtain ⟨rfl, -⟩ := hf
        refine ⟨?_⟩
        go_wp2_with (go_at_call 6; refine (toBatch_any LA0 UA0 TA0 Lc0 Uc0 Tc0 lo0 up0 us0 _ ((h10.below (btr b1 b2)).below hb) ((h20.below (btr b1 b2)).below hb) ((h30.below updR (btr b1 b2)).below updR hb) n10 n20 nt0 r30).mono ?_; rintro e w2 ⟨L3, U3, T3, rfl, o3, hb2⟩)
        exact ⟨rfl, _, by kernel_rfl, hb2, batC_of o3⟩
      refine wf_stepK [] [] (by kernel_rfl) (by kernel_rfl) (fun wf hb hf => ?_) (fun t2 => ?_)
      · refine ⟨?_⟩
        have p0 := ((kP1.below (btr b1 b2)).below hb).cell 0
        have p1 := ((kP1.below (btr b1 b2)).below hb).cell 1
        have p2 := ((kP1.below (btr b1 b2)).below hb).cell 2
        simp at p0 p1 p2
        go_wp2
        exact ⟨rfl, .agg #[.slice LA1 lo1.length Lc1, .slice UA1 up1.length Uc1, .slice TA1 us1.length Tc1], by kernel_rfl, Below.refl _ _, rfl⟩
      refine wf_stepK [2] [fun _ => t2 = .agg #[.slice LA1 lo1.length Lc1, .slice UA1 up1.length Uc1, .slice TA1 us1.length Tc1]] (by kernel_rfl) (by kernel_rfl) (fun wf hb hf => ?_) (fun t3 => ?_)
      · obtain ⟨rfl, -⟩ := hf
        refine ⟨?_⟩
        go_wp2_with (go_at_call 6; refine (toBatch_any LA1 UA1 TA1 Lc1 Uc1 Tc1 lo1 up1 us1 _ ((h11.below (btr b1 b2)).below hb) ((h21.below (btr b1 b2)).below hb) ((h31.below updR (btr b1 b2)).below updR hb) n11 n21 nt1 r31).mono ?_; rintro e w2 ⟨L3, U3, T3, rfl, o3, hb2⟩)
        exact ⟨rfl, _, by kernel_rfl, hb2, batC_of o3⟩
      refine wf_stepK [1, 3] [BatC lo0 up0 us0 t1, BatC lo1 up1 us1 t3] (by kernel_rfl) (by kernel_rfl) (fun wf hb hf => ?_) (fun t4 => ?_)
      · obtain ⟨⟨Lx, Ux, Tx, rfl, x1, x2, x3⟩, ⟨Ly, Uy, Ty, rfl, y1, y2, y3⟩, -⟩ := hf
        refine ⟨?_⟩
        go_wp2_with (go_at_call 5; refine (conW _ _ _ _ _ _ _ _ _ _ _ _ _ x1 x2 x3 y1 y2 y3).mono ?_; rintro e w3 ⟨L1, d1, U1, d2, T1, d3, rfl, z1, z2, z3, hb2⟩)
        exact ⟨rfl, .tuple #[.agg #[.slice L1 P0.length d1, .slice U1 Q0.length d2, .slice T1 R0.length d3], .bool k1r], by kernel_rfl, hb2, L1, d1, U1, d2, T1, d3, rfl, z1, z2, z3⟩
      refine wf_stepK [4] [BatP k1r P0 Q0 R0 t4] (by kernel_rfl) (by kernel_rfl) (fun wf hb hf => ?_) (fun t5 => ?_)
      · obtain ⟨⟨L1, d1, U1, d2, T1, d3, rfl, z1, z2, z3⟩, -⟩ := hf
        refine ⟨?_⟩
        go_wp2
        exact ⟨rfl, .tuple #[.agg #[.slice L1 P0.length d1, .slice U1 Q0.length d2, .slice T1 R0.length d3], .bool k1r], by kernel_rfl, Below.refl _ _, L1, d1, U1, d2, T1, d3, rfl, z1, z2, z3⟩
      refine wf_stepK [5] [BatP k1r P0 Q0 R0 t5] (by kernel_rfl) (by kernel_rfl) (fun wf hb hf => ?_) (fun t6 => ?_)
      · obtain ⟨⟨L1, d1, U1, d2, T1, d3, rfl, z1, z2, z3⟩, -⟩ := hf
        refine ⟨?_⟩
        go_wp2
        exact ⟨rfl, .agg #[.slice L1 P0.length d1, .slice U1 Q0.length d2, .slice T1 R0.length d3], by kernel_rfl, Below.refl _ _, L1, d1, U1, d2, T1, d3, rfl, z1, z2, z3⟩
      refine wf_stepK [5] [BatP k1r P0 Q0 R0 t5] (by kernel_rfl) (by kernel_rfl) (fun wf hb hf => ?_) (fun t7 => ?_)
      · obtain ⟨⟨L1, d1, U1, d2, T1, d3, rfl, z1, z2, z3⟩, -⟩ := hf
        refine ⟨?_⟩
        go_wp2
        exact ⟨rfl, .bool k1r, by kernel_rfl, Below.refl _ _, rfl⟩
      refine wf_stepK [] [] (by kernel_rfl) (by kernel_rfl) (fun wf hb hf => ?_) (fun t8 => ?_)
      · refine ⟨?_⟩
        have hs := hb.size
        go_wp2
        exact ⟨rfl, .pointer (some ⟨wf.heap.size, 0, none⟩), by kernel_rfl, bal (Below.refl _ _) _, wf.heap.size, rfl, (by omega), Blk.newAt rfl⟩
      refine wf_doneK [6, 7, 8] [BatAt P0 Q0 R0 t6, fun _ => t7 = .bool k1r, AtBlk w2.heap.size 30 #[.slice none 0 0, .slice none 0 0, .slice none 0 0] t8] (by kernel_rfl) (by kernel_rfl) (fun w9 b9 hf => ?_)
      obtain ⟨⟨L1, d1, U1, d2, T1, d3, rfl, z1, z2, z3⟩, rfl, ⟨g, rfl, hg, kG⟩, -⟩ := hf
      show wpList _ _ _ [_, _] _ _
      refine wpList_frame (by simp [Act.put]; rfl) ?_
      have g0 := kG.cell 0
      have g1 := kG.cell 1
      have g2 := kG.cell 2
      have f0 := kG.frozen 0
      have f1 := kG.frozen 1
      have f2 := kG.frozen 2
      simp at g0 g1 g2
      have HR := Lib.hid (And.intro hg (box_batch (d1 := d1) (d2 := d2) (d3 := d3) kG hg b9 z1 z2 z3))
      clear kG z1 z2 z3 b9 hg
      go_wp2_with fail
      go_meet
      exact ⟨L1, d1, U1, d2, T1, d3, g, rfl, rfl, HR.out⟩
    · refine doneO_some (fun t0 => ?_)
      refine doneO_some (fun t1 => ?_)
      refine doneO_some (fun t2 => ?_)
      refine doneO_some (fun t3 => ?_)
      refine doneO_some (fun t4 => ?_)
      refine doneO_some (fun t5 => ?_)
      refine doneO_some (fun t6 => ?_)
      refine doneO_none ?_
      refine doneO_some (fun t8 => ?_)
      refine doneO_end [5, 6, 7] [BatP k1r P0 Q0 R0 t5, BatAt P0 Q0 R0 t6, AtBlk w2.heap.size 30 #[.slice none 0 0, .slice none 0 0, .slice none 0 0] t8] (by kernel_rfl) (by kernel_rfl) (fun w9 b9 hf => ?_)
      obtain ⟨⟨L0, e1, U0, e2, T0, e3, rfl, -⟩, ⟨L1, d1, U1, d2, T1, d3, rfl, z1, z2, z3⟩, ⟨g, rfl, hg, kG⟩, -⟩ := hf
      show wpList _ _ _ [_, _, _] _ _
      refine wpList_frame (by simp [Act.put]; rfl) ?_
      have g0 := kG.cell 0
      have g1 := kG.cell 1
      have g2 := kG.cell 2
      have f0 := kG.frozen 0
      have f1 := kG.frozen 1
      have f2 := kG.frozen 2
      simp at g0 g1 g2
      have HR := Lib.hid (And.intro hg (box_batch (d1 := d1) (d2 := d2) (d3 := d3) kG hg b9 z1 z2 z3))
      clear kG z1 z2 z3 b9 hg
      go_wp2_with fail
      go_meet
      exact ⟨L1, d1, U1, d2, T1, d3, g, rfl, rfl, HR.out⟩
  case rest =>
  obtain ⟨LW0, d1W0, UW0, d2W0, TW0, d3W0, bW0, rfl, rfl, HgW0, kW0, y1W0, y2W0, y3W0, Bq⟩ := hcut
  obtain ⟨w3, hw9⟩ : ∃ W, W = wc := ⟨_, rfl⟩
  subst hw9
  have b3 := Bq
  clear Bq
  have B3 := btr B2 b3
  have HbW0 := Lib.hid HgW0
  clear HgW0
  have pcP00 := (kP0.below (btr (btr b1 b2) b3)).cell 0
  have pcP01 := (kP0.below (btr (btr b1 b2) b3)).cell 1
  have pcP02 := (kP0.below (btr (btr b1 b2) b3)).cell 2
  simp at pcP00 pcP01 pcP02
  go_wp2_with fail
  refine (toBatch_any LA0 UA0 TA0 Lc0 Uc0 Tc0 lo0 up0 us0 _ (h10.below (btr (btr b1 b2) b3)) (h20.below (btr (btr b1 b2) b3)) (h30.below updR (btr (btr b1 b2) b3)) n10 n20 nt0 r30).mono ?_
  rintro e w4 ⟨Li0, Ui0, Ti0, rfl, oi0, b4⟩
  have B4 := btr B3 b4
  clear pcP00 pcP01 pcP02
  obtain ⟨x1i0, x2i0, x3i0⟩ := batO_rd oi0
  have pcP10 := (kP1.below (btr (btr (btr b1 b2) b3) b4)).cell 0
  have pcP11 := (kP1.below (btr (btr (btr b1 b2) b3) b4)).cell 1
  have pcP12 := (kP1.below (btr (btr (btr b1 b2) b3) b4)).cell 2
  simp at pcP10 pcP11 pcP12
  have plP1 := (kP1.below (btr (btr (btr b1 b2) b3) b4)).lt
  go_wp2_with fail
  refine absI (fun W => Below w4.heap.size w4 W ∧ Blk W w4.heap.size 30 #[.slice Li0 lo0.length lo0.length, .slice Ui0 up0.length up0.length, .slice Ti0 us0.length us0.length]) ⟨(bal (Below.refl _ _) _), (Blk.newAt rfl)⟩ ?_
  rintro w5 ⟨b5, kX0⟩
  have B5 := btr B4 b5
  obtain ⟨bX0, hbX0⟩ : ∃ bX0, bX0 = w4.heap.size := ⟨_, rfl⟩
  rw [← hbX0] at kX0 ⊢
  have HbX0 := Lib.hid hbX0
  clear hbX0
  refine (toBatch_any LA1 UA1 TA1 Lc1 Uc1 Tc1 lo1 up1 us1 _ (h11.below (btr (btr (btr (btr b1 b2) b3) b4) b5)) (h21.below (btr (btr (btr (btr b1 b2) b3) b4) b5)) (h31.below updR (btr (btr (btr (btr b1 b2) b3) b4) b5)) n11 n21 nt1 r31).mono ?_
  rintro e w6 ⟨Li1, Ui1, Ti1, rfl, oi1, b6⟩
  have B6 := btr B5 b6
  clear pcP10 pcP11 pcP12 plP1
  obtain ⟨x1i1, x2i1, x3i1⟩ := batO_rd oi1
  have pcX00 := (kX0.below b6).cell 0
  have pcX01 := (kX0.below b6).cell 1
  have pcX02 := (kX0.below b6).cell 2
  simp at pcX00 pcX01 pcX02
  have plX0 := (kX0.below b6).lt
  go_wp2_with fail
  refine absI (fun W => Below w6.heap.size w6 W ∧ Blk W w6.heap.size 30 #[.slice Li1 lo1.length lo1.length, .slice Ui1 up1.length up1.length, .slice Ti1 us1.length us1.length]) ⟨(bal (Below.refl _ _) _), (Blk.newAt rfl)⟩ ?_
  rintro w7 ⟨b7, kX1⟩
  have B7 := btr B6 b7
  obtain ⟨bX1, hbX1⟩ : ∃ bX1, bX1 = w6.heap.size := ⟨_, rfl⟩
  rw [← hbX1] at kX1 ⊢
  have HbX1 := Lib.hid hbX1
  clear hbX1
  refine (conG _ _ _ _ _ _ _ _ _ _ _ _ _ (x1i0.below (btr (btr b5 b6) b7)) (x2i0.below (btr (btr b5 b6) b7)) (x3i0.below updR (btr (btr b5 b6) b7)) (x1i1.below b7) (x2i1.below b7) (x3i1.below updR b7) (Nat.le_refl _) (Nat.le_refl _)).mono ?_
  rintro e w8 ⟨LG0, d1G0, UG0, d2G0, TG0, d3G0, rfl, oG0, b8⟩
  have B8 := btr B7 b8
  clear pcX00 pcX01 pcX02 plX0
  have pcW00 := (kW0.below (btr (btr (btr (btr b4 b5) b6) b7) b8)).cell 0
  have pcW01 := (kW0.below (btr (btr (btr (btr b4 b5) b6) b7) b8)).cell 1
  have pcW02 := (kW0.below (btr (btr (btr (btr b4 b5) b6) b7) b8)).cell 2
  simp at pcW00 pcW01 pcW02
  have plW0 := (kW0.below (btr (btr (btr (btr b4 b5) b6) b7) b8)).lt
  go_wp2_with fail
  refine absI (fun W => Below w8.heap.size w8 W ∧ Blk W w8.heap.size 30 #[.slice LG0 P0.length d1G0, .slice UG0 Q0.length d2G0, .slice TG0 R0.length d3G0]) ⟨(bal (Below.refl _ _) _), (Blk.newAt rfl)⟩ ?_
  rintro w9 ⟨b9, kG0⟩
  have B9 := btr B8 b9
  obtain ⟨bG0, hbG0⟩ : ∃ bG0, bG0 = w8.heap.size := ⟨_, rfl⟩
  rw [← hbG0] at kG0 ⊢
  have HbG0 := Lib.hid hbG0
  clear hbG0
  obtain ⟨v1a, v1b, v1c⟩ := batO_rd (batO.below oG0 b9)
  refine (eqBatch_yes _ _ _ _ _ _ _ _ _ _ _ _ P0 Q0 R0 _ v1a v1b v1c (y1W0.below (btr (btr (btr (btr (btr b4 b5) b6) b7) b8) b9)) (y2W0.below (btr (btr (btr (btr (btr b4 b5) b6) b7) b8) b9)) (y3W0.below updR (btr (btr (btr (btr (btr b4 b5) b6) b7) b8) b9)) fa0 fb0 fd0 fs0).mono ?_
  rintro e w10 ⟨rfl, b10⟩
  have B10 := btr B9 b10
  clear pcW00 pcW01 pcW02 plW0
  go_wp2_with fail
  refine wp_region_facts [[], [], [1], [0, 1, 2]]
    [fun v' _ => v' = .agg #[.slice Li0 lo0.length lo0.length, .slice Ui0 up0.length up0.length, .slice Ti0 us0.length us0.length], fun v' _ => v' = .agg #[.slice LA0 lo0.length Lc0, .slice UA0 up0.length Uc0, .slice TA0 us0.length Tc0], BatAt lo0 up0 us0, fun v' _ => v' = .bool true]
    (by kernel_rfl) (by kernel_rfl) rfl ⟨stable_pure _, stable_pure _, stable_batAt _ _ _, stable_pure _, trivial⟩ ?_
  refine wf_stepK [] [] (by kernel_rfl) (by kernel_rfl) (fun wf hb hf => ?_) (fun t0 => ?_)
  · refine ⟨?_⟩
    have p0 := ((kX0.below (btr (btr (btr (btr b6 b7) b8) b9) b10)).below hb).cell 0
    have p1 := ((kX0.below (btr (btr (btr (btr b6 b7) b8) b9) b10)).below hb).cell 1
    have p2 := ((kX0.below (btr (btr (btr (btr b6 b7) b8) b9) b10)).below hb).cell 2
    simp at p0 p1 p2
    go_wp2
    exact ⟨rfl, .agg #[.slice Li0 lo0.length lo0.length, .slice Ui0 up0.length up0.length, .slice Ti0 us0.length us0.length], by kernel_rfl, Below.refl _ _, rfl⟩
  refine wf_stepK [] [] (by kernel_rfl) (by kernel_rfl) (fun wf hb hf => ?_) (fun t1 => ?_)
  · refine ⟨?_⟩
    have p0 := ((kP0.below (btr (btr (btr (btr (btr (btr (btr (btr (btr b1 b2) b3) b4) b5) b6) b7) b8) b9) b10)).below hb).cell 0
    have p1 := ((kP0.below (btr (btr (btr (btr (btr (btr (btr (btr (btr b1 b2) b3) b4) b5) b6) b7) b8) b9) b10)).below hb).cell 1
    have p2 := ((kP0.below (btr (btr (btr (btr (btr (btr (btr (btr (btr b1 b2) b3) b4) b5) b6) b7) b8) b9) b10)).below hb).cell 2
    simp at p0 p1 p2
    go_wp2
    exact ⟨rfl, .agg #[.slice LA0 lo0.length Lc0, .slice UA0 up0.length Uc0, .slice TA0 us0.length Tc0], by kernel_rfl, Below.refl _ _, rfl⟩
  refine wf_stepK [1] [fun _ => t1 = .agg #[.slice LA0 lo0.length Lc0, .slice UA0 up0.length Uc0, .slice TA0 us0.length Tc0]] (by kernel_rfl) (by kernel_rfl) (fun wf hb hf => ?_) (fun t2 => ?_)
  · obtain ⟨rfl, -⟩ := hf
    refine ⟨?_⟩
    go_wp2_with (go_at_call 6; refine (toBatch_any LA0 UA0 TA0 Lc0 Uc0 Tc0 lo0 up0 us0 _ ((h10.below (btr (btr (btr (btr (btr (btr (btr (btr (btr b1 b2) b3) b4) b5) b6) b7) b8) b9) b10)).below hb) ((h20.below (btr (btr (btr (btr (btr (btr (btr (btr (btr b1 b2) b3) b4) b5) b6) b7) b8) b9) b10)).below hb) ((h30.below updR (btr (btr (btr (btr (btr (btr (btr (btr (btr b1 b2) b3) b4) b5) b6) b7) b8) b9) b10)).below updR hb) n10 n20 nt0 r30).mono ?_; rintro e w2 ⟨L3, U3, T3, rfl, o3, hb2⟩)
    exact ⟨rfl, _, by kernel_rfl, hb2, batAt_of o3⟩
  refine wf_stepK [0, 2] [fun _ => t0 = .agg #[.slice Li0 lo0.length lo0.length, .slice Ui0 up0.length up0.length, .slice Ti0 us0.length us0.length], BatAt lo0 up0 us0 t2] (by kernel_rfl) (by kernel_rfl) (fun wf hb hf => ?_) (fun t3 => ?_)
  · obtain ⟨rfl, ⟨L3, l3, U3, u3, T3, t3, rfl, g1, g2, g3⟩, -⟩ := hf
    refine ⟨?_⟩
    go_wp2_with (go_at_call 8; refine (eqBatch_yes Li0 Ui0 Ti0 L3 U3 T3 _ _ _ _ _ _ lo0 up0 us0 _ ((x1i0.below (btr (btr (btr (btr (btr b5 b6) b7) b8) b9) b10)).below hb) ((x2i0.below (btr (btr (btr (btr (btr b5 b6) b7) b8) b9) b10)).below hb) ((x3i0.below updR (btr (btr (btr (btr (btr b5 b6) b7) b8) b9) b10)).below updR hb) g1 g2 g3 n10 n20 (by omega) r30).mono ?_; rintro e w2 ⟨rfl, hb2⟩)
    exact ⟨rfl, .bool true, by kernel_rfl, hb2, rfl⟩
  refine wf_doneK [3] [fun _ => t3 = .bool true] (by kernel_rfl) (by kernel_rfl) (fun w11 b11 hf => ?_)
  obtain ⟨rfl, -⟩ := hf
  show wpList _ _ _ [_] _ _
  refine wpList_frame (by simp [Act.put]; rfl) ?_
  have B11 := btr B10 b11
  go_wp2_with fail
  refine wp_region_facts [[], [], [1], [0, 1, 2]]
    [fun v' _ => v' = .agg #[.slice Li1 lo1.length lo1.length, .slice Ui1 up1.length up1.length, .slice Ti1 us1.length us1.length], fun v' _ => v' = .agg #[.slice LA1 lo1.length Lc1, .slice UA1 up1.length Uc1, .slice TA1 us1.length Tc1], BatAt lo1 up1 us1, fun v' _ => v' = .bool true]
    (by kernel_rfl) (by kernel_rfl) rfl ⟨stable_pure _, stable_pure _, stable_batAt _ _ _, stable_pure _, trivial⟩ ?_
  refine wf_stepK [] [] (by kernel_rfl) (by kernel_rfl) (fun wf hb hf => ?_) (fun t0 => ?_)
  · refine ⟨?_⟩
    have p0 := ((kX1.below (btr (btr (btr b8 b9) b10) b11)).below hb).cell 0
    have p1 := ((kX1.below (btr (btr (btr b8 b9) b10) b11)).below hb).cell 1
    have p2 := ((kX1.below (btr (btr (btr b8 b9) b10) b11)).below hb).cell 2
    simp at p0 p1 p2
    go_wp2
    exact ⟨rfl, .agg #[.slice Li1 lo1.length lo1.length, .slice Ui1 up1.length up1.length, .slice Ti1 us1.length us1.length], by kernel_rfl, Below.refl _ _, rfl⟩
  refine wf_stepK [] [] (by kernel_rfl) (by kernel_rfl) (fun wf hb hf => ?_) (fun t1 => ?_)
  · refine ⟨?_⟩
    have p0 := ((kP1.below (btr (btr (btr (btr (btr (btr (btr (btr (btr (btr b1 b2) b3) b4) b5) b6) b7) b8) b9) b10) b11)).below hb).cell 0
    have p1 := ((kP1.below (btr (btr (btr (btr (btr (btr (btr (btr (btr (btr b1 b2) b3) b4) b5) b6) b7) b8) b9) b10) b11)).below hb).cell 1
    have p2 := ((kP1.below (btr (btr (btr (btr (btr (btr (btr (btr (btr (btr b1 b2) b3) b4) b5) b6) b7) b8) b9) b10) b11)).below hb).cell 2
    simp at p0 p1 p2
    go_wp2
    exact ⟨rfl, .agg #[.slice LA1 lo1.length Lc1, .slice UA1 up1.length Uc1, .slice TA1 us1.length Tc1], by kernel_rfl, Below.refl _ _, rfl⟩
  refine wf_stepK [1] [fun _ => t1 = .agg #[.slice LA1 lo1.length Lc1, .slice UA1 up1.length Uc1, .slice TA1 us1.length Tc1]] (by kernel_rfl) (by kernel_rfl) (fun wf hb hf => ?_) (fun t2 => ?_)
  · obtain ⟨rfl, -⟩ := hf
    refine ⟨?_⟩
    go_wp2_with (go_at_call 6; refine (toBatch_any LA1 UA1 TA1 Lc1 Uc1 Tc1 lo1 up1 us1 _ ((h11.below (btr (btr (btr (btr (btr (btr (btr (btr (btr (btr b1 b2) b3) b4) b5) b6) b7) b8) b9) b10) b11)).below hb) ((h21.below (btr (btr (btr (btr (btr (btr (btr (btr (btr (btr b1 b2) b3) b4) b5) b6) b7) b8) b9) b10) b11)).below hb) ((h31.below updR (btr (btr (btr (btr (btr (btr (btr (btr (btr (btr b1 b2) b3) b4) b5) b6) b7) b8) b9) b10) b11)).below updR hb) n11 n21 nt1 r31).mono ?_; rintro e w2 ⟨L3, U3, T3, rfl, o3, hb2⟩)
    exact ⟨rfl, _, by kernel_rfl, hb2, batAt_of o3⟩
  refine wf_stepK [0, 2] [fun _ => t0 = .agg #[.slice Li1 lo1.length lo1.length, .slice Ui1 up1.length up1.length, .slice Ti1 us1.length us1.length], BatAt lo1 up1 us1 t2] (by kernel_rfl) (by kernel_rfl) (fun wf hb hf => ?_) (fun t3 => ?_)
  · obtain ⟨rfl, ⟨L3, l3, U3, u3, T3, t3, rfl, g1, g2, g3⟩, -⟩ := hf
    refine ⟨?_⟩
    go_wp2_with (go_at_call 8; refine (eqBatch_yes Li1 Ui1 Ti1 L3 U3 T3 _ _ _ _ _ _ lo1 up1 us1 _ ((x1i1.below (btr (btr (btr (btr b7 b8) b9) b10) b11)).below hb) ((x2i1.below (btr (btr (btr (btr b7 b8) b9) b10) b11)).below hb) ((x3i1.below updR (btr (btr (btr (btr b7 b8) b9) b10) b11)).below updR hb) g1 g2 g3 n11 n21 (by omega) r31).mono ?_; rintro e w2 ⟨rfl, hb2⟩)
    exact ⟨rfl, .bool true, by kernel_rfl, hb2, rfl⟩
  refine wf_doneK [3] [fun _ => t3 = .bool true] (by kernel_rfl) (by kernel_rfl) (fun w12 b12 hf => ?_)
  obtain ⟨rfl, -⟩ := hf
  show wpList _ _ _ [_] _ _
  refine wpList_frame (by simp [Act.put]; rfl) ?_
  have B12 := btr B11 b12
  have pcX00 := (kX0.below (btr (btr (btr (btr (btr (btr b6 b7) b8) b9) b10) b11) b12)).cell 0
  have pcX01 := (kX0.below (btr (btr (btr (btr (btr (btr b6 b7) b8) b9) b10) b11) b12)).cell 1
  have pcX02 := (kX0.below (btr (btr (btr (btr (btr (btr b6 b7) b8) b9) b10) b11) b12)).cell 2
  simp at pcX00 pcX01 pcX02
  go_wp2_with fail
  refine (markBatch_x _ _ _ _ _ _ _ lo0 up0 us0 _ _ (batO.below oi0 (btr (btr (btr (btr (btr (btr (btr b5 b6) b7) b8) b9) b10) b11) b12)) n10 n20 (by omega) r30 (by omega) (by omega)).mono ?_
  rintro e w13 ⟨rfl, mk0, g13⟩
  have D0_13 : Below w0.heap.size w0 w13 := g13.below (btr (btr (btr (btr (btr (btr (btr (btr (btr (btr (btr b1 b2) b3) b4) b5) b6) b7) b8) b9) b10) b11) b12) (fun q hq => Nat.le_trans ((btr (btr b1 b2) b3)).size hq.1)
  have D3_13 : Below w3.heap.size w3 w13 := g13.below (btr (btr (btr (btr (btr (btr (btr (btr b4 b5) b6) b7) b8) b9) b10) b11) b12) (fun q hq => Nat.le_trans (Nat.le_refl w3.heap.size) hq.1)
  have oi1_13 := batO.kept (batO.below oi1 (btr (btr (btr (btr (btr b7 b8) b9) b10) b11) b12)) g13 (fun q hq hr => by have h3 := (b5).size; have h1 := hq.1; have h2 := hr.2; omega)
  have kX1_13 : Blk w13 bX1 30 #[.slice Li1 lo1.length lo1.length, .slice Ui1 up1.length up1.length, .slice Ti1 us1.length us1.length] := (g13.block _ (Blk.lt (kX1.below (btr (btr (btr (btr b8 b9) b10) b11) b12))) (fun hq => by have h3 := ((btr b5 b6)).size; have h1 := hq.2; have h4 := HbX1.out; omega)).trans (kX1.below (btr (btr (btr (btr b8 b9) b10) b11) b12))
  have oG0_13 := batO.kept (batO.below oG0 (btr (btr (btr b9 b10) b11) b12)) g13 (fun q hq hr => by have h3 := ((btr (btr b5 b6) b7)).size; have h1 := hq.1; have h2 := hr.2; omega)
  have kG0_13 : Blk w13 bG0 30 #[.slice LG0 P0.length d1G0, .slice UG0 Q0.length d2G0, .slice TG0 R0.length d3G0] := (g13.block _ (Blk.lt (kG0.below (btr (btr b10 b11) b12))) (fun hq => by have h3 := ((btr (btr (btr b5 b6) b7) b8)).size; have h1 := hq.2; have h4 := HbG0.out; omega)).trans (kG0.below (btr (btr b10 b11) b12))
  have B13 := D0_13
  clear pcX00 pcX01 pcX02
  have pcX10 := kX1_13.cell 0
  have pcX11 := kX1_13.cell 1
  have pcX12 := kX1_13.cell 2
  simp at pcX10 pcX11 pcX12
  go_wp2_with fail
  refine (markBatch_x _ _ _ _ _ _ _ lo1 up1 us1 _ _ oi1_13 n11 n21 (by omega) r31 (by omega) (by omega)).mono ?_
  rintro e w14 ⟨rfl, mk1, g14⟩
  have D0_14 : Below w0.heap.size w0 w14 := g14.below D0_13 (fun q hq => Nat.le_trans ((btr (btr (btr (btr b1 b2) b3) b4) b5)).size hq.1)
  have D3_14 : Below w3.heap.size w3 w14 := g14.below D3_13 (fun q hq => Nat.le_trans ((btr b4 b5)).size hq.1)
  have oG0_14 := batO.kept oG0_13 g14 (fun q hq hr => by have h3 := (b7).size; have h1 := hq.1; have h2 := hr.2; omega)
  have kG0_14 : Blk w14 bG0 30 #[.slice LG0 P0.length d1G0, .slice UG0 Q0.length d2G0, .slice TG0 R0.length d3G0] := (g14.block _ (Blk.lt kG0_13) (fun hq => by have h3 := ((btr b7 b8)).size; have h1 := hq.2; have h4 := HbG0.out; omega)).trans kG0_13
  have B14 := D0_14
  clear pcX10 pcX11 pcX12
  have pcG00 := kG0_14.cell 0
  have pcG01 := kG0_14.cell 1
  have pcG02 := kG0_14.cell 2
  simp at pcG00 pcG01 pcG02
  have pcW00 := (kW0.below D3_14).cell 0
  have pcW01 := (kW0.below D3_14).cell 1
  have pcW02 := (kW0.below D3_14).cell 2
  simp at pcW00 pcW01 pcW02
  go_wp2_with fail
  obtain ⟨v2a, v2b, v2c⟩ := batO_rd oG0_14
  refine (eqBatch_yes _ _ _ _ _ _ _ _ _ _ _ _ P0 Q0 R0 _ v2a v2b v2c (y1W0.below D3_14) (y2W0.below D3_14) (y3W0.below updR D3_14) fa0 fb0 fd0 fs0).mono ?_
  rintro e w15 ⟨rfl, b15⟩
  have B15 := btr B14 b15
  clear pcG00 pcG01 pcG02 pcW00 pcW01 pcW02
  have pcG00 := (kG0_14.below b15).cell 0
  have pcG01 := (kG0_14.below b15).cell 1
  have pcG02 := (kG0_14.below b15).cell 2
  simp at pcG00 pcG01 pcG02
  go_wp2_with fail
  refine (markBatch_x _ _ _ _ _ _ _ P0 Q0 R0 1 _ (batO.below oG0_14 b15) fa0 fb0 fd0 fs0 (by omega) (by omega)).mono ?_
  rintro e w16 ⟨rfl, kM0, g16⟩
  have D0_16 : Below w0.heap.size w0 w16 := g16.below (btr D0_14 b15) (fun q hq => Nat.le_trans ((btr (btr (btr (btr (btr (btr b1 b2) b3) b4) b5) b6) b7)).size hq.1)
  have D3_16 : Below w3.heap.size w3 w16 := g16.below (btr D3_14 b15) (fun q hq => Nat.le_trans ((btr (btr (btr b4 b5) b6) b7)).size hq.1)
  have kG0_16 : Blk w16 bG0 30 #[.slice LG0 P0.length d1G0, .slice UG0 Q0.length d2G0, .slice TG0 R0.length d3G0] := (g16.block _ (Blk.lt (kG0_14.below b15)) (fun hq => by have h3 := (Nat.le_refl w8.heap.size); have h1 := hq.2; have h4 := HbG0.out; omega)).trans (kG0_14.below b15)
  have B16 := D0_16
  clear pcG00 pcG01 pcG02
  have pcG00 := kG0_16.cell 0
  have pcG01 := kG0_16.cell 1
  have pcG02 := kG0_16.cell 2
  simp at pcG00 pcG01 pcG02
  go_wp2_with fail
  refine (heldBatch_x _ _ _ _ _ _ _ P0 Q0 R0 1 _ kM0 fa0 fb0 fd0 fs0 (by omega) (by omega)).mono ?_
  rintro e w17 ⟨rfl, b17⟩
  have B17 := btr B16 b17
  clear pcG00 pcG01 pcG02
  go_upto_region 31 with fail
  go_cut [15, 16] from 94 to 101 (fun v6 v7 W => ∃ L d1 U d2 T d3 g, v6 = .pointer (some ⟨g, 0, none⟩) ∧ v7 = .bool k1r ∧ w17.heap.size ≤ g ∧ Blk W g 30 #[.slice L P0.length d1, .slice U Q0.length d2, .slice T R0.length d3] ∧ TimesAt W L P0 ∧ TimesAt W U Q0 ∧ UpdsAt W T R0 ∧ Below w17.heap.size w17 W)
  case first =>
    refine wp_region_factsQ 7 _ _ [[], [0], [], [2], [0, 1, 2, 3], [0, 1, 2, 3, 4], [0, 1, 2, 3, 4, 5], [0, 1, 2, 3, 4, 5], []]
      [fun v' _ => v' = .agg #[.slice LA0 lo0.length Lc0, .slice UA0 up0.length Uc0, .slice TA0 us0.length Tc0], BatC lo0 up0 us0, fun v' _ => v' = .agg #[.slice LA1 lo1.length Lc1, .slice UA1 up1.length Uc1, .slice TA1 us1.length Tc1], BatC lo1 up1 us1, BatP k1r P0 Q0 R0, BatP k1r P0 Q0 R0, BatAt P0 Q0 R0, fun v' _ => v' = .bool k1r, AtBlk w17.heap.size 30 #[.slice none 0 0, .slice none 0 0, .slice none 0 0]]
      [some (fun v' _ => v' = .agg #[.slice LA0 lo0.length Lc0, .slice UA0 up0.length Uc0, .slice TA0 us0.length Tc0]), some (BatC lo0 up0 us0), some (fun v' _ => v' = .agg #[.slice LA1 lo1.length Lc1, .slice UA1 up1.length Uc1, .slice TA1 us1.length Tc1]), some (BatC lo1 up1 us1), some (BatP k1r P0 Q0 R0), some (BatP k1r P0 Q0 R0), some (BatAt P0 Q0 R0), none, some (AtBlk w17.heap.size 30 #[.slice none 0 0, .slice none 0 0, .slice none 0 0])]
      (by decide) rfl rfl rfl (by kernel_rfl) (by kernel_rfl) rfl ⟨stable_pure _, stable_batC _ _ _, stable_pure _, stable_batC _ _ _, stable_batP _ _ _ _, stable_batP _ _ _ _, stable_batAt _ _ _, stable_pure _, stable_atBlk _ _ _, trivial⟩ ?_ ?_
    · refine wf_stepK [] [] (by kernel_rfl) (by kernel_rfl) (fun wf hb hf => ?_) (fun t0 => ?_)
      · refine ⟨?_⟩
        have p0 := ((kP0.below (btr D0_16 b17)).below hb).cell 0
        have p1 := ((kP0.below (btr D0_16 b17)).below hb).cell 1
        have p2 := ((kP0.below (btr D0_16 b17)).below hb).cell 2
        simp at p0 p1 p2
        go_wp2
        exact ⟨rfl, .agg #[.slice LA0 lo0.length Lc0, .slice UA0 up0.length Uc0, .slice TA0 us0.length Tc0], by kernel_rfl, Below.refl _ _, rfl⟩
      refine wf_stepK [0] [fun _ => t0 = .agg #[.slice LA0 lo0.length Lc0, .slice UA0 up0.length Uc0, .slice TA0 us0.length Tc0]] (by kernel_rfl) (by kernel_rfl) (fun wf hb hf => ?_) (fun t1 => ?_)
      · obtain ⟨rfl, -⟩ := hf
        refine ⟨?_⟩
        go_wp2_with (go_at_call 6; refine (toBatch_any LA0 UA0 TA0 Lc0 Uc0 Tc0 lo0 up0 us0 _ ((h10.below (btr D0_16 b17)).below hb) ((h20.below (btr D0_16 b17)).below hb) ((h30.below updR (btr D0_16 b17)).below updR hb) n10 n20 nt0 r30).mono ?_; rintro e w2 ⟨L3, U3, T3, rfl, o3, hb2⟩)
        exact ⟨rfl, _, by kernel_rfl, hb2, batC_of o3⟩
      refine wf_stepK [] [] (by kernel_rfl) (by kernel_rfl) (fun wf hb hf => ?_) (fun t2 => ?_)
      · refine ⟨?_⟩
        have p0 := ((kP1.below (btr D0_16 b17)).below hb).cell 0
        have p1 := ((kP1.below (btr D0_16 b17)).below hb).cell 1
        have p2 := ((kP1.below (btr D0_16 b17)).below hb).cell 2
        simp at p0 p1 p2
        go_wp2
        exact ⟨rfl, .agg #[.slice LA1 lo1.length Lc1, .slice UA1 up1.length Uc1, .slice TA1 us1.length Tc1], by kernel_rfl, Below.refl _ _, rfl⟩
      refine wf_stepK [2] [fun _ => t2 = .agg #[.slice LA1 lo1.length Lc1, .slice UA1 up1.length Uc1, .slice TA1 us1.length Tc1]] (by kernel_rfl) (by kernel_rfl) (fun wf hb hf => ?_) (fun t3 => ?_)
      · obtain ⟨rfl, -⟩ := hf
        refine ⟨?_⟩
        go_wp2_with (go_at_call 6; refine (toBatch_any LA1 UA1 TA1 Lc1 Uc1 Tc1 lo1 up1 us1 _ ((h11.below (btr D0_16 b17)).below hb) ((h21.below (btr D0_16 b17)).below hb) ((h31.below updR (btr D0_16 b17)).below updR hb) n11 n21 nt1 r31).mono ?_; rintro e w2 ⟨L3, U3, T3, rfl, o3, hb2⟩)
        exact ⟨rfl, _, by kernel_rfl, hb2, batC_of o3⟩
      refine wf_stepK [1, 3] [BatC lo0 up0 us0 t1, BatC lo1 up1 us1 t3] (by kernel_rfl) (by kernel_rfl) (fun wf hb hf => ?_) (fun t4 => ?_)
      · obtain ⟨⟨Lx, Ux, Tx, rfl, x1, x2, x3⟩, ⟨Ly, Uy, Ty, rfl, y1, y2, y3⟩, -⟩ := hf
        refine ⟨?_⟩
        go_wp2_with (go_at_call 7; refine (conG _ _ _ _ _ _ _ _ _ _ _ _ _ x1 x2 x3 y1 y2 y3 (Nat.le_refl _) (Nat.le_refl _)).mono ?_; rintro e w3 ⟨L1, d1, U1, d2, T1, d3, rfl, o3, hb2⟩)
        obtain ⟨z1, z2, z3⟩ := batO_rd o3
        exact ⟨rfl, .tuple #[.agg #[.slice L1 P0.length d1, .slice U1 Q0.length d2, .slice T1 R0.length d3], .bool k1r], by kernel_rfl, hb2, L1, d1, U1, d2, T1, d3, rfl, z1, z2, z3⟩
      refine wf_stepK [4] [BatP k1r P0 Q0 R0 t4] (by kernel_rfl) (by kernel_rfl) (fun wf hb hf => ?_) (fun t5 => ?_)
      · obtain ⟨⟨L1, d1, U1, d2, T1, d3, rfl, z1, z2, z3⟩, -⟩ := hf
        refine ⟨?_⟩
        go_wp2
        exact ⟨rfl, .tuple #[.agg #[.slice L1 P0.length d1, .slice U1 Q0.length d2, .slice T1 R0.length d3], .bool k1r], by kernel_rfl, Below.refl _ _, L1, d1, U1, d2, T1, d3, rfl, z1, z2, z3⟩
      refine wf_stepK [5] [BatP k1r P0 Q0 R0 t5] (by kernel_rfl) (by kernel_rfl) (fun wf hb hf => ?_) (fun t6 => ?_)
      · obtain ⟨⟨L1, d1, U1, d2, T1, d3, rfl, z1, z2, z3⟩, -⟩ := hf
        refine ⟨?_⟩
        go_wp2
        exact ⟨rfl, .agg #[.slice L1 P0.length d1, .slice U1 Q0.length d2, .slice T1 R0.length d3], by kernel_rfl, Below.refl _ _, L1, d1, U1, d2, T1, d3, rfl, z1, z2, z3⟩
      refine wf_stepK [5] [BatP k1r P0 Q0 R0 t5] (by kernel_rfl) (by kernel_rfl) (fun wf hb hf => ?_) (fun t7 => ?_)
      · obtain ⟨⟨L1, d1, U1, d2, T1, d3, rfl, z1, z2, z3⟩, -⟩ := hf
        refine ⟨?_⟩
        go_wp2
        exact ⟨rfl, .bool k1r, by kernel_rfl, Below.refl _ _, rfl⟩
      refine wf_stepK [] [] (by kernel_rfl) (by kernel_rfl) (fun wf hb hf => ?_) (fun t8 => ?_)
      · refine ⟨?_⟩
        have hs := hb.size
        go_wp2
        exact ⟨rfl, .pointer (some ⟨wf.heap.size, 0, none⟩), by kernel_rfl, bal (Below.refl _ _) _, wf.heap.size, rfl, (by omega), Blk.newAt rfl⟩
      refine wf_doneK [6, 7, 8] [BatAt P0 Q0 R0 t6, fun _ => t7 = .bool k1r, AtBlk w17.heap.size 30 #[.slice none 0 0, .slice none 0 0, .slice none 0 0] t8] (by kernel_rfl) (by kernel_rfl) (fun w9 b9 hf => ?_)
      obtain ⟨⟨L1, d1, U1, d2, T1, d3, rfl, z1, z2, z3⟩, rfl, ⟨g, rfl, hg, kG⟩, -⟩ := hf
      show wpList _ _ _ [_, _] _ _
      refine wpList_frame (by simp [Act.put]; rfl) ?_
      have g0 := kG.cell 0
      have g1 := kG.cell 1
      have g2 := kG.cell 2
      have f0 := kG.frozen 0
      have f1 := kG.frozen 1
      have f2 := kG.frozen 2
      simp at g0 g1 g2
      have HR := Lib.hid (And.intro hg (box_batch (d1 := d1) (d2 := d2) (d3 := d3) kG hg b9 z1 z2 z3))
      clear kG z1 z2 z3 b9 hg
      go_wp2_with fail
      go_meet
      exact ⟨L1, d1, U1, d2, T1, d3, g, rfl, rfl, HR.out⟩
    · refine doneO_some (fun t0 => ?_)
      refine doneO_some (fun t1 => ?_)
      refine doneO_some (fun t2 => ?_)
      refine doneO_some (fun t3 => ?_)
      refine doneO_some (fun t4 => ?_)
      refine doneO_some (fun t5 => ?_)
      refine doneO_some (fun t6 => ?_)
      refine doneO_none ?_
      refine doneO_some (fun t8 => ?_)
      refine doneO_end [5, 6, 7] [BatP k1r P0 Q0 R0 t5, BatAt P0 Q0 R0 t6, AtBlk w17.heap.size 30 #[.slice none 0 0, .slice none 0 0, .slice none 0 0] t8] (by kernel_rfl) (by kernel_rfl) (fun w9 b9 hf => ?_)
      obtain ⟨⟨L0, e1, U0, e2, T0, e3, rfl, -⟩, ⟨L1, d1, U1, d2, T1, d3, rfl, z1, z2, z3⟩, ⟨g, rfl, hg, kG⟩, -⟩ := hf
      show wpList _ _ _ [_, _, _] _ _
      refine wpList_frame (by simp [Act.put]; rfl) ?_
      have g0 := kG.cell 0
      have g1 := kG.cell 1
      have g2 := kG.cell 2
      have f0 := kG.frozen 0
      have f1 := kG.frozen 1
      have f2 := kG.frozen 2
      simp at g0 g1 g2
      have HR := Lib.hid (And.intro hg (box_batch (d1 := d1) (d2 := d2) (d3 := d3) kG hg b9 z1 z2 z3))
      clear kG z1 z2 z3 b9 hg
      go_wp2_with fail
      go_meet
      exact ⟨L1, d1, U1, d2, T1, d3, g, rfl, rfl, HR.out⟩
  case rest =>
  obtain ⟨LH0, d1H0, UH0, d2H0, TH0, d3H0, bH0, rfl, rfl, HgH0, kH0, y1H0, y2H0, y3H0, Bq⟩ := hcut
  obtain ⟨w18, hw9⟩ : ∃ W, W = wc := ⟨_, rfl⟩
  subst hw9
  have b18 := Bq
  clear Bq
  have B18 := btr B17 b18
  have HbH0 := Lib.hid HgH0
  clear HgH0
  have pcH00 := kH0.cell 0
  have pcH01 := kH0.cell 1
  have pcH02 := kH0.cell 2
  simp at pcH00 pcH01 pcH02
  have pcW00 := (kW0.below (btr (btr D3_16 b17) b18)).cell 0
  have pcW01 := (kW0.below (btr (btr D3_16 b17) b18)).cell 1
  have pcW02 := (kW0.below (btr (btr D3_16 b17) b18)).cell 2
  simp at pcW00 pcW01 pcW02
  go_wp2_with fail
  refine (eqBatch_yes _ _ _ _ _ _ _ _ _ _ _ _ P0 Q0 R0 _ y1H0 y2H0 y3H0 (y1W0.below (btr (btr D3_16 b17) b18)) (y2W0.below (btr (btr D3_16 b17) b18)) (y3W0.below updR (btr (btr D3_16 b17) b18)) fa0 fb0 fd0 fs0).mono ?_
  rintro e w19 ⟨rfl, b19⟩
  have B19 := btr B18 b19
  clear pcH00 pcH01 pcH02 pcW00 pcW01 pcW02
  have pcG00 := (kG0_16.below (btr (btr b17 b18) b19)).cell 0
  have pcG01 := (kG0_16.below (btr (btr b17 b18) b19)).cell 1
  have pcG02 := (kG0_16.below (btr (btr b17 b18) b19)).cell 2
  simp at pcG00 pcG01 pcG02
  go_wp2_with fail
  refine (heldBatch_x _ _ _ _ _ _ _ P0 Q0 R0 1 _ (batO.below kM0 (btr (btr b17 b18) b19)) fa0 fb0 fd0 fs0 (by omega) (by omega)).mono ?_
  rintro e w20 ⟨rfl, b20⟩
  have B20 := btr B19 b20
  clear pcG00 pcG01 pcG02
  go_wp2_with fail
  go_ret
  exact ⟨rfl, btr hBz (B20)⟩

namespace lawFnExactMergeBatches
theorem own : ownKnob Tryz.prog.godebug = none := by kernel_rfl
theorem laidOut : laidOutB Tryz.prog = true := clo_laid
set_option maxRecDepth 100000 in
theorem lifted (os : Os) (started : os.Started) (H : Type) (enc : TypeId × Value → H) :
    ReturnsInHanded {} Tryz.checked os 3 .any (Rows.fnExactMergeBatchesSpec.pre6 enc Tryz.prog Tryz.f3 Rows.fnExactMergeBatchesRow.domain false) (Rows.fnExactMergeBatchesSpec.post enc Tryz.prog Tryz.f3 false true false false) := by
  refine returnsInHanded_of_change (C := Tryz.checked) own started (by kernel_rfl) Tryz.func3
    (ChangeSpec.witness6 (enc := enc) (C := Tryz.checked) false ⟨#[], #[.agg #[.slice none 0 0, .slice none 0 0, .slice none 0 0], .agg #[.slice none 0 0, .slice none 0 0, .slice none 0 0]], []⟩ 8 (by kernel_rfl) (by kernel_rfl) (by kernel_rfl) (by kernel_rfl)) ?_
  intro W base args ds gs before hval0 hW hcnd _
  have hval : ∀ (j : Nat) t v, Tryz.f3.params[j]? = some t → args[j]? = some v → Value.okWide Tryz.prog W .any base t v := hval0
  have hW' := hW
  obtain ⟨p, q, hA0, hV, rfl, hfz, hnd⟩ := hW
  have hA : DataW.TrodAll enc Tryz.prog W 0 (fun _ => true) true Tryz.f3.params.toList args.toList ds p := hA0
  rw [Tryz.params3] at hA hval
  obtain ⟨v0, vs0, d0, ds0, p0, q0, hargs, rfl, rfl, h0, r0⟩ := trodAll_cons hA
  obtain ⟨v1, vs1, d1, ds1, p1, q1, rfl, rfl, rfl, h1, r1⟩ := trodAll_cons r0
  obtain ⟨rfl, rfl, rfl⟩ := trodAll_nil r1
  obtain rfl : args = #[v0, v1] := by cases args; simp_all
  obtain ⟨rfl, rfl⟩ := trodVars_none hV
  have k0 := h0
  have lt0 : ∀ x ∈ p0, x.block < W.heap.size := by obtain ⟨m, hm⟩ := k0; exact DataW.trod_lt m _ _ _ hm
  obtain ⟨c00, c01, c02, y00, y01, y02, m0, rfl, rfl, rfl, hy00, hy01, hy02⟩ := Go.Joins.open_agg3 Tryz.underlying25 (by kernel_rfl) (by kernel_rfl) (hval 0 25 v0 rfl rfl) h0
  obtain ⟨z00, a00, cap00, e00, l00, w00⟩ := (opens_tms (enc := enc) (W := W)).2 _ _ _ rfl hy00
  simp only [List.cons.injEq, and_true] at e00
  subst e00
  obtain ⟨z01, a01, cap01, e01, l01, w01⟩ := (opens_tms (enc := enc) (W := W)).2 _ _ _ rfl hy01
  simp only [List.cons.injEq, and_true] at e01
  subst e01
  obtain ⟨z02, a02, cap02, e02, l02, w02⟩ := (opens_ups (enc := enc) (W := W)).2 _ _ _ rfl hy02
  simp only [List.cons.injEq, and_true] at e02
  subst e02
  have k1 := h1
  have lt1 : ∀ x ∈ p1, x.block < W.heap.size := by obtain ⟨m, hm⟩ := k1; exact DataW.trod_lt m _ _ _ hm
  obtain ⟨c10, c11, c12, y10, y11, y12, m1, rfl, rfl, rfl, hy10, hy11, hy12⟩ := Go.Joins.open_agg3 Tryz.underlying25 (by kernel_rfl) (by kernel_rfl) (hval 1 25 v1 rfl rfl) h1
  obtain ⟨z10, a10, cap10, e10, l10, w10⟩ := (opens_tms (enc := enc) (W := W)).2 _ _ _ rfl hy10
  simp only [List.cons.injEq, and_true] at e10
  subst e10
  obtain ⟨z11, a11, cap11, e11, l11, w11⟩ := (opens_tms (enc := enc) (W := W)).2 _ _ _ rfl hy11
  simp only [List.cons.injEq, and_true] at e11
  subst e11
  obtain ⟨z12, a12, cap12, e12, l12, w12⟩ := (opens_ups (enc := enc) (W := W)).2 _ _ _ rfl hy12
  simp only [List.cons.injEq, and_true] at e12
  subst e12
  clear hA0 hval0
  refine (FnExactMergeBatches_walk a00 cap00 z00 a01 cap01 z01 a02 cap02 z02 a10 cap10 z10 a11 cap11 z11 a12 cap12 z12 W l00 w00 l01 w01 l02 w02 l10 w10 l11 w11 l12 w12).mono fun e W' ⟨he, bel⟩ => ?_
  subst he
  exact ⟨_, rfl, _, _, _, [], _, [], hW', trodAll_mk1 (shut_bool Tryz.underlying4 _), (trodAll_cons_mk (Below.trod laidOut (by kernel_rfl) (of_decide_eq_true (by kernel_rfl)) k0 bel lt0) (trodAll_cons_mk (Below.trod laidOut (by kernel_rfl) (of_decide_eq_true (by kernel_rfl)) k1 bel lt1) trodAll_mk0)), rfl, bel.frame _, fun h => by cases h⟩
theorem andTT {a b : Bool} (h1 : a = true) (h2 : b = true) : (a && b) = true := by rw [h1, h2]; rfl
set_option maxHeartbeats 8000000 in
theorem closed : joinedFacts Tryz.prog 3 Tryz.f3 Rows.fnExactMergeBatchesSpec Rows.fnExactMergeBatchesRow = true := by
  unfold joinedFacts
  repeat' (with_reducible refine andTT ?_ ?_)
  all_goals (first | (with_reducible exact clo_laid) | (with_reducible exact clo_maps) | (with_reducible exact clo_heard) | (with_reducible exact clo_enter) | ((with_reducible refine clo_plain _ ?_); rfl) | ((with_reducible refine clo_lifts _ ?_); rfl) | (as_aux_lemma => kernel_rfl))

theorem over : Rows.fnExactMergeBatchesRow.holds Tryz.pinned (OpenSpec.ofChange Rows.fnExactMergeBatchesSpec) :=
  OpenClaim.holds_of_wide 3 Tryz.f3 rfl rfl rfl rfl rfl rfl rfl ⟨rfl, rfl, rfl, rfl, rfl⟩ rfl rfl rfl rfl rfl (by kernel_rfl) Tryz.func3 closed
    (of_decide_eq_true (by kernel_rfl)) (by unfold Func.isWrapper; first | (rw [if_pos (by decide +kernel)]; kernel_rfl) | (rw [if_neg (by decide +kernel)]; exact ⟨rfl, rfl⟩))
    (fun os started H enc _ => lifted os started H enc)

/-- THE STATEMENT. -/
theorem proved : Rows.FnExactMergeBatchesSaid := over
end lawFnExactMergeBatches
end Go.Proofs.YtffgonddephkkaaGreat
