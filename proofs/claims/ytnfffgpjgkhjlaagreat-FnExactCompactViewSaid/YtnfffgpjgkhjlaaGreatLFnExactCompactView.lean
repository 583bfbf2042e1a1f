/- The law FnExactCompactView returns true at every argument; no condition. -/
import Derived.Test.YtnfffgpjgkhjlaaGreatVwb
import Derived.Test.YtnfffgpjgkhjlaaGreatVwc
import Derived.Test.YtnfffgpjgkhjlaaGreatEntM
import Derived.Test.YtnfffgpjgkhjlaaGreatClo
import Derived.Carry
import Derived.ChangeOld
import Derived.Lib.SmallJoins
namespace Go.Proofs.YtnfffgpjgkhjlaaGreat
open Go.ChangeShapes Go.WideShapes Go.ChangeAt Go.RowKit Go.Sort
set_option linter.unusedVariables false
set_option linter.unusedSimpArgs false

set_option maxRecDepth 100000 in
set_option maxHeartbeats 25600000 in
theorem FnExactCompactView_walk (LA0 : Option Addr) (Lc0 : Nat) (lo0 : List Tm) (UA0 : Option Addr) (Uc0 : Nat) (up0 : List Tm) (TA0 : Option Addr) (Tc0 : Nat) (us0 : List Upd) (A1 : Option Addr) (c1 : Nat) (z1 : List Tm) (wz : World) (m10 : lo0.length ≤ maxLen) (h10 : TimesAt wz LA0 lo0) (m20 : up0.length ≤ maxLen) (h20 : TimesAt wz UA0 up0) (m30 : us0.length ≤ maxLen) (h30 : UpdsAt wz TA0 us0) (hm1 : z1.length ≤ maxLen) (hx1 : TimesAt wz A1 z1) :
    Calls Tryz.prog 4 #[.agg #[.slice LA0 lo0.length Lc0, .slice UA0 up0.length Uc0, .slice TA0 us0.length Tc0], .slice A1 z1.length c1] wz fun e w' => e = .returned (.bool true) ∧ Below wz.heap.size wz w' := by
  have nn0 := batSz_nn (lo0, (up0, us0))
  by_cases s0 : 1048576 < batSz (lo0, (up0, us0))
  · go_enter Tryz.func4, Tryz.ntmps4
    go_wp2_with fail
    refine absI (fun W => Below wz.heap.size wz W ∧ Blk W wz.heap.size 25 #[.slice LA0 lo0.length Lc0, .slice UA0 up0.length Uc0, .slice TA0 us0.length Tc0]) ⟨(bal (Below.refl _ _) _), (Blk.newAt rfl)⟩ ?_
    rintro w0 ⟨hBz, kP0⟩
    have h10 := h10.below hBz
    have h20 := h20.below hBz
    have h30 := h30.below updR hBz
    have hx1 := hx1.below hBz
    refine (szView_no LA0 UA0 TA0 Lc0 Uc0 Tc0 lo0 up0 us0 _ _ h30 m10 m20 m30 (by omega) (by omega) (by omega)).mono ?_
    rintro e w1 ⟨rfl, b1⟩
    have B1 := b1
    go_wp2
    go_ret
    exact ⟨rfl, btr hBz (B1)⟩
  have hu0 := updSz_nn us0
  have hl0 : (lo0.length : Int) + up0.length + updSz us0 ≤ 1048576 := by have h0 : batSz (lo0, (up0, us0)) = (lo0.length : Int) + up0.length + updSz us0 := rfl; omega
  have n10 : lo0.length ≤ 4194304 := by omega
  have n20 : up0.length ≤ 4194304 := by omega
  have hv0 := updSz_len (es := us0) (n := 1048576) (by omega)
  have n30 : us0.length ≤ 4194303 := by omega
  have nt0 : us0.length ≤ 2097152 := by omega
  have r30 : rowsU us0 4194304 := updSz_row (by omega)
  have cb0 := cntU_bd (es := us0) (by omega) r30
  have cx0 : (cntV (lo0, (up0, us0)) : Int) ≤ 1099511627776000 := by unfold cntV; push_cast; omega
  have sz0 : batSz (lo0, (up0, us0)) ≤ 1048576 := by omega
  by_cases s1 : 1048576 - batSz (lo0, (up0, us0)) < (z1.length : Int)
  · go_enter Tryz.func4, Tryz.ntmps4
    go_wp2_with fail
    refine absI (fun W => Below wz.heap.size wz W ∧ Blk W wz.heap.size 25 #[.slice LA0 lo0.length Lc0, .slice UA0 up0.length Uc0, .slice TA0 us0.length Tc0]) ⟨(bal (Below.refl _ _) _), (Blk.newAt rfl)⟩ ?_
    rintro w0 ⟨hBz, kP0⟩
    have h10 := h10.below hBz
    have h20 := h20.below hBz
    have h30 := h30.below updR hBz
    have hx1 := hx1.below hBz
    refine (szView_yes LA0 UA0 TA0 Lc0 Uc0 Tc0 lo0 up0 us0 _ _ h30 m10 m20 m30 (by omega) (by omega) (by omega)).mono ?_
    rintro e w1 ⟨rfl, b1⟩
    have B1 := b1
    go_wp2_with fail
    refine (szTimeS_no _ _ _ _ _ (by omega) (by omega) hm1 (by omega)).mono ?_
    rintro e wsame ⟨rfl, rfl⟩
    go_wp2
    go_ret
    exact ⟨rfl, btr hBz (B1)⟩
  have sb1 : (z1.length : Int) ≤ 1048576 := by omega
  have n1 : z1.length ≤ 4194304 := by omega
  have conW := fun (A0 B0 C0 : Option Addr) (a0 b0 c0 : Nat) (A1 : Option Addr) (c1 : Nat) (W : World) (g10 : TimesAt W A0 lo0) (g20 : TimesAt W B0 up0) (g30 : UpdsAt W C0 us0) (g1 : TimesAt W A1 z1) => CompactView_s A0 B0 C0 A1 a0 b0 c0 c1 lo0 up0 us0 z1 W g10 g20 g30 g1 n10 n20 n30 r30 n1
  have conG := fun (A0 B0 C0 : Option Addr) (a0 b0 c0 : Nat) (A1 : Option Addr) (c1 : Nat) (W : World) (g10 : TimesAt W A0 lo0) (g20 : TimesAt W B0 up0) (g30 : UpdsAt W C0 us0) (g1 : TimesAt W A1 z1) (k1 : z1.length ≤ c1) => CompactView_i A0 B0 C0 A1 a0 b0 c0 c1 lo0 up0 us0 z1 W g10 g20 g30 g1 k1 n10 n20 (by omega) r30 n1
  have ⟨fa0, fb0, fc0, fr0⟩ := cpvV_len (lo0, (up0, us0)) z1 n1 n20
  have fd0 : (cpvV (lo0, (up0, us0)) z1).2.2.length ≤ 4194304 := by omega
  have fs0 : rowsU (cpvV (lo0, (up0, us0)) z1).2.2 4194304 := fun e he => by have := fr0 e he; omega
  have fz0 := cntU_bd fd0 fs0
  have fy0 : (cntV (cpvV (lo0, (up0, us0)) z1) : Int) ≤ 1099511627776000 := by unfold cntV; push_cast; omega
  generalize cpvV (lo0, (up0, us0)) z1 = Z0 at *
  obtain ⟨P0, Q0, R0⟩ := Z0
  dsimp only at *
  generalize cpvOk (lo0, (up0, us0)) z1 = k1r at *
  have hbb1 : (k1r != k1r) = false := by simp
  go_enter Tryz.func4, Tryz.ntmps4
  go_wp2_with fail
  refine absI (fun W => Below wz.heap.size wz W ∧ Blk W wz.heap.size 25 #[.slice LA0 lo0.length Lc0, .slice UA0 up0.length Uc0, .slice TA0 us0.length Tc0]) ⟨(bal (Below.refl _ _) _), (Blk.newAt rfl)⟩ ?_
  rintro w0 ⟨hBz, kP0⟩
  have h10 := h10.below hBz
  have h20 := h20.below hBz
  have h30 := h30.below updR hBz
  have hx1 := hx1.below hBz
  refine (szView_yes LA0 UA0 TA0 Lc0 Uc0 Tc0 lo0 up0 us0 _ _ h30 m10 m20 m30 (by omega) (by omega) (by omega)).mono ?_
  rintro e w1 ⟨rfl, b1⟩
  have B1 := b1
  go_wp2_with fail
  refine (szTimeS_yes _ _ _ _ _ (by omega) (by omega) hm1 (by omega)).mono ?_
  rintro e wsame ⟨rfl, rfl⟩
  have pcP00 := (kP0.below b1).cell 0
  have pcP01 := (kP0.below b1).cell 1
  have pcP02 := (kP0.below b1).cell 2
  simp at pcP00 pcP01 pcP02
  go_wp2_with fail
  refine (toView_any LA0 UA0 TA0 Lc0 Uc0 Tc0 lo0 up0 us0 _ (h10.below b1) (h20.below b1) (h30.below updR b1) n10 n20 nt0 r30).mono ?_
  rintro e w2 ⟨Ls0, Us0, Ts0, rfl, os0, b2⟩
  have B2 := btr B1 b2
  clear pcP00 pcP01 pcP02
  obtain ⟨x1s0, x2s0, x3s0⟩ := batO_rd os0
  go_wp2_with fail
  refine (toTimeS_any _ _ z1 _ (hx1.below (btr b1 b2)) n1).mono ?_
  rintro e w3 ⟨rfl, ks1, b3⟩
  have B3 := btr B2 b3
  have xs1 := TimesAt.ofBlk ks1
  have os1 := TmOwS.ofBlk ks1 (by unfold maxLen; omega)
  go_wp2_with fail
  refine (conW _ _ _ _ _ _ _ _ _ (x1s0.below b3) (x2s0.below b3) (x3s0.below updR b3) xs1).mono ?_
  rintro e w4 ⟨LW0, d1W0, UW0, d2W0, TW0, d3W0, rfl, y1W0, y2W0, y3W0, b4⟩
  have B4 := btr B3 b4
  have pcP00 := (kP0.below (btr (btr (btr b1 b2) b3) b4)).cell 0
  have pcP01 := (kP0.below (btr (btr (btr b1 b2) b3) b4)).cell 1
  have pcP02 := (kP0.below (btr (btr (btr b1 b2) b3) b4)).cell 2
  simp at pcP00 pcP01 pcP02
  have plP0 := (kP0.below (btr (btr (btr b1 b2) b3) b4)).lt
  go_wp2_with fail
  refine absI (fun W => Below w4.heap.size w4 W ∧ Blk W w4.heap.size 32 #[.slice LW0 P0.length d1W0, .slice UW0 Q0.length d2W0, .slice TW0 R0.length d3W0]) ⟨(bal (Below.refl _ _) _), (Blk.newAt rfl)⟩ ?_
  rintro w5 ⟨b5, kW0⟩
  have B5 := btr B4 b5
  obtain ⟨bW0, hbW0⟩ : ∃ bW0, bW0 = w4.heap.size := ⟨_, rfl⟩
  rw [← hbW0] at kW0 ⊢
  have HbW0 := Lib.hid hbW0
  clear hbW0
  refine (toView_any LA0 UA0 TA0 Lc0 Uc0 Tc0 lo0 up0 us0 _ (h10.below (btr (btr (btr (btr b1 b2) b3) b4) b5)) (h20.below (btr (btr (btr (btr b1 b2) b3) b4) b5)) (h30.below updR (btr (btr (btr (btr b1 b2) b3) b4) b5)) n10 n20 nt0 r30).mono ?_
  rintro e w6 ⟨Li0, Ui0, Ti0, rfl, oi0, b6⟩
  have B6 := btr B5 b6
  clear pcP00 pcP01 pcP02 plP0
  obtain ⟨x1i0, x2i0, x3i0⟩ := batO_rd oi0
  go_wp2_with fail
  refine absI (fun W => Below w6.heap.size w6 W ∧ Blk W w6.heap.size 32 #[.slice Li0 lo0.length lo0.length, .slice Ui0 up0.length up0.length, .slice Ti0 us0.length us0.length]) ⟨(bal (Below.refl _ _) _), (Blk.newAt rfl)⟩ ?_
  rintro w7 ⟨b7, kX0⟩
  have B7 := btr B6 b7
  obtain ⟨bX0, hbX0⟩ : ∃ bX0, bX0 = w6.heap.size := ⟨_, rfl⟩
  rw [← hbX0] at kX0 ⊢
  have HbX0 := Lib.hid hbX0
  clear hbX0
  refine (toTimeS_any _ _ z1 _ (hx1.below (btr (btr (btr (btr (btr (btr b1 b2) b3) b4) b5) b6) b7)) n1).mono ?_
  rintro e w8 ⟨rfl, ki1, b8⟩
  have B8 := btr B7 b8
  have xi1 := TimesAt.ofBlk ki1
  have oi1 := TmOwS.ofBlk ki1 (by unfold maxLen; omega)
  have pcX00 := (kX0.below b8).cell 0
  have pcX01 := (kX0.below b8).cell 1
  have pcX02 := (kX0.below b8).cell 2
  simp at pcX00 pcX01 pcX02
  go_wp2_with fail
  refine (conG _ _ _ _ _ _ _ _ _ (x1i0.below (btr b7 b8)) (x2i0.below (btr b7 b8)) (x3i0.below updR (btr b7 b8)) xi1 (Nat.le_refl _)).mono ?_
  rintro e w9 ⟨LG0, d1G0, UG0, d2G0, TG0, d3G0, rfl, oG0, b9⟩
  have B9 := btr B8 b9
  clear pcX00 pcX01 pcX02
  have pcW00 := (kW0.below (btr (btr (btr b6 b7) b8) b9)).cell 0
  have pcW01 := (kW0.below (btr (btr (btr b6 b7) b8) b9)).cell 1
  have pcW02 := (kW0.below (btr (btr (btr b6 b7) b8) b9)).cell 2
  simp at pcW00 pcW01 pcW02
  have plW0 := (kW0.below (btr (btr (btr b6 b7) b8) b9)).lt
  go_wp2_with fail
  refine absI (fun W => Below w9.heap.size w9 W ∧ Blk W w9.heap.size 32 #[.slice LG0 P0.length d1G0, .slice UG0 Q0.length d2G0, .slice TG0 R0.length d3G0]) ⟨(bal (Below.refl _ _) _), (Blk.newAt rfl)⟩ ?_
  rintro w10 ⟨b10, kG0⟩
  have B10 := btr B9 b10
  obtain ⟨bG0, hbG0⟩ : ∃ bG0, bG0 = w9.heap.size := ⟨_, rfl⟩
  rw [← hbG0] at kG0 ⊢
  have HbG0 := Lib.hid hbG0
  clear hbG0
  obtain ⟨v1a, v1b, v1c⟩ := batO_rd (batO.below oG0 b10)
  refine (eqView_yes _ _ _ _ _ _ _ _ _ _ _ _ P0 Q0 R0 _ v1a v1b v1c (y1W0.below (btr (btr (btr (btr (btr b5 b6) b7) b8) b9) b10)) (y2W0.below (btr (btr (btr (btr (btr b5 b6) b7) b8) b9) b10)) (y3W0.below updR (btr (btr (btr (btr (btr b5 b6) b7) b8) b9) b10)) fa0 fb0 fd0 fs0).mono ?_
  rintro e w11 ⟨rfl, b11⟩
  have B11 := btr B10 b11
  clear pcW00 pcW01 pcW02 plW0
  go_wp2_with fail
  refine wp_region_facts [[], [], [1], [0, 1, 2]]
    [fun v' _ => v' = .agg #[.slice Li0 lo0.length lo0.length, .slice Ui0 up0.length up0.length, .slice Ti0 us0.length us0.length], fun v' _ => v' = .agg #[.slice LA0 lo0.length Lc0, .slice UA0 up0.length Uc0, .slice TA0 us0.length Tc0], BatAt lo0 up0 us0, fun v' _ => v' = .bool true]
    (by kernel_rfl) (by kernel_rfl) rfl ⟨stable_pure _, stable_pure _, stable_batAt _ _ _, stable_pure _, trivial⟩ ?_
  refine wf_stepK [] [] (by kernel_rfl) (by kernel_rfl) (fun wf hb hf => ?_) (fun t0 => ?_)
  · refine ⟨?_⟩
    have p0 := ((kX0.below (btr (btr (btr b8 b9) b10) b11)).below hb).cell 0
    have p1 := ((kX0.below (btr (btr (btr b8 b9) b10) b11)).below hb).cell 1
    have p2 := ((kX0.below (btr (btr (btr b8 b9) b10) b11)).below hb).cell 2
    simp at p0 p1 p2
    go_wp2
    exact ⟨rfl, .agg #[.slice Li0 lo0.length lo0.length, .slice Ui0 up0.length up0.length, .slice Ti0 us0.length us0.length], by kernel_rfl, Below.refl _ _, rfl⟩
  refine wf_stepK [] [] (by kernel_rfl) (by kernel_rfl) (fun wf hb hf => ?_) (fun t1 => ?_)
  · refine ⟨?_⟩
    have p0 := ((kP0.below (btr (btr (btr (btr (btr (btr (btr (btr (btr (btr b1 b2) b3) b4) b5) b6) b7) b8) b9) b10) b11)).below hb).cell 0
    have p1 := ((kP0.below (btr (btr (btr (btr (btr (btr (btr (btr (btr (btr b1 b2) b3) b4) b5) b6) b7) b8) b9) b10) b11)).below hb).cell 1
    have p2 := ((kP0.below (btr (btr (btr (btr (btr (btr (btr (btr (btr (btr b1 b2) b3) b4) b5) b6) b7) b8) b9) b10) b11)).below hb).cell 2
    simp at p0 p1 p2
    go_wp2
    exact ⟨rfl, .agg #[.slice LA0 lo0.length Lc0, .slice UA0 up0.length Uc0, .slice TA0 us0.length Tc0], by kernel_rfl, Below.refl _ _, rfl⟩
  refine wf_stepK [1] [fun _ => t1 = .agg #[.slice LA0 lo0.length Lc0, .slice UA0 up0.length Uc0, .slice TA0 us0.length Tc0]] (by kernel_rfl) (by kernel_rfl) (fun wf hb hf => ?_) (fun t2 => ?_)
  · obtain ⟨rfl, -⟩ := hf
    refine ⟨?_⟩
    go_wp2_with (go_at_call 10; refine (toView_any LA0 UA0 TA0 Lc0 Uc0 Tc0 lo0 up0 us0 _ ((h10.below (btr (btr (btr (btr (btr (btr (btr (btr (btr (btr b1 b2) b3) b4) b5) b6) b7) b8) b9) b10) b11)).below hb) ((h20.below (btr (btr (btr (btr (btr (btr (btr (btr (btr (btr b1 b2) b3) b4) b5) b6) b7) b8) b9) b10) b11)).below hb) ((h30.below updR (btr (btr (btr (btr (btr (btr (btr (btr (btr (btr b1 b2) b3) b4) b5) b6) b7) b8) b9) b10) b11)).below updR hb) n10 n20 nt0 r30).mono ?_; rintro e w2 ⟨L3, U3, T3, rfl, o3, hb2⟩)
    exact ⟨rfl, _, by kernel_rfl, hb2, batAt_of o3⟩
  refine wf_stepK [0, 2] [fun _ => t0 = .agg #[.slice Li0 lo0.length lo0.length, .slice Ui0 up0.length up0.length, .slice Ti0 us0.length us0.length], BatAt lo0 up0 us0 t2] (by kernel_rfl) (by kernel_rfl) (fun wf hb hf => ?_) (fun t3 => ?_)
  · obtain ⟨rfl, ⟨L3, l3, U3, u3, T3, t3, rfl, g1, g2, g3⟩, -⟩ := hf
    refine ⟨?_⟩
    go_wp2_with (go_at_call 14; refine (eqView_yes Li0 Ui0 Ti0 L3 U3 T3 _ _ _ _ _ _ lo0 up0 us0 _ ((x1i0.below (btr (btr (btr (btr b7 b8) b9) b10) b11)).below hb) ((x2i0.below (btr (btr (btr (btr b7 b8) b9) b10) b11)).below hb) ((x3i0.below updR (btr (btr (btr (btr b7 b8) b9) b10) b11)).below updR hb) g1 g2 g3 n10 n20 (by omega) r30).mono ?_; rintro e w2 ⟨rfl, hb2⟩)
    exact ⟨rfl, .bool true, by kernel_rfl, hb2, rfl⟩
  refine wf_doneK [3] [fun _ => t3 = .bool true] (by kernel_rfl) (by kernel_rfl) (fun w12 b12 hf => ?_)
  obtain ⟨rfl, -⟩ := hf
  show wpList _ _ _ [_] _ _
  refine wpList_frame (by simp [Act.put]; rfl) ?_
  have B12 := btr B11 b12
  go_wp2_with fail
  refine (toTimeS_any _ _ z1 _ (hx1.below (btr (btr (btr (btr (btr (btr (btr (btr (btr (btr (btr b1 b2) b3) b4) b5) b6) b7) b8) b9) b10) b11) b12)) n1).mono ?_
  rintro e w13 ⟨rfl, kc1, b13⟩
  have B13 := btr B12 b13
  have xc1 := TimesAt.ofBlk kc1
  have oc1 := TmOwS.ofBlk kc1 (by unfold maxLen; omega)
  have t1 : decide (z1 = z1) = true := by simp
  go_wp2_with fail
  refine (eqTimeS_any _ _ _ _ z1 z1 _ (xi1.below (btr (btr (btr (btr b9 b10) b11) b12) b13)) xc1 n1 n1).mono ?_
  rintro e w14 ⟨rfl, b14⟩
  have B14 := btr B13 b14
  have pcX00 := (kX0.below (btr (btr (btr (btr (btr (btr b8 b9) b10) b11) b12) b13) b14)).cell 0
  have pcX01 := (kX0.below (btr (btr (btr (btr (btr (btr b8 b9) b10) b11) b12) b13) b14)).cell 1
  have pcX02 := (kX0.below (btr (btr (btr (btr (btr (btr b8 b9) b10) b11) b12) b13) b14)).cell 2
  simp at pcX00 pcX01 pcX02
  go_wp2_with fail
  refine (markView_any _ _ _ _ _ _ _ lo0 up0 us0 _ _ (batO.below oi0 (btr (btr (btr (btr (btr (btr (btr b7 b8) b9) b10) b11) b12) b13) b14)) n10 n20 (by omega) r30 (by omega) (by omega)).mono ?_
  rintro e w15 ⟨rfl, mk0, g15⟩
  have D0_15 : Below w0.heap.size w0 w15 := g15.below (btr (btr (btr (btr (btr (btr (btr (btr (btr (btr (btr (btr (btr b1 b2) b3) b4) b5) b6) b7) b8) b9) b10) b11) b12) b13) b14) (fun q hq => Nat.le_trans ((btr (btr (btr (btr b1 b2) b3) b4) b5)).size hq.1)
  have D4_15 : Below w4.heap.size w4 w15 := g15.below (btr (btr (btr (btr (btr (btr (btr (btr (btr b5 b6) b7) b8) b9) b10) b11) b12) b13) b14) (fun q hq => Nat.le_trans (b5).size hq.1)
  have D5_15 : Below w5.heap.size w5 w15 := g15.below (btr (btr (btr (btr (btr (btr (btr (btr b6 b7) b8) b9) b10) b11) b12) b13) b14) (fun q hq => Nat.le_trans (Nat.le_refl w5.heap.size) hq.1)
  have oi1_15 := (oi1.below (btr (btr (btr (btr (btr b9 b10) b11) b12) b13) b14)).kept g15 (fun q hq hr => by have h3 := (b7).size; have h1 := hq.1; have h2 := hr.2; omega)
  have oG0_15 := batO.kept (batO.below oG0 (btr (btr (btr (btr b10 b11) b12) b13) b14)) g15 (fun q hq hr => by have h3 := ((btr b7 b8)).size; have h1 := hq.1; have h2 := hr.2; omega)
  have kG0_15 : Blk w15 bG0 32 #[.slice LG0 P0.length d1G0, .slice UG0 Q0.length d2G0, .slice TG0 R0.length d3G0] := (g15.block _ (Blk.lt (kG0.below (btr (btr (btr b11 b12) b13) b14))) (fun hq => by have h3 := ((btr (btr b7 b8) b9)).size; have h1 := hq.2; have h4 := HbG0.out; omega)).trans (kG0.below (btr (btr (btr b11 b12) b13) b14))
  have B15 := D0_15
  clear pcX00 pcX01 pcX02
  go_wp2_with fail
  refine (markTimeS_any _ _ _ z1 _ _ oi1_15 n1 (by omega) (by omega)).mono ?_
  rintro e w16 ⟨rfl, mk1, g16⟩
  have D0_16 : Below w0.heap.size w0 w16 := g16.below D0_15 (fun q hq => Nat.le_trans ((btr (btr (btr (btr (btr (btr b1 b2) b3) b4) b5) b6) b7)).size hq.1)
  have D4_16 : Below w4.heap.size w4 w16 := g16.below D4_15 (fun q hq => Nat.le_trans ((btr (btr b5 b6) b7)).size hq.1)
  have D5_16 : Below w5.heap.size w5 w16 := g16.below D5_15 (fun q hq => Nat.le_trans ((btr b6 b7)).size hq.1)
  have oG0_16 := batO.kept oG0_15 g16 (fun q hq hr => by have h3 := (Nat.le_refl w8.heap.size); have h1 := hq.1; have h2 := hr.2; omega)
  have kG0_16 : Blk w16 bG0 32 #[.slice LG0 P0.length d1G0, .slice UG0 Q0.length d2G0, .slice TG0 R0.length d3G0] := (g16.block _ (Blk.lt kG0_15) (fun hq => by have h3 := (b9).size; have h1 := hq.2; have h4 := HbG0.out; omega)).trans kG0_15
  have B16 := D0_16
  have pcG00 := kG0_16.cell 0
  have pcG01 := kG0_16.cell 1
  have pcG02 := kG0_16.cell 2
  simp at pcG00 pcG01 pcG02
  have pcW00 := (kW0.below D5_16).cell 0
  have pcW01 := (kW0.below D5_16).cell 1
  have pcW02 := (kW0.below D5_16).cell 2
  simp at pcW00 pcW01 pcW02
  go_wp2_with fail
  obtain ⟨v2a, v2b, v2c⟩ := batO_rd oG0_16
  refine (eqView_yes _ _ _ _ _ _ _ _ _ _ _ _ P0 Q0 R0 _ v2a v2b v2c (y1W0.below D4_16) (y2W0.below D4_16) (y3W0.below updR D4_16) fa0 fb0 fd0 fs0).mono ?_
  rintro e w17 ⟨rfl, b17⟩
  have B17 := btr B16 b17
  clear pcG00 pcG01 pcG02 pcW00 pcW01 pcW02
  have pcG00 := (kG0_16.below b17).cell 0
  have pcG01 := (kG0_16.below b17).cell 1
  have pcG02 := (kG0_16.below b17).cell 2
  simp at pcG00 pcG01 pcG02
  go_wp2_with fail
  refine (markView_any _ _ _ _ _ _ _ P0 Q0 R0 1 _ (batO.below oG0_16 b17) fa0 fb0 fd0 fs0 (by omega) (by omega)).mono ?_
  rintro e w18 ⟨rfl, kM0, g18⟩
  have D0_18 : Below w0.heap.size w0 w18 := g18.below (btr D0_16 b17) (fun q hq => Nat.le_trans ((btr (btr (btr (btr (btr (btr (btr b1 b2) b3) b4) b5) b6) b7) b8)).size hq.1)
  have D4_18 : Below w4.heap.size w4 w18 := g18.below (btr D4_16 b17) (fun q hq => Nat.le_trans ((btr (btr (btr b5 b6) b7) b8)).size hq.1)
  have D5_18 : Below w5.heap.size w5 w18 := g18.below (btr D5_16 b17) (fun q hq => Nat.le_trans ((btr (btr b6 b7) b8)).size hq.1)
  have kG0_18 : Blk w18 bG0 32 #[.slice LG0 P0.length d1G0, .slice UG0 Q0.length d2G0, .slice TG0 R0.length d3G0] := (g18.block _ (Blk.lt (kG0_16.below b17)) (fun hq => by have h3 := (Nat.le_refl w9.heap.size); have h1 := hq.2; have h4 := HbG0.out; omega)).trans (kG0_16.below b17)
  have B18 := D0_18
  clear pcG00 pcG01 pcG02
  have pcG00 := kG0_18.cell 0
  have pcG01 := kG0_18.cell 1
  have pcG02 := kG0_18.cell 2
  simp at pcG00 pcG01 pcG02
  go_wp2_with fail
  refine (heldView_any _ _ _ _ _ _ _ P0 Q0 R0 1 _ kM0 fa0 fb0 fd0 fs0 (by omega) (by omega)).mono ?_
  rintro e w19 ⟨rfl, b19⟩
  have B19 := btr B18 b19
  clear pcG00 pcG01 pcG02
  have pcP00 := (kP0.below (btr D0_18 b19)).cell 0
  have pcP01 := (kP0.below (btr D0_18 b19)).cell 1
  have pcP02 := (kP0.below (btr D0_18 b19)).cell 2
  simp at pcP00 pcP01 pcP02
  go_wp2_with fail
  refine (toView_any LA0 UA0 TA0 Lc0 Uc0 Tc0 lo0 up0 us0 _ (h10.below (btr D0_18 b19)) (h20.below (btr D0_18 b19)) (h30.below updR (btr D0_18 b19)) n10 n20 nt0 r30).mono ?_
  rintro e w20 ⟨Lc0, Uc0, Tc0, rfl, oc0, b20⟩
  have B20 := btr B19 b20
  clear pcP00 pcP01 pcP02
  obtain ⟨x1c0, x2c0, x3c0⟩ := batO_rd oc0
  go_wp2_with fail
  refine (toTimeS_any _ _ z1 _ (hx1.below (btr (btr D0_18 b19) b20)) n1).mono ?_
  rintro e w21 ⟨rfl, kh1, b21⟩
  have B21 := btr B20 b21
  have xh1 := TimesAt.ofBlk kh1
  have oh1 := TmOwS.ofBlk kh1 (by unfold maxLen; omega)
  go_wp2_with fail
  refine (conG _ _ _ _ _ _ _ _ _ (x1c0.below b21) (x2c0.below b21) (x3c0.below updR b21) xh1 (Nat.le_refl _)).mono ?_
  rintro e w22 ⟨LH0, d1H0, UH0, d2H0, TH0, d3H0, rfl, oH0, b22⟩
  have B22 := btr B21 b22
  have pcW00 := (kW0.below (btr (btr (btr (btr D5_18 b19) b20) b21) b22)).cell 0
  have pcW01 := (kW0.below (btr (btr (btr (btr D5_18 b19) b20) b21) b22)).cell 1
  have pcW02 := (kW0.below (btr (btr (btr (btr D5_18 b19) b20) b21) b22)).cell 2
  simp at pcW00 pcW01 pcW02
  have plW0 := (kW0.below (btr (btr (btr (btr D5_18 b19) b20) b21) b22)).lt
  go_wp2_with fail
  refine absI (fun W => Below w22.heap.size w22 W ∧ Blk W w22.heap.size 32 #[.slice LH0 P0.length d1H0, .slice UH0 Q0.length d2H0, .slice TH0 R0.length d3H0]) ⟨(bal (Below.refl _ _) _), (Blk.newAt rfl)⟩ ?_
  rintro w23 ⟨b23, kH0⟩
  have B23 := btr B22 b23
  obtain ⟨bH0, hbH0⟩ : ∃ bH0, bH0 = w22.heap.size := ⟨_, rfl⟩
  rw [← hbH0] at kH0 ⊢
  have HbH0 := Lib.hid hbH0
  clear hbH0
  obtain ⟨v3a, v3b, v3c⟩ := batO_rd (batO.below oH0 b23)
  refine (eqView_yes _ _ _ _ _ _ _ _ _ _ _ _ P0 Q0 R0 _ v3a v3b v3c (y1W0.below (btr (btr (btr (btr (btr D4_18 b19) b20) b21) b22) b23)) (y2W0.below (btr (btr (btr (btr (btr D4_18 b19) b20) b21) b22) b23)) (y3W0.below updR (btr (btr (btr (btr (btr D4_18 b19) b20) b21) b22) b23)) fa0 fb0 fd0 fs0).mono ?_
  rintro e w24 ⟨rfl, b24⟩
  have B24 := btr B23 b24
  clear pcW00 pcW01 pcW02 plW0
  have pcG00 := (kG0_18.below (btr (btr (btr (btr (btr b19 b20) b21) b22) b23) b24)).cell 0
  have pcG01 := (kG0_18.below (btr (btr (btr (btr (btr b19 b20) b21) b22) b23) b24)).cell 1
  have pcG02 := (kG0_18.below (btr (btr (btr (btr (btr b19 b20) b21) b22) b23) b24)).cell 2
  simp at pcG00 pcG01 pcG02
  go_wp2_with fail
  refine (heldView_any _ _ _ _ _ _ _ P0 Q0 R0 1 _ (batO.below kM0 (btr (btr (btr (btr (btr b19 b20) b21) b22) b23) b24)) fa0 fb0 fd0 fs0 (by omega) (by omega)).mono ?_
  rintro e w25 ⟨rfl, b25⟩
  have B25 := btr B24 b25
  clear pcG00 pcG01 pcG02
  go_wp2_with fail
  go_ret
  exact ⟨rfl, btr hBz (B25)⟩

namespace lawFnExactCompactView
theorem own : ownKnob Tryz.prog.godebug = none := by kernel_rfl
theorem laidOut : laidOutB Tryz.prog = true := clo_laid
set_option maxRecDepth 100000 in
theorem lifted (os : Os) (started : os.Started) (H : Type) (enc : TypeId × Value → H) :
    ReturnsInHanded {} Tryz.checked os 4 .any (Rows.fnExactCompactViewSpec.pre6 enc Tryz.prog Tryz.f4 Rows.fnExactCompactViewRow.domain false) (Rows.fnExactCompactViewSpec.post enc Tryz.prog Tryz.f4 false true false false) := by
  refine returnsInHanded_of_change (C := Tryz.checked) own started (by kernel_rfl) Tryz.func4
    (ChangeSpec.witness6 (enc := enc) (C := Tryz.checked) false ⟨#[], #[.agg #[.slice none 0 0, .slice none 0 0, .slice none 0 0], .slice none 0 0], []⟩ 8 (by kernel_rfl) (by kernel_rfl) (by kernel_rfl) (by kernel_rfl)) ?_
  intro W base args ds gs before hval0 hW hcnd _
  have hval : ∀ (j : Nat) t v, Tryz.f4.params[j]? = some t → args[j]? = some v → Value.okWide Tryz.prog W .any base t v := hval0
  have hW' := hW
  obtain ⟨p, q, hA0, hV, rfl, hfz, hnd⟩ := hW
  have hA : DataW.TrodAll enc Tryz.prog W 0 (fun _ => true) true Tryz.f4.params.toList args.toList ds p := hA0
  rw [Tryz.params4] at hA hval
  obtain ⟨v0, vs0, d0, ds0, p0, q0, hargs, rfl, rfl, h0, r0⟩ := trodAll_cons hA
  obtain ⟨v1, vs1, d1, ds1, p1, q1, rfl, rfl, rfl, h1, r1⟩ := trodAll_cons r0
  obtain ⟨rfl, rfl, rfl⟩ := trodAll_nil r1
  obtain rfl : args = #[v0, v1] := by cases args; simp_all
  obtain ⟨rfl, rfl⟩ := trodVars_none hV
  have k0 := h0
  have lt0 : ∀ x ∈ p0, x.block < W.heap.size := by obtain ⟨m, hm⟩ := k0; exact DataW.trod_lt m _ _ _ hm
  obtain ⟨c00, c01, c02, y00, y01, y02, m0, rfl, rfl, rfl, hy00, hy01, hy02⟩ := Go.Joins.open_agg3 Tryz.underlying25 (by kernel_rfl) (by kernel_rfl) (hval 0 25 v0 rfl rfl) h0
  obtain ⟨z00, a00, cap00, e00, l00, w00⟩ := (opens_tms (enc := enc) (W := W)).2 _ _ _ rfl hy00
  simp only [List.cons.injEq, and_true] at e00
  subst e00
  obtain ⟨z01, a01, cap01, e01, l01, w01⟩ := (opens_tms (enc := enc) (W := W)).2 _ _ _ rfl hy01
  simp only [List.cons.injEq, and_true] at e01
  subst e01
  obtain ⟨z02, a02, cap02, e02, l02, w02⟩ := (opens_ups (enc := enc) (W := W)).2 _ _ _ rfl hy02
  simp only [List.cons.injEq, and_true] at e02
  subst e02
  have k1 := h1
  have lt1 : ∀ x ∈ p1, x.block < W.heap.size := by obtain ⟨m, hm⟩ := k1; exact DataW.trod_lt m _ _ _ hm
  obtain ⟨a1, len1, cap1, rfl⟩ := okWide_slice Tryz.underlying22 (hval 1 22 v1 rfl rfl)
  obtain ⟨z1, rfl, l1, w1⟩ := times_of Tryz.underlying22 Tryz.underlying54 (by kernel_rfl) rfl rfl (by kernel_rfl) (by kernel_rfl) Tryz.underlying3 Tryz.underlying3 h1
  clear hA0 hval0
  refine (FnExactCompactView_walk a00 cap00 z00 a01 cap01 z01 a02 cap02 z02 a1 cap1 z1 W l00 w00 l01 w01 l02 w02 l1 w1).mono fun e W' ⟨he, bel⟩ => ?_
  subst he
  exact ⟨_, rfl, _, _, _, [], _, [], hW', trodAll_mk1 (shut_bool Tryz.underlying4 _), (trodAll_cons_mk (Below.trod laidOut (by kernel_rfl) (of_decide_eq_true (by kernel_rfl)) k0 bel lt0) (trodAll_cons_mk (Below.trod laidOut (by kernel_rfl) (of_decide_eq_true (by kernel_rfl)) k1 bel lt1) trodAll_mk0)), rfl, bel.frame _, fun h => by cases h⟩
theorem andTT {a b : Bool} (h1 : a = true) (h2 : b = true) : (a && b) = true := by rw [h1, h2]; rfl
set_option maxHeartbeats 8000000 in
theorem closed : joinedFacts Tryz.prog 4 Tryz.f4 Rows.fnExactCompactViewSpec Rows.fnExactCompactViewRow = true := by
  unfold joinedFacts
  repeat' (with_reducible refine andTT ?_ ?_)
  all_goals (first | (with_reducible exact clo_laid) | (with_reducible exact clo_maps) | (with_reducible exact clo_heard) | (with_reducible exact clo_enter) | ((with_reducible refine clo_plain _ ?_); rfl) | ((with_reducible refine clo_lifts _ ?_); rfl) | (as_aux_lemma => kernel_rfl))

theorem over : Rows.fnExactCompactViewRow.holds Tryz.pinned (OpenSpec.ofChange Rows.fnExactCompactViewSpec) :=
  OpenClaim.holds_of_wide 4 Tryz.f4 rfl rfl rfl rfl rfl rfl rfl ⟨rfl, rfl, rfl, rfl, rfl⟩ rfl rfl rfl rfl rfl (by kernel_rfl) Tryz.func4 closed
    (of_decide_eq_true (by kernel_rfl)) (by unfold Func.isWrapper; first | (rw [if_pos (by decide +kernel)]; kernel_rfl) | (rw [if_neg (by decide +kernel)]; exact ⟨rfl, rfl⟩))
    (fun os started H enc _ => lifted os started H enc)

/-- THE STATEMENT. -/
theorem proved : Rows.FnExactCompactViewSaid := over
end lawFnExactCompactView
end Go.Proofs.YtnfffgpjgkhjlaaGreat
