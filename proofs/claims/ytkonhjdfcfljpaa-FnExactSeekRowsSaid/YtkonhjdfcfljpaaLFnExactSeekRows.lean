/- The law FnExactSeekRows returns true at every argument; no condition. -/
import Derived.Test.YtkonhjdfcfljpaaSek
import Derived.Test.YtkonhjdfcfljpaaBatL
import Derived.Test.YtkonhjdfcfljpaaEntL
import Derived.Test.YtkonhjdfcfljpaaClo
import Derived.Carry
import Derived.ChangeOld
import Derived.Lib.SmallJoins
namespace Go.Proofs.Ytkonhjdfcfljpaa
open Go.ChangeShapes Go.WideShapes Go.ChangeAt Go.RowKit Go.Sort
set_option linter.unusedVariables false
set_option linter.unusedSimpArgs false

theorem batO_rdC {w : World} {S : Fp} {LA UA TA : Option Addr} {lc uc tc : Nat} {lo up : List Tm} {us : List Upd} (h : BatO w S [.slice LA lo.length lc, .slice UA up.length uc, .slice TA us.length tc] (lo, (up, us))) : UpdsC w TA us := by
  obtain ⟨LA', lc', UA', uc', TA', tc', S1, S2, S3, e, t1, t2, t3, i1, i2, i3⟩ := h.form
  simp only [List.cons.injEq, Value.slice.injEq, and_true, true_and] at e
  obtain ⟨⟨rfl, rfl⟩, ⟨rfl, rfl⟩, ⟨rfl, rfl⟩⟩ := e
  exact UpdsOw.atC t3
set_option maxRecDepth 100000 in
set_option maxHeartbeats 12800000 in
theorem FnExactSeekRows_walk (LA : Option Addr) (lc : Nat) (lo : List Tm) (UA : Option Addr) (uc : Nat) (up : List Tm) (TA : Option Addr) (tc : Nat) (us : List Upd) (KA : Option Addr) (kc : Nat) (key : List Int) (wz : World) (m1 : lo.length ≤ maxLen) (h1 : TimesAt wz LA lo) (m2 : up.length ≤ maxLen) (h2 : TimesAt wz UA up) (m3 : us.length ≤ maxLen) (h3 : UpdsAt wz TA us) (hK : IntsAt wz KA key) :
    Calls Try.prog 3 #[.agg #[.slice LA lo.length lc, .slice UA up.length uc, .slice TA us.length tc], .slice KA key.length kc] wz fun e w' => e = .returned (.bool true) ∧ Below wz.heap.size wz w' := by
  have hB0 : Below wz.heap.size wz (wz.alloc (.cells #[.slice LA lo.length lc, .slice UA up.length uc, .slice TA us.length tc] 25)) := bal (Below.refl _ _) _
  by_cases hkl : (1048576 : Int) < key.length
  · go_enter Try.func3, Try.ntmps3
    go_wp2
    go_ret
    exact ⟨rfl, by repeat (first | exact Below.refl _ _ | refine bal ?_ _)⟩
  have n4 : key.length ≤ 4194304 := by omega
  by_cases hsz : 1048576 < batSz (lo, (up, us))
  · have hcon := fun W (h : UpdsAt W TA us) => szBatch_no LA UA TA lc uc tc lo up us 1048576 W h m1 m2 m3 (by omega) (by omega) hsz
    go_enter Try.func3, Try.ntmps3
    go_wp2_with fail
    refine (hcon _ (h3.below updR hB0)).mono ?_
    rintro e w1 ⟨rfl, b1⟩
    have HB := Lib.hid (btr hB0 b1)
    clear hcon hB0 b1
    go_wp2
    go_ret
    exact ⟨rfl, HB.out⟩
  have hsz' : batSz (lo, (up, us)) ≤ 1048576 := by omega
  have hu0 := updSz_nn us
  have hls : (lo.length : Int) + up.length + updSz us ≤ 1048576 := hsz'
  have n1 : lo.length ≤ 4194304 := by omega
  have n2 : up.length ≤ 4194304 := by omega
  have hul := updSz_len (es := us) (n := 1048576) (by omega)
  have n3 : us.length ≤ 4194304 := by omega
  have n3' : us.length ≤ 2097152 := by omega
  have r3 : rowsU us 4194304 := updSz_row (by omega)
  have hnn := batSz_nn (lo, (up, us))
  have hneg : ¬ (1048576 - batSz (lo, (up, us)) : Int) < 0 := by omega
  have hcu : (cntL cntU us : Int) ≤ 1099511627776000 := by have := cntU_bd n3 r3; omega
  have fl : (SekF (lo, (up, us)) key).length ≤ 4194304 := by have := SekF_len (lo, (up, us)) key; omega
  have fr : rowsU (SekF (lo, (up, us)) key) 4194304 := fun e he => by have := SekF_row (lo, (up, us)) key e he; omega
  have fc := cntU_bd fl fr
  have conW := fun (A B C D : Option Addr) (a b c d : Nat) (W : World) (g1 : TimesAt W A lo) (g2 : TimesAt W B up) (g3 : UpdsC W C us) (g4 : IntsAt W D key) => SeekRows_s A B C D a b c d lo up us key W g1 g2 g3 g4 n1 n2 n3 r3 n4
  have conG := fun (A B C D : Option Addr) (a b c d : Nat) (W : World) (g1 : TimesAt W A lo) (g2 : TimesAt W B up) (g3 : UpdsC W C us) (g4 : IntsAt W D key) => SeekRows_i A B C D a b c d lo up us key W g1 g2 g3 g4 n1 n2 n3 r3 n4
  have hcon := fun W (h : UpdsAt W TA us) => szBatch_yes LA UA TA lc uc tc lo up us 1048576 W h m1 m2 m3 (by omega) (by omega) hsz'
  have hto := fun W (g1 : TimesAt W LA lo) (g2 : TimesAt W UA up) (g3 : UpdsAt W TA us) => toBatch_any LA UA TA lc uc tc lo up us W g1 g2 g3 n1 n2 n3' r3
  generalize SekF (lo, (up, us)) key = Z at fl fr fc conW conG
  clear hsz hsz' hu0 hls hul hnn
  go_enter Try.func3, Try.ntmps3
  go_wp2_with fail
  refine absI (fun W => Below wz.heap.size wz W ∧ Blk W wz.heap.size 25 #[.slice LA lo.length lc, .slice UA up.length uc, .slice TA us.length tc]) ⟨hB0, Blk.newAt rfl⟩ ?_
  rintro w ⟨hBz, kA⟩
  clear hB0
  replace h1 := h1.below hBz
  replace h2 := h2.below hBz
  replace h3 := h3.below updR hBz
  replace hK := hK.below hBz
  refine (hcon _ h3).mono ?_
  rintro e w1 ⟨rfl, b1⟩
  have B1 := b1
  have pc0 := (kA.below b1).cell 0
  have pc1 := (kA.below b1).cell 1
  have pc2 := (kA.below b1).cell 2
  simp at pc0 pc1 pc2
  go_wp2_with fail
  refine (hto _ (h1.below b1) (h2.below b1) (h3.below updR b1)).mono ?_
  rintro e w2 ⟨Ls, Us, Ts, rfl, os, b2⟩
  have B2 := btr B1 b2
  clear pc0 pc1 pc2
  obtain ⟨x1s, x2s, x3s⟩ := batO_rd os
  have x4s := batO_rdC os
  go_wp2_with fail
  refine (toIntS_any _ _ key _ (hK.below (btr b1 b2)) (by omega)).mono ?_
  rintro e w3 ⟨rfl, ns, b3⟩
  have B3 := btr B2 b3
  have ys := IntsAt.ofBlk ns
  have qs := RowOwS.ofBlk ns (by unfold maxLen; omega)
  go_wp2_with fail
  refine (conW _ _ _ _ _ _ _ _ _ (x1s.below b3) (x2s.below b3) (x4s.below updC b3) ys).mono ?_
  rintro e w4 ⟨AW, cW, rfl, kW, b4⟩
  have B4 := btr B3 b4
  have aW := UpdsOw.at_ kW
  have pc0 := (kA.below (btr (btr (btr b1 b2) b3) b4)).cell 0
  have pc1 := (kA.below (btr (btr (btr b1 b2) b3) b4)).cell 1
  have pc2 := (kA.below (btr (btr (btr b1 b2) b3) b4)).cell 2
  simp at pc0 pc1 pc2
  go_wp2_with fail
  refine (hto _ (h1.below (btr (btr (btr b1 b2) b3) b4)) (h2.below (btr (btr (btr b1 b2) b3) b4)) (h3.below updR (btr (btr (btr b1 b2) b3) b4))).mono ?_
  rintro e w5 ⟨Li, Ui, Ti, rfl, oi, b5⟩
  have B5 := btr B4 b5
  clear pc0 pc1 pc2
  obtain ⟨x1i, x2i, x3i⟩ := batO_rd oi
  have x4i := batO_rdC oi
  go_wp2_with fail
  refine absI (fun W => Below w5.heap.size w5 W ∧ Blk W w5.heap.size 32 #[.slice Li lo.length lo.length, .slice Ui up.length up.length, .slice Ti us.length us.length]) ⟨bal (Below.refl _ _) _, Blk.newAt rfl⟩ ?_
  rintro w6 ⟨b6, kX⟩
  have B6 := btr B5 b6
  obtain ⟨Xb, hXb⟩ : ∃ Xb, Xb = w5.heap.size := ⟨_, rfl⟩
  rw [← hXb] at kX ⊢
  have HXb := Lib.hid hXb
  clear hXb
  refine (toIntS_any _ _ key _ (hK.below (btr (btr (btr (btr (btr b1 b2) b3) b4) b5) b6)) (by omega)).mono ?_
  rintro e w7 ⟨rfl, ni, b7⟩
  have B7 := btr B6 b7
  have yi := IntsAt.ofBlk ni
  have qi := RowOwS.ofBlk ni (by unfold maxLen; omega)
  have pc0 := (kX.below b7).cell 0
  have pc1 := (kX.below b7).cell 1
  have pc2 := (kX.below b7).cell 2
  simp at pc0 pc1 pc2
  go_wp2_with fail
  refine (conG _ _ _ _ _ _ _ _ _ (x1i.below (btr b6 b7)) (x2i.below (btr b6 b7)) (x4i.below updC (btr b6 b7)) yi).mono ?_
  rintro e w8 ⟨AG, cG, rfl, kG, b8⟩
  have B8 := btr B7 b8
  have aG := UpdsOw.at_ kG
  clear pc0 pc1 pc2
  have tZ : decide (Z = Z) = true := by simp
  go_wp2_with fail
  refine (eqUpdateS_any _ _ _ _ Z Z _ aG (aW.below updR (btr (btr (btr b5 b6) b7) b8)) fl fl fr fr).mono ?_
  rintro e w9 ⟨rfl, b9⟩
  have B9 := btr B8 b9
  go_wp2_with fail
  refine wp_region_facts [[], [], [1], [0, 1, 2]]
    [fun v' _ => v' = .agg #[.slice Li lo.length lo.length, .slice Ui up.length up.length, .slice Ti us.length us.length], fun v' _ => v' = .agg #[.slice LA lo.length lc, .slice UA up.length uc, .slice TA us.length tc], BatAt lo up us, fun v' _ => v' = .bool true]
    (by kernel_rfl) (by kernel_rfl) rfl ⟨stable_pure _, stable_pure _, stable_batAt _ _ _, stable_pure _, trivial⟩ ?_
  refine wf_stepK [] [] (by kernel_rfl) (by kernel_rfl) (fun wf hb hf => ?_) (fun t0 => ?_)
  · refine ⟨?_⟩
    have p0 := ((kX.below (btr (btr b7 b8) b9)).below hb).cell 0
    have p1 := ((kX.below (btr (btr b7 b8) b9)).below hb).cell 1
    have p2 := ((kX.below (btr (btr b7 b8) b9)).below hb).cell 2
    simp at p0 p1 p2
    go_wp2
    exact ⟨rfl, .agg #[.slice Li lo.length lo.length, .slice Ui up.length up.length, .slice Ti us.length us.length], by kernel_rfl, Below.refl _ _, rfl⟩
  refine wf_stepK [] [] (by kernel_rfl) (by kernel_rfl) (fun wf hb hf => ?_) (fun t1 => ?_)
  · refine ⟨?_⟩
    have p0 := ((kA.below (btr (btr (btr (btr (btr (btr (btr (btr b1 b2) b3) b4) b5) b6) b7) b8) b9)).below hb).cell 0
    have p1 := ((kA.below (btr (btr (btr (btr (btr (btr (btr (btr b1 b2) b3) b4) b5) b6) b7) b8) b9)).below hb).cell 1
    have p2 := ((kA.below (btr (btr (btr (btr (btr (btr (btr (btr b1 b2) b3) b4) b5) b6) b7) b8) b9)).below hb).cell 2
    simp at p0 p1 p2
    go_wp2
    exact ⟨rfl, .agg #[.slice LA lo.length lc, .slice UA up.length uc, .slice TA us.length tc], by kernel_rfl, Below.refl _ _, rfl⟩
  refine wf_stepK [1] [fun _ => t1 = .agg #[.slice LA lo.length lc, .slice UA up.length uc, .slice TA us.length tc]] (by kernel_rfl) (by kernel_rfl) (fun wf hb hf => ?_) (fun t2 => ?_)
  · obtain ⟨rfl, -⟩ := hf
    refine ⟨?_⟩
    go_wp2_with (go_at_call 16; refine (hto _ ((h1.below (btr (btr (btr (btr (btr (btr (btr (btr b1 b2) b3) b4) b5) b6) b7) b8) b9)).below hb) ((h2.below (btr (btr (btr (btr (btr (btr (btr (btr b1 b2) b3) b4) b5) b6) b7) b8) b9)).below hb) ((h3.below updR (btr (btr (btr (btr (btr (btr (btr (btr b1 b2) b3) b4) b5) b6) b7) b8) b9)).below updR hb)).mono ?_; rintro e w2 ⟨L3, U3, T3, rfl, o3, hb2⟩)
    exact ⟨rfl, _, by kernel_rfl, hb2, batAt_of o3⟩
  refine wf_stepK [0, 2] [fun _ => t0 = .agg #[.slice Li lo.length lo.length, .slice Ui up.length up.length, .slice Ti us.length us.length], BatAt lo up us t2] (by kernel_rfl) (by kernel_rfl) (fun wf hb hf => ?_) (fun t3 => ?_)
  · obtain ⟨rfl, ⟨L3, l3, U3, u3, T3, t3, rfl, g1, g2, g3⟩, -⟩ := hf
    refine ⟨?_⟩
    go_wp2_with (go_at_call 20; refine (eqBatch_yes Li Ui Ti L3 U3 T3 _ _ _ _ _ _ lo up us _ ((x1i.below (btr (btr (btr b6 b7) b8) b9)).below hb) ((x2i.below (btr (btr (btr b6 b7) b8) b9)).below hb) ((x3i.below updR (btr (btr (btr b6 b7) b8) b9)).below updR hb) g1 g2 g3 n1 n2 n3 r3).mono ?_; rintro e w2 ⟨rfl, hb2⟩)
    exact ⟨rfl, .bool true, by kernel_rfl, hb2, rfl⟩
  refine wf_doneK [3] [fun _ => t3 = .bool true] (by kernel_rfl) (by kernel_rfl) (fun w10 b10 hf => ?_)
  obtain ⟨rfl, -⟩ := hf
  show wpList _ _ _ [_] _ _
  refine wpList_frame (by simp [Act.put]; rfl) ?_
  have B10 := btr B9 b10
  go_wp2_with fail
  refine (toIntS_any _ _ key _ (hK.below (btr (btr (btr (btr (btr (btr (btr (btr (btr b1 b2) b3) b4) b5) b6) b7) b8) b9) b10)) (by omega)).mono ?_
  rintro e w11 ⟨rfl, nc, b11⟩
  have B11 := btr B10 b11
  have yc := IntsAt.ofBlk nc
  have qc := RowOwS.ofBlk nc (by unfold maxLen; omega)
  have tK : decide (key = key) = true := by simp
  go_wp2_with fail
  refine (eqIntS_any _ _ _ _ key key _ (yi.below (btr (btr (btr b8 b9) b10) b11)) yc (by omega) (by omega)).mono ?_
  rintro e w12 ⟨rfl, b12⟩
  have B12 := btr B11 b12
  have pc0 := (kX.below (btr (btr (btr (btr (btr b7 b8) b9) b10) b11) b12)).cell 0
  have pc1 := (kX.below (btr (btr (btr (btr (btr b7 b8) b9) b10) b11) b12)).cell 1
  have pc2 := (kX.below (btr (btr (btr (btr (btr b7 b8) b9) b10) b11) b12)).cell 2
  simp at pc0 pc1 pc2
  go_wp2_with fail
  refine (markBatch_any _ _ _ _ _ _ _ lo up us _ _ (oi.below batO (btr (btr (btr (btr (btr (btr b6 b7) b8) b9) b10) b11) b12)) n1 n2 n3 r3 (by omega) (by omega)).mono ?_
  rintro e w13 ⟨⟨km, rfl, hm1, hm2⟩, g13⟩
  have D0_13 : Below w.heap.size w w13 := g13.below (btr (btr (btr (btr (btr (btr (btr (btr (btr (btr (btr b1 b2) b3) b4) b5) b6) b7) b8) b9) b10) b11) b12) (fun q hq => Nat.le_trans ((btr (btr (btr b1 b2) b3) b4)).size hq.1)
  have D4_13 : Below w4.heap.size w4 w13 := g13.below (btr (btr (btr (btr (btr (btr (btr b5 b6) b7) b8) b9) b10) b11) b12) (fun q hq => Nat.le_trans (Nat.le_refl w4.heap.size) hq.1)
  have kG_13 := (kG.below updO (btr (btr (btr b9 b10) b11) b12)).kept updO g13 (fun q hq hr => by have h3 := ((btr b6 b7)).size; have h1 := hq.1; have h2 := hr.2; omega)
  have ni_13 := (qi.below (btr (btr (btr (btr b8 b9) b10) b11) b12)).kept g13 (fun q hq hr => by have h3 := (b6).size; have h1 := hq.1; have h2 := hr.2; omega)
  have B13 := D0_13
  clear pc0 pc1 pc2
  go_wp2_with fail
  refine (markRow2_any _ _ _ key _ _ ni_13 n4 (by omega) (by omega)).mono ?_
  rintro e w14 ⟨rfl, mk2, g14⟩
  have D0_14 : Below w.heap.size w w14 := g14.below D0_13 (fun q hq => Nat.le_trans ((btr (btr (btr (btr (btr b1 b2) b3) b4) b5) b6)).size hq.1)
  have D4_14 : Below w4.heap.size w4 w14 := g14.below D4_13 (fun q hq => Nat.le_trans ((btr b5 b6)).size hq.1)
  have kG_14 := kG_13.kept updO g14 (fun q hq hr => by have h3 := (Nat.le_refl w7.heap.size); have h1 := hq.1; have h2 := hr.2; omega)
  have B14 := D0_14
  have hk0 : ¬ (km + (key.length : Int) : Int) < 0 := by omega
  have hk1 : decide ((km + (key.length : Int) : Int) < 0) = false := decide_eq_false hk0
  have aG2 := UpdsOw.at_ kG_14
  go_wp2_with fail
  refine (eqUpdateS_any _ _ _ _ Z Z _ aG2 (aW.below updR D4_14) fl fl fr fr).mono ?_
  rintro e w15 ⟨rfl, b15⟩
  have B15 := btr B14 b15
  go_wp2_with fail
  refine (markUpdateS_any _ _ _ Z _ _ (kG_14.below updO b15) fl fr (by omega) (by omega)).mono ?_
  rintro e w16 ⟨rfl, kM, g16⟩
  have D0_16 : Below w.heap.size w w16 := g16.below (btr D0_14 b15) (fun q hq => Nat.le_trans ((btr (btr (btr (btr (btr (btr b1 b2) b3) b4) b5) b6) b7)).size hq.1)
  have D4_16 : Below w4.heap.size w4 w16 := g16.below (btr D4_14 b15) (fun q hq => Nat.le_trans ((btr (btr b5 b6) b7)).size hq.1)
  have B16 := D0_16
  go_wp2_with fail
  refine (heldUpdateS_any _ _ Z 1 _ (UpdsOw.at_ kM) fl fr (by omega) (by omega)).mono ?_
  rintro e wsame ⟨rfl, rfl⟩
  have pc0 := (kA.below D0_16).cell 0
  have pc1 := (kA.below D0_16).cell 1
  have pc2 := (kA.below D0_16).cell 2
  simp at pc0 pc1 pc2
  go_wp2_with fail
  refine (hto _ (h1.below D0_16) (h2.below D0_16) (h3.below updR D0_16)).mono ?_
  rintro e w17 ⟨Lh, Uh, Th, rfl, oh, b17⟩
  have B17 := btr B16 b17
  clear pc0 pc1 pc2
  obtain ⟨x1h, x2h, x3h⟩ := batO_rd oh
  have x4h := batO_rdC oh
  go_wp2_with fail
  refine (toIntS_any _ _ key _ (hK.below (btr D0_16 b17)) (by omega)).mono ?_
  rintro e w18 ⟨rfl, nh, b18⟩
  have B18 := btr B17 b18
  have yh := IntsAt.ofBlk nh
  have qh := RowOwS.ofBlk nh (by unfold maxLen; omega)
  go_wp2_with fail
  refine (conG _ _ _ _ _ _ _ _ _ (x1h.below b18) (x2h.below b18) (x4h.below updC b18) yh).mono ?_
  rintro e w19 ⟨AH, cH, rfl, kH, b19⟩
  have B19 := btr B18 b19
  have aH := UpdsOw.at_ kH
  go_wp2_with fail
  refine (eqUpdateS_any _ _ _ _ Z Z _ aH (aW.below updR (btr (btr (btr D4_16 b17) b18) b19)) fl fl fr fr).mono ?_
  rintro e w20 ⟨rfl, b20⟩
  have B20 := btr B19 b20
  go_wp2_with fail
  refine (heldUpdateS_any _ _ Z 1 _ (UpdsOw.at_ (kM.below updO (btr (btr (btr b17 b18) b19) b20))) fl fr (by omega) (by omega)).mono ?_
  rintro e wsame ⟨rfl, rfl⟩
  go_wp2_with fail
  go_ret
  exact ⟨rfl, btr hBz B20⟩

namespace lawFnExactSeekRows
theorem own : ownKnob Try.prog.godebug = none := by kernel_rfl
theorem laidOut : laidOutB Try.prog = true := clo_laid
set_option maxRecDepth 100000 in
theorem lifted (os : Os) (started : os.Started) (H : Type) (enc : TypeId × Value → H) :
    ReturnsInHanded {} Try.checked os 3 .any (Rows.fnExactSeekRowsSpec.pre6 enc Try.prog Try.f3 Rows.fnExactSeekRowsRow.domain false) (Rows.fnExactSeekRowsSpec.post enc Try.prog Try.f3 false true false false) := by
  refine returnsInHanded_of_change (C := Try.checked) own started (by kernel_rfl) Try.func3
    (ChangeSpec.witness6 (enc := enc) (C := Try.checked) false ⟨#[], #[.agg #[.slice none 0 0, .slice none 0 0, .slice none 0 0], .slice none 0 0], []⟩ 8 (by kernel_rfl) (by kernel_rfl) (by kernel_rfl) (by kernel_rfl)) ?_
  intro W base args ds gs before hval0 hW hcnd _
  have hval : ∀ (j : Nat) t v, Try.f3.params[j]? = some t → args[j]? = some v → Value.okWide Try.prog W .any base t v := hval0
  have hW' := hW
  obtain ⟨p, q, hA0, hV, rfl, hfz, hnd⟩ := hW
  have hA : DataW.TrodAll enc Try.prog W 0 (fun _ => true) true Try.f3.params.toList args.toList ds p := hA0
  rw [Try.params3] at hA hval
  obtain ⟨v0, vs0, d0, ds0, p0, q0, hargs, rfl, rfl, h0, r0⟩ := trodAll_cons hA
  obtain ⟨v1, vs1, d1, ds1, p1, q1, rfl, rfl, rfl, h1, r1⟩ := trodAll_cons r0
  obtain ⟨rfl, rfl, rfl⟩ := trodAll_nil r1
  obtain rfl : args = #[v0, v1] := by cases args; simp_all
  obtain ⟨rfl, rfl⟩ := trodVars_none hV
  have k0 := h0
  have lt0 : ∀ x ∈ p0, x.block < W.heap.size := by obtain ⟨m, hm⟩ := k0; exact DataW.trod_lt m _ _ _ hm
  obtain ⟨c00, c01, c02, y00, y01, y02, m0, rfl, rfl, rfl, hy00, hy01, hy02⟩ := Go.Joins.open_agg3 Try.underlying25 (by kernel_rfl) (by kernel_rfl) (hval 0 25 v0 rfl rfl) h0
  obtain ⟨z00, a00, cap00, e00, l00, w00⟩ := (opens_tms (enc := enc) (W := W)).2 _ _ _ rfl hy00
  simp only [List.cons.injEq, and_true] at e00
  subst e00
  obtain ⟨z01, a01, cap01, e01, l01, w01⟩ := (opens_tms (enc := enc) (W := W)).2 _ _ _ rfl hy01
  simp only [List.cons.injEq, and_true] at e01
  subst e01
  obtain ⟨z02, a02, cap02, e02, l02, w02⟩ := (opens_ups (enc := enc) (W := W)).2 _ _ _ rfl hy02
  simp only [List.cons.injEq, and_true] at e02
  subst e02
  have k1 := h1
  have lt1 : ∀ x ∈ p1, x.block < W.heap.size := by obtain ⟨m, hm⟩ := k1; exact DataW.trod_lt m _ _ _ hm
  obtain ⟨a1, len1, cap1, rfl⟩ := okWide_slice Try.underlying26 (hval 1 26 v1 rfl rfl)
  obtain ⟨z1, rfl, w1⟩ := ints_of Try.underlying26 Try.underlying3 (by kernel_rfl) h1
  clear hA0 hval0
  refine (FnExactSeekRows_walk a00 cap00 z00 a01 cap01 z01 a02 cap02 z02 a1 cap1 z1 W l00 w00 l01 w01 l02 w02 w1).mono fun e W' ⟨he, bel⟩ => ?_
  subst he
  exact ⟨_, rfl, _, _, _, [], _, [], hW', trodAll_mk1 (shut_bool Try.underlying4 _), (trodAll_cons_mk (Below.trod laidOut (by kernel_rfl) (of_decide_eq_true (by kernel_rfl)) k0 bel lt0) (trodAll_cons_mk (Below.trod laidOut (by kernel_rfl) (of_decide_eq_true (by kernel_rfl)) k1 bel lt1) trodAll_mk0)), rfl, bel.frame _, fun h => by cases h⟩
theorem andTT {a b : Bool} (h1 : a = true) (h2 : b = true) : (a && b) = true := by rw [h1, h2]; rfl
set_option maxHeartbeats 8000000 in
theorem closed : joinedFacts Try.prog 3 Try.f3 Rows.fnExactSeekRowsSpec Rows.fnExactSeekRowsRow = true := by
  unfold joinedFacts
  repeat' (with_reducible refine andTT ?_ ?_)
  all_goals (first | (with_reducible exact clo_laid) | (with_reducible exact clo_maps) | (with_reducible exact clo_heard) | (with_reducible exact clo_enter) | ((with_reducible refine clo_plain _ ?_); rfl) | ((with_reducible refine clo_lifts _ ?_); rfl) | (as_aux_lemma => kernel_rfl))

theorem over : Rows.fnExactSeekRowsRow.holds Try.pinned (OpenSpec.ofChange Rows.fnExactSeekRowsSpec) :=
  OpenClaim.holds_of_wide 3 Try.f3 rfl rfl rfl rfl rfl rfl rfl ⟨rfl, rfl, rfl, rfl, rfl⟩ rfl rfl rfl rfl rfl (by kernel_rfl) Try.func3 closed
    (of_decide_eq_true (by kernel_rfl)) (by unfold Func.isWrapper; first | (rw [if_pos (by decide +kernel)]; kernel_rfl) | (rw [if_neg (by decide +kernel)]; exact ⟨rfl, rfl⟩))
    (fun os started H enc _ => lifted os started H enc)

/-- THE STATEMENT. -/
theorem proved : Rows.FnExactSeekRowsSaid := over
end lawFnExactSeekRows
end Go.Proofs.Ytkonhjdfcfljpaa
