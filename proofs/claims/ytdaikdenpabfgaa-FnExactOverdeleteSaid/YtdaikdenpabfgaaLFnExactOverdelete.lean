/- The law FnExactOverdelete returns true at every argument; no condition. -/
import Derived.Test.YtdaikdenpabfgaaEntL
import Derived.Test.YtdaikdenpabfgaaEntM
import Derived.Test.YtdaikdenpabfgaaMnx
import Derived.Test.YtdaikdenpabfgaaMnt
import Derived.Test.YtdaikdenpabfgaaClo
import Derived.Carry
import Derived.ChangeOld
import Derived.Lib.SmallJoins
namespace Go.Proofs.Ytdaikdenpabfgaa
open Go.ChangeShapes Go.WideShapes Go.ChangeAt Go.RowKit
set_option linter.unusedVariables false
set_option linter.unusedSimpArgs false

set_option maxHeartbeats 12800000 in
theorem FnExactOverdelete_walk (A0 : Option Addr) (c0 : Nat) (z0 : List Ent) (A1 : Option Addr) (c1 : Nat) (z1 : List Ent) (A2 : Option Addr) (c2 : Nat) (z2 : List Ent) (w : World) (hx0 : EntsAt w A0 z0) (hm0 : z0.length ≤ maxLen) (hx1 : EntsAt w A1 z1) (hm1 : z1.length ≤ maxLen) (hx2 : EntsAt w A2 z2) (hm2 : z2.length ≤ maxLen) :
    Calls Try.prog 8 #[.slice A0 z0.length c0, .slice A1 z1.length c1, .slice A2 z2.length c2] w fun e w' => e = .returned (.bool true) ∧ Below w.heap.size w w' := by
  have nn0 := entSz_nn z0
  by_cases s0 : 1048576 < entSz z0
  · go_enter Try.func8, Try.ntmps8
    go_wp2_with fail
    refine (szEntryS_no _ _ z0 _ _ hx0 (by omega) (by omega) hm0 s0).mono ?_
    rintro e q0 ⟨rfl, p0⟩
    go_wp2_with fail
    go_ret
    exact ⟨rfl, p0⟩
  have l0 : entSz z0 ≤ 1048576 := by omega
  have n0 : z0.length ≤ 4194304 := by have := entSz_len l0; omega
  have m0 : z0.length ≤ 2097152 := by have := entSz_len l0; omega
  have r0 : rowsIn z0 4194304 := entSz_row (by omega)
  have nn1 := entSz_nn z1
  by_cases s1 : 1048576 - entSz z0 < entSz z1
  · go_enter Try.func8, Try.ntmps8
    go_wp2_with fail
    refine (szEntryS_yes _ _ z0 _ _ hx0 (by omega) (by omega) hm0 (by omega)).mono ?_
    rintro e q0 ⟨rfl, p0⟩
    go_wp2_with fail
    refine (szEntryS_no _ _ z1 _ _ (hx1.below entR p0) (by omega) (by omega) hm1 s1).mono ?_
    rintro e q1 ⟨rfl, p1⟩
    go_wp2_with fail
    go_ret
    exact ⟨rfl, (btr p0 p1)⟩
  have l1 : entSz z1 ≤ 1048576 := by omega
  have n1 : z1.length ≤ 4194304 := by have := entSz_len l1; omega
  have m1 : z1.length ≤ 2097152 := by have := entSz_len l1; omega
  have r1 : rowsIn z1 4194304 := entSz_row (by omega)
  have nn2 := entSz_nn z2
  by_cases s2 : 1048576 - entSz z0 - entSz z1 < entSz z2
  · go_enter Try.func8, Try.ntmps8
    go_wp2_with fail
    refine (szEntryS_yes _ _ z0 _ _ hx0 (by omega) (by omega) hm0 (by omega)).mono ?_
    rintro e q0 ⟨rfl, p0⟩
    go_wp2_with fail
    refine (szEntryS_yes _ _ z1 _ _ (hx1.below entR p0) (by omega) (by omega) hm1 (by omega)).mono ?_
    rintro e q1 ⟨rfl, p1⟩
    go_wp2_with fail
    refine (szEntryS_no _ _ z2 _ _ (hx2.below entR (btr p0 p1)) (by omega) (by omega) hm2 s2).mono ?_
    rintro e q2 ⟨rfl, p2⟩
    go_wp2_with fail
    go_ret
    exact ⟨rfl, (btr (btr p0 p1) p2)⟩
  have l2 : entSz z2 ≤ 1048576 := by omega
  have n2 : z2.length ≤ 4194304 := by have := entSz_len l2; omega
  have m2 : z2.length ≤ 2097152 := by have := entSz_len l2; omega
  have r2 : rowsIn z2 4194304 := entSz_row (by omega)
  have fl : (MntF ovrG z0 z1 z2).length ≤ 4194304 := by have := MntF_len ovrG z0 z1 z2; omega
  have fr : rowsIn (MntF ovrG z0 z1 z2) 4194304 := fun e he => by have := MntF_row ovrG z0 z1 z2 e he; omega
  have conW := fun (A0 : Option Addr) (c0 : Nat) (A1 : Option Addr) (c1 : Nat) (A2 : Option Addr) (c2 : Nat) (w : World) (h0 : EntsAt w A0 z0) (h1 : EntsAt w A1 z1) (h2 : EntsAt w A2 z2)  => Overdelete_s A0 c0 z0 A1 c1 z1 A2 c2 z2 w h0 h1 h2  n0 r0 n1 r1 n2 r2
  have conG := fun (A0 : Option Addr) (c0 : Nat) (A1 : Option Addr) (c1 : Nat) (A2 : Option Addr) (c2 : Nat) (w : World) (h0 : EntsAt w A0 z0) (h1 : EntsAt w A1 z1) (h2 : EntsAt w A2 z2)  => Overdelete_i A0 c0 z0 A1 c1 z1 A2 c2 z2 w h0 h1 h2  n0 r0 n1 r1 n2 r2
  generalize MntF ovrG z0 z1 z2 = Z at fl fr conW conG
  have fc := cnt_bd fl fr
  have cb0 := cnt_bd n0 r0
  have cb1 := cnt_bd n1 r1
  have cb2 := cnt_bd n2 r2
  go_enter Try.func8, Try.ntmps8
  go_wp2_with fail
  refine (szEntryS_yes _ _ z0 _ _ hx0 (by omega) (by omega) hm0 (by omega)).mono ?_
  rintro e w1 ⟨rfl, b1⟩
  have B1 := b1
  go_wp2_with fail
  refine (szEntryS_yes _ _ z1 _ _ (hx1.below entR b1) (by omega) (by omega) hm1 (by omega)).mono ?_
  rintro e w2 ⟨rfl, b2⟩
  have B2 := btr B1 b2
  go_wp2_with fail
  refine (szEntryS_yes _ _ z2 _ _ (hx2.below entR (btr b1 b2)) (by omega) (by omega) hm2 (by omega)).mono ?_
  rintro e w3 ⟨rfl, b3⟩
  have B3 := btr B2 b3
  go_wp2_with fail
  refine (toEntryS_any _ _ z0 _ (hx0.below entR (btr (btr b1 b2) b3)) n0 r0).mono ?_
  rintro e w4 ⟨rfl, ks0, b4⟩
  have B4 := btr B3 b4
  have as0 := EntsOw.at_ ks0
  go_wp2_with fail
  refine (toEntryS_any _ _ z1 _ (hx1.below entR (btr (btr (btr b1 b2) b3) b4)) n1 r1).mono ?_
  rintro e w5 ⟨rfl, ks1, b5⟩
  have B5 := btr B4 b5
  have as1 := EntsOw.at_ ks1
  go_wp2_with fail
  refine (toEntryS_any _ _ z2 _ (hx2.below entR (btr (btr (btr (btr b1 b2) b3) b4) b5)) n2 r2).mono ?_
  rintro e w6 ⟨rfl, ks2, b6⟩
  have B6 := btr B5 b6
  have as2 := EntsOw.at_ ks2
  go_wp2_with fail
  refine (conW _ _ _ _ _ _ _ (as0.below entR (btr b5 b6)) (as1.below entR b6) as2).mono ?_
  rintro e w7 ⟨AW, cW, rfl, kW, b7⟩
  have B7 := btr B6 b7
  have aW := EntsOw.at_ kW
  go_wp2_with fail
  refine (toEntryS_any _ _ z0 _ (hx0.below entR (btr (btr (btr (btr (btr (btr b1 b2) b3) b4) b5) b6) b7)) n0 r0).mono ?_
  rintro e w8 ⟨rfl, ki0, b8⟩
  have B8 := btr B7 b8
  have ai0 := EntsOw.at_ ki0
  go_wp2_with fail
  refine (toEntryS_any _ _ z1 _ (hx1.below entR (btr (btr (btr (btr (btr (btr (btr b1 b2) b3) b4) b5) b6) b7) b8)) n1 r1).mono ?_
  rintro e w9 ⟨rfl, ki1, b9⟩
  have B9 := btr B8 b9
  have ai1 := EntsOw.at_ ki1
  go_wp2_with fail
  refine (toEntryS_any _ _ z2 _ (hx2.below entR (btr (btr (btr (btr (btr (btr (btr (btr b1 b2) b3) b4) b5) b6) b7) b8) b9)) n2 r2).mono ?_
  rintro e w10 ⟨rfl, ki2, b10⟩
  have B10 := btr B9 b10
  have ai2 := EntsOw.at_ ki2
  go_wp2_with fail
  refine (conG _ _ _ _ _ _ _ (ai0.below entR (btr b9 b10)) (ai1.below entR b10) ai2).mono ?_
  rintro e w11 ⟨AG, cG, rfl, kG, b11⟩
  have B11 := btr B10 b11
  have aG := EntsOw.at_ kG
  have tZ : decide (Z = Z) = true := by simp
  go_wp2_with fail
  refine (eqEntryS_any _ _ _ _ Z Z _ aG (aW.below entR (btr (btr (btr b8 b9) b10) b11)) fl fl fr fr).mono ?_
  rintro e w12 ⟨rfl, b12⟩
  have B12 := btr B11 b12
  go_wp2_with fail
  refine (toEntryS_any _ _ z0 _ (hx0.below entR (btr (btr (btr (btr (btr (btr (btr (btr (btr (btr (btr b1 b2) b3) b4) b5) b6) b7) b8) b9) b10) b11) b12)) n0 r0).mono ?_
  rintro e w13 ⟨rfl, kc0, b13⟩
  have B13 := btr B12 b13
  have ac0 := EntsOw.at_ kc0
  have t0 : decide (z0 = z0) = true := by simp
  go_wp2_with fail
  refine (eqEntryS_any _ _ _ _ z0 z0 _ (ai0.below entR (btr (btr (btr (btr b9 b10) b11) b12) b13)) ac0 n0 n0 r0 r0).mono ?_
  rintro e w14 ⟨rfl, b14⟩
  have B14 := btr B13 b14
  go_wp2_with fail
  refine (toEntryS_any _ _ z1 _ (hx1.below entR (btr (btr (btr (btr (btr (btr (btr (btr (btr (btr (btr (btr (btr b1 b2) b3) b4) b5) b6) b7) b8) b9) b10) b11) b12) b13) b14)) n1 r1).mono ?_
  rintro e w15 ⟨rfl, kc1, b15⟩
  have B15 := btr B14 b15
  have ac1 := EntsOw.at_ kc1
  have t1 : decide (z1 = z1) = true := by simp
  go_wp2_with fail
  refine (eqEntryS_any _ _ _ _ z1 z1 _ (ai1.below entR (btr (btr (btr (btr (btr b10 b11) b12) b13) b14) b15)) ac1 n1 n1 r1 r1).mono ?_
  rintro e w16 ⟨rfl, b16⟩
  have B16 := btr B15 b16
  go_wp2_with fail
  refine (toEntryS_any _ _ z2 _ (hx2.below entR (btr (btr (btr (btr (btr (btr (btr (btr (btr (btr (btr (btr (btr (btr (btr b1 b2) b3) b4) b5) b6) b7) b8) b9) b10) b11) b12) b13) b14) b15) b16)) n2 r2).mono ?_
  rintro e w17 ⟨rfl, kc2, b17⟩
  have B17 := btr B16 b17
  have ac2 := EntsOw.at_ kc2
  have t2 : decide (z2 = z2) = true := by simp
  go_wp2_with fail
  refine (eqEntryS_any _ _ _ _ z2 z2 _ (ai2.below entR (btr (btr (btr (btr (btr (btr b11 b12) b13) b14) b15) b16) b17)) ac2 n2 n2 r2 r2).mono ?_
  rintro e w18 ⟨rfl, b18⟩
  have B18 := btr B17 b18
  go_wp2_with fail
  refine (markEntryS_any _ _ _ z0 _ _ (ki0.below entO (btr (btr (btr (btr (btr (btr (btr (btr (btr b9 b10) b11) b12) b13) b14) b15) b16) b17) b18)) n0 r0 (by omega) (by omega)).mono ?_
  rintro e w19 ⟨rfl, mk0, g19⟩
  have D0_19 : Below w.heap.size w w19 := g19.below (btr (btr (btr (btr (btr (btr (btr (btr (btr (btr (btr (btr (btr (btr (btr (btr (btr b1 b2) b3) b4) b5) b6) b7) b8) b9) b10) b11) b12) b13) b14) b15) b16) b17) b18) (fun q hq => Nat.le_trans ((btr (btr (btr (btr (btr (btr b1 b2) b3) b4) b5) b6) b7)).size hq.1)
  have D7_19 : Below w7.heap.size w7 w19 := g19.below (btr (btr (btr (btr (btr (btr (btr (btr (btr (btr b8 b9) b10) b11) b12) b13) b14) b15) b16) b17) b18) (fun q hq => Nat.le_trans (Nat.le_refl w7.heap.size) hq.1)
  have kG_19 := (kG.below entO (btr (btr (btr (btr (btr (btr b12 b13) b14) b15) b16) b17) b18)).kept entO g19 (fun q hq hr => by have h3 := ((btr b9 b10)).size; have h1 := hq.1; have h2 := hr.2; omega)
  have ki1_19 := (ki1.below entO (btr (btr (btr (btr (btr (btr (btr (btr b10 b11) b12) b13) b14) b15) b16) b17) b18)).kept entO g19 (fun q hq hr => by have h3 := (Nat.le_refl w8.heap.size); have h1 := hq.1; have h2 := hr.2; omega)
  have ki2_19 := (ki2.below entO (btr (btr (btr (btr (btr (btr (btr b11 b12) b13) b14) b15) b16) b17) b18)).kept entO g19 (fun q hq hr => by have h3 := (b9).size; have h1 := hq.1; have h2 := hr.2; omega)
  have B19 := D0_19
  go_wp2_with fail
  refine (markEntryS_any _ _ _ z1 _ _ ki1_19 n1 r1 (by omega) (by omega)).mono ?_
  rintro e w20 ⟨rfl, mk1, g20⟩
  have D0_20 : Below w.heap.size w w20 := g20.below D0_19 (fun q hq => Nat.le_trans ((btr (btr (btr (btr (btr (btr (btr b1 b2) b3) b4) b5) b6) b7) b8)).size hq.1)
  have D7_20 : Below w7.heap.size w7 w20 := g20.below D7_19 (fun q hq => Nat.le_trans (b8).size hq.1)
  have kG_20 := kG_19.kept entO g20 (fun q hq hr => by have h3 := (b10).size; have h1 := hq.1; have h2 := hr.2; omega)
  have ki2_20 := ki2_19.kept entO g20 (fun q hq hr => by have h3 := (Nat.le_refl w9.heap.size); have h1 := hq.1; have h2 := hr.2; omega)
  have B20 := D0_20
  go_wp2_with fail
  refine (markEntryS_any _ _ _ z2 _ _ ki2_20 n2 r2 (by omega) (by omega)).mono ?_
  rintro e w21 ⟨rfl, mk2, g21⟩
  have D0_21 : Below w.heap.size w w21 := g21.below D0_20 (fun q hq => Nat.le_trans ((btr (btr (btr (btr (btr (btr (btr (btr b1 b2) b3) b4) b5) b6) b7) b8) b9)).size hq.1)
  have D7_21 : Below w7.heap.size w7 w21 := g21.below D7_20 (fun q hq => Nat.le_trans ((btr b8 b9)).size hq.1)
  have kG_21 := kG_20.kept entO g21 (fun q hq hr => by have h3 := (Nat.le_refl w10.heap.size); have h1 := hq.1; have h2 := hr.2; omega)
  have B21 := D0_21
  have aG2 := EntsOw.at_ kG_21
  go_wp2_with fail
  refine (eqEntryS_any _ _ _ _ Z Z _ aG2 (aW.below entR D7_21) fl fl fr fr).mono ?_
  rintro e w22 ⟨rfl, b22⟩
  have B22 := btr B21 b22
  go_wp2_with fail
  refine (markEntryS_any _ _ _ Z _ _ (kG_21.below entO b22) fl fr (by omega) (by omega)).mono ?_
  rintro e w23 ⟨rfl, kM, g23⟩
  have D0_23 : Below w.heap.size w w23 := g23.below (btr D0_21 b22) (fun q hq => Nat.le_trans ((btr (btr (btr (btr (btr (btr (btr (btr (btr b1 b2) b3) b4) b5) b6) b7) b8) b9) b10)).size hq.1)
  have D7_23 : Below w7.heap.size w7 w23 := g23.below (btr D7_21 b22) (fun q hq => Nat.le_trans ((btr (btr b8 b9) b10)).size hq.1)
  have B23 := D0_23
  go_wp2_with fail
  refine (heldEntryS_any _ _ Z 1 _ (EntsOw.at_ kM) fl fr (by omega) (by omega)).mono ?_
  rintro e wsame ⟨rfl, rfl⟩
  go_wp2_with fail
  refine (toEntryS_any _ _ z0 _ (hx0.below entR D0_23) n0 r0).mono ?_
  rintro e w24 ⟨rfl, kh0, b24⟩
  have B24 := btr B23 b24
  have ah0 := EntsOw.at_ kh0
  go_wp2_with fail
  refine (toEntryS_any _ _ z1 _ (hx1.below entR (btr D0_23 b24)) n1 r1).mono ?_
  rintro e w25 ⟨rfl, kh1, b25⟩
  have B25 := btr B24 b25
  have ah1 := EntsOw.at_ kh1
  go_wp2_with fail
  refine (toEntryS_any _ _ z2 _ (hx2.below entR (btr (btr D0_23 b24) b25)) n2 r2).mono ?_
  rintro e w26 ⟨rfl, kh2, b26⟩
  have B26 := btr B25 b26
  have ah2 := EntsOw.at_ kh2
  go_wp2_with fail
  refine (conG _ _ _ _ _ _ _ (ah0.below entR (btr b25 b26)) (ah1.below entR b26) ah2).mono ?_
  rintro e w27 ⟨AH, cH, rfl, kH, b27⟩
  have B27 := btr B26 b27
  have aH := EntsOw.at_ kH
  go_wp2_with fail
  refine (eqEntryS_any _ _ _ _ Z Z _ aH (aW.below entR (btr (btr (btr (btr D7_23 b24) b25) b26) b27)) fl fl fr fr).mono ?_
  rintro e w28 ⟨rfl, b28⟩
  have B28 := btr B27 b28
  go_wp2_with fail
  refine (heldEntryS_any _ _ Z 1 _ (EntsOw.at_ (kM.below entO (btr (btr (btr (btr b24 b25) b26) b27) b28))) fl fr (by omega) (by omega)).mono ?_
  rintro e wsame ⟨rfl, rfl⟩
  go_wp2_with fail
  go_ret
  exact ⟨rfl, B28⟩

namespace lawFnExactOverdelete
theorem own : ownKnob Try.prog.godebug = none := by kernel_rfl
theorem laidOut : laidOutB Try.prog = true := clo_laid
set_option maxRecDepth 100000 in
theorem lifted (os : Os) (started : os.Started) (H : Type) (enc : TypeId × Value → H) :
    ReturnsInHanded {} Try.checked os 8 .any (Rows.fnExactOverdeleteSpec.pre6 enc Try.prog Try.f8 Rows.fnExactOverdeleteRow.domain false) (Rows.fnExactOverdeleteSpec.post enc Try.prog Try.f8 false true false false) := by
  refine returnsInHanded_of_change (C := Try.checked) own started (by kernel_rfl) Try.func8
    (ChangeSpec.witness6 (enc := enc) (C := Try.checked) false ⟨#[], #[.slice none 0 0, .slice none 0 0, .slice none 0 0], []⟩ 8 (by kernel_rfl) (by kernel_rfl) (by kernel_rfl) (by kernel_rfl)) ?_
  intro W base args ds gs before hval0 hW hcnd _
  have hval : ∀ (j : Nat) t v, Try.f8.params[j]? = some t → args[j]? = some v → Value.okWide Try.prog W .any base t v := hval0
  have hW' := hW
  obtain ⟨p, q, hA0, hV, rfl, hfz, hnd⟩ := hW
  have hA : DataW.TrodAll enc Try.prog W 0 (fun _ => true) true Try.f8.params.toList args.toList ds p := hA0
  rw [Try.params8] at hA hval
  obtain ⟨v0, vs0, d0, ds0, p0, q0, hargs, rfl, rfl, h0, r0⟩ := trodAll_cons hA
  obtain ⟨v1, vs1, d1, ds1, p1, q1, rfl, rfl, rfl, h1, r1⟩ := trodAll_cons r0
  obtain ⟨v2, vs2, d2, ds2, p2, q2, rfl, rfl, rfl, h2, r2⟩ := trodAll_cons r1
  obtain ⟨rfl, rfl, rfl⟩ := trodAll_nil r2
  obtain rfl : args = #[v0, v1, v2] := by cases args; simp_all
  obtain ⟨rfl, rfl⟩ := trodVars_none hV
  have k0 := h0
  have lt0 : ∀ x ∈ p0, x.block < W.heap.size := by obtain ⟨m, hm⟩ := k0; exact DataW.trod_lt m _ _ _ hm
  obtain ⟨a0, len0, cap0, rfl⟩ := okWide_slice Try.underlying22 (hval 0 22 v0 rfl rfl)
  obtain ⟨z0, rfl, l0, w0⟩ := entries_of h0
  have k1 := h1
  have lt1 : ∀ x ∈ p1, x.block < W.heap.size := by obtain ⟨m, hm⟩ := k1; exact DataW.trod_lt m _ _ _ hm
  obtain ⟨a1, len1, cap1, rfl⟩ := okWide_slice Try.underlying22 (hval 1 22 v1 rfl rfl)
  obtain ⟨z1, rfl, l1, w1⟩ := entries_of h1
  have k2 := h2
  have lt2 : ∀ x ∈ p2, x.block < W.heap.size := by obtain ⟨m, hm⟩ := k2; exact DataW.trod_lt m _ _ _ hm
  obtain ⟨a2, len2, cap2, rfl⟩ := okWide_slice Try.underlying22 (hval 2 22 v2 rfl rfl)
  obtain ⟨z2, rfl, l2, w2⟩ := entries_of h2
  clear hA0 hval0
  refine (FnExactOverdelete_walk a0 cap0 z0 a1 cap1 z1 a2 cap2 z2 W w0 l0 w1 l1 w2 l2).mono fun e W' ⟨he, bel⟩ => ?_
  subst he
  exact ⟨_, rfl, _, _, _, [], _, [], hW', trodAll_mk1 (shut_bool Try.underlying4 _), (trodAll_cons_mk (Below.trod laidOut (by kernel_rfl) (of_decide_eq_true (by kernel_rfl)) k0 bel lt0) (trodAll_cons_mk (Below.trod laidOut (by kernel_rfl) (of_decide_eq_true (by kernel_rfl)) k1 bel lt1) (trodAll_cons_mk (Below.trod laidOut (by kernel_rfl) (of_decide_eq_true (by kernel_rfl)) k2 bel lt2) trodAll_mk0))), rfl, bel.frame _, fun h => by cases h⟩
theorem andTT {a b : Bool} (h1 : a = true) (h2 : b = true) : (a && b) = true := by rw [h1, h2]; rfl
set_option maxHeartbeats 8000000 in
theorem closed : joinedFacts Try.prog 8 Try.f8 Rows.fnExactOverdeleteSpec Rows.fnExactOverdeleteRow = true := by
  unfold joinedFacts
  repeat' (with_reducible refine andTT ?_ ?_)
  all_goals (first | (with_reducible exact clo_laid) | (with_reducible exact clo_maps) | (with_reducible exact clo_heard) | (with_reducible exact clo_enter) | ((with_reducible refine clo_plain _ ?_); rfl) | ((with_reducible refine clo_lifts _ ?_); rfl) | (as_aux_lemma => kernel_rfl))

theorem over : Rows.fnExactOverdeleteRow.holds Try.pinned (OpenSpec.ofChange Rows.fnExactOverdeleteSpec) :=
  OpenClaim.holds_of_wide 8 Try.f8 rfl rfl rfl rfl rfl rfl rfl ⟨rfl, rfl, rfl, rfl, rfl⟩ rfl rfl rfl rfl rfl (by kernel_rfl) Try.func8 closed
    (of_decide_eq_true (by kernel_rfl)) (by unfold Func.isWrapper; first | (rw [if_pos (by decide +kernel)]; kernel_rfl) | (rw [if_neg (by decide +kernel)]; exact ⟨rfl, rfl⟩))
    (fun os started H enc _ => lifted os started H enc)

/-- THE STATEMENT. -/
theorem proved : Rows.FnExactOverdeleteSaid := over
end lawFnExactOverdelete
end Go.Proofs.Ytdaikdenpabfgaa
