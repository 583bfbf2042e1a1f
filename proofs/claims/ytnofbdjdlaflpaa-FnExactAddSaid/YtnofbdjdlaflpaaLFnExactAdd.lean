/- The law FnExactAdd returns true at every argument; no condition. -/
import Derived.Test.YtnofbdjdlaflpaaEntL
import Derived.Test.YtnofbdjdlaflpaaEntM
import Derived.Test.YtnofbdjdlaflpaaAddI
namespace Go.Proofs.Ytnofbdjdlaflpaa
open Go.ChangeShapes Go.WideShapes Go.ChangeAt Go.RowKit
set_option linter.unusedVariables false
set_option linter.unusedSimpArgs false

set_option maxHeartbeats 6400000 in
theorem FnExactAdd_walk (A0 : Option Addr) (c0 : Nat) (z0 : List Ent) (A1 : Option Addr) (c1 : Nat) (z1 : List Ent) (w : World) (hx0 : EntsAt w A0 z0) (hm0 : z0.length ≤ maxLen) (hx1 : EntsAt w A1 z1) (hm1 : z1.length ≤ maxLen) :
    Calls Try.prog 3 #[.slice A0 z0.length c0, .slice A1 z1.length c1] w fun e w' => e = .returned (.bool true) ∧ Below w.heap.size w w' := by
  have nn0 := entSz_nn z0
  by_cases s0 : 1048576 < entSz z0
  · go_enter Try.func3, Try.ntmps3
    go_wp2_with fail
    refine (szEntryS_no _ _ z0 _ _ hx0 (by omega) (by omega) hm0 s0).mono ?_
    rintro e q0 ⟨rfl, p0⟩
    go_wp2_with fail
    go_ret
    exact ⟨rfl, p0⟩
  have l0 : entSz z0 ≤ 1048576 := by omega
  have n0 : z0.length ≤ 4194304 := by have := entSz_len l0; omega
  have r0 : rowsIn z0 4194304 := entSz_row (by omega)
  have nn1 := entSz_nn z1
  by_cases s1 : 1048576 - entSz z0 < entSz z1
  · go_enter Try.func3, Try.ntmps3
    go_wp2_with fail
    refine (szEntryS_yes _ _ z0 _ _ hx0 (by omega) (by omega) hm0 (by omega)).mono ?_
    rintro e q0 ⟨rfl, p0⟩
    go_wp2_with fail
    refine (szEntryS_no _ _ z1 _ _ (hx1.below entR p0) (by omega) (by omega) hm1 s1).mono ?_
    rintro e q1 ⟨rfl, p1⟩
    go_wp2_with fail
    go_ret
    exact ⟨rfl, (btr p0 p1)⟩
  have l1 : entSz z1 ≤ 1048576 := by omega
  have n1 : z1.length ≤ 4194304 := by have := entSz_len l1; omega
  have r1 : rowsIn z1 4194304 := entSz_row (by omega)
  have fl : (AddF z0 z1).length ≤ 4194304 := by have := AddF_len z0 z1; omega
  have fr : rowsIn (AddF z0 z1) 4194304 := fun e he => by have := AddF_row z0 z1 e he; omega
  have conW := fun (A0 : Option Addr) (c0 : Nat) (A1 : Option Addr) (c1 : Nat) (w : World) (h0 : EntsAt w A0 z0) (h1 : EntsAt w A1 z1)  => Add_s A0 c0 z0 A1 c1 z1 w h0 h1  n0 r0 n1 r1
  have conG := fun (A0 : Option Addr) (c0 : Nat) (A1 : Option Addr) (c1 : Nat) (w : World) (h0 : EntsAt w A0 z0) (h1 : EntsAt w A1 z1) (g0 : z0.length ≤ c0) (g1 : z1.length ≤ c1) => Add_i A0 c0 z0 A1 c1 z1 w h0 h1 g0 g1 n0 r0 n1 r1
  generalize AddF z0 z1 = Z at fl fr conW conG
  have fc := cnt_bd fl fr
  have cb0 := cnt_bd n0 r0
  have cb1 := cnt_bd n1 r1
  go_enter Try.func3, Try.ntmps3
  go_wp2_with fail
  refine (szEntryS_yes _ _ z0 _ _ hx0 (by omega) (by omega) hm0 (by omega)).mono ?_
  rintro e w1 ⟨rfl, b1⟩
  have B1 := b1
  go_wp2_with fail
  refine (szEntryS_yes _ _ z1 _ _ (hx1.below entR b1) (by omega) (by omega) hm1 (by omega)).mono ?_
  rintro e w2 ⟨rfl, b2⟩
  have B2 := btr B1 b2
  go_wp2_with fail
  refine (toEntryS_any _ _ z0 _ (hx0.below entR (btr b1 b2)) n0 r0).mono ?_
  rintro e w3 ⟨rfl, ks0, b3⟩
  have B3 := btr B2 b3
  have as0 := EntsOw.at_ ks0
  go_wp2_with fail
  refine (toEntryS_any _ _ z1 _ (hx1.below entR (btr (btr b1 b2) b3)) n1 r1).mono ?_
  rintro e w4 ⟨rfl, ks1, b4⟩
  have B4 := btr B3 b4
  have as1 := EntsOw.at_ ks1
  go_wp2_with fail
  refine (conW _ _ _ _ _ (as0.below entR b4) as1).mono ?_
  rintro e w5 ⟨AW, cW, rfl, kW, b5⟩
  have B5 := btr B4 b5
  have aW := EntsOw.at_ kW
  go_wp2_with fail
  refine (toEntryS_any _ _ z0 _ (hx0.below entR (btr (btr (btr (btr b1 b2) b3) b4) b5)) n0 r0).mono ?_
  rintro e w6 ⟨rfl, ki0, b6⟩
  have B6 := btr B5 b6
  have ai0 := EntsOw.at_ ki0
  go_wp2_with fail
  refine (toEntryS_any _ _ z1 _ (hx1.below entR (btr (btr (btr (btr (btr b1 b2) b3) b4) b5) b6)) n1 r1).mono ?_
  rintro e w7 ⟨rfl, ki1, b7⟩
  have B7 := btr B6 b7
  have ai1 := EntsOw.at_ ki1
  go_wp2_with fail
  refine (conG _ _ _ _ _ (ai0.below entR b7) ai1 (EntsOw.cap (ki0.below entO b7)) (EntsOw.cap ki1)).mono ?_
  rintro e w8 ⟨AG, cG, rfl, kG, b8⟩
  have B8 := btr B7 b8
  have aG := EntsOw.at_ kG
  have tZ : decide (Z = Z) = true := by simp
  go_wp2_with fail
  refine (eqEntryS_any _ _ _ _ Z Z _ aG (aW.below entR (btr (btr b6 b7) b8)) fl fl fr fr).mono ?_
  rintro e w9 ⟨rfl, b9⟩
  have B9 := btr B8 b9
  go_wp2_with fail
  refine (toEntryS_any _ _ z0 _ (hx0.below entR (btr (btr (btr (btr (btr (btr (btr (btr b1 b2) b3) b4) b5) b6) b7) b8) b9)) n0 r0).mono ?_
  rintro e w10 ⟨rfl, kc0, b10⟩
  have B10 := btr B9 b10
  have ac0 := EntsOw.at_ kc0
  have t0 : decide (z0 = z0) = true := by simp
  go_wp2_with fail
  refine (eqEntryS_any _ _ _ _ z0 z0 _ (ai0.below entR (btr (btr (btr b7 b8) b9) b10)) ac0 n0 n0 r0 r0).mono ?_
  rintro e w11 ⟨rfl, b11⟩
  have B11 := btr B10 b11
  go_wp2_with fail
  refine (toEntryS_any _ _ z1 _ (hx1.below entR (btr (btr (btr (btr (btr (btr (btr (btr (btr (btr b1 b2) b3) b4) b5) b6) b7) b8) b9) b10) b11)) n1 r1).mono ?_
  rintro e w12 ⟨rfl, kc1, b12⟩
  have B12 := btr B11 b12
  have ac1 := EntsOw.at_ kc1
  have t1 : decide (z1 = z1) = true := by simp
  go_wp2_with fail
  refine (eqEntryS_any _ _ _ _ z1 z1 _ (ai1.below entR (btr (btr (btr (btr b8 b9) b10) b11) b12)) ac1 n1 n1 r1 r1).mono ?_
  rintro e w13 ⟨rfl, b13⟩
  have B13 := btr B12 b13
  go_wp2_with fail
  refine (markEntryS_any _ _ _ z0 _ _ (ki0.below entO (btr (btr (btr (btr (btr (btr b7 b8) b9) b10) b11) b12) b13)) n0 r0 (by omega) (by omega)).mono ?_
  rintro e w14 ⟨rfl, m0, g14⟩
  have D0_14 : Below w.heap.size w w14 := g14.below (btr (btr (btr (btr (btr (btr (btr (btr (btr (btr (btr (btr b1 b2) b3) b4) b5) b6) b7) b8) b9) b10) b11) b12) b13) (fun q hq => Nat.le_trans ((btr (btr (btr (btr b1 b2) b3) b4) b5)).size hq.1)
  have D5_14 : Below w5.heap.size w5 w14 := g14.below (btr (btr (btr (btr (btr (btr (btr b6 b7) b8) b9) b10) b11) b12) b13) (fun q hq => Nat.le_trans (Nat.le_refl w5.heap.size) hq.1)
  have kG_14 := (kG.below entO (btr (btr (btr (btr b9 b10) b11) b12) b13)).kept entO g14 (fun q hq hr => by have h3 := (b7).size; have h1 := hq.1; have h2 := hr.2; omega)
  have ki1_14 := (ki1.below entO (btr (btr (btr (btr (btr b8 b9) b10) b11) b12) b13)).kept entO g14 (fun q hq hr => by have h3 := (Nat.le_refl w6.heap.size); have h1 := hq.1; have h2 := hr.2; omega)
  have B14 := D0_14
  go_wp2_with fail
  refine (markEntryS_any _ _ _ z1 _ _ ki1_14 n1 r1 (by omega) (by omega)).mono ?_
  rintro e w15 ⟨rfl, m1, g15⟩
  have D0_15 : Below w.heap.size w w15 := g15.below D0_14 (fun q hq => Nat.le_trans ((btr (btr (btr (btr (btr b1 b2) b3) b4) b5) b6)).size hq.1)
  have D5_15 : Below w5.heap.size w5 w15 := g15.below D5_14 (fun q hq => Nat.le_trans (b6).size hq.1)
  have kG_15 := kG_14.kept entO g15 (fun q hq hr => by have h3 := (Nat.le_refl w7.heap.size); have h1 := hq.1; have h2 := hr.2; omega)
  have B15 := D0_15
  have aG2 := EntsOw.at_ kG_15
  go_wp2_with fail
  refine (eqEntryS_any _ _ _ _ Z Z _ aG2 (aW.below entR D5_15) fl fl fr fr).mono ?_
  rintro e w16 ⟨rfl, b16⟩
  have B16 := btr B15 b16
  go_wp2_with fail
  refine (markEntryS_any _ _ _ Z _ _ (kG_15.below entO b16) fl fr (by omega) (by omega)).mono ?_
  rintro e w17 ⟨rfl, kM, g17⟩
  have D0_17 : Below w.heap.size w w17 := g17.below (btr D0_15 b16) (fun q hq => Nat.le_trans ((btr (btr (btr (btr (btr (btr b1 b2) b3) b4) b5) b6) b7)).size hq.1)
  have D5_17 : Below w5.heap.size w5 w17 := g17.below (btr D5_15 b16) (fun q hq => Nat.le_trans ((btr b6 b7)).size hq.1)
  have B17 := D0_17
  go_wp2_with fail
  refine (heldEntryS_any _ _ Z 1 _ (EntsOw.at_ kM) fl fr (by omega) (by omega)).mono ?_
  rintro e wsame ⟨rfl, rfl⟩
  go_wp2_with fail
  refine (toEntryS_any _ _ z0 _ (hx0.below entR D0_17) n0 r0).mono ?_
  rintro e w18 ⟨rfl, kh0, b18⟩
  have B18 := btr B17 b18
  have ah0 := EntsOw.at_ kh0
  go_wp2_with fail
  refine (toEntryS_any _ _ z1 _ (hx1.below entR (btr D0_17 b18)) n1 r1).mono ?_
  rintro e w19 ⟨rfl, kh1, b19⟩
  have B19 := btr B18 b19
  have ah1 := EntsOw.at_ kh1
  go_wp2_with fail
  refine (conG _ _ _ _ _ (ah0.below entR b19) ah1 (EntsOw.cap (kh0.below entO b19)) (EntsOw.cap kh1)).mono ?_
  rintro e w20 ⟨AH, cH, rfl, kH, b20⟩
  have B20 := btr B19 b20
  have aH := EntsOw.at_ kH
  go_wp2_with fail
  refine (eqEntryS_any _ _ _ _ Z Z _ aH (aW.below entR (btr (btr (btr D5_17 b18) b19) b20)) fl fl fr fr).mono ?_
  rintro e w21 ⟨rfl, b21⟩
  have B21 := btr B20 b21
  go_wp2_with fail
  refine (heldEntryS_any _ _ Z 1 _ (EntsOw.at_ (kM.below entO (btr (btr (btr b18 b19) b20) b21))) fl fr (by omega) (by omega)).mono ?_
  rintro e wsame ⟨rfl, rfl⟩
  go_wp2_with fail
  go_ret
  exact ⟨rfl, B21⟩

namespace lawFnExactAdd
theorem own : ownKnob Try.prog.godebug = none := by kernel_rfl
theorem laidOut : laidOutB Try.prog = true := by kernel_rfl
set_option maxRecDepth 100000 in
theorem lifted (os : Os) (started : os.Started) (H : Type) (enc : TypeId × Value → H) :
    ReturnsInHanded {} Try.checked os 3 .any (Rows.fnExactAddSpec.pre6 enc Try.prog Try.f3 Rows.fnExactAddRow.domain false) (Rows.fnExactAddSpec.post enc Try.prog Try.f3 false true false false) := by
  refine returnsInHanded_of_change (C := Try.checked) own started (by kernel_rfl) Try.func3
    (ChangeSpec.witness6 (enc := enc) (C := Try.checked) false ⟨#[], #[.slice none 0 0, .slice none 0 0], []⟩ 8 (by kernel_rfl) (by kernel_rfl) (by kernel_rfl) (by kernel_rfl)) ?_
  intro W base args ds gs before hval0 hW hcnd _
  have hval : ∀ (j : Nat) t v, Try.f3.params[j]? = some t → args[j]? = some v → Value.okWide Try.prog W .any base t v := hval0
  have hW' := hW
  obtain ⟨p, q, hA0, hV, rfl, hfz, hnd⟩ := hW
  have hA : DataW.TrodAll enc Try.prog W 0 (fun _ => true) true Try.f3.params.toList args.toList ds p := hA0
  rw [Try.params3] at hA hval
  obtain ⟨v0, vs0, d0, ds0, p0, q0, hargs, rfl, rfl, h0, r0⟩ := trodAll_cons hA
  obtain ⟨v1, vs1, d1, ds1, p1, q1, rfl, rfl, rfl, h1, r1⟩ := trodAll_cons r0
  obtain ⟨rfl, rfl, rfl⟩ := trodAll_nil r1
  obtain rfl : args = #[v0, v1] := by cases args; simp_all
  obtain ⟨rfl, rfl⟩ := trodVars_none hV
  have k0 := h0
  have lt0 : ∀ x ∈ p0, x.block < W.heap.size := by obtain ⟨m, hm⟩ := k0; exact DataW.trod_lt m _ _ _ hm
  obtain ⟨a0, len0, cap0, rfl⟩ := okWide_slice Try.underlying22 (hval 0 22 v0 rfl rfl)
  obtain ⟨z0, rfl, l0, w0⟩ := entries_of h0
  have k1 := h1
  have lt1 : ∀ x ∈ p1, x.block < W.heap.size := by obtain ⟨m, hm⟩ := k1; exact DataW.trod_lt m _ _ _ hm
  obtain ⟨a1, len1, cap1, rfl⟩ := okWide_slice Try.underlying22 (hval 1 22 v1 rfl rfl)
  obtain ⟨z1, rfl, l1, w1⟩ := entries_of h1
  clear hA0 hval0
  refine (FnExactAdd_walk a0 cap0 z0 a1 cap1 z1 W w0 l0 w1 l1).mono fun e W' ⟨he, bel⟩ => ?_
  subst he
  exact ⟨_, rfl, _, _, _, [], _, [], hW', trodAll_mk1 (shut_bool Try.underlying4 _), (trodAll_cons_mk (Below.trod laidOut (by kernel_rfl) (of_decide_eq_true (by kernel_rfl)) k0 bel lt0) (trodAll_cons_mk (Below.trod laidOut (by kernel_rfl) (of_decide_eq_true (by kernel_rfl)) k1 bel lt1) trodAll_mk0)), rfl, bel.frame _, fun h => by cases h⟩

theorem over : Rows.fnExactAddRow.holds Try.pinned (OpenSpec.ofChange Rows.fnExactAddSpec) :=
  OpenClaim.holds_of_wide 3 Try.f3 rfl rfl rfl rfl rfl rfl rfl ⟨rfl, rfl, rfl, rfl, rfl⟩ rfl rfl rfl rfl rfl (by kernel_rfl) Try.func3 (by kernel_rfl)
    (of_decide_eq_true (by kernel_rfl)) (by unfold Func.isWrapper; first | (rw [if_pos (by decide +kernel)]; kernel_rfl) | (rw [if_neg (by decide +kernel)]; exact ⟨rfl, rfl⟩))
    (fun os started H enc _ => lifted os started H enc)

/-- THE STATEMENT. -/
theorem proved : Rows.FnExactAddSaid := over
end lawFnExactAdd
end Go.Proofs.Ytnofbdjdlaflpaa
