/- The law FnExactAsOf returns true at every argument; no condition. -/
import Derived.Test.YtcbofgjmkeokfaaEntL
import Derived.Test.YtcbofgjmkeokfaaEntM
import Derived.Test.YtcbofgjmkeokfaaUpdM
import Derived.Test.YtcbofgjmkeokfaaAsOfI
import Derived.Carry
import Derived.ChangeOld
import Derived.Lib.SmallJoins
namespace Go.Proofs.Ytcbofgjmkeokfaa
open Go.ChangeShapes Go.WideShapes Go.ChangeAt Go.RowKit
set_option linter.unusedVariables false
set_option linter.unusedSimpArgs false
theorem absC {P : Program} {f : FuncId} {args : Array Value} {w : World} {Q : Ending → World → Prop} (R : World → Prop) (h : R w) (k : ∀ W, R W → Calls P f args W Q) : Calls P f args w Q := k w h
def EntsV (z : List Ent) (v : Value) (w : World) : Prop := ∃ A c, v = .slice A z.length c ∧ EntsAt w A z
theorem stable_EntsV (z : List Ent) : Stable (EntsV z) := fun _ _ _ hb ⟨A, c, e, h⟩ => ⟨A, c, e, h.below entR hb⟩
def ResV (w0 : World) (z : List Ent) (v : Value) (w : World) : Prop := ∃ A c, v = .slice A z.length c ∧ EntsOw w (news w0 w) A c z
theorem stable_ResV (w0 : World) (z : List Ent) : Stable (ResV w0 z) := fun _ _ _ hb ⟨A, c, e, h⟩ => ⟨A, c, e, (h.below entO hb).mono (fun _ hq => ⟨hq.1, Nat.lt_of_lt_of_le hq.2 hb.size⟩) (fun _ hq => hq.2)⟩
def UpdsV (z : List Upd) (v : Value) (w : World) : Prop := ∃ A c, v = .slice A z.length c ∧ UpdsAt w A z
theorem stable_UpdsV (z : List Upd) : Stable (UpdsV z) := fun _ _ _ hb ⟨A, c, e, h⟩ => ⟨A, c, e, h.below updR hb⟩
def ResU (w0 : World) (z : List Upd) (v : Value) (w : World) : Prop := ∃ A c, v = .slice A z.length c ∧ UpdsOw w (news w0 w) A c z
theorem stable_ResU (w0 : World) (z : List Upd) : Stable (ResU w0 z) := fun _ _ _ hb ⟨A, c, e, h⟩ => ⟨A, c, e, (h.below updO hb).mono (fun _ hq => ⟨hq.1, Nat.lt_of_lt_of_le hq.2 hb.size⟩) (fun _ hq => hq.2)⟩

set_option maxHeartbeats 12800000 in
theorem FnExactAsOf_walk (A0 : Option Addr) (c0 : Nat) (z0 : List Upd) (p1x p1y : Int) (wz : World) (hx0 : UpdsAt wz A0 z0) (hm0 : z0.length ≤ maxLen) :
    Calls Try.prog 6 #[.slice A0 z0.length c0, .agg #[.int .i64 p1x, .int .i64 p1y]] wz fun e w' => e = .returned (.bool true) ∧ Below wz.heap.size wz w' := by
  have nn0 := updSz_nn z0
  by_cases s0 : 1048576 < updSz z0
  · go_enter Try.func6, Try.ntmps6
    go_wp2_with fail
    refine absC (fun W => Below wz.heap.size wz W ∧ Blk W wz.heap.size 44 #[.int .i64 p1x, .int .i64 p1y]) ⟨(bal (Below.refl _ _) _), (Blk.newAt rfl)⟩ ?_
    rintro w ⟨hBz, hk1⟩
    have hx0 : UpdsAt w A0 z0 := hx0.below updR hBz
    refine (szUpdateS_no _ _ z0 _ _ hx0 (by omega) (by omega) hm0 s0).mono ?_
    rintro e q0 ⟨rfl, p0⟩
    go_wp2_with fail
    go_ret
    exact ⟨rfl, btr hBz (p0)⟩
  have l0 : updSz z0 ≤ 1048576 := by omega
  have n0 : z0.length ≤ 4194304 := by have := updSz_len l0; omega
  have m0 : z0.length ≤ 2097152 := by have := updSz_len l0; omega
  have r0 : rowsU z0 4194304 := updSz_row (by omega)
  have fl : (AsOfF z0 p1x p1y).length ≤ 4194304 := by have := AsOfF_len z0 p1x p1y; omega
  have fr : rowsIn (AsOfF z0 p1x p1y) 4194304 := fun e he => by have := AsOfF_row z0 p1x p1y e he; omega
  have conW := fun (A0 : Option Addr) (c0 : Nat) (w : World) (h0 : UpdsAt w A0 z0)  => AsOf_s A0 c0 z0 p1x p1y w h0  n0 r0
  have conG := fun (A0 : Option Addr) (c0 : Nat) (w : World) (h0 : UpdsAt w A0 z0)  => AsOf_i A0 c0 z0 p1x p1y w h0  n0 r0
  generalize AsOfF z0 p1x p1y = Z at fl fr conW conG
  have fc := cnt_bd fl fr
  have cb0 := cntU_bd n0 r0
  go_enter Try.func6, Try.ntmps6
  go_wp2_with fail
  refine absC (fun W => Below wz.heap.size wz W ∧ Blk W wz.heap.size 44 #[.int .i64 p1x, .int .i64 p1y]) ⟨(bal (Below.refl _ _) _), (Blk.newAt rfl)⟩ ?_
  rintro w ⟨hBz, hk1⟩
  have hx0 : UpdsAt w A0 z0 := hx0.below updR hBz
  refine (szUpdateS_yes _ _ z0 _ _ hx0 (by omega) (by omega) hm0 (by omega)).mono ?_
  rintro e w1 ⟨rfl, b1⟩
  have B1 := b1
  go_wp2_with fail
  refine wp_region_facts [[], [0], [], [0, 1, 2], [0, 1, 2, 3]]
    [fun v' _ => v' = .slice A0 z0.length c0, UpdsV z0, fun v' _ => v' = .agg #[.int .i64 p1x, .int .i64 p1y], fun v' _ => v' = .agg #[.int .i64 p1x, .int .i64 p1y], ResV w1 Z]
    (by kernel_rfl) (by kernel_rfl) rfl ⟨stable_pure _, stable_UpdsV _, stable_pure _, stable_pure _, stable_ResV _ _, trivial⟩ ?_
  refine wf_step (fun wf hb hf => ?_) (fun t0 => ?_)
  · go_wp2
    exact ⟨rfl, _, rfl, Below.refl _ _, rfl⟩
  refine wf_step (fun wf hb hf => ?_) (fun t1 => ?_)
  · obtain ⟨rfl, -⟩ := hf
    go_wp2_with (go_at_call 30; refine (toUpdateS_any _ _ z0 _ ((hx0.below updR b1).below updR hb) m0 r0).mono ?_; rintro e w2 ⟨rfl, ho, hb2⟩)
    exact ⟨rfl, _, rfl, hb2, _, _, rfl, UpdsOw.at_ ho⟩
  refine wf_step (fun wf hb hf => ?_) (fun t2 => ?_)
  · have pc0 := ((hk1.below b1).below hb).cell 0
    have pc1 := ((hk1.below b1).below hb).cell 1
    simp at pc0 pc1
    go_wp2
    exact ⟨rfl, _, rfl, Below.refl _ _, rfl⟩
  refine wf_step (fun wf hb hf => ?_) (fun t3 => ?_)
  · obtain ⟨-, -, rfl, -⟩ := hf
    go_wp2_with (go_at_call 31; refine (toTime_any _ _ _).mono ?_; rintro e w2 ⟨rfl, hb2⟩)
    exact ⟨rfl, _, rfl, hb2, rfl⟩
  refine wf_step (fun wf hb hf => ?_) (fun t4 => ?_)
  · obtain ⟨-, ⟨X0, d0, rfl, ha0⟩, -, rfl, -⟩ := hf
    go_wp2_with fail
    refine (conW _ _ _ ha0).mono ?_
    rintro e w2 ⟨AR, cR, rfl, hR, hb2⟩
    go_wp2
    exact ⟨rfl, _, rfl, hb2, AR, cR, rfl, hR.mono (fun _ hq => ⟨Nat.le_trans hb.size hq.1, hq.2⟩) (fun _ hq => hq.2)⟩
  refine wf_done (fun w2 b2 hf => ?_)
  obtain ⟨rfl, ⟨Y1, y1, rfl, -⟩, rfl, rfl, ⟨AW, cW, rfl, kW⟩, -⟩ := hf
  show wpList _ _ _ [_] _ _
  refine wpList_frame (by simp [Act.put]; rfl) ?_
  have B2 := btr B1 b2
  have aW := EntsOw.at_ kW
  go_wp2_with fail
  refine (toUpdateS_any _ _ z0 _ (hx0.below updR (btr b1 b2)) m0 r0).mono ?_
  rintro e w3 ⟨rfl, ki0, b3⟩
  have B3 := btr B2 b3
  have ai0 := UpdsOw.at_ ki0
  have pc0 := (hk1.below (btr (btr b1 b2) b3)).cell 0
  have pc1 := (hk1.below (btr (btr b1 b2) b3)).cell 1
  simp at pc0 pc1
  go_wp2_with fail
  refine (toTime_any _ _ _).mono ?_
  rintro e w4 ⟨rfl, b4⟩
  have B4 := btr B3 b4
  clear pc0 pc1
  go_wp2_with fail
  refine (conG _ _ _ (ai0.below updR b4)).mono ?_
  rintro e w5 ⟨AG, cG, rfl, kG, b5⟩
  have B5 := btr B4 b5
  have aG := EntsOw.at_ kG
  have tZ : decide (Z = Z) = true := by simp
  go_wp2_with fail
  refine (eqEntryS_any _ _ _ _ Z Z _ aG (aW.below entR (btr (btr b3 b4) b5)) fl fl fr fr).mono ?_
  rintro e w6 ⟨rfl, b6⟩
  have B6 := btr B5 b6
  go_wp2_with fail
  refine (toUpdateS_any _ _ z0 _ (hx0.below updR (btr (btr (btr (btr (btr b1 b2) b3) b4) b5) b6)) m0 r0).mono ?_
  rintro e w7 ⟨rfl, kc0, b7⟩
  have B7 := btr B6 b7
  have ac0 := UpdsOw.at_ kc0
  have t0 : decide (z0 = z0) = true := by simp
  go_wp2_with fail
  refine (eqUpdateS_any _ _ _ _ z0 z0 _ (ai0.below updR (btr (btr (btr b4 b5) b6) b7)) ac0 n0 n0 r0 r0).mono ?_
  rintro e w8 ⟨rfl, b8⟩
  have B8 := btr B7 b8
  go_wp2_with fail
  refine (markUpdateS_any _ _ _ z0 _ _ (ki0.below updO (btr (btr (btr (btr b4 b5) b6) b7) b8)) n0 r0 (by omega) (by omega)).mono ?_
  rintro e w9 ⟨rfl, mk0, g9⟩
  have D0_9 : Below w.heap.size w w9 := g9.below (btr (btr (btr (btr (btr (btr (btr b1 b2) b3) b4) b5) b6) b7) b8) (fun q hq => Nat.le_trans ((btr b1 b2)).size hq.1)
  have D2_9 : Below w2.heap.size w2 w9 := g9.below (btr (btr (btr (btr (btr b3 b4) b5) b6) b7) b8) (fun q hq => Nat.le_trans (Nat.le_refl w2.heap.size) hq.1)
  have kG_9 := (kG.below entO (btr (btr b6 b7) b8)).kept entO g9 (fun q hq hr => by have h3 := (b4).size; have h1 := hq.1; have h2 := hr.2; omega)
  have B9 := D0_9
  have aG2 := EntsOw.at_ kG_9
  go_wp2_with fail
  refine (eqEntryS_any _ _ _ _ Z Z _ aG2 (aW.below entR D2_9) fl fl fr fr).mono ?_
  rintro e w10 ⟨rfl, b10⟩
  have B10 := btr B9 b10
  go_wp2_with fail
  refine (markEntryS_any _ _ _ Z _ _ (kG_9.below entO b10) fl fr (by omega) (by omega)).mono ?_
  rintro e w11 ⟨rfl, kM, g11⟩
  have D0_11 : Below w.heap.size w w11 := g11.below (btr D0_9 b10) (fun q hq => Nat.le_trans ((btr (btr (btr b1 b2) b3) b4)).size hq.1)
  have D2_11 : Below w2.heap.size w2 w11 := g11.below (btr D2_9 b10) (fun q hq => Nat.le_trans ((btr b3 b4)).size hq.1)
  have B11 := D0_11
  go_wp2_with fail
  refine (heldEntryS_any _ _ Z 1 _ (EntsOw.at_ kM) fl fr (by omega) (by omega)).mono ?_
  rintro e wsame ⟨rfl, rfl⟩
  go_wp2_with fail
  refine wp_region_facts [[], [0], [], [0, 1, 2], [0, 1, 2, 3]]
    [fun v' _ => v' = .slice A0 z0.length c0, UpdsV z0, fun v' _ => v' = .agg #[.int .i64 p1x, .int .i64 p1y], fun v' _ => v' = .agg #[.int .i64 p1x, .int .i64 p1y], ResV w11 Z]
    (by kernel_rfl) (by kernel_rfl) rfl ⟨stable_pure _, stable_UpdsV _, stable_pure _, stable_pure _, stable_ResV _ _, trivial⟩ ?_
  refine wf_step (fun wf hb hf => ?_) (fun t0 => ?_)
  · go_wp2
    exact ⟨rfl, _, rfl, Below.refl _ _, rfl⟩
  refine wf_step (fun wf hb hf => ?_) (fun t1 => ?_)
  · obtain ⟨rfl, -⟩ := hf
    go_wp2_with (go_at_call 30; refine (toUpdateS_any _ _ z0 _ ((hx0.below updR D0_11).below updR hb) m0 r0).mono ?_; rintro e w2 ⟨rfl, ho, hb2⟩)
    exact ⟨rfl, _, rfl, hb2, _, _, rfl, UpdsOw.at_ ho⟩
  refine wf_step (fun wf hb hf => ?_) (fun t2 => ?_)
  · have pc0 := ((hk1.below D0_11).below hb).cell 0
    have pc1 := ((hk1.below D0_11).below hb).cell 1
    simp at pc0 pc1
    go_wp2
    exact ⟨rfl, _, rfl, Below.refl _ _, rfl⟩
  refine wf_step (fun wf hb hf => ?_) (fun t3 => ?_)
  · obtain ⟨-, -, rfl, -⟩ := hf
    go_wp2_with (go_at_call 31; refine (toTime_any _ _ _).mono ?_; rintro e w2 ⟨rfl, hb2⟩)
    exact ⟨rfl, _, rfl, hb2, rfl⟩
  refine wf_step (fun wf hb hf => ?_) (fun t4 => ?_)
  · obtain ⟨-, ⟨X0, d0, rfl, ha0⟩, -, rfl, -⟩ := hf
    go_wp2_with fail
    refine (conG _ _ _ ha0).mono ?_
    rintro e w2 ⟨AR, cR, rfl, hR, hb2⟩
    go_wp2
    exact ⟨rfl, _, rfl, hb2, AR, cR, rfl, hR.mono (fun _ hq => ⟨Nat.le_trans hb.size hq.1, hq.2⟩) (fun _ hq => hq.2)⟩
  refine wf_done (fun w12 b12 hf => ?_)
  obtain ⟨rfl, ⟨Y1, y1, rfl, -⟩, rfl, rfl, ⟨AH, cH, rfl, kH⟩, -⟩ := hf
  show wpList _ _ _ [_] _ _
  refine wpList_frame (by simp [Act.put]; rfl) ?_
  have B12 := btr B11 b12
  have aH := EntsOw.at_ kH
  go_wp2_with fail
  refine (eqEntryS_any _ _ _ _ Z Z _ aH (aW.below entR (btr D2_11 b12)) fl fl fr fr).mono ?_
  rintro e w13 ⟨rfl, b13⟩
  have B13 := btr B12 b13
  go_wp2_with fail
  refine (heldEntryS_any _ _ Z 1 _ (EntsOw.at_ (kM.below entO (btr b12 b13))) fl fr (by omega) (by omega)).mono ?_
  rintro e wsame ⟨rfl, rfl⟩
  go_wp2_with fail
  go_ret
  exact ⟨rfl, btr hBz (B13)⟩

namespace lawFnExactAsOf
theorem own : ownKnob Try.prog.godebug = none := by kernel_rfl
theorem laidOut : laidOutB Try.prog = true := by kernel_rfl
set_option maxRecDepth 100000 in
theorem lifted (os : Os) (started : os.Started) (H : Type) (enc : TypeId × Value → H) :
    ReturnsInHanded {} Try.checked os 6 .any (Rows.fnExactAsOfSpec.pre6 enc Try.prog Try.f6 Rows.fnExactAsOfRow.domain false) (Rows.fnExactAsOfSpec.post enc Try.prog Try.f6 false true false false) := by
  refine returnsInHanded_of_change (C := Try.checked) own started (by kernel_rfl) Try.func6
    (ChangeSpec.witness6 (enc := enc) (C := Try.checked) false ⟨#[], #[.slice none 0 0, .agg #[.int .i64 0, .int .i64 0]], []⟩ 8 (by kernel_rfl) (by kernel_rfl) (by kernel_rfl) (by kernel_rfl)) ?_
  intro W base args ds gs before hval0 hW hcnd _
  have hval : ∀ (j : Nat) t v, Try.f6.params[j]? = some t → args[j]? = some v → Value.okWide Try.prog W .any base t v := hval0
  have hW' := hW
  obtain ⟨p, q, hA0, hV, rfl, hfz, hnd⟩ := hW
  have hA : DataW.TrodAll enc Try.prog W 0 (fun _ => true) true Try.f6.params.toList args.toList ds p := hA0
  rw [Try.params6] at hA hval
  obtain ⟨v0, vs0, d0, ds0, p0, q0, hargs, rfl, rfl, h0, r0⟩ := trodAll_cons hA
  obtain ⟨v1, vs1, d1, ds1, p1, q1, rfl, rfl, rfl, h1, r1⟩ := trodAll_cons r0
  obtain ⟨rfl, rfl, rfl⟩ := trodAll_nil r1
  obtain rfl : args = #[v0, v1] := by cases args; simp_all
  obtain ⟨rfl, rfl⟩ := trodVars_none hV
  have k0 := h0
  have lt0 : ∀ x ∈ p0, x.block < W.heap.size := by obtain ⟨m, hm⟩ := k0; exact DataW.trod_lt m _ _ _ hm
  obtain ⟨a0, len0, cap0, rfl⟩ := okWide_slice Try.underlying42 (hval 0 42 v0 rfl rfl)
  obtain ⟨z0, rfl, l0, w0⟩ := updates_of h0
  have k1 := h1
  have lt1 : ∀ x ∈ p1, x.block < W.heap.size := by obtain ⟨m, hm⟩ := k1; exact DataW.trod_lt m _ _ _ hm
  obtain ⟨c10, c11, y10, y11, m1, rfl, rfl, rfl, hy10, hy11⟩ := Go.Joins.open_agg2 Try.underlying44 (by kernel_rfl) (by kernel_rfl) (hval 1 44 v1 rfl rfl) h1
  obtain ⟨a10, e10, -, wa10⟩ := DataW.trod_int Try.underlying3 hy10
  simp only [List.cons.injEq, and_true] at e10
  subst e10
  obtain ⟨a11, e11, -, wa11⟩ := DataW.trod_int Try.underlying3 hy11
  simp only [List.cons.injEq, and_true] at e11
  subst e11
  clear hA0 hval0
  refine (FnExactAsOf_walk a0 cap0 z0 a10 a11 W w0 l0).mono fun e W' ⟨he, bel⟩ => ?_
  subst he
  exact ⟨_, rfl, _, _, _, [], _, [], hW', trodAll_mk1 (shut_bool Try.underlying4 _), (trodAll_cons_mk (Below.trod laidOut (by kernel_rfl) (of_decide_eq_true (by kernel_rfl)) k0 bel lt0) (trodAll_cons_mk (Below.trod laidOut (by kernel_rfl) (of_decide_eq_true (by kernel_rfl)) k1 bel lt1) trodAll_mk0)), rfl, bel.frame _, fun h => by cases h⟩

theorem over : Rows.fnExactAsOfRow.holds Try.pinned (OpenSpec.ofChange Rows.fnExactAsOfSpec) :=
  OpenClaim.holds_of_wide 6 Try.f6 rfl rfl rfl rfl rfl rfl rfl ⟨rfl, rfl, rfl, rfl, rfl⟩ rfl rfl rfl rfl rfl (by kernel_rfl) Try.func6 (by kernel_rfl)
    (of_decide_eq_true (by kernel_rfl)) (by unfold Func.isWrapper; first | (rw [if_pos (by decide +kernel)]; kernel_rfl) | (rw [if_neg (by decide +kernel)]; exact ⟨rfl, rfl⟩))
    (fun os started H enc _ => lifted os started H enc)

/-- THE STATEMENT. -/
theorem proved : Rows.FnExactAsOfSaid := over
end lawFnExactAsOf
end Go.Proofs.Ytcbofgjmkeokfaa
