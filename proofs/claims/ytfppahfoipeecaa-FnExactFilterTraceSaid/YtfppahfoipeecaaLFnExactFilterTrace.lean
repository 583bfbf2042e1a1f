/- The law FnExactFilterTrace returns true at every argument; no condition. -/
import Derived.Test.YtfppahfoipeecaaEntM
import Derived.Test.YtfppahfoipeecaaUpdL
import Derived.Test.YtfppahfoipeecaaUpdM
import Derived.Test.YtfppahfoipeecaaFilU
import Derived.Test.YtfppahfoipeecaaClo
import Derived.Carry
import Derived.ChangeOld
import Derived.Lib.SmallJoins
namespace Go.Proofs.Ytfppahfoipeecaa
open Go.ChangeShapes Go.WideShapes Go.ChangeAt Go.RowKit
set_option linter.unusedVariables false
set_option linter.unusedSimpArgs false
theorem absC {P : Program} {f : FuncId} {args : Array Value} {w : World} {Q : Ending → World → Prop} (R : World → Prop) (h : R w) (k : ∀ W, R W → Calls P f args W Q) : Calls P f args w Q := k w h
def UpdsV (z : List Upd) (v : Value) (w : World) : Prop := ∃ A c, v = .slice A z.length c ∧ UpdsAt w A z
theorem stable_UpdsV (z : List Upd) : Stable (UpdsV z) := fun _ _ _ hb ⟨A, c, e, h⟩ => ⟨A, c, e, h.below updR hb⟩
def ResU (w0 : World) (z : List Upd) (v : Value) (w : World) : Prop := ∃ A c, v = .slice A z.length c ∧ UpdsOw w (news w0 w) A c z
theorem stable_ResU (w0 : World) (z : List Upd) : Stable (ResU w0 z) := fun _ _ _ hb ⟨A, c, e, h⟩ => ⟨A, c, e, (h.below updO hb).mono (fun _ hq => ⟨hq.1, Nat.lt_of_lt_of_le hq.2 hb.size⟩) (fun _ hq => hq.2)⟩

set_option maxHeartbeats 12800000 in
theorem FnExactFilterTrace_walk (A0 : Option Addr) (c0 : Nat) (z0 : List Upd) (p1c p1k p1v : Int) (wz : World) (hx0 : UpdsAt wz A0 z0) (hm0 : z0.length ≤ maxLen) :
    Calls Try.prog 4 #[.slice A0 z0.length c0, .agg #[.int .i64 p1c, .int .i64 p1k, .int .i64 p1v]] wz fun e w' => e = .returned (.bool true) ∧ Below wz.heap.size wz w' := by
  have nn0 := updSz_nn z0
  by_cases s0 : 1048576 < updSz z0
  · go_enter Try.func4, Try.ntmps4
    go_wp2_with fail
    refine absC (fun W => Below wz.heap.size wz W ∧ Blk W wz.heap.size 32 #[.int .i64 p1c, .int .i64 p1k, .int .i64 p1v]) ⟨(bal (Below.refl _ _) _), (Blk.newAt rfl)⟩ ?_
    rintro w ⟨hBz, hk1⟩
    have hx0 : UpdsAt w A0 z0 := hx0.below updR hBz
    refine (szUpdateS_no _ _ z0 _ _ hx0 (by omega) (by omega) hm0 s0).mono ?_
    rintro e q0 ⟨rfl, p0⟩
    go_wp2_with fail
    go_ret
    exact ⟨rfl, btr hBz (p0)⟩
  have l0 : updSz z0 ≤ 1048576 := by omega
  have n0 : z0.length ≤ 4194304 := by have := updSz_len l0; omega
  have m0 : z0.length ≤ 2097152 := by have := updSz_len l0; omega
  have r0 : rowsU z0 4194304 := updSz_row (by omega)
  have fl : (FilFU z0 p1c p1k p1v).length ≤ 4194304 := by have := FilFU_len z0 p1c p1k p1v; omega
  have fr : rowsU (FilFU z0 p1c p1k p1v) 4194304 := fun e he => by have := FilFU_row z0 p1c p1k p1v e he; omega
  have conW := fun (A0 : Option Addr) (c0 : Nat) (w : World) (h0 : UpdsAt w A0 z0)  => FilterTrace_s A0 c0 z0 p1c p1k p1v w h0  n0 r0
  have conG := fun (A0 : Option Addr) (c0 : Nat) (w : World) (h0 : UpdsAt w A0 z0)  => FilterTrace_i A0 c0 z0 p1c p1k p1v w h0  n0 r0
  generalize FilFU z0 p1c p1k p1v = Z at fl fr conW conG
  have fc := cntU_bd fl fr
  have cb0 := cntU_bd n0 r0
  go_enter Try.func4, Try.ntmps4
  go_wp2_with fail
  refine absC (fun W => Below wz.heap.size wz W ∧ Blk W wz.heap.size 32 #[.int .i64 p1c, .int .i64 p1k, .int .i64 p1v]) ⟨(bal (Below.refl _ _) _), (Blk.newAt rfl)⟩ ?_
  rintro w ⟨hBz, hk1⟩
  have hx0 : UpdsAt w A0 z0 := hx0.below updR hBz
  refine (szUpdateS_yes _ _ z0 _ _ hx0 (by omega) (by omega) hm0 (by omega)).mono ?_
  rintro e w1 ⟨rfl, b1⟩
  have B1 := b1
  go_wp2_with fail
  refine wp_region_facts [[], [0], [], [0, 1, 2], [0, 1, 2, 3]]
    [fun v' _ => v' = .slice A0 z0.length c0, UpdsV z0, fun v' _ => v' = .agg #[.int .i64 p1c, .int .i64 p1k, .int .i64 p1v], fun v' _ => v' = .agg #[.int .i64 p1c, .int .i64 p1k, .int .i64 p1v], ResU w1 Z]
    (by kernel_rfl) (by kernel_rfl) rfl ⟨stable_pure _, stable_UpdsV _, stable_pure _, stable_pure _, stable_ResU _ _, trivial⟩ ?_
  refine wf_step (fun wf hb hf => ?_) (fun t0 => ?_)
  · go_wp2
    exact ⟨rfl, _, rfl, Below.refl _ _, rfl⟩
  refine wf_step (fun wf hb hf => ?_) (fun t1 => ?_)
  · obtain ⟨rfl, -⟩ := hf
    go_wp2_with (go_at_call 24; refine (toUpdateS_any _ _ z0 _ ((hx0.below updR b1).below updR hb) m0 r0).mono ?_; rintro e w2 ⟨rfl, ho, hb2⟩)
    exact ⟨rfl, _, rfl, hb2, _, _, rfl, UpdsOw.at_ ho⟩
  refine wf_step (fun wf hb hf => ?_) (fun t2 => ?_)
  · have pc0 := ((hk1.below b1).below hb).cell 0
    have pc1 := ((hk1.below b1).below hb).cell 1
    have pc2 := ((hk1.below b1).below hb).cell 2
    simp at pc0 pc1 pc2
    go_wp2
    exact ⟨rfl, _, rfl, Below.refl _ _, rfl⟩
  refine wf_step (fun wf hb hf => ?_) (fun t3 => ?_)
  · obtain ⟨-, -, rfl, -⟩ := hf
    go_wp2_with (go_at_call 25; refine (toPredicate_any _ _ _ _).mono ?_; rintro e w2 ⟨rfl, hb2⟩)
    exact ⟨rfl, _, rfl, hb2, rfl⟩
  refine wf_step (fun wf hb hf => ?_) (fun t4 => ?_)
  · obtain ⟨-, ⟨X0, d0, rfl, ha0⟩, -, rfl, -⟩ := hf
    go_wp2_with fail
    refine (conW _ _ _ ha0).mono ?_
    rintro e w2 ⟨AR, cR, rfl, hR, hb2⟩
    go_wp2
    exact ⟨rfl, _, rfl, hb2, AR, cR, rfl, hR.mono (fun _ hq => ⟨Nat.le_trans hb.size hq.1, hq.2⟩) (fun _ hq => hq.2)⟩
  refine wf_done (fun w2 b2 hf => ?_)
  obtain ⟨rfl, ⟨Y1, y1, rfl, -⟩, rfl, rfl, ⟨AW, cW, rfl, kW⟩, -⟩ := hf
  show wpList _ _ _ [_] _ _
  refine wpList_frame (by simp [Act.put]; rfl) ?_
  have B2 := btr B1 b2
  have aW := UpdsOw.at_ kW
  go_wp2_with fail
  refine (toUpdateS_any _ _ z0 _ (hx0.below updR (btr b1 b2)) m0 r0).mono ?_
  rintro e w3 ⟨rfl, ki0, b3⟩
  have B3 := btr B2 b3
  have ai0 := UpdsOw.at_ ki0
  have pc0 := (hk1.below (btr (btr b1 b2) b3)).cell 0
  have pc1 := (hk1.below (btr (btr b1 b2) b3)).cell 1
  have pc2 := (hk1.below (btr (btr b1 b2) b3)).cell 2
  simp at pc0 pc1 pc2
  go_wp2_with fail
  refine (toPredicate_any _ _ _ _).mono ?_
  rintro e w4 ⟨rfl, b4⟩
  have B4 := btr B3 b4
  clear pc0 pc1 pc2
  go_wp2_with fail
  refine (conG _ _ _ (ai0.below updR b4)).mono ?_
  rintro e w5 ⟨AG, cG, rfl, kG, b5⟩
  have B5 := btr B4 b5
  have aG := UpdsOw.at_ kG
  have tZ : decide (Z = Z) = true := by simp
  go_wp2_with fail
  refine (eqUpdateS_any _ _ _ _ Z Z _ aG (aW.below updR (btr (btr b3 b4) b5)) fl fl fr fr).mono ?_
  rintro e w6 ⟨rfl, b6⟩
  have B6 := btr B5 b6
  go_wp2_with fail
  refine (toUpdateS_any _ _ z0 _ (hx0.below updR (btr (btr (btr (btr (btr b1 b2) b3) b4) b5) b6)) m0 r0).mono ?_
  rintro e w7 ⟨rfl, kc0, b7⟩
  have B7 := btr B6 b7
  have ac0 := UpdsOw.at_ kc0
  have t0 : decide (z0 = z0) = true := by simp
  go_wp2_with fail
  refine (eqUpdateS_any _ _ _ _ z0 z0 _ (ai0.below updR (btr (btr (btr b4 b5) b6) b7)) ac0 n0 n0 r0 r0).mono ?_
  rintro e w8 ⟨rfl, b8⟩
  have B8 := btr B7 b8
  go_wp2_with fail
  refine (markUpdateS_any _ _ _ z0 _ _ (ki0.below updO (btr (btr (btr (btr b4 b5) b6) b7) b8)) n0 r0 (by omega) (by omega)).mono ?_
  rintro e w9 ⟨rfl, mk0, g9⟩
  have D0_9 : Below w.heap.size w w9 := g9.below (btr (btr (btr (btr (btr (btr (btr b1 b2) b3) b4) b5) b6) b7) b8) (fun q hq => Nat.le_trans ((btr b1 b2)).size hq.1)
  have D2_9 : Below w2.heap.size w2 w9 := g9.below (btr (btr (btr (btr (btr b3 b4) b5) b6) b7) b8) (fun q hq => Nat.le_trans (Nat.le_refl w2.heap.size) hq.1)
  have kG_9 := (kG.below updO (btr (btr b6 b7) b8)).kept updO g9 (fun q hq hr => by have h3 := (b4).size; have h1 := hq.1; have h2 := hr.2; omega)
  have B9 := D0_9
  have aG2 := UpdsOw.at_ kG_9
  go_wp2_with fail
  refine (eqUpdateS_any _ _ _ _ Z Z _ aG2 (aW.below updR D2_9) fl fl fr fr).mono ?_
  rintro e w10 ⟨rfl, b10⟩
  have B10 := btr B9 b10
  go_wp2_with fail
  refine (markUpdateS_any _ _ _ Z _ _ (kG_9.below updO b10) fl fr (by omega) (by omega)).mono ?_
  rintro e w11 ⟨rfl, kM, g11⟩
  have D0_11 : Below w.heap.size w w11 := g11.below (btr D0_9 b10) (fun q hq => Nat.le_trans ((btr (btr (btr b1 b2) b3) b4)).size hq.1)
  have D2_11 : Below w2.heap.size w2 w11 := g11.below (btr D2_9 b10) (fun q hq => Nat.le_trans ((btr b3 b4)).size hq.1)
  have B11 := D0_11
  go_wp2_with fail
  refine (heldUpdateS_any _ _ Z 1 _ (UpdsOw.at_ kM) fl fr (by omega) (by omega)).mono ?_
  rintro e wsame ⟨rfl, rfl⟩
  go_wp2_with fail
  refine wp_region_facts [[], [0], [], [0, 1, 2], [0, 1, 2, 3]]
    [fun v' _ => v' = .slice A0 z0.length c0, UpdsV z0, fun v' _ => v' = .agg #[.int .i64 p1c, .int .i64 p1k, .int .i64 p1v], fun v' _ => v' = .agg #[.int .i64 p1c, .int .i64 p1k, .int .i64 p1v], ResU w11 Z]
    (by kernel_rfl) (by kernel_rfl) rfl ⟨stable_pure _, stable_UpdsV _, stable_pure _, stable_pure _, stable_ResU _ _, trivial⟩ ?_
  refine wf_step (fun wf hb hf => ?_) (fun t0 => ?_)
  · go_wp2
    exact ⟨rfl, _, rfl, Below.refl _ _, rfl⟩
  refine wf_step (fun wf hb hf => ?_) (fun t1 => ?_)
  · obtain ⟨rfl, -⟩ := hf
    go_wp2_with (go_at_call 24; refine (toUpdateS_any _ _ z0 _ ((hx0.below updR D0_11).below updR hb) m0 r0).mono ?_; rintro e w2 ⟨rfl, ho, hb2⟩)
    exact ⟨rfl, _, rfl, hb2, _, _, rfl, UpdsOw.at_ ho⟩
  refine wf_step (fun wf hb hf => ?_) (fun t2 => ?_)
  · have pc0 := ((hk1.below D0_11).below hb).cell 0
    have pc1 := ((hk1.below D0_11).below hb).cell 1
    have pc2 := ((hk1.below D0_11).below hb).cell 2
    simp at pc0 pc1 pc2
    go_wp2
    exact ⟨rfl, _, rfl, Below.refl _ _, rfl⟩
  refine wf_step (fun wf hb hf => ?_) (fun t3 => ?_)
  · obtain ⟨-, -, rfl, -⟩ := hf
    go_wp2_with (go_at_call 25; refine (toPredicate_any _ _ _ _).mono ?_; rintro e w2 ⟨rfl, hb2⟩)
    exact ⟨rfl, _, rfl, hb2, rfl⟩
  refine wf_step (fun wf hb hf => ?_) (fun t4 => ?_)
  · obtain ⟨-, ⟨X0, d0, rfl, ha0⟩, -, rfl, -⟩ := hf
    go_wp2_with fail
    refine (conG _ _ _ ha0).mono ?_
    rintro e w2 ⟨AR, cR, rfl, hR, hb2⟩
    go_wp2
    exact ⟨rfl, _, rfl, hb2, AR, cR, rfl, hR.mono (fun _ hq => ⟨Nat.le_trans hb.size hq.1, hq.2⟩) (fun _ hq => hq.2)⟩
  refine wf_done (fun w12 b12 hf => ?_)
  obtain ⟨rfl, ⟨Y1, y1, rfl, -⟩, rfl, rfl, ⟨AH, cH, rfl, kH⟩, -⟩ := hf
  show wpList _ _ _ [_] _ _
  refine wpList_frame (by simp [Act.put]; rfl) ?_
  have B12 := btr B11 b12
  have aH := UpdsOw.at_ kH
  go_wp2_with fail
  refine (eqUpdateS_any _ _ _ _ Z Z _ aH (aW.below updR (btr D2_11 b12)) fl fl fr fr).mono ?_
  rintro e w13 ⟨rfl, b13⟩
  have B13 := btr B12 b13
  go_wp2_with fail
  refine (heldUpdateS_any _ _ Z 1 _ (UpdsOw.at_ (kM.below updO (btr b12 b13))) fl fr (by omega) (by omega)).mono ?_
  rintro e wsame ⟨rfl, rfl⟩
  go_wp2_with fail
  go_ret
  exact ⟨rfl, btr hBz (B13)⟩

namespace lawFnExactFilterTrace
theorem own : ownKnob Try.prog.godebug = none := by kernel_rfl
theorem laidOut : laidOutB Try.prog = true := clo_laid
set_option maxRecDepth 100000 in
theorem lifted (os : Os) (started : os.Started) (H : Type) (enc : TypeId × Value → H) :
    ReturnsInHanded {} Try.checked os 4 .any (Rows.fnExactFilterTraceSpec.pre6 enc Try.prog Try.f4 Rows.fnExactFilterTraceRow.domain false) (Rows.fnExactFilterTraceSpec.post enc Try.prog Try.f4 false true false false) := by
  refine returnsInHanded_of_change (C := Try.checked) own started (by kernel_rfl) Try.func4
    (ChangeSpec.witness6 (enc := enc) (C := Try.checked) false ⟨#[], #[.slice none 0 0, .agg #[.int .i64 0, .int .i64 0, .int .i64 0]], []⟩ 8 (by kernel_rfl) (by kernel_rfl) (by kernel_rfl) (by kernel_rfl)) ?_
  intro W base args ds gs before hval0 hW hcnd _
  have hval : ∀ (j : Nat) t v, Try.f4.params[j]? = some t → args[j]? = some v → Value.okWide Try.prog W .any base t v := hval0
  have hW' := hW
  obtain ⟨p, q, hA0, hV, rfl, hfz, hnd⟩ := hW
  have hA : DataW.TrodAll enc Try.prog W 0 (fun _ => true) true Try.f4.params.toList args.toList ds p := hA0
  rw [Try.params4] at hA hval
  obtain ⟨v0, vs0, d0, ds0, p0, q0, hargs, rfl, rfl, h0, r0⟩ := trodAll_cons hA
  obtain ⟨v1, vs1, d1, ds1, p1, q1, rfl, rfl, rfl, h1, r1⟩ := trodAll_cons r0
  obtain ⟨rfl, rfl, rfl⟩ := trodAll_nil r1
  obtain rfl : args = #[v0, v1] := by cases args; simp_all
  obtain ⟨rfl, rfl⟩ := trodVars_none hV
  have k0 := h0
  have lt0 : ∀ x ∈ p0, x.block < W.heap.size := by obtain ⟨m, hm⟩ := k0; exact DataW.trod_lt m _ _ _ hm
  obtain ⟨a0, len0, cap0, rfl⟩ := okWide_slice Try.underlying30 (hval 0 30 v0 rfl rfl)
  obtain ⟨z0, rfl, l0, w0⟩ := updates_of h0
  have k1 := h1
  have lt1 : ∀ x ∈ p1, x.block < W.heap.size := by obtain ⟨m, hm⟩ := k1; exact DataW.trod_lt m _ _ _ hm
  obtain ⟨c10, c11, c12, y10, y11, y12, m1, rfl, rfl, rfl, hy10, hy11, hy12⟩ := Go.Joins.open_agg3 Try.underlying32 (by kernel_rfl) (by kernel_rfl) (hval 1 32 v1 rfl rfl) h1
  obtain ⟨a10, e10, -, wa10⟩ := DataW.trod_int Try.underlying3 hy10
  simp only [List.cons.injEq, and_true] at e10
  subst e10
  obtain ⟨a11, e11, -, wa11⟩ := DataW.trod_int Try.underlying3 hy11
  simp only [List.cons.injEq, and_true] at e11
  subst e11
  obtain ⟨a12, e12, -, wa12⟩ := DataW.trod_int Try.underlying3 hy12
  simp only [List.cons.injEq, and_true] at e12
  subst e12
  clear hA0 hval0
  refine (FnExactFilterTrace_walk a0 cap0 z0 a10 a11 a12 W w0 l0).mono fun e W' ⟨he, bel⟩ => ?_
  subst he
  exact ⟨_, rfl, _, _, _, [], _, [], hW', trodAll_mk1 (shut_bool Try.underlying4 _), (trodAll_cons_mk (Below.trod laidOut (by kernel_rfl) (of_decide_eq_true (by kernel_rfl)) k0 bel lt0) (trodAll_cons_mk (Below.trod laidOut (by kernel_rfl) (of_decide_eq_true (by kernel_rfl)) k1 bel lt1) trodAll_mk0)), rfl, bel.frame _, fun h => by cases h⟩
theorem andTT {a b : Bool} (h1 : a = true) (h2 : b = true) : (a && b) = true := by rw [h1, h2]; rfl
set_option maxHeartbeats 8000000 in
theorem closed : joinedFacts Try.prog 4 Try.f4 Rows.fnExactFilterTraceSpec Rows.fnExactFilterTraceRow = true := by
  unfold joinedFacts
  repeat' (with_reducible refine andTT ?_ ?_)
  all_goals (first | (with_reducible exact clo_laid) | (with_reducible exact clo_maps) | (with_reducible exact clo_heard) | (with_reducible exact clo_enter) | ((with_reducible refine clo_plain _ ?_); rfl) | ((with_reducible refine clo_lifts _ ?_); rfl) | (as_aux_lemma => kernel_rfl))

theorem over : Rows.fnExactFilterTraceRow.holds Try.pinned (OpenSpec.ofChange Rows.fnExactFilterTraceSpec) :=
  OpenClaim.holds_of_wide 4 Try.f4 rfl rfl rfl rfl rfl rfl rfl ⟨rfl, rfl, rfl, rfl, rfl⟩ rfl rfl rfl rfl rfl (by kernel_rfl) Try.func4 closed
    (of_decide_eq_true (by kernel_rfl)) (by unfold Func.isWrapper; first | (rw [if_pos (by decide +kernel)]; kernel_rfl) | (rw [if_neg (by decide +kernel)]; exact ⟨rfl, rfl⟩))
    (fun os started H enc _ => lifted os started H enc)

/-- THE STATEMENT. -/
theorem proved : Rows.FnExactFilterTraceSaid := over
end lawFnExactFilterTrace
end Go.Proofs.Ytfppahfoipeecaa
