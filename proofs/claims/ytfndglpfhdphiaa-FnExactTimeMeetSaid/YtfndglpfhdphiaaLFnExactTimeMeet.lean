/- The law FnExactTimeMeet returns true at every pair of times; no condition. -/
import Derived.Test.YtfndglpfhdphiaaTimeBase
import Derived.Carry
import Derived.ChangeOld
import Derived.Lib.SmallJoins
namespace Go.Proofs.Ytfndglpfhdphiaa
open Go.ChangeShapes Go.WideShapes Go.ChangeAt Go.RowKit
set_option linter.unusedVariables false
set_option linter.unusedSimpArgs false

set_option maxHeartbeats 2000000 in
theorem FnExactTimeMeet_walk (x y u v : Int) (w : World) : Calls Try.prog 12 #[.agg #[.int .i64 x, .int .i64 y], .agg #[.int .i64 u, .int .i64 v]] w fun e w' => e = .returned (.bool true) ∧ Below w.heap.size w w' := by
  go_enter Try.func12, Try.ntmps12
  go_wp2_with fail
  refine abs_world (fun wB => Below w.heap.size w wB ∧ Blk wB w.heap.size 38 #[.int .i64 x, .int .i64 y] ∧ Blk wB (w.heap.size + 1) 38 #[.int .i64 u, .int .i64 v])
    ⟨bal (bal (Below.refl _ _) _) _, (Blk.newAt rfl).alloc _, Blk.newAt (by simp)⟩ (fun wB hx => ?_)
  obtain ⟨hB, h0, h1⟩ := hx
  refine wp_region_facts [[], [0], [], [2], [1, 3], []]
    [fun v' _ => v' = .agg #[.int .i64 x, .int .i64 y], fun v' _ => v' = .agg #[.int .i64 x, .int .i64 y], fun v' _ => v' = .agg #[.int .i64 u, .int .i64 v], fun v' _ => v' = .agg #[.int .i64 u, .int .i64 v], fun v' _ => v' = .agg #[.int .i64 (min x u), .int .i64 (min y v)], AtBlk wB.heap.size 24 #[.int .i64 0, .int .i64 0]]
    (by kernel_rfl) (by kernel_rfl) rfl ⟨stable_pure _, stable_pure _, stable_pure _, stable_pure _, stable_pure _, stable_atBlk _ _ _, trivial⟩ ?_
  refine wf_step (fun w1 hb hf => ?_) (fun t0 => ?_)
  · have c0 := (h0.below hb).cell
    go_wp2
    exact ⟨rfl, _, rfl, Below.refl _ _, rfl⟩
  refine wf_step (fun w1 hb hf => ?_) (fun t1 => ?_)
  · obtain ⟨rfl, -⟩ := hf
    go_wp2_with (go_at_call 36; refine (toTime_any _ _ _).mono ?_; rintro e w2 ⟨rfl, hb2⟩)
    exact ⟨rfl, _, rfl, hb2, rfl⟩
  refine wf_step (fun w1 hb hf => ?_) (fun t2 => ?_)
  · have c0 := (h1.below hb).cell
    go_wp2
    exact ⟨rfl, _, rfl, Below.refl _ _, rfl⟩
  refine wf_step (fun w1 hb hf => ?_) (fun t3 => ?_)
  · obtain ⟨rfl, -⟩ := hf
    go_wp2_with (go_at_call 36; refine (toTime_any _ _ _).mono ?_; rintro e w2 ⟨rfl, hb2⟩)
    exact ⟨rfl, _, rfl, hb2, rfl⟩
  refine wf_step (fun w1 hb hf => ?_) (fun t4 => ?_)
  · obtain ⟨rfl, rfl, -⟩ := hf
    go_wp2_with (go_at_call 23; refine (TimeMeet_s _ _ _ _ _).mono ?_; rintro e w2 ⟨rfl, hb2⟩)
    exact ⟨rfl, _, rfl, hb2, rfl⟩
  refine wf_step (fun w1 hb hf => ?_) (fun t5 => ?_)
  · go_wp2
    exact ⟨rfl, _, rfl, bal (Below.refl _ _) _, _, rfl, hb.size, Blk.newAt rfl⟩
  refine wf_done (fun wC hb hf => ?_)
  obtain ⟨rfl, rfl, rfl, rfl, rfl, ⟨b0, rfl, hle0, k0⟩, -⟩ := hf
  show wpList _ _ _ [_] _ _
  refine wpList_frame (by simp [Act.put]; rfl) ?_
  refine wpList_abs (fun wB => Below w.heap.size w wB ∧ Blk wB w.heap.size 38 #[.int .i64 x, .int .i64 y] ∧ Blk wB (w.heap.size + 1) 38 #[.int .i64 u, .int .i64 v] ∧ Blk wB b0 24 #[.int .i64 (min x u), .int .i64 (min y v)]) ?_ (fun wB hx => ?_)
  · have c5 := k0.cell
    have f5 := k0.frozen
    go_wp2
    exact ⟨rfl, rfl, ⟨bset (bset (btr hB hb) (Nat.le_trans hB.size hle0) _) (Nat.le_trans hB.size hle0) _, ((h0.below hb).far (by have := h0.lt; simp; omega) _).far (by have := h0.lt; simp; omega) _, ((h1.below hb).far (by have := h1.lt; simp; omega) _).far (by have := h1.lt; simp; omega) _, (k0.set_ 0 _).set_ 1 _⟩⟩
  obtain ⟨hB, h0, h1, g0⟩ := hx
  go_wp2_with fail
  refine wp_region_facts [[], [0], [], [2], [1, 3], []]
    [fun v' _ => v' = .agg #[.int .i64 x, .int .i64 y], fun v' _ => v' = .agg #[.int .i64 x, .int .i64 y], fun v' _ => v' = .agg #[.int .i64 u, .int .i64 v], fun v' _ => v' = .agg #[.int .i64 u, .int .i64 v], fun v' _ => v' = .agg #[.int .i64 (min x u), .int .i64 (min y v)], AtBlk wB.heap.size 24 #[.int .i64 0, .int .i64 0]]
    (by kernel_rfl) (by kernel_rfl) rfl ⟨stable_pure _, stable_pure _, stable_pure _, stable_pure _, stable_pure _, stable_atBlk _ _ _, trivial⟩ ?_
  refine wf_step (fun w1 hb hf => ?_) (fun t0 => ?_)
  · have c0 := (h0.below hb).cell
    go_wp2
    exact ⟨rfl, _, rfl, Below.refl _ _, rfl⟩
  refine wf_step (fun w1 hb hf => ?_) (fun t1 => ?_)
  · obtain ⟨rfl, -⟩ := hf
    go_wp2_with (go_at_call 36; refine (toTime_any _ _ _).mono ?_; rintro e w2 ⟨rfl, hb2⟩)
    exact ⟨rfl, _, rfl, hb2, rfl⟩
  refine wf_step (fun w1 hb hf => ?_) (fun t2 => ?_)
  · have c0 := (h1.below hb).cell
    go_wp2
    exact ⟨rfl, _, rfl, Below.refl _ _, rfl⟩
  refine wf_step (fun w1 hb hf => ?_) (fun t3 => ?_)
  · obtain ⟨rfl, -⟩ := hf
    go_wp2_with (go_at_call 36; refine (toTime_any _ _ _).mono ?_; rintro e w2 ⟨rfl, hb2⟩)
    exact ⟨rfl, _, rfl, hb2, rfl⟩
  refine wf_step (fun w1 hb hf => ?_) (fun t4 => ?_)
  · obtain ⟨rfl, rfl, -⟩ := hf
    go_wp2_with (go_at_call 21; refine (TimeMeet_i _ _ _ _ _).mono ?_; rintro e w2 ⟨rfl, hb2⟩)
    exact ⟨rfl, _, rfl, hb2, rfl⟩
  refine wf_step (fun w1 hb hf => ?_) (fun t5 => ?_)
  · go_wp2
    exact ⟨rfl, _, rfl, bal (Below.refl _ _) _, _, rfl, hb.size, Blk.newAt rfl⟩
  refine wf_done (fun wC hb hf => ?_)
  obtain ⟨rfl, rfl, rfl, rfl, rfl, ⟨b1, rfl, hle1, k1⟩, -⟩ := hf
  show wpList _ _ _ [_] _ _
  refine wpList_frame (by simp [Act.put]; rfl) ?_
  refine wpList_abs (fun wB => Below w.heap.size w wB ∧ Blk wB w.heap.size 38 #[.int .i64 x, .int .i64 y] ∧ Blk wB (w.heap.size + 1) 38 #[.int .i64 u, .int .i64 v] ∧ Blk wB b0 24 #[.int .i64 (min x u), .int .i64 (min y v)] ∧ Blk wB b1 24 #[.int .i64 (min x u), .int .i64 (min y v)]) ?_ (fun wB hx => ?_)
  · have c5 := k1.cell
    have f5 := k1.frozen
    go_wp2
    exact ⟨rfl, rfl, ⟨bset (bset (btr hB hb) (Nat.le_trans hB.size hle1) _) (Nat.le_trans hB.size hle1) _, ((h0.below hb).far (by have := h0.lt; simp; omega) _).far (by have := h0.lt; simp; omega) _, ((h1.below hb).far (by have := h1.lt; simp; omega) _).far (by have := h1.lt; simp; omega) _, ((g0.below hb).far (by have := g0.lt; simp; omega) _).far (by have := g0.lt; simp; omega) _, (k1.set_ 0 _).set_ 1 _⟩⟩
  obtain ⟨hB, h0, h1, g0, g1⟩ := hx
  have c0 := g0.cell
  have c1 := g1.cell
  have he : eqB ((min x u)) ((min y v)) ((min x u)) ((min y v)) = true := by simp [eqB]
  go_wp2_with (go_at_call 39; refine (eqTime_any _ _ _ _ _).mono ?_; rintro e w2 ⟨rfl, hb2⟩)
  go_ret
  exact ⟨rfl, btr hB hb2⟩

namespace lawFnExactTimeMeet
theorem own : ownKnob Try.prog.godebug = none := by kernel_rfl
theorem laidOut : laidOutB Try.prog = true := by kernel_rfl
set_option maxRecDepth 100000 in
theorem lifted (os : Os) (started : os.Started) (H : Type) (enc : TypeId × Value → H) :
    ReturnsInHanded {} Try.checked os 12 .any (Rows.fnExactTimeMeetSpec.pre6 enc Try.prog Try.f12 Rows.fnExactTimeMeetRow.domain false) (Rows.fnExactTimeMeetSpec.post enc Try.prog Try.f12 false true false false) := by
  refine returnsInHanded_of_change (C := Try.checked) own started (by kernel_rfl) Try.func12
    (ChangeSpec.witness6 (enc := enc) (C := Try.checked) false ⟨#[], #[.agg #[.int .i64 0, .int .i64 0], .agg #[.int .i64 0, .int .i64 0]], []⟩ 8 (by kernel_rfl) (by kernel_rfl) (by kernel_rfl) (by kernel_rfl)) ?_
  intro W base args ds gs before hval0 hW hcnd _
  have hval : ∀ (j : Nat) t v, Try.f12.params[j]? = some t → args[j]? = some v → Value.okWide Try.prog W .any base t v := hval0
  have hW' := hW
  obtain ⟨p, q, hA0, hV, rfl, hfz, hnd⟩ := hW
  have hA : DataW.TrodAll enc Try.prog W 0 (fun _ => true) true Try.f12.params.toList args.toList ds p := hA0
  rw [Try.params12] at hA hval
  obtain ⟨v0, vs0, d0, ds0, p0, q0, hargs, rfl, rfl, h0, r0⟩ := trodAll_cons hA
  obtain ⟨v1, vs1, d1, ds1, p1, q1, rfl, rfl, rfl, h1, r1⟩ := trodAll_cons r0
  obtain ⟨rfl, rfl, rfl⟩ := trodAll_nil r1
  obtain rfl : args = #[v0, v1] := by cases args; simp_all
  obtain ⟨rfl, rfl⟩ := trodVars_none hV
  have k0 := h0
  have lt0 : ∀ x ∈ p0, x.block < W.heap.size := by obtain ⟨m, hm⟩ := k0; exact DataW.trod_lt m _ _ _ hm
  obtain ⟨c00, c01, y00, y01, m0, rfl, rfl, rfl, hy00, hy01⟩ := Go.Joins.open_agg2 Try.underlying38 (by kernel_rfl) (by kernel_rfl) (hval 0 38 v0 rfl rfl) h0
  obtain ⟨a00, e00, -, wa00⟩ := DataW.trod_int Try.underlying3 hy00
  simp only [List.cons.injEq, and_true] at e00
  subst e00
  obtain ⟨a01, e01, -, wa01⟩ := DataW.trod_int Try.underlying3 hy01
  simp only [List.cons.injEq, and_true] at e01
  subst e01
  have k1 := h1
  have lt1 : ∀ x ∈ p1, x.block < W.heap.size := by obtain ⟨m, hm⟩ := k1; exact DataW.trod_lt m _ _ _ hm
  obtain ⟨c10, c11, y10, y11, m1, rfl, rfl, rfl, hy10, hy11⟩ := Go.Joins.open_agg2 Try.underlying38 (by kernel_rfl) (by kernel_rfl) (hval 1 38 v1 rfl rfl) h1
  obtain ⟨a10, e10, -, wa10⟩ := DataW.trod_int Try.underlying3 hy10
  simp only [List.cons.injEq, and_true] at e10
  subst e10
  obtain ⟨a11, e11, -, wa11⟩ := DataW.trod_int Try.underlying3 hy11
  simp only [List.cons.injEq, and_true] at e11
  subst e11
  clear hA0 hval0
  refine (FnExactTimeMeet_walk a00 a01 a10 a11 W).mono fun e W' ⟨he, bel⟩ => ?_
  subst he
  exact ⟨_, rfl, _, _, _, [], _, [], hW', trodAll_mk1 (shut_bool Try.underlying4 _), (trodAll_cons_mk (Below.trod laidOut (by kernel_rfl) (of_decide_eq_true (by kernel_rfl)) k0 bel lt0) (trodAll_cons_mk (Below.trod laidOut (by kernel_rfl) (of_decide_eq_true (by kernel_rfl)) k1 bel lt1) trodAll_mk0)), rfl, bel.frame _, fun h => by cases h⟩

theorem over : Rows.fnExactTimeMeetRow.holds Try.pinned (OpenSpec.ofChange Rows.fnExactTimeMeetSpec) :=
  OpenClaim.holds_of_wide 12 Try.f12 rfl rfl rfl rfl rfl rfl rfl ⟨rfl, rfl, rfl, rfl, rfl⟩ rfl rfl rfl rfl rfl (by kernel_rfl) Try.func12 (by kernel_rfl)
    (of_decide_eq_true (by kernel_rfl)) (by unfold Func.isWrapper; first | (rw [if_pos (by decide +kernel)]; kernel_rfl) | (rw [if_neg (by decide +kernel)]; exact ⟨rfl, rfl⟩))
    (fun os started H enc _ => lifted os started H enc)

/-- THE STATEMENT. -/
theorem proved : Rows.FnExactTimeMeetSaid := over
end lawFnExactTimeMeet
end Go.Proofs.Ytfndglpfhdphiaa
