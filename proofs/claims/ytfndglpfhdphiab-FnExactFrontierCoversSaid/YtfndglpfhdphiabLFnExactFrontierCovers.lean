/- The law FnExactFrontierCovers returns true at every list of times and every time; no condition. -/
import Derived.Test.YtfndglpfhdphiabFrontL
namespace Go.Proofs.Ytfndglpfhdphiab
open Go.ChangeShapes Go.WideShapes Go.ChangeAt Go.RowKit
set_option linter.unusedVariables false
set_option linter.unusedSimpArgs false

set_option maxHeartbeats 2000000 in
theorem FnExactFrontierCovers_walk (A : Option Addr) (c : Nat) (xs : List Tm) (u v : Int) (w : World) (hl : xs.length ≤ maxLen) (hx : TimesAt w A xs) :
    Calls Try.prog 5 #[.slice A xs.length c, .agg #[.int .i64 u, .int .i64 v]] w fun e w' => e = .returned (.bool true) ∧ Below w.heap.size w w' := by
  by_cases hbig : (1048576 : Int) < xs.length
  · go_enter Try.func5, Try.ntmps5
    go_wp2_with fail
    refine (szTimeS_no _ _ _ _ _ (by omega) (by omega) hl hbig).mono ?_
    rintro e w1 ⟨rfl, rfl⟩
    go_wp2_with fail
    go_ret
    exact ⟨rfl, bal (Below.refl _ _) _⟩
  have hs : (xs.length : Int) ≤ 1048576 := by omega
  have hs2 : (0 : Int) ≤ 1048576 - xs.length := by omega
  have hn : xs.length ≤ 4194304 := by omega
  have he : decide (xs = xs) = true := by simp
  clear hbig
  go_enter Try.func5, Try.ntmps5
  go_wp2_with fail
  refine (szTimeS_yes _ _ _ _ _ (by omega) (by omega) hl hs).mono ?_
  rintro e w0 ⟨rfl, rfl⟩
  go_wp2_with fail
  refine abs_world (fun wB => Below w.heap.size w wB ∧ Blk wB w.heap.size 32 #[.int .i64 u, .int .i64 v])
    ⟨bal (Below.refl _ _) _, Blk.newAt rfl⟩ (fun wB hh => ?_)
  obtain ⟨hB, h0⟩ := hh
  refine wp_region_facts [[], [0], [], [2], [1, 3]]
    [fun v' _ => v' = .slice A xs.length c, TimesV wB.heap.size xs, fun v' _ => v' = .agg #[.int .i64 u, .int .i64 v], fun v' _ => v' = .agg #[.int .i64 u, .int .i64 v], fun v' _ => v' = .bool (fcB xs u v)]
    (by kernel_rfl) (by kernel_rfl) rfl ⟨stable_pure _, stable_timesV _ _, stable_pure _, stable_pure _, stable_pure _, trivial⟩ ?_
  refine wf_step (fun w1 hb hf => ?_) (fun t0 => ?_)
  · go_wp2
    exact ⟨rfl, _, rfl, Below.refl _ _, rfl⟩
  refine wf_step (fun w1 hb hf => ?_) (fun t1 => ?_)
  · obtain ⟨rfl, -⟩ := hf
    go_wp2_with (go_at_call 17; refine (toTimeS_any _ _ _ _ (hx.below (btr hB hb)) hn).mono ?_; rintro e w2 ⟨rfl, k2, hb2⟩)
    exact ⟨rfl, _, rfl, hb2, _, rfl, hb.size, k2⟩
  refine wf_step (fun w1 hb hf => ?_) (fun t2 => ?_)
  · have c0 := (h0.below hb).cell
    go_wp2
    exact ⟨rfl, _, rfl, Below.refl _ _, rfl⟩
  refine wf_step (fun w1 hb hf => ?_) (fun t3 => ?_)
  · obtain ⟨rfl, -⟩ := hf
    go_wp2_with (go_at_call 25; refine (toTime_any _ _ _).mono ?_; rintro e w2 ⟨rfl, hb2⟩)
    exact ⟨rfl, _, rfl, hb2, rfl⟩
  refine wf_step (fun w1 hb hf => ?_) (fun t4 => ?_)
  · obtain ⟨⟨b1, rfl, g1, k1⟩, rfl, -⟩ := hf
    go_wp2_with (go_at_call 24; refine (FrontierCovers_s _ _ _ _ _ _ (.ofBlk k1) hn).mono ?_; rintro e w2 ⟨rfl, hb2⟩)
    exact ⟨rfl, _, rfl, hb2, rfl⟩
  refine wf_done (fun wC hb hf => ?_)
  obtain ⟨rfl, ⟨b1, rfl, -, -⟩, rfl, rfl, rfl, -⟩ := hf
  show wpList _ _ _ [_] _ _
  replace hB := btr hB hb
  replace h0 := h0.below hb
  clear hb
  go_wp2_with fail
  refine (toTimeS_any _ _ _ _ (hx.below hB) hn).mono ?_
  rintro e w3 ⟨rfl, k3, b3⟩
  have B3 := btr hB b3
  have c0 := (h0.below b3).cell
  go_wp2_with fail
  refine (toTime_any _ _ _).mono ?_
  rintro e w4 ⟨rfl, b4⟩
  clear c0
  go_wp2_with fail
  refine (FrontierCovers_i _ _ _ _ _ _ (.ofBlk (k3.below b4)) hn).mono ?_
  rintro e w5 ⟨rfl, b5⟩
  have B5 := btr (btr B3 b4) b5
  go_wp2_with fail
  refine (toTimeS_any _ _ _ _ (hx.below B5) hn).mono ?_
  rintro e w6 ⟨rfl, k6, b6⟩
  have B6 := btr B5 b6
  go_wp2_with fail
  refine (eqTimeS_any _ _ _ _ _ _ _ (.ofBlk (k3.below (btr (btr b4 b5) b6))) (.ofBlk k6) hn hn).mono ?_
  rintro e w7 ⟨rfl, b7⟩
  go_wp2_with fail
  go_ret
  exact ⟨rfl, btr B6 b7⟩

namespace lawFnExactFrontierCovers
theorem own : ownKnob Try.prog.godebug = none := by kernel_rfl
theorem laidOut : laidOutB Try.prog = true := by kernel_rfl
set_option maxRecDepth 100000 in
theorem lifted (os : Os) (started : os.Started) (H : Type) (enc : TypeId × Value → H) :
    ReturnsInHanded {} Try.checked os 5 .any (Rows.fnExactFrontierCoversSpec.pre6 enc Try.prog Try.f5 Rows.fnExactFrontierCoversRow.domain false) (Rows.fnExactFrontierCoversSpec.post enc Try.prog Try.f5 false true false false) := by
  refine returnsInHanded_of_change (C := Try.checked) own started (by kernel_rfl) Try.func5
    (ChangeSpec.witness6 (enc := enc) (C := Try.checked) false ⟨#[], #[.slice none 0 0, .agg #[.int .i64 0, .int .i64 0]], []⟩ 8 (by kernel_rfl) (by kernel_rfl) (by kernel_rfl) (by kernel_rfl)) ?_
  intro W base args ds gs before hval0 hW hcnd _
  have hval : ∀ (j : Nat) t v, Try.f5.params[j]? = some t → args[j]? = some v → Value.okWide Try.prog W .any base t v := hval0
  have hW' := hW
  obtain ⟨p, q, hA0, hV, rfl, hfz, hnd⟩ := hW
  have hA : DataW.TrodAll enc Try.prog W 0 (fun _ => true) true Try.f5.params.toList args.toList ds p := hA0
  rw [Try.params5] at hA hval
  obtain ⟨v0, vs0, d0, ds0, p0, q0, hargs, rfl, rfl, h0, r0⟩ := trodAll_cons hA
  obtain ⟨v1, vs1, d1, ds1, p1, q1, rfl, rfl, rfl, h1, r1⟩ := trodAll_cons r0
  obtain ⟨rfl, rfl, rfl⟩ := trodAll_nil r1
  obtain rfl : args = #[v0, v1] := by cases args; simp_all
  obtain ⟨rfl, rfl⟩ := trodVars_none hV
  have k0 := h0
  have lt0 : ∀ x ∈ p0, x.block < W.heap.size := by obtain ⟨m, hm⟩ := k0; exact DataW.trod_lt m _ _ _ hm
  obtain ⟨a0, len0, cap0, rfl⟩ := okWide_slice Try.underlying22 (hval 0 22 v0 rfl rfl)
  obtain ⟨z0, rfl, l0, w0⟩ := times_of Try.underlying22 Try.underlying32 (by kernel_rfl) rfl rfl (by kernel_rfl) (by kernel_rfl) Try.underlying3 Try.underlying3 h0
  have k1 := h1
  have lt1 : ∀ x ∈ p1, x.block < W.heap.size := by obtain ⟨m, hm⟩ := k1; exact DataW.trod_lt m _ _ _ hm
  obtain ⟨c10, c11, y10, y11, m1, rfl, rfl, rfl, hy10, hy11⟩ := Go.Joins.open_agg2 Try.underlying32 (by kernel_rfl) (by kernel_rfl) (hval 1 32 v1 rfl rfl) h1
  obtain ⟨a10, e10, -, wa10⟩ := DataW.trod_int Try.underlying3 hy10
  simp only [List.cons.injEq, and_true] at e10
  subst e10
  obtain ⟨a11, e11, -, wa11⟩ := DataW.trod_int Try.underlying3 hy11
  simp only [List.cons.injEq, and_true] at e11
  subst e11
  clear hA0 hval0
  refine (FnExactFrontierCovers_walk a0 cap0 z0 a10 a11 W l0 w0).mono fun e W' ⟨he, bel⟩ => ?_
  subst he
  exact ⟨_, rfl, _, _, _, [], _, [], hW', trodAll_mk1 (shut_bool Try.underlying4 _), (trodAll_cons_mk (Below.trod laidOut (by kernel_rfl) (of_decide_eq_true (by kernel_rfl)) k0 bel lt0) (trodAll_cons_mk (Below.trod laidOut (by kernel_rfl) (of_decide_eq_true (by kernel_rfl)) k1 bel lt1) trodAll_mk0)), rfl, bel.frame _, fun h => by cases h⟩

theorem over : Rows.fnExactFrontierCoversRow.holds Try.pinned (OpenSpec.ofChange Rows.fnExactFrontierCoversSpec) :=
  OpenClaim.holds_of_wide 5 Try.f5 rfl rfl rfl rfl rfl rfl rfl ⟨rfl, rfl, rfl, rfl, rfl⟩ rfl rfl rfl rfl rfl (by kernel_rfl) Try.func5 (by kernel_rfl)
    (of_decide_eq_true (by kernel_rfl)) (by unfold Func.isWrapper; first | (rw [if_pos (by decide +kernel)]; kernel_rfl) | (rw [if_neg (by decide +kernel)]; exact ⟨rfl, rfl⟩))
    (fun os started H enc _ => lifted os started H enc)

/-- THE STATEMENT. -/
theorem proved : Rows.FnExactFrontierCoversSaid := over
end lawFnExactFrontierCovers
end Go.Proofs.Ytfndglpfhdphiab
