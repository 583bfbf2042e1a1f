/- The law FnExactShardOf returns true at every argument; no condition. -/
import Derived.Test.YtjikdlldochhcabSho
import Derived.Test.YtjikdlldochhcabClo
import Derived.Carry
import Derived.ChangeOld
import Derived.Lib.SmallJoins
namespace Go.Proofs.Ytjikdlldochhcab
open Go.ChangeShapes Go.WideShapes Go.ChangeAt Go.RowKit
set_option linter.unusedVariables false
set_option linter.unusedSimpArgs false

set_option maxHeartbeats 1600000 in
theorem FnExactShardOf_walk (A : Option Addr) (c : Nat) (xs : List Int) (k n : Int) (w : World) (hx : IntsAt w A xs) (hk0 : (Lit.int IntKind.i64 k).wf = true) (hn0 : (Lit.int IntKind.i64 n).wf = true) :
    Calls Try.prog 3 #[.slice A xs.length c, .int .i64 k, .int .i64 n] w fun e w' => e = .returned (.bool true) ∧ Below w.heap.size w w' := by
  by_cases hbig : 1048576 < xs.length
  · have hb' : (1048576 : Int) < xs.length := by omega
    go_enter Try.func3, Try.ntmps3
    go_wp2
    go_ret
    exact ⟨rfl, Below.refl _ _⟩
  have hb' : (xs.length : Int) ≤ 1048576 := by omega
  have hn : xs.length * 8 ≤ 140737488351232 := by omega
  have conW := fun (A : Option Addr) (c : Nat) (W : World) (h : IntsAt W A xs) => ShardOf_s A c xs k n W h hn
  have conG := fun (A : Option Addr) (W : World) (h : IntsAt W A xs) => ShardOf_i A xs.length xs k n W h (Nat.le_refl _) (by unfold maxLen; omega) hn
  generalize shF xs k n = R at conW conG
  go_enter Try.func3, Try.ntmps3
  go_wp2_with fail
  refine (toIntS_any _ _ _ _ hx hn).mono ?_
  rintro e w1 ⟨rfl, k1, b1⟩
  go_wp2_with fail
  refine (conW _ _ _ (.ofBlk k1)).mono ?_
  rintro e w2 ⟨rfl, b2⟩
  have B2 := btr b1 b2
  go_wp2_with fail
  refine (toIntS_any _ _ _ _ (hx.below B2) hn).mono ?_
  rintro e w3 ⟨rfl, k3, b3⟩
  have B3 := btr B2 b3
  go_wp2_with fail
  refine (conG _ _ (.ofBlk k3)).mono ?_
  rintro e w4 ⟨rfl, b4⟩
  have B4 := btr B3 b4
  have k4 := k3.below b4
  have hRR : (R != R) = false := by simp
  go_wp2_with fail
  refine (toIntS_any _ _ _ _ (hx.below B4) hn).mono ?_
  rintro e w5 ⟨rfl, k5, b5⟩
  have B5 := btr B4 b5
  have he : decide (xs = xs) = true := by simp
  go_wp2_with fail
  refine (eqIntS_any _ _ _ _ _ _ _ (.ofBlk (k4.below b5)) (.ofBlk k5) hn hn).mono ?_
  rintro e w6 ⟨rfl, b6⟩
  go_wp2_with fail
  go_ret
  exact ⟨rfl, btr B5 b6⟩

namespace lawFnExactShardOf
theorem own : ownKnob Try.prog.godebug = none := by kernel_rfl
theorem laidOut : laidOutB Try.prog = true := clo_laid
set_option maxRecDepth 100000 in
theorem lifted (os : Os) (started : os.Started) (H : Type) (enc : TypeId × Value → H) :
    ReturnsInHanded {} Try.checked os 3 .any (Rows.fnExactShardOfSpec.pre6 enc Try.prog Try.f3 Rows.fnExactShardOfRow.domain false) (Rows.fnExactShardOfSpec.post enc Try.prog Try.f3 false true false false) := by
  refine returnsInHanded_of_change (C := Try.checked) own started (by kernel_rfl) Try.func3
    (ChangeSpec.witness6 (enc := enc) (C := Try.checked) false ⟨#[], #[.slice none 0 0, .int .i64 0, .int .i64 0], []⟩ 8 (by kernel_rfl) (by kernel_rfl) (by kernel_rfl) (by kernel_rfl)) ?_
  intro W base args ds gs before hval0 hW hcnd _
  have hval : ∀ (j : Nat) t v, Try.f3.params[j]? = some t → args[j]? = some v → Value.okWide Try.prog W .any base t v := hval0
  have hW' := hW
  obtain ⟨p, q, hA0, hV, rfl, hfz, hnd⟩ := hW
  have hA : DataW.TrodAll enc Try.prog W 0 (fun _ => true) true Try.f3.params.toList args.toList ds p := hA0
  rw [Try.params3] at hA hval
  obtain ⟨v0, vs0, d0, ds0, p0, q0, hargs, rfl, rfl, h0, r0⟩ := trodAll_cons hA
  obtain ⟨v1, vs1, d1, ds1, p1, q1, rfl, rfl, rfl, h1, r1⟩ := trodAll_cons r0
  obtain ⟨v2, vs2, d2, ds2, p2, q2, rfl, rfl, rfl, h2, r2⟩ := trodAll_cons r1
  obtain ⟨rfl, rfl, rfl⟩ := trodAll_nil r2
  obtain rfl : args = #[v0, v1, v2] := by cases args; simp_all
  obtain ⟨rfl, rfl⟩ := trodVars_none hV
  have k0 := h0
  have lt0 : ∀ x ∈ p0, x.block < W.heap.size := by obtain ⟨m, hm⟩ := k0; exact DataW.trod_lt m _ _ _ hm
  obtain ⟨a0, len0, cap0, rfl⟩ := okWide_slice Try.underlying22 (hval 0 22 v0 rfl rfl)
  obtain ⟨z0, rfl, w0⟩ := ints_of Try.underlying22 Try.underlying3 (by kernel_rfl) h0
  have k1 := h1
  have lt1 : ∀ x ∈ p1, x.block < W.heap.size := by obtain ⟨m, hm⟩ := k1; exact DataW.trod_lt m _ _ _ hm
  obtain ⟨a1, rfl, -, -, wa1⟩ := open_int Try.underlying3 (hval 1 3 v1 rfl rfl) h1
  have k2 := h2
  have lt2 : ∀ x ∈ p2, x.block < W.heap.size := by obtain ⟨m, hm⟩ := k2; exact DataW.trod_lt m _ _ _ hm
  obtain ⟨a2, rfl, -, -, wa2⟩ := open_int Try.underlying3 (hval 2 3 v2 rfl rfl) h2
  clear hA0 hval0
  refine (FnExactShardOf_walk a0 cap0 z0 a1 a2 W w0 wa1 wa2).mono fun e W' ⟨he, bel⟩ => ?_
  subst he
  exact ⟨_, rfl, _, _, _, [], _, [], hW', trodAll_mk1 (shut_bool Try.underlying4 _), (trodAll_cons_mk (Below.trod laidOut (by kernel_rfl) (of_decide_eq_true (by kernel_rfl)) k0 bel lt0) (trodAll_cons_mk (Below.trod laidOut (by kernel_rfl) (of_decide_eq_true (by kernel_rfl)) k1 bel lt1) (trodAll_cons_mk (Below.trod laidOut (by kernel_rfl) (of_decide_eq_true (by kernel_rfl)) k2 bel lt2) trodAll_mk0))), rfl, bel.frame _, fun h => by cases h⟩
theorem andTT {a b : Bool} (h1 : a = true) (h2 : b = true) : (a && b) = true := by rw [h1, h2]; rfl
set_option maxHeartbeats 8000000 in
theorem closed : joinedFacts Try.prog 3 Try.f3 Rows.fnExactShardOfSpec Rows.fnExactShardOfRow = true := by
  unfold joinedFacts
  repeat' (with_reducible refine andTT ?_ ?_)
  all_goals (first | (with_reducible exact clo_laid) | (with_reducible exact clo_maps) | (with_reducible exact clo_heard) | (with_reducible exact clo_enter) | ((with_reducible refine clo_plain _ ?_); rfl) | ((with_reducible refine clo_lifts _ ?_); rfl) | (as_aux_lemma => kernel_rfl))

theorem over : Rows.fnExactShardOfRow.holds Try.pinned (OpenSpec.ofChange Rows.fnExactShardOfSpec) :=
  OpenClaim.holds_of_wide 3 Try.f3 rfl rfl rfl rfl rfl rfl rfl ⟨rfl, rfl, rfl, rfl, rfl⟩ rfl rfl rfl rfl rfl (by kernel_rfl) Try.func3 closed
    (of_decide_eq_true (by kernel_rfl)) (by unfold Func.isWrapper; first | (rw [if_pos (by decide +kernel)]; kernel_rfl) | (rw [if_neg (by decide +kernel)]; exact ⟨rfl, rfl⟩))
    (fun os started H enc _ => lifted os started H enc)

/-- THE STATEMENT. -/
theorem proved : Rows.FnExactShardOfSaid := over
end lawFnExactShardOf
end Go.Proofs.Ytjikdlldochhcab
