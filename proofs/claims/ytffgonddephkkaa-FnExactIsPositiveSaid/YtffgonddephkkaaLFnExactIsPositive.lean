/- The law FnExactIsPositive returns true at every argument; no condition. -/
import Derived.Test.YtffgonddephkkaaPos
import Derived.Test.YtffgonddephkkaaClo
import Derived.Carry
import Derived.ChangeOld
import Derived.Lib.SmallJoins
namespace Go.Proofs.Ytffgonddephkkaa
open Go.ChangeShapes Go.WideShapes Go.ChangeAt Go.RowKit Go.Sort
set_option linter.unusedVariables false
set_option linter.unusedSimpArgs false

theorem ndSz_nn (es : List Nd) : 0 ≤ ndSz es := by unfold ndSz; omega
theorem ndSz_len {es : List Nd} {n : Int} (h : ndSz es ≤ n) : (es.length : Int) ≤ n := by unfold ndSz at h; omega
theorem colSum_mem {es : List Nd} {e : Nd} (h : e ∈ es) : e.cols.length ≤ colSum es := by
  induction es with
  | nil => cases h
  | cons x l ih =>
    rw [colSum, List.map_cons, List.sum_cons]
    rcases List.mem_cons.1 h with rfl | h
    · omega
    · have := ih h; unfold colSum at this; omega
theorem ndSz_cols {es : List Nd} {n : Nat} (h : ndSz es ≤ n) : ncIn es n := fun e he => by
  have := colSum_mem he
  unfold ndSz at h
  omega
theorem szNodeS_no (A : Option Addr) (c : Nat) (es : List Nd) (left : Int) (w : World) (hx : NodesAt w A es) (h0 : 0 ≤ left) (h1 : left ≤ 1048576) (hn : es.length ≤ maxLen) (h : left < ndSz es) :
    Calls Try.prog 20 #[.slice A es.length c, .int .i64 left] w fun e w' => e = .returned (.int .i64 (-1)) ∧ Below w.heap.size w w' :=
  (szNodeS_any A c es left w hx h0 h1 hn).mono fun _ _ ⟨he, hb⟩ => ⟨by rw [he, ndLeft, if_pos h], hb⟩
theorem szNodeS_yes (A : Option Addr) (c : Nat) (es : List Nd) (left : Int) (w : World) (hx : NodesAt w A es) (h0 : 0 ≤ left) (h1 : left ≤ 1048576) (hn : es.length ≤ maxLen) (h : ndSz es ≤ left) :
    Calls Try.prog 20 #[.slice A es.length c, .int .i64 left] w fun e w' => e = .returned (.int .i64 (left - ndSz es)) ∧ Below w.heap.size w w' :=
  (szNodeS_any A c es left w hx h0 h1 hn).mono fun _ _ ⟨he, hb⟩ => ⟨by rw [he, ndLeft, if_neg (by omega)], hb⟩

set_option maxHeartbeats 6400000 in
theorem FnExactIsPositive_walk (A0 : Option Addr) (c0 : Nat) (ns : List Nd) (w : World) (hx : NodesAt w A0 ns) (hm : ns.length ≤ maxLen) :
    Calls Try.prog 4 #[.slice A0 ns.length c0] w fun e w' => e = .returned (.bool true) ∧ Below w.heap.size w w' := by
  have nn0 := ndSz_nn ns
  by_cases s0 : 1048576 < ndSz ns
  · go_enter Try.func4, Try.ntmps4
    go_wp2_with fail
    refine (szNodeS_no _ _ ns _ _ hx (by omega) (by omega) hm s0).mono ?_
    rintro e q0 ⟨rfl, p0⟩
    go_wp2_with fail
    go_ret
    exact ⟨rfl, p0⟩
  have l0 : ndSz ns ≤ 1048576 := by omega
  have n0 : ns.length ≤ 1048576 := by have := ndSz_len l0; omega
  have n1 : ns.length ≤ 4194304 := by omega
  have r0 : ncIn ns 4194304 := ndSz_cols (by omega)
  obtain ⟨R, hR⟩ : ∃ R, posB ns = R := ⟨_, rfl⟩
  have conW := fun (A : Option Addr) (c : Nat) (w : World) (h : NodesAt w A ns) => IsPositive_s A c ns w h n1
  have conG := fun (A : Option Addr) (c : Nat) (w : World) (h : NodesAt w A ns) => IsPositive_i A c ns w h n1
  simp only [hR] at conW conG
  clear hR
  go_enter Try.func4, Try.ntmps4
  go_wp2_with fail
  refine (szNodeS_yes _ _ ns _ _ hx (by omega) (by omega) hm (by omega)).mono ?_
  rintro e w1 ⟨rfl, b1⟩
  have B1 := b1
  go_wp2_with fail
  refine (toNodeS_any _ _ ns _ (hx.below ndR B1) n0 r0).mono ?_
  rintro e w2 ⟨rfl, ks, b2⟩
  have B2 := btr B1 b2
  have as_ : NodesAt w2 _ ns := SlOw.at_ ndO ks
  go_wp2_with fail
  refine (conW _ _ _ as_).mono ?_
  rintro e w3 ⟨rfl, b3⟩
  have B3 := btr B2 b3
  clear conW ks as_
  go_wp2_with fail
  refine (toNodeS_any _ _ ns _ (hx.below ndR B3) n0 r0).mono ?_
  rintro e w4 ⟨rfl, ki, b4⟩
  have B4 := btr B3 b4
  have ai : NodesAt w4 _ ns := SlOw.at_ ndO ki
  go_wp2_with fail
  refine (conG _ _ _ ai).mono ?_
  rintro e w5 ⟨rfl, b5⟩
  have B5 := btr B4 b5
  have hRR : (R != R) = false := by simp
  clear conG ki
  go_wp2_with fail
  refine (toNodeS_any _ _ ns _ (hx.below ndR B5) n0 r0).mono ?_
  rintro e w6 ⟨rfl, kc, b6⟩
  have B6 := btr B5 b6
  have ac : NodesAt w6 _ ns := SlOw.at_ ndO kc
  go_wp2_with fail
  refine (eqNodeS_same _ _ _ _ ns _ (ai.below ndR (btr b5 b6)) ac n1 r0).mono ?_
  rintro e w7 ⟨rfl, b7⟩
  have B7 := btr B6 b7
  go_wp2_with fail
  go_ret
  exact ⟨rfl, B7⟩

namespace lawFnExactIsPositive
theorem own : ownKnob Try.prog.godebug = none := by kernel_rfl
theorem laidOut : laidOutB Try.prog = true := clo_laid
set_option maxRecDepth 100000 in
theorem lifted (os : Os) (started : os.Started) (H : Type) (enc : TypeId × Value → H) :
    ReturnsInHanded {} Try.checked os 4 .any (Rows.fnExactIsPositiveSpec.pre6 enc Try.prog Try.f4 Rows.fnExactIsPositiveRow.domain false) (Rows.fnExactIsPositiveSpec.post enc Try.prog Try.f4 false true false false) := by
  refine returnsInHanded_of_change (C := Try.checked) own started (by kernel_rfl) Try.func4
    (ChangeSpec.witness6 (enc := enc) (C := Try.checked) false ⟨#[], #[.slice none 0 0], []⟩ 8 (by kernel_rfl) (by kernel_rfl) (by kernel_rfl) (by kernel_rfl)) ?_
  intro W base args ds gs before hval0 hW hcnd _
  have hval : ∀ (j : Nat) t v, Try.f4.params[j]? = some t → args[j]? = some v → Value.okWide Try.prog W .any base t v := hval0
  have hW' := hW
  obtain ⟨p, q, hA0, hV, rfl, hfz, hnd⟩ := hW
  have hA : DataW.TrodAll enc Try.prog W 0 (fun _ => true) true Try.f4.params.toList args.toList ds p := hA0
  rw [Try.params4] at hA hval
  obtain ⟨v0, vs0, d0, ds0, p0, q0, hargs, rfl, rfl, h0, r0⟩ := trodAll_cons hA
  obtain ⟨rfl, rfl, rfl⟩ := trodAll_nil r0
  obtain rfl : args = #[v0] := by cases args; simp_all
  obtain ⟨rfl, rfl⟩ := trodVars_none hV
  have k0 := h0
  have lt0 : ∀ x ∈ p0, x.block < W.heap.size := by obtain ⟨m, hm⟩ := k0; exact DataW.trod_lt m _ _ _ hm
  obtain ⟨a0, len0, cap0, rfl⟩ := okWide_slice Try.underlying40 (hval 0 40 v0 rfl rfl)
  obtain ⟨z0, rfl, l0, w0⟩ := nodes_of h0
  clear hA0 hval0
  refine (FnExactIsPositive_walk a0 cap0 z0 W w0 l0).mono fun e W' ⟨he, bel⟩ => ?_
  subst he
  exact ⟨_, rfl, _, _, _, [], _, [], hW', trodAll_mk1 (shut_bool Try.underlying4 _), (trodAll_cons_mk (Below.trod laidOut (by kernel_rfl) (of_decide_eq_true (by kernel_rfl)) k0 bel lt0) trodAll_mk0), rfl, bel.frame _, fun h => by cases h⟩
theorem andTT {a b : Bool} (h1 : a = true) (h2 : b = true) : (a && b) = true := by rw [h1, h2]; rfl
set_option maxHeartbeats 8000000 in
theorem closed : joinedFacts Try.prog 4 Try.f4 Rows.fnExactIsPositiveSpec Rows.fnExactIsPositiveRow = true := by
  unfold joinedFacts
  repeat' (with_reducible refine andTT ?_ ?_)
  all_goals (first | (with_reducible exact clo_laid) | (with_reducible exact clo_maps) | (with_reducible exact clo_heard) | (with_reducible exact clo_enter) | ((with_reducible refine clo_plain _ ?_); rfl) | ((with_reducible refine clo_lifts _ ?_); rfl) | (as_aux_lemma => kernel_rfl))

theorem over : Rows.fnExactIsPositiveRow.holds Try.pinned (OpenSpec.ofChange Rows.fnExactIsPositiveSpec) :=
  OpenClaim.holds_of_wide 4 Try.f4 rfl rfl rfl rfl rfl rfl rfl ⟨rfl, rfl, rfl, rfl, rfl⟩ rfl rfl rfl rfl rfl (by kernel_rfl) Try.func4 closed
    (of_decide_eq_true (by kernel_rfl)) (by unfold Func.isWrapper; first | (rw [if_pos (by decide +kernel)]; kernel_rfl) | (rw [if_neg (by decide +kernel)]; exact ⟨rfl, rfl⟩))
    (fun os started H enc _ => lifted os started H enc)

/-- THE STATEMENT. -/
theorem proved : Rows.FnExactIsPositiveSaid := over
end lawFnExactIsPositive
end Go.Proofs.Ytffgonddephkkaa
