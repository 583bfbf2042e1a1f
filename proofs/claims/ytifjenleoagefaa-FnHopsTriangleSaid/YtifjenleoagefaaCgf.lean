/- HELPER, no statement of the seat: several texts in one file. -/
import Derived.Test.YtifjenleoagefaaCga
import Derived.Test.YtifjenleoagefaaCgl
import Derived.Test.YtifjenleoagefaaRc
import Derived.Test.YtifjenleoagefaaRs
import Derived.Test.YtifjenleoagefaaEdg
import Derived.Test.YtifjenleoagefaaEqs
import Derived.Test.YtifjenleoagefaaGrf
/- HELPER, no statement of the seat: paths that are checked, on both sides. -/
namespace Go.Proofs.Ytifjenleoagefaa
open Go.RowKit Go.Sort Go.Shelf
set_option linter.unusedSimpArgs false
set_option linter.unusedVariables false

def hasB (r : List Nat) (u v : Int) : Bool := inB u 0 19 && (inB v 0 19 && hasR r u.toNat v.toNat)
def stepsB (r : List Nat) (p : List Int) : Bool := allTo (fun k => hasB r (gi p k) (gi p (k + 1))) (p.length - 1)
def pathB (r : List Nat) (p : List Int) : Bool := decide (2 ≤ p.length) && (decide (p.length ≤ 60) && stepsB r p)
def CkF (es : List Ent) (x y : Int) (p : List Int) : Bool := edgB es && (pathB (relOf es) p && (decide (gi p 0 = x) && decide (gi p (p.length - 1) = y)))
theorem hasB_wOf {es : List Ent} (h : edgB es = true) (u v : Int) : hasB (relOf es) u v = decide (wOf es [u, v] ≠ 0) := by
  have hr := relOf_ok h
  have hp := prs_relOf h
  generalize relOf es = r at *
  subst hp
  rw [ones_wOf (prs_ones r), Bool.eq_iff_iff, decide_eq_true_eq]
  constructor
  · intro hb
    simp only [hasB, inB, Bool.and_eq_true, decide_eq_true_eq] at hb
    obtain ⟨⟨h1, h2⟩, ⟨h3, h4⟩, h5⟩ := hb
    have h6 := (has_prs hr u.toNat v.toNat).2 h5
    rw [pr, Int.toNat_of_nonneg h1, Int.toNat_of_nonneg h3] at h6
    rw [if_pos h6]; decide
  · intro hne
    have h6 : (([u, v], (1 : Int)) : Ent) ∈ prs r := by
      by_cases hm : (([u, v], (1 : Int)) : Ent) ∈ prs r
      · exact hm
      · rw [if_neg hm] at hne; exact absurd rfl hne
    obtain ⟨x, y, hx, hy, hxy, e⟩ := mem_prs.1 h6
    simp only [pr, Prod.mk.injEq, List.cons.injEq, and_true] at e
    obtain ⟨rfl, rfl⟩ := e
    simp [hasB, inB, hxy]
    omega
theorem IntsAt.two {w : World} {b off : Nat} {p : List Int} (h : IntsAt w (some ⟨b, off, none⟩) p) {k : Nat} (hk : k + 1 < p.length) : IntsAt w (some ⟨b, off + k, none⟩) [gi p k, gi p (k + 1)] := fun _ => by
  obtain ⟨b2, off2, e, hlt, hc⟩ := h (by omega)
  injection e with e
  injection e with e1 e2
  subst e1; subst e2
  refine ⟨b, off + k, rfl, hlt, fun j hj => ?_⟩
  match j, hj with
  | 0, _ => have := hc k (by omega); simpa [gi, show k < p.length by omega] using this
  | 1, _ => have := hc (k + 1) hk; simpa [gi, hk, Nat.add_assoc] using this
  | j + 2, hj => exact absurd hj (by simp)
theorem IntsAt.cellG {w : World} {b off : Nat} {p : List Int} (h : IntsAt w (some ⟨b, off, none⟩) p) {k : Nat} (hk : k < p.length) : b < w.heap.size ∧ w.cell? ⟨b, off + k, none⟩ = some (.int .i64 (gi p k)) := by
  obtain ⟨b2, off2, e, hlt, hc⟩ := h (by omega)
  injection e with e
  injection e with e1 e2
  subst e1; subst e2
  have := hc k hk
  exact ⟨hlt, by simpa [gi, hk] using this⟩
set_option maxHeartbeats 3200000 in
theorem hasEdge_w (B : Nat) (r : List Nat) (u v : Int) (w : World) (hB : Blk w B 74 (relC r)) (hr : OkR r) :
    Calls Try.prog 83 #[.pointer (some ⟨B, 0, none⟩), .int .i64 u, .int .i64 v] w fun e w' => e = .returned (.bool (hasB r u v)) ∧ Below w.heap.size w w' := by
  have hBlt := hB.lt
  cases h1 : inB u 0 19
  · have HT : Hid (hasB r u v = false) := by simp [Hid, hasB, h1]
    clear hB
    go_enter Try.func83, Try.ntmps83
    go_wp2_with fail
    refine wp_region_facts [[], [0], [0, 1], [0, 1, 2], List.range 4, List.range 5, List.range 6, List.range 7, List.range 7, List.range 8, [0, 1, 2, 3, 4, 5, 6, 7, 9], List.range 11, List.range 12, List.range 7, [0, 1, 2, 3, 4, 5, 6, 13], List.range 15, List.range 16, List.range 17]
      [fun v' _ => v' = .int .i64 (u), fun v' _ => v' = .bool false, fun v' _ => v' = .bool false, fun v' _ => v' = undef, fun v' _ => v' = undef, fun v' _ => v' = .bool false, fun v' _ => v' = .bool false, fun v' _ => v' = undef, fun v' _ => v' = undef, fun v' _ => v' = undef, fun v' _ => v' = undef, fun v' _ => v' = undef, fun v' _ => v' = undef, fun v' _ => v' = undef, fun v' _ => v' = undef, fun v' _ => v' = undef, fun v' _ => v' = undef, fun v' _ => v' = .bool false]
      (by kernel_rfl) (by kernel_rfl) rfl ⟨stable_pure _, stable_pure _, stable_pure _, stable_pure _, stable_pure _, stable_pure _, stable_pure _, stable_pure _, stable_pure _, stable_pure _, stable_pure _, stable_pure _, stable_pure _, stable_pure _, stable_pure _, stable_pure _, stable_pure _, stable_pure _, trivial⟩ ?_
    refine wf_stepK [] [] (by kernel_rfl) (by kernel_rfl) (fun wf hb hf => ?_) (fun t0 => ?_)
    · refine ⟨?_⟩
      go_wp2
      exact ⟨rfl, .int .i64 (u), by kernel_rfl, Below.refl _ _, rfl⟩
    refine wf_stepK [0] [fun _ => t0 = .int .i64 (u)] (by kernel_rfl) (by kernel_rfl) (fun wf hb hf => ?_) (fun t1 => ?_)
    · obtain ⟨rfl, -⟩ := hf
      refine ⟨?_⟩
      go_wp2_with (go_at_call 41; refine (isVertex_w _ _).mono ?_; rintro e w2 ⟨rfl, rfl⟩; rw [h1])
      exact ⟨rfl, _, by kernel_rfl, Below.refl _ _, rfl⟩
    refine wf_stepK [1] [fun _ => t1 = .bool false] (by kernel_rfl) (by kernel_rfl) (fun wf hb hf => ?_) (fun t2 => ?_)
    · obtain ⟨rfl, -⟩ := hf
      refine ⟨?_⟩
      go_wp2
      exact ⟨rfl, .bool false, by kernel_rfl, Below.refl _ _, rfl⟩
    refine wf_stepK [2] [fun _ => t2 = .bool false] (by kernel_rfl) (by kernel_rfl) (fun wf hb hf => ?_) (fun t3 => ?_)
    · obtain ⟨rfl, -⟩ := hf
      exact WfOp.no (by kernel_rfl) rfl
    refine wf_stepK [2, 3] [fun _ => t2 = .bool false, fun _ => t3 = undef] (by kernel_rfl) (by kernel_rfl) (fun wf hb hf => ?_) (fun t4 => ?_)
    · obtain ⟨rfl, rfl, -⟩ := hf
      exact WfOp.no (by kernel_rfl) rfl
    refine wf_stepK [2, 4] [fun _ => t2 = .bool false, fun _ => t4 = undef] (by kernel_rfl) (by kernel_rfl) (fun wf hb hf => ?_) (fun t5 => ?_)
    · obtain ⟨rfl, rfl, -⟩ := hf
      refine ⟨?_⟩
      go_wp2
      exact ⟨rfl, .bool false, by kernel_rfl, Below.refl _ _, rfl⟩
    refine wf_stepK [5] [fun _ => t5 = .bool false] (by kernel_rfl) (by kernel_rfl) (fun wf hb hf => ?_) (fun t6 => ?_)
    · obtain ⟨rfl, -⟩ := hf
      refine ⟨?_⟩
      go_wp2
      exact ⟨rfl, .bool false, by kernel_rfl, Below.refl _ _, rfl⟩
    refine wf_stepK [6] [fun _ => t6 = .bool false] (by kernel_rfl) (by kernel_rfl) (fun wf hb hf => ?_) (fun t7 => ?_)
    · obtain ⟨rfl, -⟩ := hf
      exact WfOp.no (by kernel_rfl) rfl
    refine wf_stepK [6] [fun _ => t6 = .bool false] (by kernel_rfl) (by kernel_rfl) (fun wf hb hf => ?_) (fun t8 => ?_)
    · obtain ⟨rfl, -⟩ := hf
      exact WfOp.no (by kernel_rfl) rfl
    refine wf_stepK [6, 7] [fun _ => t6 = .bool false, fun _ => t7 = undef] (by kernel_rfl) (by kernel_rfl) (fun wf hb hf => ?_) (fun t9 => ?_)
    · obtain ⟨rfl, rfl, -⟩ := hf
      exact WfOp.no (by kernel_rfl) rfl
    refine wf_stepK [6, 9] [fun _ => t6 = .bool false, fun _ => t9 = undef] (by kernel_rfl) (by kernel_rfl) (fun wf hb hf => ?_) (fun t10 => ?_)
    · obtain ⟨rfl, rfl, -⟩ := hf
      exact WfOp.no (by kernel_rfl) rfl
    refine wf_stepK [6, 8, 10] [fun _ => t6 = .bool false, fun _ => t8 = undef, fun _ => t10 = undef] (by kernel_rfl) (by kernel_rfl) (fun wf hb hf => ?_) (fun t11 => ?_)
    · obtain ⟨rfl, rfl, rfl, -⟩ := hf
      exact WfOp.no (by kernel_rfl) rfl
    refine wf_stepK [6, 11] [fun _ => t6 = .bool false, fun _ => t11 = undef] (by kernel_rfl) (by kernel_rfl) (fun wf hb hf => ?_) (fun t12 => ?_)
    · obtain ⟨rfl, rfl, -⟩ := hf
      exact WfOp.no (by kernel_rfl) rfl
    refine wf_stepK [6] [fun _ => t6 = .bool false] (by kernel_rfl) (by kernel_rfl) (fun wf hb hf => ?_) (fun t13 => ?_)
    · obtain ⟨rfl, -⟩ := hf
      exact WfOp.no (by kernel_rfl) rfl
    refine wf_stepK [6, 13] [fun _ => t6 = .bool false, fun _ => t13 = undef] (by kernel_rfl) (by kernel_rfl) (fun wf hb hf => ?_) (fun t14 => ?_)
    · obtain ⟨rfl, rfl, -⟩ := hf
      exact WfOp.no (by kernel_rfl) rfl
    refine wf_stepK [6, 12, 14] [fun _ => t6 = .bool false, fun _ => t12 = undef, fun _ => t14 = undef] (by kernel_rfl) (by kernel_rfl) (fun wf hb hf => ?_) (fun t15 => ?_)
    · obtain ⟨rfl, rfl, rfl, -⟩ := hf
      exact WfOp.no (by kernel_rfl) rfl
    refine wf_stepK [6, 15] [fun _ => t6 = .bool false, fun _ => t15 = undef] (by kernel_rfl) (by kernel_rfl) (fun wf hb hf => ?_) (fun t16 => ?_)
    · obtain ⟨rfl, rfl, -⟩ := hf
      exact WfOp.no (by kernel_rfl) rfl
    refine wf_stepK [6, 16] [fun _ => t6 = .bool false, fun _ => t16 = undef] (by kernel_rfl) (by kernel_rfl) (fun wf hb hf => ?_) (fun t17 => ?_)
    · obtain ⟨rfl, rfl, -⟩ := hf
      refine ⟨?_⟩
      go_wp2
      exact ⟨rfl, .bool false, by kernel_rfl, Below.refl _ _, rfl⟩
    refine wf_doneK [17] [fun _ => t17 = .bool false] (by kernel_rfl) (by kernel_rfl) (fun w4 b4 hf => ?_)
    obtain ⟨rfl, -⟩ := hf
    show wpList _ _ _ [_] _ _
    refine wpList_frame (by simp [Act.put]; rfl) ?_
    go_wp2
    go_ret
    exact ⟨ret_bool HT.out.symm, b4⟩
  cases h2 : inB v 0 19
  · have HT : Hid (hasB r u v = false) := by simp [Hid, hasB, h1, h2]
    clear hB
    go_enter Try.func83, Try.ntmps83
    go_wp2_with fail
    refine wp_region_facts [[], [0], [0, 1], [0, 1, 2], List.range 4, List.range 5, List.range 6, List.range 7, List.range 7, List.range 8, [0, 1, 2, 3, 4, 5, 6, 7, 9], List.range 11, List.range 12, List.range 7, [0, 1, 2, 3, 4, 5, 6, 13], List.range 15, List.range 16, List.range 17]
      [fun v' _ => v' = .int .i64 (u), fun v' _ => v' = .bool true, fun v' _ => v' = .bool true, fun v' _ => v' = .int .i64 (v), fun v' _ => v' = .bool false, fun v' _ => v' = .bool false, fun v' _ => v' = .bool false, fun v' _ => v' = undef, fun v' _ => v' = undef, fun v' _ => v' = undef, fun v' _ => v' = undef, fun v' _ => v' = undef, fun v' _ => v' = undef, fun v' _ => v' = undef, fun v' _ => v' = undef, fun v' _ => v' = undef, fun v' _ => v' = undef, fun v' _ => v' = .bool false]
      (by kernel_rfl) (by kernel_rfl) rfl ⟨stable_pure _, stable_pure _, stable_pure _, stable_pure _, stable_pure _, stable_pure _, stable_pure _, stable_pure _, stable_pure _, stable_pure _, stable_pure _, stable_pure _, stable_pure _, stable_pure _, stable_pure _, stable_pure _, stable_pure _, stable_pure _, trivial⟩ ?_
    refine wf_stepK [] [] (by kernel_rfl) (by kernel_rfl) (fun wf hb hf => ?_) (fun t0 => ?_)
    · refine ⟨?_⟩
      go_wp2
      exact ⟨rfl, .int .i64 (u), by kernel_rfl, Below.refl _ _, rfl⟩
    refine wf_stepK [0] [fun _ => t0 = .int .i64 (u)] (by kernel_rfl) (by kernel_rfl) (fun wf hb hf => ?_) (fun t1 => ?_)
    · obtain ⟨rfl, -⟩ := hf
      refine ⟨?_⟩
      go_wp2_with (go_at_call 41; refine (isVertex_w _ _).mono ?_; rintro e w2 ⟨rfl, rfl⟩; rw [h1])
      exact ⟨rfl, _, by kernel_rfl, Below.refl _ _, rfl⟩
    refine wf_stepK [1] [fun _ => t1 = .bool true] (by kernel_rfl) (by kernel_rfl) (fun wf hb hf => ?_) (fun t2 => ?_)
    · obtain ⟨rfl, -⟩ := hf
      refine ⟨?_⟩
      go_wp2
      exact ⟨rfl, .bool true, by kernel_rfl, Below.refl _ _, rfl⟩
    refine wf_stepK [2] [fun _ => t2 = .bool true] (by kernel_rfl) (by kernel_rfl) (fun wf hb hf => ?_) (fun t3 => ?_)
    · obtain ⟨rfl, -⟩ := hf
      refine WfOp.yes (by kernel_rfl) ?_
      dsimp only
      go_wp2
      exact ⟨rfl, .int .i64 (v), by kernel_rfl, Below.refl _ _, rfl⟩
    refine wf_stepK [2, 3] [fun _ => t2 = .bool true, fun _ => t3 = .int .i64 (v)] (by kernel_rfl) (by kernel_rfl) (fun wf hb hf => ?_) (fun t4 => ?_)
    · obtain ⟨rfl, rfl, -⟩ := hf
      refine WfOp.yes (by kernel_rfl) ?_
      dsimp only
      go_wp2_with (go_at_call 41; refine (isVertex_w _ _).mono ?_; rintro e w2 ⟨rfl, rfl⟩; rw [h2])
      exact ⟨rfl, _, by kernel_rfl, Below.refl _ _, rfl⟩
    refine wf_stepK [2, 4] [fun _ => t2 = .bool true, fun _ => t4 = .bool false] (by kernel_rfl) (by kernel_rfl) (fun wf hb hf => ?_) (fun t5 => ?_)
    · obtain ⟨rfl, rfl, -⟩ := hf
      refine ⟨?_⟩
      go_wp2
      exact ⟨rfl, .bool false, by kernel_rfl, Below.refl _ _, rfl⟩
    refine wf_stepK [5] [fun _ => t5 = .bool false] (by kernel_rfl) (by kernel_rfl) (fun wf hb hf => ?_) (fun t6 => ?_)
    · obtain ⟨rfl, -⟩ := hf
      refine ⟨?_⟩
      go_wp2
      exact ⟨rfl, .bool false, by kernel_rfl, Below.refl _ _, rfl⟩
    refine wf_stepK [6] [fun _ => t6 = .bool false] (by kernel_rfl) (by kernel_rfl) (fun wf hb hf => ?_) (fun t7 => ?_)
    · obtain ⟨rfl, -⟩ := hf
      exact WfOp.no (by kernel_rfl) rfl
    refine wf_stepK [6] [fun _ => t6 = .bool false] (by kernel_rfl) (by kernel_rfl) (fun wf hb hf => ?_) (fun t8 => ?_)
    · obtain ⟨rfl, -⟩ := hf
      exact WfOp.no (by kernel_rfl) rfl
    refine wf_stepK [6, 7] [fun _ => t6 = .bool false, fun _ => t7 = undef] (by kernel_rfl) (by kernel_rfl) (fun wf hb hf => ?_) (fun t9 => ?_)
    · obtain ⟨rfl, rfl, -⟩ := hf
      exact WfOp.no (by kernel_rfl) rfl
    refine wf_stepK [6, 9] [fun _ => t6 = .bool false, fun _ => t9 = undef] (by kernel_rfl) (by kernel_rfl) (fun wf hb hf => ?_) (fun t10 => ?_)
    · obtain ⟨rfl, rfl, -⟩ := hf
      exact WfOp.no (by kernel_rfl) rfl
    refine wf_stepK [6, 8, 10] [fun _ => t6 = .bool false, fun _ => t8 = undef, fun _ => t10 = undef] (by kernel_rfl) (by kernel_rfl) (fun wf hb hf => ?_) (fun t11 => ?_)
    · obtain ⟨rfl, rfl, rfl, -⟩ := hf
      exact WfOp.no (by kernel_rfl) rfl
    refine wf_stepK [6, 11] [fun _ => t6 = .bool false, fun _ => t11 = undef] (by kernel_rfl) (by kernel_rfl) (fun wf hb hf => ?_) (fun t12 => ?_)
    · obtain ⟨rfl, rfl, -⟩ := hf
      exact WfOp.no (by kernel_rfl) rfl
    refine wf_stepK [6] [fun _ => t6 = .bool false] (by kernel_rfl) (by kernel_rfl) (fun wf hb hf => ?_) (fun t13 => ?_)
    · obtain ⟨rfl, -⟩ := hf
      exact WfOp.no (by kernel_rfl) rfl
    refine wf_stepK [6, 13] [fun _ => t6 = .bool false, fun _ => t13 = undef] (by kernel_rfl) (by kernel_rfl) (fun wf hb hf => ?_) (fun t14 => ?_)
    · obtain ⟨rfl, rfl, -⟩ := hf
      exact WfOp.no (by kernel_rfl) rfl
    refine wf_stepK [6, 12, 14] [fun _ => t6 = .bool false, fun _ => t12 = undef, fun _ => t14 = undef] (by kernel_rfl) (by kernel_rfl) (fun wf hb hf => ?_) (fun t15 => ?_)
    · obtain ⟨rfl, rfl, rfl, -⟩ := hf
      exact WfOp.no (by kernel_rfl) rfl
    refine wf_stepK [6, 15] [fun _ => t6 = .bool false, fun _ => t15 = undef] (by kernel_rfl) (by kernel_rfl) (fun wf hb hf => ?_) (fun t16 => ?_)
    · obtain ⟨rfl, rfl, -⟩ := hf
      exact WfOp.no (by kernel_rfl) rfl
    refine wf_stepK [6, 16] [fun _ => t6 = .bool false, fun _ => t16 = undef] (by kernel_rfl) (by kernel_rfl) (fun wf hb hf => ?_) (fun t17 => ?_)
    · obtain ⟨rfl, rfl, -⟩ := hf
      refine ⟨?_⟩
      go_wp2
      exact ⟨rfl, .bool false, by kernel_rfl, Below.refl _ _, rfl⟩
    refine wf_doneK [17] [fun _ => t17 = .bool false] (by kernel_rfl) (by kernel_rfl) (fun w4 b4 hf => ?_)
    obtain ⟨rfl, -⟩ := hf
    show wpList _ _ _ [_] _ _
    refine wpList_frame (by simp [Act.put]; rfl) ?_
    go_wp2
    go_ret
    exact ⟨ret_bool HT.out.symm, b4⟩
  obtain ⟨U, hU, rfl⟩ : ∃ U : Nat, U < 20 ∧ u = (U : Int) := ⟨u.toNat, by simp [inB] at h1; omega, by simp [inB] at h1; omega⟩
  obtain ⟨V, hV, rfl⟩ : ∃ V : Nat, V < 20 ∧ v = (V : Int) := ⟨v.toNat, by simp [inB] at h2; omega, by simp [inB] at h2; omega⟩
  have HT : Hid (hasB r U V = hasR r U V) := by simp [Hid, hasB, h1, h2]
  have hsv := fun W => setOfVertex_w V hV W
  have q := (hB.cell U).trans (relC_at (by rw [hr.len]; exact hU))
  have ha : r.getD U 0 < 4294967296 := by have := hr.at U; omega
  have hb0 : (0 : Int) ≤ U := by omega
  have hb1 : (U : Int) < 20 := by omega
  clear hB
  cases hb : hasR r U V
  · have hand := and_no ha hV hb
    rw [hb] at HT
    generalize r.getD U 0 = a at *
    generalize bitOf V = y at *
    clear hb ha
    go_enter Try.func83, Try.ntmps83
    go_wp2_with fail
    refine wp_region_facts [[], [0], [0, 1], [0, 1, 2], List.range 4, List.range 5, List.range 6, List.range 7, List.range 7, List.range 8, [0, 1, 2, 3, 4, 5, 6, 7, 9], List.range 11, List.range 12, List.range 7, [0, 1, 2, 3, 4, 5, 6, 13], List.range 15, List.range 16, List.range 17]
      [fun v' _ => v' = .int .i64 ((U : Int)), fun v' _ => v' = .bool true, fun v' _ => v' = .bool true, fun v' _ => v' = .int .i64 ((V : Int)), fun v' _ => v' = .bool true, fun v' _ => v' = .bool true, fun v' _ => v' = .bool true, fun v' _ => v' = .pointer (some ⟨B, 0, none⟩), fun v' _ => v' = .int .i64 ((U : Int)), fun v' _ => v' = .pointer (some ⟨B, 0, none⟩), fun v' _ => v' = .pointer (some ⟨B, 0, none⟩), fun v' _ => v' = .pointer (some ⟨B, U, none⟩), fun v' _ => v' = .int .u32 ((a : Nat) : Int), fun v' _ => v' = .int .i64 ((V : Int)), fun v' _ => v' = .int .u32 ((y : Nat) : Int), fun v' _ => v' = .int .u32 0, fun v' _ => v' = .bool false, fun v' _ => v' = .bool false]
      (by kernel_rfl) (by kernel_rfl) rfl ⟨stable_pure _, stable_pure _, stable_pure _, stable_pure _, stable_pure _, stable_pure _, stable_pure _, stable_pure _, stable_pure _, stable_pure _, stable_pure _, stable_pure _, stable_pure _, stable_pure _, stable_pure _, stable_pure _, stable_pure _, stable_pure _, trivial⟩ ?_
    refine wf_stepK [] [] (by kernel_rfl) (by kernel_rfl) (fun wf hb hf => ?_) (fun t0 => ?_)
    · refine ⟨?_⟩
      go_wp2
      exact ⟨rfl, .int .i64 ((U : Int)), by kernel_rfl, Below.refl _ _, rfl⟩
    refine wf_stepK [0] [fun _ => t0 = .int .i64 ((U : Int))] (by kernel_rfl) (by kernel_rfl) (fun wf hb hf => ?_) (fun t1 => ?_)
    · obtain ⟨rfl, -⟩ := hf
      refine ⟨?_⟩
      go_wp2_with (go_at_call 41; refine (isVertex_w _ _).mono ?_; rintro e w2 ⟨rfl, rfl⟩; rw [h1])
      exact ⟨rfl, _, by kernel_rfl, Below.refl _ _, rfl⟩
    refine wf_stepK [1] [fun _ => t1 = .bool true] (by kernel_rfl) (by kernel_rfl) (fun wf hb hf => ?_) (fun t2 => ?_)
    · obtain ⟨rfl, -⟩ := hf
      refine ⟨?_⟩
      go_wp2
      exact ⟨rfl, .bool true, by kernel_rfl, Below.refl _ _, rfl⟩
    refine wf_stepK [2] [fun _ => t2 = .bool true] (by kernel_rfl) (by kernel_rfl) (fun wf hb hf => ?_) (fun t3 => ?_)
    · obtain ⟨rfl, -⟩ := hf
      refine WfOp.yes (by kernel_rfl) ?_
      dsimp only
      go_wp2
      exact ⟨rfl, .int .i64 ((V : Int)), by kernel_rfl, Below.refl _ _, rfl⟩
    refine wf_stepK [2, 3] [fun _ => t2 = .bool true, fun _ => t3 = .int .i64 ((V : Int))] (by kernel_rfl) (by kernel_rfl) (fun wf hb hf => ?_) (fun t4 => ?_)
    · obtain ⟨rfl, rfl, -⟩ := hf
      refine WfOp.yes (by kernel_rfl) ?_
      dsimp only
      go_wp2_with (go_at_call 41; refine (isVertex_w _ _).mono ?_; rintro e w2 ⟨rfl, rfl⟩; rw [h2])
      exact ⟨rfl, _, by kernel_rfl, Below.refl _ _, rfl⟩
    refine wf_stepK [2, 4] [fun _ => t2 = .bool true, fun _ => t4 = .bool true] (by kernel_rfl) (by kernel_rfl) (fun wf hb hf => ?_) (fun t5 => ?_)
    · obtain ⟨rfl, rfl, -⟩ := hf
      refine ⟨?_⟩
      go_wp2
      exact ⟨rfl, .bool true, by kernel_rfl, Below.refl _ _, rfl⟩
    refine wf_stepK [5] [fun _ => t5 = .bool true] (by kernel_rfl) (by kernel_rfl) (fun wf hb hf => ?_) (fun t6 => ?_)
    · obtain ⟨rfl, -⟩ := hf
      refine ⟨?_⟩
      go_wp2
      exact ⟨rfl, .bool true, by kernel_rfl, Below.refl _ _, rfl⟩
    refine wf_stepK [6] [fun _ => t6 = .bool true] (by kernel_rfl) (by kernel_rfl) (fun wf hb hf => ?_) (fun t7 => ?_)
    · obtain ⟨rfl, -⟩ := hf
      refine WfOp.yes (by kernel_rfl) ?_
      dsimp only
      go_wp2
      exact ⟨rfl, .pointer (some ⟨B, 0, none⟩), by kernel_rfl, Below.refl _ _, rfl⟩
    refine wf_stepK [6] [fun _ => t6 = .bool true] (by kernel_rfl) (by kernel_rfl) (fun wf hb hf => ?_) (fun t8 => ?_)
    · obtain ⟨rfl, -⟩ := hf
      refine WfOp.yes (by kernel_rfl) ?_
      dsimp only
      go_wp2
      exact ⟨rfl, .int .i64 ((U : Int)), by kernel_rfl, Below.refl _ _, rfl⟩
    refine wf_stepK [6, 7] [fun _ => t6 = .bool true, fun _ => t7 = .pointer (some ⟨B, 0, none⟩)] (by kernel_rfl) (by kernel_rfl) (fun wf hb hf => ?_) (fun t9 => ?_)
    · obtain ⟨rfl, rfl, -⟩ := hf
      refine WfOp.yes (by kernel_rfl) ?_
      dsimp only
      go_wp2
      exact ⟨rfl, .pointer (some ⟨B, 0, none⟩), by kernel_rfl, Below.refl _ _, rfl⟩
    refine wf_stepK [6, 9] [fun _ => t6 = .bool true, fun _ => t9 = .pointer (some ⟨B, 0, none⟩)] (by kernel_rfl) (by kernel_rfl) (fun wf hb hf => ?_) (fun t10 => ?_)
    · obtain ⟨rfl, rfl, -⟩ := hf
      refine WfOp.yes (by kernel_rfl) ?_
      dsimp only
      go_wp2
      exact ⟨rfl, .pointer (some ⟨B, 0, none⟩), by kernel_rfl, Below.refl _ _, rfl⟩
    refine wf_stepK [6, 8, 10] [fun _ => t6 = .bool true, fun _ => t8 = .int .i64 ((U : Int)), fun _ => t10 = .pointer (some ⟨B, 0, none⟩)] (by kernel_rfl) (by kernel_rfl) (fun wf hb hf => ?_) (fun t11 => ?_)
    · obtain ⟨rfl, rfl, rfl, -⟩ := hf
      refine WfOp.yes (by kernel_rfl) ?_
      dsimp only
      go_wp2
      exact ⟨rfl, .pointer (some ⟨B, U, none⟩), by kernel_rfl, Below.refl _ _, rfl⟩
    refine wf_stepK [6, 11] [fun _ => t6 = .bool true, fun _ => t11 = .pointer (some ⟨B, U, none⟩)] (by kernel_rfl) (by kernel_rfl) (fun wf hb hf => ?_) (fun t12 => ?_)
    · obtain ⟨rfl, rfl, -⟩ := hf
      refine WfOp.yes (by kernel_rfl) ?_
      dsimp only
      have z0 := (hb.cell (p := ⟨B, U, none⟩) hBlt).trans q
      go_wp2
      exact ⟨rfl, .int .u32 ((a : Nat) : Int), by kernel_rfl, Below.refl _ _, rfl⟩
    refine wf_stepK [6] [fun _ => t6 = .bool true] (by kernel_rfl) (by kernel_rfl) (fun wf hb hf => ?_) (fun t13 => ?_)
    · obtain ⟨rfl, -⟩ := hf
      refine WfOp.yes (by kernel_rfl) ?_
      dsimp only
      go_wp2
      exact ⟨rfl, .int .i64 ((V : Int)), by kernel_rfl, Below.refl _ _, rfl⟩
    refine wf_stepK [6, 13] [fun _ => t6 = .bool true, fun _ => t13 = .int .i64 ((V : Int))] (by kernel_rfl) (by kernel_rfl) (fun wf hb hf => ?_) (fun t14 => ?_)
    · obtain ⟨rfl, rfl, -⟩ := hf
      refine WfOp.yes (by kernel_rfl) ?_
      dsimp only
      go_wp2_with (go_at_call 80; refine (hsv _).mono ?_; rintro e w2 ⟨rfl, rfl⟩)
      exact ⟨rfl, _, by kernel_rfl, Below.refl _ _, rfl⟩
    refine wf_stepK [6, 12, 14] [fun _ => t6 = .bool true, fun _ => t12 = .int .u32 ((a : Nat) : Int), fun _ => t14 = .int .u32 ((y : Nat) : Int)] (by kernel_rfl) (by kernel_rfl) (fun wf hb hf => ?_) (fun t15 => ?_)
    · obtain ⟨rfl, rfl, rfl, -⟩ := hf
      refine WfOp.yes (by kernel_rfl) ?_
      dsimp only
      go_wp2
      exact ⟨rfl, .int .u32 0, by kernel_rfl, Below.refl _ _, rfl⟩
    refine wf_stepK [6, 15] [fun _ => t6 = .bool true, fun _ => t15 = .int .u32 0] (by kernel_rfl) (by kernel_rfl) (fun wf hb hf => ?_) (fun t16 => ?_)
    · obtain ⟨rfl, rfl, -⟩ := hf
      refine WfOp.yes (by kernel_rfl) ?_
      dsimp only
      go_wp2
      exact ⟨rfl, .bool false, by kernel_rfl, Below.refl _ _, rfl⟩
    refine wf_stepK [6, 16] [fun _ => t6 = .bool true, fun _ => t16 = .bool false] (by kernel_rfl) (by kernel_rfl) (fun wf hb hf => ?_) (fun t17 => ?_)
    · obtain ⟨rfl, rfl, -⟩ := hf
      refine ⟨?_⟩
      go_wp2
      exact ⟨rfl, .bool false, by kernel_rfl, Below.refl _ _, rfl⟩
    refine wf_doneK [17] [fun _ => t17 = .bool false] (by kernel_rfl) (by kernel_rfl) (fun w4 b4 hf => ?_)
    obtain ⟨rfl, -⟩ := hf
    show wpList _ _ _ [_] _ _
    refine wpList_frame (by simp [Act.put]; rfl) ?_
    go_wp2
    go_ret
    exact ⟨ret_bool HT.out.symm, b4⟩
  · have hand := and_yes ha hV hb
    have hy0 : (((bitOf V : Nat) : Int) != 0) = true := by
      rw [bne_iff_ne]
      have : 0 < bitOf V := Nat.pos_of_ne_zero (by unfold bitOf; exact Nat.pos_iff_ne_zero.1 (Nat.two_pow_pos V))
      omega
    rw [hb] at HT
    generalize r.getD U 0 = a at *
    generalize bitOf V = y at *
    clear hb ha
    go_enter Try.func83, Try.ntmps83
    go_wp2_with fail
    refine wp_region_facts [[], [0], [0, 1], [0, 1, 2], List.range 4, List.range 5, List.range 6, List.range 7, List.range 7, List.range 8, [0, 1, 2, 3, 4, 5, 6, 7, 9], List.range 11, List.range 12, List.range 7, [0, 1, 2, 3, 4, 5, 6, 13], List.range 15, List.range 16, List.range 17]
      [fun v' _ => v' = .int .i64 ((U : Int)), fun v' _ => v' = .bool true, fun v' _ => v' = .bool true, fun v' _ => v' = .int .i64 ((V : Int)), fun v' _ => v' = .bool true, fun v' _ => v' = .bool true, fun v' _ => v' = .bool true, fun v' _ => v' = .pointer (some ⟨B, 0, none⟩), fun v' _ => v' = .int .i64 ((U : Int)), fun v' _ => v' = .pointer (some ⟨B, 0, none⟩), fun v' _ => v' = .pointer (some ⟨B, 0, none⟩), fun v' _ => v' = .pointer (some ⟨B, U, none⟩), fun v' _ => v' = .int .u32 ((a : Nat) : Int), fun v' _ => v' = .int .i64 ((V : Int)), fun v' _ => v' = .int .u32 ((y : Nat) : Int), fun v' _ => v' = .int .u32 ((y : Nat) : Int), fun v' _ => v' = .bool true, fun v' _ => v' = .bool true]
      (by kernel_rfl) (by kernel_rfl) rfl ⟨stable_pure _, stable_pure _, stable_pure _, stable_pure _, stable_pure _, stable_pure _, stable_pure _, stable_pure _, stable_pure _, stable_pure _, stable_pure _, stable_pure _, stable_pure _, stable_pure _, stable_pure _, stable_pure _, stable_pure _, stable_pure _, trivial⟩ ?_
    refine wf_stepK [] [] (by kernel_rfl) (by kernel_rfl) (fun wf hb hf => ?_) (fun t0 => ?_)
    · refine ⟨?_⟩
      go_wp2
      exact ⟨rfl, .int .i64 ((U : Int)), by kernel_rfl, Below.refl _ _, rfl⟩
    refine wf_stepK [0] [fun _ => t0 = .int .i64 ((U : Int))] (by kernel_rfl) (by kernel_rfl) (fun wf hb hf => ?_) (fun t1 => ?_)
    · obtain ⟨rfl, -⟩ := hf
      refine ⟨?_⟩
      go_wp2_with (go_at_call 41; refine (isVertex_w _ _).mono ?_; rintro e w2 ⟨rfl, rfl⟩; rw [h1])
      exact ⟨rfl, _, by kernel_rfl, Below.refl _ _, rfl⟩
    refine wf_stepK [1] [fun _ => t1 = .bool true] (by kernel_rfl) (by kernel_rfl) (fun wf hb hf => ?_) (fun t2 => ?_)
    · obtain ⟨rfl, -⟩ := hf
      refine ⟨?_⟩
      go_wp2
      exact ⟨rfl, .bool true, by kernel_rfl, Below.refl _ _, rfl⟩
    refine wf_stepK [2] [fun _ => t2 = .bool true] (by kernel_rfl) (by kernel_rfl) (fun wf hb hf => ?_) (fun t3 => ?_)
    · obtain ⟨rfl, -⟩ := hf
      refine WfOp.yes (by kernel_rfl) ?_
      dsimp only
      go_wp2
      exact ⟨rfl, .int .i64 ((V : Int)), by kernel_rfl, Below.refl _ _, rfl⟩
    refine wf_stepK [2, 3] [fun _ => t2 = .bool true, fun _ => t3 = .int .i64 ((V : Int))] (by kernel_rfl) (by kernel_rfl) (fun wf hb hf => ?_) (fun t4 => ?_)
    · obtain ⟨rfl, rfl, -⟩ := hf
      refine WfOp.yes (by kernel_rfl) ?_
      dsimp only
      go_wp2_with (go_at_call 41; refine (isVertex_w _ _).mono ?_; rintro e w2 ⟨rfl, rfl⟩; rw [h2])
      exact ⟨rfl, _, by kernel_rfl, Below.refl _ _, rfl⟩
    refine wf_stepK [2, 4] [fun _ => t2 = .bool true, fun _ => t4 = .bool true] (by kernel_rfl) (by kernel_rfl) (fun wf hb hf => ?_) (fun t5 => ?_)
    · obtain ⟨rfl, rfl, -⟩ := hf
      refine ⟨?_⟩
      go_wp2
      exact ⟨rfl, .bool true, by kernel_rfl, Below.refl _ _, rfl⟩
    refine wf_stepK [5] [fun _ => t5 = .bool true] (by kernel_rfl) (by kernel_rfl) (fun wf hb hf => ?_) (fun t6 => ?_)
    · obtain ⟨rfl, -⟩ := hf
      refine ⟨?_⟩
      go_wp2
      exact ⟨rfl, .bool true, by kernel_rfl, Below.refl _ _, rfl⟩
    refine wf_stepK [6] [fun _ => t6 = .bool true] (by kernel_rfl) (by kernel_rfl) (fun wf hb hf => ?_) (fun t7 => ?_)
    · obtain ⟨rfl, -⟩ := hf
      refine WfOp.yes (by kernel_rfl) ?_
      dsimp only
      go_wp2
      exact ⟨rfl, .pointer (some ⟨B, 0, none⟩), by kernel_rfl, Below.refl _ _, rfl⟩
    refine wf_stepK [6] [fun _ => t6 = .bool true] (by kernel_rfl) (by kernel_rfl) (fun wf hb hf => ?_) (fun t8 => ?_)
    · obtain ⟨rfl, -⟩ := hf
      refine WfOp.yes (by kernel_rfl) ?_
      dsimp only
      go_wp2
      exact ⟨rfl, .int .i64 ((U : Int)), by kernel_rfl, Below.refl _ _, rfl⟩
    refine wf_stepK [6, 7] [fun _ => t6 = .bool true, fun _ => t7 = .pointer (some ⟨B, 0, none⟩)] (by kernel_rfl) (by kernel_rfl) (fun wf hb hf => ?_) (fun t9 => ?_)
    · obtain ⟨rfl, rfl, -⟩ := hf
      refine WfOp.yes (by kernel_rfl) ?_
      dsimp only
      go_wp2
      exact ⟨rfl, .pointer (some ⟨B, 0, none⟩), by kernel_rfl, Below.refl _ _, rfl⟩
    refine wf_stepK [6, 9] [fun _ => t6 = .bool true, fun _ => t9 = .pointer (some ⟨B, 0, none⟩)] (by kernel_rfl) (by kernel_rfl) (fun wf hb hf => ?_) (fun t10 => ?_)
    · obtain ⟨rfl, rfl, -⟩ := hf
      refine WfOp.yes (by kernel_rfl) ?_
      dsimp only
      go_wp2
      exact ⟨rfl, .pointer (some ⟨B, 0, none⟩), by kernel_rfl, Below.refl _ _, rfl⟩
    refine wf_stepK [6, 8, 10] [fun _ => t6 = .bool true, fun _ => t8 = .int .i64 ((U : Int)), fun _ => t10 = .pointer (some ⟨B, 0, none⟩)] (by kernel_rfl) (by kernel_rfl) (fun wf hb hf => ?_) (fun t11 => ?_)
    · obtain ⟨rfl, rfl, rfl, -⟩ := hf
      refine WfOp.yes (by kernel_rfl) ?_
      dsimp only
      go_wp2
      exact ⟨rfl, .pointer (some ⟨B, U, none⟩), by kernel_rfl, Below.refl _ _, rfl⟩
    refine wf_stepK [6, 11] [fun _ => t6 = .bool true, fun _ => t11 = .pointer (some ⟨B, U, none⟩)] (by kernel_rfl) (by kernel_rfl) (fun wf hb hf => ?_) (fun t12 => ?_)
    · obtain ⟨rfl, rfl, -⟩ := hf
      refine WfOp.yes (by kernel_rfl) ?_
      dsimp only
      have z0 := (hb.cell (p := ⟨B, U, none⟩) hBlt).trans q
      go_wp2
      exact ⟨rfl, .int .u32 ((a : Nat) : Int), by kernel_rfl, Below.refl _ _, rfl⟩
    refine wf_stepK [6] [fun _ => t6 = .bool true] (by kernel_rfl) (by kernel_rfl) (fun wf hb hf => ?_) (fun t13 => ?_)
    · obtain ⟨rfl, -⟩ := hf
      refine WfOp.yes (by kernel_rfl) ?_
      dsimp only
      go_wp2
      exact ⟨rfl, .int .i64 ((V : Int)), by kernel_rfl, Below.refl _ _, rfl⟩
    refine wf_stepK [6, 13] [fun _ => t6 = .bool true, fun _ => t13 = .int .i64 ((V : Int))] (by kernel_rfl) (by kernel_rfl) (fun wf hb hf => ?_) (fun t14 => ?_)
    · obtain ⟨rfl, rfl, -⟩ := hf
      refine WfOp.yes (by kernel_rfl) ?_
      dsimp only
      go_wp2_with (go_at_call 80; refine (hsv _).mono ?_; rintro e w2 ⟨rfl, rfl⟩)
      exact ⟨rfl, _, by kernel_rfl, Below.refl _ _, rfl⟩
    refine wf_stepK [6, 12, 14] [fun _ => t6 = .bool true, fun _ => t12 = .int .u32 ((a : Nat) : Int), fun _ => t14 = .int .u32 ((y : Nat) : Int)] (by kernel_rfl) (by kernel_rfl) (fun wf hb hf => ?_) (fun t15 => ?_)
    · obtain ⟨rfl, rfl, rfl, -⟩ := hf
      refine WfOp.yes (by kernel_rfl) ?_
      dsimp only
      go_wp2
      exact ⟨rfl, .int .u32 ((y : Nat) : Int), by kernel_rfl, Below.refl _ _, rfl⟩
    refine wf_stepK [6, 15] [fun _ => t6 = .bool true, fun _ => t15 = .int .u32 ((y : Nat) : Int)] (by kernel_rfl) (by kernel_rfl) (fun wf hb hf => ?_) (fun t16 => ?_)
    · obtain ⟨rfl, rfl, -⟩ := hf
      refine WfOp.yes (by kernel_rfl) ?_
      dsimp only
      go_wp2
      exact ⟨rfl, .bool true, by kernel_rfl, Below.refl _ _, rfl⟩
    refine wf_stepK [6, 16] [fun _ => t6 = .bool true, fun _ => t16 = .bool true] (by kernel_rfl) (by kernel_rfl) (fun wf hb hf => ?_) (fun t17 => ?_)
    · obtain ⟨rfl, rfl, -⟩ := hf
      refine ⟨?_⟩
      go_wp2
      exact ⟨rfl, .bool true, by kernel_rfl, Below.refl _ _, rfl⟩
    refine wf_doneK [17] [fun _ => t17 = .bool true] (by kernel_rfl) (by kernel_rfl) (fun w4 b4 hf => ?_)
    obtain ⟨rfl, -⟩ := hf
    show wpList _ _ _ [_] _ _
    refine wpList_frame (by simp [Act.put]; rfl) ?_
    go_wp2
    go_ret
    exact ⟨ret_bool HT.out.symm, b4⟩
end Go.Proofs.Ytifjenleoagefaa

/- HELPER, no statement of the seat: CheckPath of both sides. -/
namespace Go.Proofs.Ytifjenleoagefaa
open Go.RowKit Go.Sort Go.Shelf
set_option linter.unusedSimpArgs false
set_option linter.unusedVariables false

theorem relC_expl : ∀ {l : List Nat}, l.length = 20 → ∃ a0 a1 a2 a3 a4 a5 a6 a7 a8 a9 a10 a11 a12 a13 a14 a15 a16 a17 a18 a19 : Nat, relC l = #[.int .u32 ((a0 : Nat) : Int), .int .u32 ((a1 : Nat) : Int), .int .u32 ((a2 : Nat) : Int), .int .u32 ((a3 : Nat) : Int), .int .u32 ((a4 : Nat) : Int), .int .u32 ((a5 : Nat) : Int), .int .u32 ((a6 : Nat) : Int), .int .u32 ((a7 : Nat) : Int), .int .u32 ((a8 : Nat) : Int), .int .u32 ((a9 : Nat) : Int), .int .u32 ((a10 : Nat) : Int), .int .u32 ((a11 : Nat) : Int), .int .u32 ((a12 : Nat) : Int), .int .u32 ((a13 : Nat) : Int), .int .u32 ((a14 : Nat) : Int), .int .u32 ((a15 : Nat) : Int), .int .u32 ((a16 : Nat) : Int), .int .u32 ((a17 : Nat) : Int), .int .u32 ((a18 : Nat) : Int), .int .u32 ((a19 : Nat) : Int)]
  | [a0, a1, a2, a3, a4, a5, a6, a7, a8, a9, a10, a11, a12, a13, a14, a15, a16, a17, a18, a19], _ => ⟨a0, a1, a2, a3, a4, a5, a6, a7, a8, a9, a10, a11, a12, a13, a14, a15, a16, a17, a18, a19, rfl⟩
theorem IntsAt.open2 {w : World} {A : Option Addr} {p : List Int} (h : IntsAt w A p) (hn : 0 < p.length) : ∃ b off, A = some ⟨b, off, none⟩ := by
  obtain ⟨b, off, e, -⟩ := h hn
  exact ⟨b, off, e⟩
set_option maxHeartbeats 3200000 in
theorem isPath_w (B : Nat) (r : List Nat) (A : Option Addr) (p : List Int) (d : Nat) (w : World) (hB : Blk w B 74 (relC r)) (hr : OkR r) (hx : IntsAt w A p) (hd : p.length ≤ d) (hn : p.length ≤ 4194304) :
    Calls Try.prog 72 #[.pointer (some ⟨B, 0, none⟩), .slice A p.length d] w fun e w' => e = .returned (.bool (pathB r p)) ∧ Below w.heap.size w w' := by
  by_cases h2 : 2 ≤ p.length
  · by_cases h60 : p.length ≤ 60
    · have hl2 : ¬ ((p.length : Int) < 2) := by omega
      have hl60 : ¬ ((60 : Int) < p.length) := by omega
      have HT : Hid (pathB r p = stepsB r p) := by simp [Hid, pathB, h2, h60]
      have hno : ∀ k, k < p.length - 1 → hasB r (gi p k) (gi p (k + 1)) = false → Hid (stepsB r p = false) := fun k hk h => allTo_bad hk h
      obtain ⟨b, off, rfl⟩ := hx.open2 (by omega)
      have hd1 : ¬ d = 1 := by omega
      have h1n : (1 : Int) ≤ p.length := by omega
      have HX := Lib.hid hx
      have HB := Lib.hid hB
      have H2 := Lib.hid h2
      have HD := Lib.hid hd
      clear hx hB h2 h60 hd
      go_enter Try.func72, Try.ntmps72
      go_wp2
      go_loopw [5, 6, 18] (fun _ _ i wr => ∃ k : Nat, k ≤ p.length - 1 ∧ i = .int .i64 k ∧ Hid (allTo (fun k => hasB r (gi p k) (gi p (k + 1))) k = true) ∧ Below w.heap.size w wr) (fun _ _ i _ => p.length - 1 - (intOf i).toNat)
      case atStart => exact ⟨0, by omega, rfl, rfl, Below.refl _ _⟩
      case round =>
        obtain ⟨k, hk, rfl, HS, hbel⟩ := hrel
        by_cases hlt : k < p.length - 1
        · have hk1 := IntsAt.cellG HX.out (k := k) (by omega)
          have hk2 := IntsAt.cellG HX.out (k := k + 1) (by omega)
          have q0 := (hbel.cell (p := ⟨b, off + k, none⟩) hk1.1).trans hk1.2
          have q1 := (hbel.cell (p := ⟨b, off + (k + 1), none⟩) hk1.1).trans hk2.2
          rw [show off + (k + 1) = off + 1 + k by omega] at q1
          have hlt1 : (k : Int) < ((p.length - 1 : Nat) : Int) := by omega
          have hlt2 : (k : Int) < p.length := by omega
          have hcon := hasEdge_w B r (gi p k) (gi p (k + 1)) wr (HB.out.below hbel) hr
          have hnk := hno k hlt
          have hyk : hasB r (gi p k) (gi p (k + 1)) = true → Hid (allTo (fun k => hasB r (gi p k) (gi p (k + 1))) (k + 1) = true) := fun h => allTo_step HS.out h
          clear hk1 hk2
          generalize gi p k = u at *
          generalize gi p (k + 1) = v at *
          cases hv : hasB r u v
          · have HN := hnk hv
            rw [hv] at hcon
            clear hnk hyk hv hno
            go_wp2_with fail
            refine hcon.mono ?_
            rintro e w2 ⟨rfl, b2⟩
            have hb2 := btr hbel b2
            clear hcon q0 q1
            go_wp2
            go_ret
            exact ⟨ret_bool (by rw [HT.out, HN.out]), hb2⟩
          · have HN := hyk hv
            rw [hv] at hcon
            clear hnk hyk hv
            go_wp2_with fail
            refine hcon.mono ?_
            rintro e w2 ⟨rfl, b2⟩
            have hb2 := btr hbel b2
            clear hcon q0 q1
            go_wp2
            go_roundw
            case rel => exact ⟨k + 1, by omega, by go_num, HN, hb2⟩
            case measure => simp [intOf]; omega
        · obtain rfl : k = p.length - 1 := by omega
          have HN : Hid (pathB r p = true) := by rw [Hid, HT.out]; exact HS.out
          clear HS
          go_wp2
          go_ret
          exact ⟨ret_bool HN.out.symm, hbel⟩
    · have hl2 : ¬ ((p.length : Int) < 2) := by omega
      have hl60 : (60 : Int) < p.length := by omega
      have HT : Hid (pathB r p = false) := by simp [Hid, pathB, h60]
      clear hx hB
      go_enter Try.func72, Try.ntmps72
      go_wp2
      go_ret
      exact ⟨ret_bool HT.out.symm, Below.refl _ _⟩
  · have hl2 : (p.length : Int) < 2 := by omega
    have HT : Hid (pathB r p = false) := by simp [Hid, pathB, h2]
    clear hx hB
    go_enter Try.func72, Try.ntmps72
    go_wp2
    go_ret
    exact ⟨ret_bool HT.out.symm, Below.refl _ _⟩
theorem wpList_buildK {P0 : Program} {ops : Array Oper} {rest : List Oper} {o : Oper} {a : Act} {w : World} {Q : Exit → Act → World → Prop} (hg : o.guard = none) (t : TypeId) (parts : Array (Nat × Operand)) (ho : o.op = .build t parts) (cells : Array Value)
    (hb : P0.built t (parts.map fun (i, x) => (i, a.eval x)).toList = some cells) (h : wpList P0 ops Q rest (a.put o.dst (.agg cells)) w) : wpList P0 ops Q (o :: rest) a w :=
  wpList_build hg t parts ho (by rw [hb]; rfl) (by rw [hb]; exact h)
theorem infoCk : (Try.prog.info? 74).map (·.size) = some 20 := by kernel_rfl
theorem built_ck {r : List Nat} (h : r.length = 20) : Try.prog.built 74 [(0, .agg (relC r))] = some (relC r) := by
  obtain ⟨a0, a1, a2, a3, a4, a5, a6, a7, a8, a9, a10, a11, a12, a13, a14, a15, a16, a17, a18, a19, hex⟩ := relC_expl h
  rw [hex]
  kernel_rfl
set_option maxRecDepth 100000 in
set_option maxHeartbeats 3200000 in
theorem CheckPath_i (A : Option Addr) (c : Nat) (es : List Ent) (x y : Int) (P : Option Addr) (d : Nat) (p : List Int) (w : World) (hx : EntsAt w A es) (hp : IntsAt w P p) (hn : es.length ≤ 4194304) (hr : rowsIn es 4194304) (hm : p.length ≤ 4194304) (hd : p.length ≤ d) :
    Calls Try.prog 30 #[.slice A es.length c, .int .i64 x, .int .i64 y, .slice P p.length d] w fun e w' => e = .returned (.bool (CkF es x y p)) ∧ Below w.heap.size w w' := by
  have hv := ValidEdges_i A c es w hx hn hr
  cases h1 : edgB es
  · have HT : Hid (CkF es x y p = false) := by simp [Hid, CkF, h1]
    rw [h1] at hv
    clear h1 hx hp
    go_enter Try.func30, Try.ntmps30
    go_wp2_with fail
    refine hv.mono ?_
    rintro e w1 ⟨rfl, b1⟩
    clear hv
    go_wp2
    go_ret
    exact ⟨ret_bool HT.out.symm, b1⟩
  · have hro := relOf_ok h1
    have HT : Hid (CkF es x y p = (pathB (relOf es) p && (decide (gi p 0 = x) && decide (gi p (p.length - 1) = y)))) := by simp [Hid, CkF, h1]
    have hrl := fun W (hb : Below w.heap.size w W) => relationOf_i A c es W (hx.below entR hb) h1
    rw [h1] at hv
    have HP := Lib.hid hp
    clear h1 hx hp
    generalize relOf es = r at *
    have hbl := built_ck hro.len
    go_enter Try.func30, Try.ntmps30
    go_wp2_with fail
    refine hv.mono ?_
    rintro e w1 ⟨rfl, b1⟩
    clear hv
    go_wp2_with fail
    refine (hrl _ b1).mono ?_
    rintro e w2 ⟨rfl, b2⟩
    have b2 := btr b1 b2
    clear hrl b1
    go_wp2_with (first | refine wpList_buildK rfl 74 _ rfl (relC r) (Eq.trans (by kernel_rfl) hbl) ?_ | refine wpList_store_row rfl 74 _ _ rfl w2.heap.size (relC r) rfl rfl 74 (relC zeroR) (Blk.newAt rfl) (by rw [relC_size, hro.len]; exact infoCk) (by rw [relC_size, relC_size, zeroR_ok.len, hro.len]) (relC_one _) ?_)
    have b3 := brow (bal b2 (.cells (relC zeroR) 74)) b2.size (relC r)
    have hcon := isPath_w w2.heap.size r P p d ((w2.alloc (.cells (relC zeroR) 74)).setRow w2.heap.size (relC r)) ((Blk.newAt rfl).row _) hro (HP.out.below b3) hd hm
    clear hbl
    cases hpb : pathB r p
    · have HN : Hid (CkF es x y p = false) := by rw [Hid, HT.out, hpb]; rfl
      rw [hpb] at hcon
      clear hpb HT
      refine hcon.mono ?_
      rintro e w5 ⟨rfl, b5⟩
      have b5 := btr b3 b5
      clear hcon b3
      go_wp2
      go_ret
      exact ⟨ret_bool HN.out.symm, b5⟩
    have h2 : 2 ≤ p.length := by
      simp only [pathB, Bool.and_eq_true, decide_eq_true_eq] at hpb
      exact hpb.1
    rw [hpb] at hcon HT
    obtain ⟨b, off, rfl⟩ := HP.out.open2 (by omega)
    have hk1 := IntsAt.cellG HP.out (k := 0) (by omega)
    have hk2 := IntsAt.cellG HP.out (k := p.length - 1) (by omega)
    refine hcon.mono ?_
    rintro e w5 ⟨rfl, b5⟩
    have b5 := btr b3 b5
    have q0 := (b5.cell (p := ⟨b, off + 0, none⟩) hk1.1).trans hk1.2
    have q1 := (b5.cell (p := ⟨b, off + (p.length - 1), none⟩) hk1.1).trans hk2.2
    have hi0 : (0 : Int) < p.length := by omega
    have hi1 : (0 : Int) ≤ (p.length : Int) - 1 := by omega
    have hi2 : (p.length : Int) - 1 < p.length := by omega
    have hi3 : ((p.length : Int) - 1).toNat = p.length - 1 := by omega
    clear hcon b3 hpb hk1 hk2 h2
    generalize gi p 0 = u at *
    generalize gi p (p.length - 1) = v at *
    rw [Nat.add_zero] at q0
    by_cases hu : u = x
    · have he : (u == x) = true := by simpa using hu
      by_cases hv : v = y
      · have he2 : (v == y) = true := by simpa using hv
        have HN : Hid (CkF es x y p = true) := by rw [Hid, HT.out]; simp [hu, hv]
        clear HT hu hv
        go_wp2
        go_ret
        exact ⟨ret_bool HN.out.symm, b5⟩
      · have he2 : (v == y) = false := by simpa using hv
        have HN : Hid (CkF es x y p = false) := by rw [Hid, HT.out]; simp [hu, hv]
        clear HT hu hv
        go_wp2
        go_ret
        exact ⟨ret_bool HN.out.symm, b5⟩
    · have he : (u == x) = false := by simpa using hu
      have HN : Hid (CkF es x y p = false) := by rw [Hid, HT.out]; simp [hu]
      clear HT hu
      go_wp2
      go_ret
      exact ⟨ret_bool HN.out.symm, b5⟩
end Go.Proofs.Ytifjenleoagefaa

/- HELPER, no statement of the seat: the model's CheckPath. -/
namespace Go.Proofs.Ytifjenleoagefaa
open Go.RowKit Go.Sort Go.Shelf
set_option linter.unusedSimpArgs false
set_option linter.unusedVariables false

set_option maxHeartbeats 3200000 in
theorem CheckPath_s (A : Option Addr) (c : Nat) (es : List Ent) (x y : Int) (P : Option Addr) (d : Nat) (p : List Int) (w : World) (hx : EntsAt w A es) (hp : IntsAt w P p) (hn : es.length ≤ 4194304) (hr : rowsIn es 4194304) (hm : p.length ≤ 4194304) (hd : p.length ≤ d) :
    Calls Try.prog 33 #[.slice A es.length c, .int .i64 x, .int .i64 y, .slice P p.length d] w fun e w' => e = .returned (.bool (CkF es x y p)) ∧ Below w.heap.size w w' := by
  have hv := validEdges_s A c es w hx hn hr
  cases h1 : edgB es
  · have HT : Hid (CkF es x y p = false) := by simp [Hid, CkF, h1]
    rw [h1] at hv
    clear h1 hx hp
    go_enter Try.func33, Try.ntmps33
    go_wp2_with fail
    refine hv.mono ?_
    rintro e w1 ⟨rfl, b1⟩
    clear hv
    go_wp2
    go_ret
    exact ⟨ret_bool HT.out.symm, b1⟩
  have HT : Hid (CkF es x y p = (pathB (relOf es) p && (decide (gi p 0 = x) && decide (gi p (p.length - 1) = y)))) := by simp [Hid, CkF, h1]
  have HW : Hid (∀ u v, hasB (relOf es) u v = decide (wOf es [u, v] ≠ 0)) := fun u v => hasB_wOf h1 u v
  rw [h1] at hv
  have HP := Lib.hid hp
  have HX := Lib.hid hx
  clear h1 hx hp
  generalize relOf es = r at *
  cases hin : inB (p.length : Int) 2 60
  · have HN : Hid (CkF es x y p = false) := by
      rw [Hid, HT.out]
      have : pathB r p = false := by
        simp only [pathB]
        by_cases a1 : 2 ≤ p.length
        · by_cases a2 : p.length ≤ 60
          · simp [inB] at hin; omega
          · simp [a2]
        · simp [a1]
      rw [this]; rfl
    have hir := fun W => inRange_any (p.length : Int) 2 60 W
    rw [hin] at hir
    clear HT hin
    go_enter Try.func33, Try.ntmps33
    go_wp2_with fail
    refine hv.mono ?_
    rintro e w1 ⟨rfl, b1⟩
    clear hv
    go_wp2_with fail
    refine (hir _).mono ?_
    rintro e wx ⟨rfl, rfl⟩
    clear hir
    go_wp2
    go_ret
    exact ⟨ret_bool HN.out.symm, b1⟩
  have h2 : 2 ≤ p.length := by simp [inB] at hin; omega
  have h60 : p.length ≤ 60 := by simp [inB] at hin; omega
  have HT2 : Hid (pathB r p = stepsB r p) := by simp [Hid, pathB, h2, h60]
  have hir := fun W => inRange_any (p.length : Int) 2 60 W
  rw [hin] at hir
  obtain ⟨b, off, rfl⟩ := HP.out.open2 (by omega)
  have hk1 := IntsAt.cellG HP.out (k := 0) (by omega)
  have hk2 := IntsAt.cellG HP.out (k := p.length - 1) (by omega)
  have hi0 : (0 : Int) < p.length := by omega
  have hi1 : (0 : Int) ≤ (p.length : Int) - 1 := by omega
  have hi2 : (p.length : Int) - 1 < p.length := by omega
  have hi3 : ((p.length : Int) - 1).toNat = p.length - 1 := by omega
  have H2 := Lib.hid h2
  clear hin h2 h60
  generalize gi p 0 = u at *
  generalize gi p (p.length - 1) = v at *
  by_cases hu : u = x
  rotate_left
  · have he : (u != x) = true := by simpa using hu
    have HN : Hid (CkF es x y p = false) := by rw [Hid, HT.out]; simp [hu]
    clear HT hu
    go_enter Try.func33, Try.ntmps33
    go_wp2_with fail
    refine hv.mono ?_
    rintro e w1 ⟨rfl, b1⟩
    clear hv
    have q0 := (b1.cell (p := ⟨b, off + 0, none⟩) hk1.1).trans hk1.2
    rw [Nat.add_zero] at q0
    go_wp2_with fail
    refine (hir _).mono ?_
    rintro e wx ⟨rfl, rfl⟩
    clear hir hk1 hk2
    go_wp2
    go_ret
    exact ⟨ret_bool HN.out.symm, b1⟩
  have he : (u != x) = false := by simpa using hu
  by_cases hvy : v = y
  rotate_left
  · have he2 : (v != y) = true := by simpa using hvy
    have HN : Hid (CkF es x y p = false) := by rw [Hid, HT.out]; simp [hvy]
    clear HT hu hvy
    go_enter Try.func33, Try.ntmps33
    go_wp2_with fail
    refine hv.mono ?_
    rintro e w1 ⟨rfl, b1⟩
    clear hv
    have q0 := (b1.cell (p := ⟨b, off + 0, none⟩) hk1.1).trans hk1.2
    have q1 := (b1.cell (p := ⟨b, off + (p.length - 1), none⟩) hk1.1).trans hk2.2
    rw [Nat.add_zero] at q0
    go_wp2_with fail
    refine (hir _).mono ?_
    rintro e wx ⟨rfl, rfl⟩
    clear hir hk1 hk2
    go_wp2
    go_ret
    exact ⟨ret_bool HN.out.symm, b1⟩
  have he2 : (v != y) = false := by simpa using hvy
  have HT3 : Hid (CkF es x y p = stepsB r p) := by rw [Hid, HT.out, HT2.out]; simp [hu, hvy]
  have hno : ∀ k, k < p.length - 1 → hasB r (gi p k) (gi p (k + 1)) = false → Hid (CkF es x y p = false) := fun k hk h => by rw [Hid, HT3.out]; exact allTo_bad hk h
  clear HT HT2 hu hvy
  have HD := Lib.hid hd
  go_enter Try.func33, Try.ntmps33
  go_wp2_with fail
  refine hv.mono ?_
  rintro e w1 ⟨rfl, b1⟩
  clear hv
  have q0 := (b1.cell (p := ⟨b, off + 0, none⟩) hk1.1).trans hk1.2
  have q1 := (b1.cell (p := ⟨b, off + (p.length - 1), none⟩) hk1.1).trans hk2.2
  rw [Nat.add_zero] at q0
  go_wp2_with fail
  refine (hir _).mono ?_
  rintro e wx ⟨rfl, rfl⟩
  clear hir hk1 hk2
  go_wp2
  clear q0 q1 hi1 hi2 hi3 he he2
  go_loopw [9] (fun i wr => ∃ j : Nat, 1 ≤ j ∧ j ≤ p.length ∧ i = .int .i64 j ∧ Hid (allTo (fun k => hasB r (gi p k) (gi p (k + 1))) (j - 1) = true) ∧ Below w.heap.size w wr) (fun i _ => p.length - (intOf i).toNat)
  case atStart => exact ⟨1, by omega, by omega, rfl, rfl, b1⟩
  case round =>
    obtain ⟨j, hj1, hj2, rfl, HS, hbel⟩ := hrel
    by_cases hlt : j < p.length
    · obtain ⟨k, hk⟩ : ∃ k, k = j - 1 := ⟨_, rfl⟩
      have hkl : k + 1 < p.length := by omega
      have HK : Hid (j = k + 1) := by rw [Hid]; omega
      have hlo0 : (0 : Int) ≤ (j : Int) - 1 := by omega
      have hlh : (j : Int) - 1 ≤ (j : Int) + 1 := by omega
      have hhc : (j : Int) + 1 ≤ d := by omega
      have ht1 : ((j : Int) - 1).toNat = k := by omega
      have ht2 : ((j : Int) + 1).toNat = j + 1 := by omega
      have hdk : ¬ d = k := by omega
      have hln : j + 1 - k = 2 := by omega
      have hltI : (j : Int) < p.length := by omega
      have hI : IntsAt wr (some ⟨b, off + k, none⟩) [gi p k, gi p (k + 1)] := (IntsAt.two HP.out hkl).below hbel
      have hcon := weightOf_s A c es (some ⟨b, off + k, none⟩) (d - k) [gi p k, gi p (k + 1)] wr (HX.out.below entR hbel) hI hn hr (by simp)
      have hwk := HW.out (gi p k) (gi p (k + 1))
      have hnk := hno k (by omega)
      have hyk : hasB r (gi p k) (gi p (k + 1)) = true → Hid (allTo (fun k => hasB r (gi p k) (gi p (k + 1))) (j + 1 - 1) = true) := fun h => by
        have h1 := HS.out
        rw [← hk] at h1
        rw [show j + 1 - 1 = k + 1 by omega]
        exact allTo_step h1 h
      clear hI hk hkl
      generalize gi p k = a at *
      generalize gi p (k + 1) = bb at *
      by_cases h0 : wOf es [a, bb] = 0
      · have HN := hnk (by rw [hwk, h0]; rfl)
        rw [h0] at hcon
        clear hnk hyk hwk h0 hno
        go_wp2_with fail
        refine hcon.mono ?_
        rintro e w2 ⟨rfl, b2⟩
        have hb2 := btr hbel b2
        clear hcon
        go_wp2
        go_ret
        exact ⟨ret_bool HN.out.symm, hb2⟩
      · have HN := hyk (by rw [hwk]; simpa using h0)
        have hne : (wOf es [a, bb] == 0) = false := by simpa using h0
        clear hnk hyk hwk h0 HS
        generalize wOf es [a, bb] = z at *
        go_wp2_with fail
        refine hcon.mono ?_
        rintro e w2 ⟨rfl, b2⟩
        have hb2 := btr hbel b2
        clear hcon hlo0 hlh hhc ht1 ht2 hdk hln
        go_wp2
        go_roundw
        case rel => exact ⟨j + 1, by omega, by omega, by go_num, HN, hb2⟩
        case measure => simp [intOf]; omega
    · obtain rfl : j = p.length := by omega
      have HN : Hid (CkF es x y p = true) := by rw [Hid, HT3.out]; exact HS.out
      clear HS
      go_wp2
      go_ret
      exact ⟨ret_bool HN.out.symm, hbel⟩
end Go.Proofs.Ytifjenleoagefaa
