/- HELPER, no statement of the seat: several texts in one file. -/
import Derived.Test.YtifjenleoagefaaGreatCga
import Derived.Test.YtifjenleoagefaaGreatCgl
import Derived.Test.YtifjenleoagefaaGreatRc
import Derived.Test.YtifjenleoagefaaGreatRs
import Derived.Test.YtifjenleoagefaaGreatEdg
import Derived.Test.YtifjenleoagefaaGreatEqs
import Derived.Test.YtifjenleoagefaaGreatGrf
/- HELPER, no statement of the seat: paths that are checked, on both sides. -/
namespace Go.Proofs.YtifjenleoagefaaGreat
open Go.RowKit Go.Sort Go.Shelf
set_option linter.unusedSimpArgs false
set_option linter.unusedVariables false

def hasB (r : List Nat) (u v : Int) : Bool := inB u 0 19 && (inB v 0 19 && hasR r u.toNat v.toNat)
def stepsB (r : List Nat) (p : List Int) : Bool := allTo (fun k => hasB r (gi p k) (gi p (k + 1))) (p.length - 1)
def pathB (r : List Nat) (p : List Int) : Bool := decide (2 ≤ p.length) && (decide (p.length ≤ 60) && stepsB r p)
def CkF (es : List Ent) (x y : Int) (p : List Int) : Bool := edgB es && (pathB (relOf es) p && (decide (gi p 0 = x) && decide (gi p (p.length - 1) = y)))
theorem hasB_wOf {es : List Ent} (h : edgB es = true) (u v : Int) : hasB (relOf es) u v = decide (wOf es [u, v] ≠ 0) := by
  have hr := relOf_ok h
  have hp := prs_relOf h
  generalize relOf es = r at *
  subst hp
  rw [ones_wOf (prs_ones r), Bool.eq_iff_iff, decide_eq_true_eq]
  constructor
  · intro hb
    simp only [hasB, inB, Bool.and_eq_true, decide_eq_true_eq] at hb
    obtain ⟨⟨h1, h2⟩, ⟨h3, h4⟩, h5⟩ := hb
    have h6 := (has_prs hr u.toNat v.toNat).2 h5
    rw [pr, Int.toNat_of_nonneg h1, Int.toNat_of_nonneg h3] at h6
    rw [if_pos h6]; decide
  · intro hne
    have h6 : (([u, v], (1 : Int)) : Ent) ∈ prs r := by
      by_cases hm : (([u, v], (1 : Int)) : Ent) ∈ prs r
      · exact hm
      · rw [if_neg hm] at hne; exact absurd rfl hne
    obtain ⟨x, y, hx, hy, hxy, e⟩ := mem_prs.1 h6
    simp only [pr, Prod.mk.injEq, List.cons.injEq, and_true] at e
    obtain ⟨rfl, rfl⟩ := e
    simp [hasB, inB, hxy]
    omega
theorem IntsAt.two {w : World} {b off : Nat} {p : List Int} (h : IntsAt w (some ⟨b, off, none⟩) p) {k : Nat} (hk : k + 1 < p.length) : IntsAt w (some ⟨b, off + k, none⟩) [gi p k, gi p (k + 1)] := fun _ => by
  obtain ⟨b2, off2, e, hlt, hc⟩ := h (by omega)
  injection e with e
  injection e with e1 e2
  subst e1; subst e2
  refine ⟨b, off + k, rfl, hlt, fun j hj => ?_⟩
  match j, hj with
  | 0, _ => have := hc k (by omega); simpa [gi, show k < p.length by omega] using this
  | 1, _ => have := hc (k + 1) hk; simpa [gi, hk, Nat.add_assoc] using this
  | j + 2, hj => exact absurd hj (by simp)
theorem IntsAt.cellG {w : World} {b off : Nat} {p : List Int} (h : IntsAt w (some ⟨b, off, none⟩) p) {k : Nat} (hk : k < p.length) : b < w.heap.size ∧ w.cell? ⟨b, off + k, none⟩ = some (.int .i64 (gi p k)) := by
  obtain ⟨b2, off2, e, hlt, hc⟩ := h (by omega)
  injection e with e
  injection e with e1 e2
  subst e1; subst e2
  have := hc k hk
  exact ⟨hlt, by simpa [gi, hk] using this⟩
set_option maxHeartbeats 3200000 in
theorem hasEdge_w (B : Nat) (r : List Nat) (u v : Int) (w : World) (hB : Blk w B 72 (relC r)) (hr : OkR r) :
    Calls Tryz.prog 72 #[.pointer (some ⟨B, 0, none⟩), .int .i64 u, .int .i64 v] w fun e w' => e = .returned (.bool (hasB r u v)) ∧ Below w.heap.size w w' := by
  have hBlt := hB.lt
  cases h1 : inB u 0 19
  · have HT : Hid (hasB r u v = false) := by simp [Hid, hasB, h1]
    clear hB
    go_enter Tryz.func72, Tryz.ntmps72
    go_wp2_with fail
    refine wp_region_facts [[], [0], [0, 1], [0, 1, 2], List.range 4, List.range 5, List.range 6, List.range 7, List.range 7, List.range 8, [0, 1, 2, 3, 4, 5, 6, 7, 9], List.range 11, List.range 12, List.range 7, [0, 1, 2, 3, 4, 5, 6, 13], List.range 15, List.range 16, List.range 17]
      [fun v' _ => v' = .int .i64 (u), fun v' _ => v' = .bool false, fun v' _ => v' = .bool false, fun v' _ => v' = undef, fun v' _ => v' = undef, fun v' _ => v' = .bool false, fun v' _ => v' = .bool false, fun v' _ => v' = undef, fun v' _ => v' = undef, fun v' _ => v' = undef, fun v' _ => v' = undef, fun v' _ => v' = undef, fun v' _ => v' = undef, fun v' _ => v' = undef, fun v' _ => v' = undef, fun v' _ => v' = undef, fun v' _ => v' = undef, fun v' _ => v' = .bool false]
      (by kernel_rfl) (by kernel_rfl) rfl ⟨stable_pure _, stable_pure _, stable_pure _, stable_pure _, stable_pure _, stable_pure _, stable_pure _, stable_pure _, stable_pure _, stable_pure _, stable_pure _, stable_pure _, stable_pure _, stable_pure _, stable_pure _, stable_pure _, stable_pure _, stable_pure _, trivial⟩ ?_
    refine wf_stepK [] [] (by kernel_rfl) (by kernel_rfl) (fun wf hb hf => ?_) (fun t0 => ?_)
    · refine ⟨?_⟩
      go_wp2
      exact ⟨rfl, .int .i64 (u), by kernel_rfl, Below.refl _ _, rfl⟩
    refine wf_stepK [0] [fun _ => t0 = .int .i64 (u)] (by kernel_rfl) (by kernel_rfl) (fun wf hb hf => ?_) (fun t1 => ?_)
    · obtain ⟨rfl, -⟩ := hf
      refine ⟨?_⟩
      go_wp2_with (go_at_call 22; refine (isVertex_w _ _).mono ?_; rintro e w2 ⟨rfl, rfl⟩; rw [h1])
      exact ⟨rfl, _, by kernel_rfl, Below.refl _ _, rfl⟩
    refine wf_stepK [1] [fun _ => t1 = .bool false] (by kernel_rfl) (by kernel_rfl) (fun wf hb hf => ?_) (fun t2 => ?_)
    · obtain ⟨rfl, -⟩ := hf
      refine ⟨?_⟩
      go_wp2
      exact ⟨rfl, .bool false, by kernel_rfl, Below.refl _ _, rfl⟩
    refine wf_stepK [2] [fun _ => t2 = .bool false] (by kernel_rfl) (by kernel_rfl) (fun wf hb hf => ?_) (fun t3 => ?_)
    · obtain ⟨rfl, -⟩ := hf
      exact WfOp.no (by kernel_rfl) rfl
    refine wf_stepK [2, 3] [fun _ => t2 = .bool false, fun _ => t3 = undef] (by kernel_rfl) (by kernel_rfl) (fun wf hb hf => ?_) (fun t4 => ?_)
    · obtain ⟨rfl, rfl, -⟩ := hf
      exact WfOp.no (by kernel_rfl) rfl
    refine wf_stepK [2, 4] [fun _ => t2 = .bool false, fun _ => t4 = undef] (by kernel_rfl) (by kernel_rfl) (fun wf hb hf => ?_) (fun t5 => ?_)
    · obtain ⟨rfl, rfl, -⟩ := hf
      refine ⟨?_⟩
      go_wp2
      exact ⟨rfl, .bool false, by kernel_rfl, Below.refl _ _, rfl⟩
    refine wf_stepK [5] [fun _ => t5 = .bool false] (by kernel_rfl) (by kernel_rfl) (fun wf hb hf => ?_) (fun t6 => ?_)
    · obtain ⟨rfl, -⟩ := hf
      refine ⟨?_⟩
      go_wp2
      exact ⟨rfl, .bool false, by kernel_rfl, Below.refl _ _, rfl⟩
    refine wf_stepK [6] [fun _ => t6 = .bool false] (by kernel_rfl) (by kernel_rfl) (fun wf hb hf => ?_) (fun t7 => ?_)
    · obtain ⟨rfl, -⟩ := hf
      exact WfOp.no (by kernel_rfl) rfl
    refine wf_stepK [6] [fun _ => t6 = .bool false] (by kernel_rfl) (by kernel_rfl) (fun wf hb hf => ?_) (fun t8 => ?_)
    · obtain ⟨rfl, -⟩ := hf
      exact WfOp.no (by kernel_rfl) rfl
    refine wf_stepK [6, 7] [fun _ => t6 = .bool false, fun _ => t7 = undef] (by kernel_rfl) (by kernel_rfl) (fun wf hb hf => ?_) (fun t9 => ?_)
    · obtain ⟨rfl, rfl, -⟩ := hf
      exact WfOp.no (by kernel_rfl) rfl
    refine wf_stepK [6, 9] [fun _ => t6 = .bool false, fun _ => t9 = undef] (by kernel_rfl) (by kernel_rfl) (fun wf hb hf => ?_) (fun t10 => ?_)
    · obtain ⟨rfl, rfl, -⟩ := hf
      exact WfOp.no (by kernel_rfl) rfl
    refine wf_stepK [6, 8, 10] [fun _ => t6 = .bool false, fun _ => t8 = undef, fun _ => t10 = undef] (by kernel_rfl) (by kernel_rfl) (fun wf hb hf => ?_) (fun t11 => ?_)
    · obtain ⟨rfl, rfl, rfl, -⟩ := hf
      exact WfOp.no (by kernel_rfl) rfl
    refine wf_stepK [6, 11] [fun _ => t6 = .bool false, fun _ => t11 = undef] (by kernel_rfl) (by kernel_rfl) (fun wf hb hf => ?_) (fun t12 => ?_)
    · obtain ⟨rfl, rfl, -⟩ := hf
      exact WfOp.no (by kernel_rfl) rfl
    refine wf_stepK [6] [fun _ => t6 = .bool false] (by kernel_rfl) (by kernel_rfl) (fun wf hb hf => ?_) (fun t13 => ?_)
    · obtain ⟨rfl, -⟩ := hf
      exact WfOp.no (by kernel_rfl) rfl
    refine wf_stepK [6, 13] [fun _ => t6 = .bool false, fun _ => t13 = undef] (by kernel_rfl) (by kernel_rfl) (fun wf hb hf => ?_) (fun t14 => ?_)
    · obtain ⟨rfl, rfl, -⟩ := hf
      exact WfOp.no (by kernel_rfl) rfl
    refine wf_stepK [6, 12, 14] [fun _ => t6 = .bool false, fun _ => t12 = undef, fun _ => t14 = undef] (by kernel_rfl) (by kernel_rfl) (fun wf hb hf => ?_) (fun t15 => ?_)
    · obtain ⟨rfl, rfl, rfl, -⟩ := hf
      exact WfOp.no (by kernel_rfl) rfl
    refine wf_stepK [6, 15] [fun _ => t6 = .bool false, fun _ => t15 = undef] (by kernel_rfl) (by kernel_rfl) (fun wf hb hf => ?_) (fun t16 => ?_)
    · obtain ⟨rfl, rfl, -⟩ := hf
      exact WfOp.no (by kernel_rfl) rfl
    refine wf_stepK [6, 16] [fun _ => t6 = .bool false, fun _ => t16 = undef] (by kernel_rfl) (by kernel_rfl) (fun wf hb hf => ?_) (fun t17 => ?_)
    · obtain ⟨rfl, rfl, -⟩ := hf
      refine ⟨?_⟩
      go_wp2
      exact ⟨rfl, .bool false, by kernel_rfl, Below.refl _ _, rfl⟩
    refine wf_doneK [17] [fun _ => t17 = .bool false] (by kernel_rfl) (by kernel_rfl) (fun w4 b4 hf => ?_)
    obtain ⟨rfl, -⟩ := hf
    show wpList _ _ _ [_] _ _
    refine wpList_frame (by simp [Act.put]; rfl) ?_
    go_wp2
    go_ret
    exact ⟨ret_bool HT.out.symm, b4⟩
  cases h2 : inB v 0 19
  · have HT : Hid (hasB r u v = false) := by simp [Hid, hasB, h1, h2]
    clear hB
    go_enter Tryz.func72, Tryz.ntmps72
    go_wp2_with fail
    refine wp_region_facts [[], [0], [0, 1], [0, 1, 2], List.range 4, List.range 5, List.range 6, List.range 7, List.range 7, List.range 8, [0, 1, 2, 3, 4, 5, 6, 7, 9], List.range 11, List.range 12, List.range 7, [0, 1, 2, 3, 4, 5, 6, 13], List.range 15, List.range 16, List.range 17]
      [fun v' _ => v' = .int .i64 (u), fun v' _ => v' = .bool true, fun v' _ => v' = .bool true, fun v' _ => v' = .int .i64 (v), fun v' _ => v' = .bool false, fun v' _ => v' = .bool false, fun v' _ => v' = .bool false, fun v' _ => v' = undef, fun v' _ => v' = undef, fun v' _ => v' = undef, fun v' _ => v' = undef, fun v' _ => v' = undef, fun v' _ => v' = undef, fun v' _ => v' = undef, fun v' _ => v' = undef, fun v' _ => v' = undef, fun v' _ => v' = undef, fun v' _ => v' = .bool false]
      (by kernel_rfl) (by kernel_rfl) rfl ⟨stable_pure _, stable_pure _, stable_pure _, stable_pure _, stable_pure _, stable_pure _, stable_pure _, stable_pure _, stable_pure _, stable_pure _, stable_pure _, stable_pure _, stable_pure _, stable_pure _, stable_pure _, stable_pure _, stable_pure _, stable_pure _, trivial⟩ ?_
    refine wf_stepK [] [] (by kernel_rfl) (by kernel_rfl) (fun wf hb hf => ?_) (fun t0 => ?_)
    · refine ⟨?_⟩
      go_wp2
      exact ⟨rfl, .int .i64 (u), by kernel_rfl, Below.refl _ _, rfl⟩
    refine wf_stepK [0] [fun _ => t0 = .int .i64 (u)] (by kernel_rfl) (by kernel_rfl) (fun wf hb hf => ?_) (fun t1 => ?_)
    · obtain ⟨rfl, -⟩ := hf
      refine ⟨?_⟩
      go_wp2_with (go_at_call 22; refine (isVertex_w _ _).mono ?_; rintro e w2 ⟨rfl, rfl⟩; rw [h1])
      exact ⟨rfl, _, by kernel_rfl, Below.refl _ _, rfl⟩
    refine wf_stepK [1] [fun _ => t1 = .bool true] (by kernel_rfl) (by kernel_rfl) (fun wf hb hf => ?_) (fun t2 => ?_)
    · obtain ⟨rfl, -⟩ := hf
      refine ⟨?_⟩
      go_wp2
      exact ⟨rfl, .bool true, by kernel_rfl, Below.refl _ _, rfl⟩
    refine wf_stepK [2] [fun _ => t2 = .bool true] (by kernel_rfl) (by kernel_rfl) (fun wf hb hf => ?_) (fun t3 => ?_)
    · obtain ⟨rfl, -⟩ := hf
      refine WfOp.yes (by kernel_rfl) ?_
      dsimp only
      go_wp2
      exact ⟨rfl, .int .i64 (v), by kernel_rfl, Below.refl _ _, rfl⟩
    refine wf_stepK [2, 3] [fun _ => t2 = .bool true, fun _ => t3 = .int .i64 (v)] (by kernel_rfl) (by kernel_rfl) (fun wf hb hf => ?_) (fun t4 => ?_)
    · obtain ⟨rfl, rfl, -⟩ := hf
      refine WfOp.yes (by kernel_rfl) ?_
      dsimp only
      go_wp2_with (go_at_call 22; refine (isVertex_w _ _).mono ?_; rintro e w2 ⟨rfl, rfl⟩; rw [h2])
      exact ⟨rfl, _, by kernel_rfl, Below.refl _ _, rfl⟩
    refine wf_stepK [2, 4] [fun _ => t2 = .bool true, fun _ => t4 = .bool false] (by kernel_rfl) (by kernel_rfl) (fun wf hb hf => ?_) (fun t5 => ?_)
    · obtain ⟨rfl, rfl, -⟩ := hf
      refine ⟨?_⟩
      go_wp2
      exact ⟨rfl, .bool false, by kernel_rfl, Below.refl _ _, rfl⟩
    refine wf_stepK [5] [fun _ => t5 = .bool false] (by kernel_rfl) (by kernel_rfl) (fun wf hb hf => ?_) (fun t6 => ?_)
    · obtain ⟨rfl, -⟩ := hf
      refine ⟨?_⟩
      go_wp2
      exact ⟨rfl, .bool false, by kernel_rfl, Below.refl _ _, rfl⟩
    refine wf_stepK [6] [fun _ => t6 = .bool false] (by kernel_rfl) (by kernel_rfl) (fun wf hb hf => ?_) (fun t7 => ?_)
    · obtain ⟨rfl, -⟩ := hf
      exact WfOp.no (by kernel_rfl) rfl
    refine wf_stepK [6] [fun _ => t6 = .bool false] (by kernel_rfl) (by kernel_rfl) (fun wf hb hf => ?_) (fun t8 => ?_)
    · obtain ⟨rfl, -⟩ := hf
      exact WfOp.no (by kernel_rfl) rfl
    refine wf_stepK [6, 7] [fun _ => t6 = .bool false, fun _ => t7 = undef] (by kernel_rfl) (by kernel_rfl) (fun wf hb hf => ?_) (fun t9 => ?_)
    · obtain ⟨rfl, rfl, -⟩ := hf
      exact WfOp.no (by kernel_rfl) rfl
    refine wf_stepK [6, 9] [fun _ => t6 = .bool false, fun _ => t9 = undef] (by kernel_rfl) (by kernel_rfl) (fun wf hb hf => ?_) (fun t10 => ?_)
    · obtain ⟨rfl, rfl, -⟩ := hf
      exact WfOp.no (by kernel_rfl) rfl
    refine wf_stepK [6, 8, 10] [fun _ => t6 = .bool false, fun _ => t8 = undef, fun _ => t10 = undef] (by kernel_rfl) (by kernel_rfl) (fun wf hb hf => ?_) (fun t11 => ?_)
    · obtain ⟨rfl, rfl, rfl, -⟩ := hf
      exact WfOp.no (by kernel_rfl) rfl
    refine wf_stepK [6, 11] [fun _ => t6 = .bool false, fun _ => t11 = undef] (by kernel_rfl) (by kernel_rfl) (fun wf hb hf => ?_) (fun t12 => ?_)
    · obtain ⟨rfl, rfl, -⟩ := hf
      exact WfOp.no (by kernel_rfl) rfl
    refine wf_stepK [6] [fun _ => t6 = .bool false] (by kernel_rfl) (by kernel_rfl) (fun wf hb hf => ?_) (fun t13 => ?_)
    · obtain ⟨rfl, -⟩ := hf
      exact WfOp.no (by kernel_rfl) rfl
    refine wf_stepK [6, 13] [fun _ => t6 = .bool false, fun _ => t13 = undef] (by kernel_rfl) (by kernel_rfl) (fun wf hb hf => ?_) (fun t14 => ?_)
    · obtain ⟨rfl, rfl, -⟩ := hf
      exact WfOp.no (by kernel_rfl) rfl
    refine wf_stepK [6, 12, 14] [fun _ => t6 = .bool false, fun _ => t12 = undef, fun _ => t14 = undef] (by kernel_rfl) (by kernel_rfl) (fun wf hb hf => ?_) (fun t15 => ?_)
    · obtain ⟨rfl, rfl, rfl, -⟩ := hf
      exact WfOp.no (by kernel_rfl) rfl
    refine wf_stepK [6, 15] [fun _ => t6 = .bool false, fun _ => t15 = undef] (by kernel_rfl) (by kernel_rfl) (fun wf hb hf => ?_) (fun t16 => ?_)
    · obtain ⟨rfl, rfl, -⟩ := hf
      exact WfOp.no (by kernel_rfl) rfl
    refine wf_stepK [6, 16] [fun _ => t6 = .bool false, fun _ => t16 = undef] (by kernel_rfl) (by kernel_rfl) (fun wf hb hf => ?_) (fun t17 => ?_)
    · obtain ⟨rfl, rfl, -⟩ := hf
      refine ⟨?_⟩
      go_wp2
      exact ⟨rfl, .bool false, by kernel_rfl, Below.refl _ _, rfl⟩
    refine wf_doneK [17] [fun _ => t17 = .bool false] (by kernel_rfl) (by kernel_rfl) (fun w4 b4 hf => ?_)
    obtain ⟨rfl, -⟩ := hf
    show wpList _ _ _ [_] _ _
    refine wpList_frame (by simp [Act.put]; rfl) ?_
    go_wp2
    go_ret
    exact ⟨ret_bool HT.out.symm, b4⟩
  obtain ⟨U, hU, rfl⟩ : ∃ U : Nat, U < 20 ∧ u = (U : Int) := ⟨u.toNat, by simp [inB] at h1; omega, by simp [inB] at h1; omega⟩
  obtain ⟨V, hV, rfl⟩ : ∃ V : Nat, V < 20 ∧ v = (V : Int) := ⟨v.toNat, by simp [inB] at h2; omega, by simp [inB] at h2; omega⟩
  have HT : Hid (hasB r U V = hasR r U V) := by simp [Hid, hasB, h1, h2]
  have hsv := fun W => setOfVertex_w V hV W
  have q := (hB.cell U).trans (relC_at (by rw [hr.len]; exact hU))
  have ha : r.getD U 0 < 4294967296 := by have := hr.at U; omega
  have hb0 : (0 : Int) ≤ U := by omega
  have hb1 : (U : Int) < 20 := by omega
  clear hB
  cases hb : hasR r U V
  · have hand := and_no ha hV hb
    rw [hb] at HT
    generalize r.getD U 0 = a at *
    generalize bitOf V = y at *
    clear hb ha
    go_enter Tryz.func72, Tryz.ntmps72
    go_wp2_with fail
    refine wp_region_facts [[], [0], [0, 1], [0, 1, 2], List.range 4, List.range 5, List.range 6, List.range 7, List.range 7, List.range 8, [0, 1, 2, 3, 4, 5, 6, 7, 9], List.range 11, List.range 12, List.range 7, [0, 1, 2, 3, 4, 5, 6, 13], List.range 15, List.range 16, List.range 17]
      [fun v' _ => v' = .int .i64 ((U : Int)), fun v' _ => v' = .bool true, fun v' _ => v' = .bool true, fun v' _ => v' = .int .i64 ((V : Int)), fun v' _ => v' = .bool true, fun v' _ => v' = .bool true, fun v' _ => v' = .bool true, fun v' _ => v' = .pointer (some ⟨B, 0, none⟩), fun v' _ => v' = .int .i64 ((U : Int)), fun v' _ => v' = .pointer (some ⟨B, 0, none⟩), fun v' _ => v' = .pointer (some ⟨B, 0, none⟩), fun v' _ => v' = .pointer (some ⟨B, U, none⟩), fun v' _ => v' = .int .u32 ((a : Nat) : Int), fun v' _ => v' = .int .i64 ((V : Int)), fun v' _ => v' = .int .u32 ((y : Nat) : Int), fun v' _ => v' = .int .u32 0, fun v' _ => v' = .bool false, fun v' _ => v' = .bool false]
      (by kernel_rfl) (by kernel_rfl) rfl ⟨stable_pure _, stable_pure _, stable_pure _, stable_pure _, stable_pure _, stable_pure _, stable_pure _, stable_pure _, stable_pure _, stable_pure _, stable_pure _, stable_pure _, stable_pure _, stable_pure _, stable_pure _, stable_pure _, stable_pure _, stable_pure _, trivial⟩ ?_
    refine wf_stepK [] [] (by kernel_rfl) (by kernel_rfl) (fun wf hb hf => ?_) (fun t0 => ?_)
    · refine ⟨?_⟩
      go_wp2
      exact ⟨rfl, .int .i64 ((U : Int)), by kernel_rfl, Below.refl _ _, rfl⟩
    refine wf_stepK [0] [fun _ => t0 = .int .i64 ((U : Int))] (by kernel_rfl) (by kernel_rfl) (fun wf hb hf => ?_) (fun t1 => ?_)
    · obtain ⟨rfl, -⟩ := hf
      refine ⟨?_⟩
      go_wp2_with (go_at_call 22; refine (isVertex_w _ _).mono ?_; rintro e w2 ⟨rfl, rfl⟩; rw [h1])
      exact ⟨rfl, _, by kernel_rfl, Below.refl _ _, rfl⟩
    refine wf_stepK [1] [fun _ => t1 = .bool true] (by kernel_rfl) (by kernel_rfl) (fun wf hb hf => ?_) (fun t2 => ?_)
    · obtain ⟨rfl, -⟩ := hf
      refine ⟨?_⟩
      go_wp2
      exact ⟨rfl, .bool true, by kernel_rfl, Below.refl _ _, rfl⟩
    refine wf_stepK [2] [fun _ => t2 = .bool true] (by kernel_rfl) (by kernel_rfl) (fun wf hb hf => ?_) (fun t3 => ?_)
    · obtain ⟨rfl, -⟩ := hf
      refine WfOp.yes (by kernel_rfl) ?_
      dsimp only
      go_wp2
      exact ⟨rfl, .int .i64 ((V : Int)), by kernel_rfl, Below.refl _ _, rfl⟩
    refine wf_stepK [2, 3] [fun _ => t2 = .bool true, fun _ => t3 = .int .i64 ((V : Int))] (by kernel_rfl) (by kernel_rfl) (fun wf hb hf => ?_) (fun t4 => ?_)
    · obtain ⟨rfl, rfl, -⟩ := hf
      refine WfOp.yes (by kernel_rfl) ?_
      dsimp only
      go_wp2_with (go_at_call 22; refine (isVertex_w _ _).mono ?_; rintro e w2 ⟨rfl, rfl⟩; rw [h2])
      exact ⟨rfl, _, by kernel_rfl, Below.refl _ _, rfl⟩
    refine wf_stepK [2, 4] [fun _ => t2 = .bool true, fun _ => t4 = .bool true] (by kernel_rfl) (by kernel_rfl) (fun wf hb hf => ?_) (fun t5 => ?_)
    · obtain ⟨rfl, rfl, -⟩ := hf
      refine ⟨?_⟩
      go_wp2
      exact ⟨rfl, .bool true, by kernel_rfl, Below.refl _ _, rfl⟩
    refine wf_stepK [5] [fun _ => t5 = .bool true] (by kernel_rfl) (by kernel_rfl) (fun wf hb hf => ?_) (fun t6 => ?_)
    · obtain ⟨rfl, -⟩ := hf
      refine ⟨?_⟩
      go_wp2
      exact ⟨rfl, .bool true, by kernel_rfl, Below.refl _ _, rfl⟩
    refine wf_stepK [6] [fun _ => t6 = .bool true] (by kernel_rfl) (by kernel_rfl) (fun wf hb hf => ?_) (fun t7 => ?_)
    · obtain ⟨rfl, -⟩ := hf
      refine WfOp.yes (by kernel_rfl) ?_
      dsimp only
      go_wp2
      exact ⟨rfl, .pointer (some ⟨B, 0, none⟩), by kernel_rfl, Below.refl _ _, rfl⟩
    refine wf_stepK [6] [fun _ => t6 = .bool true] (by kernel_rfl) (by kernel_rfl) (fun wf hb hf => ?_) (fun t8 => ?_)
    · obtain ⟨rfl, -⟩ := hf
      refine WfOp.yes (by kernel_rfl) ?_
      dsimp only
      go_wp2
      exact ⟨rfl, .int .i64 ((U : Int)), by kernel_rfl, Below.refl _ _, rfl⟩
    refine wf_stepK [6, 7] [fun _ => t6 = .bool true, fun _ => t7 = .pointer (some ⟨B, 0, none⟩)] (by kernel_rfl) (by kernel_rfl) (fun wf hb hf => ?_) (fun t9 => ?_)
    · obtain ⟨rfl, rfl, -⟩ := hf
      refine WfOp.yes (by kernel_rfl) ?_
      dsimp only
      go_wp2
      exact ⟨rfl, .pointer (some ⟨B, 0, none⟩), by kernel_rfl, Below.refl _ _, rfl⟩
    refine wf_stepK [6, 9] [fun _ => t6 = .bool true, fun _ => t9 = .pointer (some ⟨B, 0, none⟩)] (by kernel_rfl) (by kernel_rfl) (fun wf hb hf => ?_) (fun t10 => ?_)
    · obtain ⟨rfl, rfl, -⟩ := hf
      refine WfOp.yes (by kernel_rfl) ?_
      dsimp only
      go_wp2
      exact ⟨rfl, .pointer (some ⟨B, 0, none⟩), by kernel_rfl, Below.refl _ _, rfl⟩
    refine wf_stepK [6, 8, 10] [fun _ => t6 = .bool true, fun _ => t8 = .int .i64 ((U : Int)), fun _ => t10 = .pointer (some ⟨B, 0, none⟩)] (by kernel_rfl) (by kernel_rfl) (fun wf hb hf => ?_) (fun t11 => ?_)
    · obtain ⟨rfl, rfl, rfl, -⟩ := hf
      refine WfOp.yes (by kernel_rfl) ?_
      dsimp only
      go_wp2
      exact ⟨rfl, .pointer (some ⟨B, U, none⟩), by kernel_rfl, Below.refl _ _, rfl⟩
    refine wf_stepK [6, 11] [fun _ => t6 = .bool true, fun _ => t11 = .pointer (some ⟨B, U, none⟩)] (by kernel_rfl) (by kernel_rfl) (fun wf hb hf => ?_) (fun t12 => ?_)
    · obtain ⟨rfl, rfl, -⟩ := hf
      refine WfOp.yes (by kernel_rfl) ?_
      dsimp only
      have z0 := (hb.cell (p := ⟨B, U, none⟩) hBlt).trans q
      go_wp2
      exact ⟨rfl, .int .u32 ((a : Nat) : Int), by kernel_rfl, Below.refl _ _, rfl⟩
    refine wf_stepK [6] [fun _ => t6 = .bool true] (by kernel_rfl) (by kernel_rfl) (fun wf hb hf => ?_) (fun t13 => ?_)
    · obtain ⟨rfl, -⟩ := hf
      refine WfOp.yes (by kernel_rfl) ?_
      dsimp only
      go_wp2
      exact ⟨rfl, .int .i64 ((V : Int)), by kernel_rfl, Below.refl _ _, rfl⟩
    refine wf_stepK [6, 13] [fun _ => t6 = .bool true, fun _ => t13 = .int .i64 ((V : Int))] (by kernel_rfl) (by kernel_rfl) (fun wf hb hf => ?_) (fun t14 => ?_)
    · obtain ⟨rfl, rfl, -⟩ := hf
      refine WfOp.yes (by kernel_rfl) ?_
      dsimp only
      go_wp2_with (go_at_call 51; refine (hsv _).mono ?_; rintro e w2 ⟨rfl, rfl⟩)
      exact ⟨rfl, _, by kernel_rfl, Below.refl _ _, rfl⟩
    refine wf_stepK [6, 12, 14] [fun _ => t6 = .bool true, fun _ => t12 = .int .u32 ((a : Nat) : Int), fun _ => t14 = .int .u32 ((y : Nat) : Int)] (by kernel_rfl) (by kernel_rfl) (fun wf hb hf => ?_) (fun t15 => ?_)
    · obtain ⟨rfl, rfl, rfl, -⟩ := hf
      refine WfOp.yes (by kernel_rfl) ?_
      dsimp only
      go_wp2
      exact ⟨rfl, .int .u32 0, by kernel_rfl, Below.refl _ _, rfl⟩
    refine wf_stepK [6, 15] [fun _ => t6 = .bool true, fun _ => t15 = .int .u32 0] (by kernel_rfl) (by kernel_rfl) (fun wf hb hf => ?_) (fun t16 => ?_)
    · obtain ⟨rfl, rfl, -⟩ := hf
      refine WfOp.yes (by kernel_rfl) ?_
      dsimp only
      go_wp2
      exact ⟨rfl, .bool false, by kernel_rfl, Below.refl _ _, rfl⟩
    refine wf_stepK [6, 16] [fun _ => t6 = .bool true, fun _ => t16 = .bool false] (by kernel_rfl) (by kernel_rfl) (fun wf hb hf => ?_) (fun t17 => ?_)
    · obtain ⟨rfl, rfl, -⟩ := hf
      refine ⟨?_⟩
      go_wp2
      exact ⟨rfl, .bool false, by kernel_rfl, Below.refl _ _, rfl⟩
    refine wf_doneK [17] [fun _ => t17 = .bool false] (by kernel_rfl) (by kernel_rfl) (fun w4 b4 hf => ?_)
    obtain ⟨rfl, -⟩ := hf
    show wpList _ _ _ [_] _ _
    refine wpList_frame (by simp [Act.put]; rfl) ?_
    go_wp2
    go_ret
    exact ⟨ret_bool HT.out.symm, b4⟩
  · have hand := and_yes ha hV hb
    have hy0 : (((bitOf V : Nat) : Int) != 0) = true := by
      rw [bne_iff_ne]
      have : 0 < bitOf V := Nat.pos_of_ne_zero (by unfold bitOf; exact Nat.pos_iff_ne_zero.1 (Nat.two_pow_pos V))
      omega
    rw [hb] at HT
    generalize r.getD U 0 = a at *
    generalize bitOf V = y at *
    clear hb ha
    go_enter Tryz.func72, Tryz.ntmps72
    go_wp2_with fail
    refine wp_region_facts [[], [0], [0, 1], [0, 1, 2], List.range 4, List.range 5, List.range 6, List.range 7, List.range 7, List.range 8, [0, 1, 2, 3, 4, 5, 6, 7, 9], List.range 11, List.range 12, List.range 7, [0, 1, 2, 3, 4, 5, 6, 13], List.range 15, List.range 16, List.range 17]
      [fun v' _ => v' = .int .i64 ((U : Int)), fun v' _ => v' = .bool true, fun v' _ => v' = .bool true, fun v' _ => v' = .int .i64 ((V : Int)), fun v' _ => v' = .bool true, fun v' _ => v' = .bool true, fun v' _ => v' = .bool true, fun v' _ => v' = .pointer (some ⟨B, 0, none⟩), fun v' _ => v' = .int .i64 ((U : Int)), fun v' _ => v' = .pointer (some ⟨B, 0, none⟩), fun v' _ => v' = .pointer (some ⟨B, 0, none⟩), fun v' _ => v' = .pointer (some ⟨B, U, none⟩), fun v' _ => v' = .int .u32 ((a : Nat) : Int), fun v' _ => v' = .int .i64 ((V : Int)), fun v' _ => v' = .int .u32 ((y : Nat) : Int), fun v' _ => v' = .int .u32 ((y : Nat) : Int), fun v' _ => v' = .bool true, fun v' _ => v' = .bool true]
      (by kernel_rfl) (by kernel_rfl) rfl ⟨stable_pure _, stable_pure _, stable_pure _, stable_pure _, stable_pure _, stable_pure _, stable_pure _, stable_pure _, stable_pure _, stable_pure _, stable_pure _, stable_pure _, stable_pure _, stable_pure _, stable_pure _, stable_pure _, stable_pure _, stable_pure _, trivial⟩ ?_
    refine wf_stepK [] [] (by kernel_rfl) (by kernel_rfl) (fun wf hb hf => ?_) (fun t0 => ?_)
    · refine ⟨?_⟩
      go_wp2
      exact ⟨rfl, .int .i64 ((U : Int)), by kernel_rfl, Below.refl _ _, rfl⟩
    refine wf_stepK [0] [fun _ => t0 = .int .i64 ((U : Int))] (by kernel_rfl) (by kernel_rfl) (fun wf hb hf => ?_) (fun t1 => ?_)
    · obtain ⟨rfl, -⟩ := hf
      refine ⟨?_⟩
      go_wp2_with (go_at_call 22; refine (isVertex_w _ _).mono ?_; rintro e w2 ⟨rfl, rfl⟩; rw [h1])
      exact ⟨rfl, _, by kernel_rfl, Below.refl _ _, rfl⟩
    refine wf_stepK [1] [fun _ => t1 = .bool true] (by kernel_rfl) (by kernel_rfl) (fun wf hb hf => ?_) (fun t2 => ?_)
    · obtain ⟨rfl, -⟩ := hf
      refine ⟨?_⟩
      go_wp2
      exact ⟨rfl, .bool true, by kernel_rfl, Below.refl _ _, rfl⟩
    refine wf_stepK [2] [fun _ => t2 = .bool true] (by kernel_rfl) (by kernel_rfl) (fun wf hb hf => ?_) (fun t3 => ?_)
    · obtain ⟨rfl, -⟩ := hf
      refine WfOp.yes (by kernel_rfl) ?_
      dsimp only
      go_wp2
      exact ⟨rfl, .int .i64 ((V : Int)), by kernel_rfl, Below.refl _ _, rfl⟩
    refine wf_stepK [2, 3] [fun _ => t2 = .bool true, fun _ => t3 = .int .i64 ((V : Int))] (by kernel_rfl) (by kernel_rfl) (fun wf hb hf => ?_) (fun t4 => ?_)
    · obtain ⟨rfl, rfl, -⟩ := hf
      refine WfOp.yes (by kernel_rfl) ?_
      dsimp only
      go_wp2_with (go_at_call 22; refine (isVertex_w _ _).mono ?_; rintro e w2 ⟨rfl, rfl⟩; rw [h2])
      exact ⟨rfl, _, by kernel_rfl, Below.refl _ _, rfl⟩
    refine wf_stepK [2, 4] [fun _ => t2 = .bool true, fun _ => t4 = .bool true] (by kernel_rfl) (by kernel_rfl) (fun wf hb hf => ?_) (fun t5 => ?_)
    · obtain ⟨rfl, rfl, -⟩ := hf
      refine ⟨?_⟩
      go_wp2
      exact ⟨rfl, .bool true, by kernel_rfl, Below.refl _ _, rfl⟩
    refine wf_stepK [5] [fun _ => t5 = .bool true] (by kernel_rfl) (by kernel_rfl) (fun wf hb hf => ?_) (fun t6 => ?_)
    · obtain ⟨rfl, -⟩ := hf
      refine ⟨?_⟩
      go_wp2
      exact ⟨rfl, .bool true, by kernel_rfl, Below.refl _ _, rfl⟩
    refine wf_stepK [6] [fun _ => t6 = .bool true] (by kernel_rfl) (by kernel_rfl) (fun wf hb hf => ?_) (fun t7 => ?_)
    · obtain ⟨rfl, -⟩ := hf
      refine WfOp.yes (by kernel_rfl) ?_
      dsimp only
      go_wp2
      exact ⟨rfl, .pointer (some ⟨B, 0, none⟩), by kernel_rfl, Below.refl _ _, rfl⟩
    refine wf_stepK [6] [fun _ => t6 = .bool true] (by kernel_rfl) (by kernel_rfl) (fun wf hb hf => ?_) (fun t8 => ?_)
    · obtain ⟨rfl, -⟩ := hf
      refine WfOp.yes (by kernel_rfl) ?_
      dsimp only
      go_wp2
      exact ⟨rfl, .int .i64 ((U : Int)), by kernel_rfl, Below.refl _ _, rfl⟩
    refine wf_stepK [6, 7] [fun _ => t6 = .bool true, fun _ => t7 = .pointer (some ⟨B, 0, none⟩)] (by kernel_rfl) (by kernel_rfl) (fun wf hb hf => ?_) (fun t9 => ?_)
    · obtain ⟨rfl, rfl, -⟩ := hf
      refine WfOp.yes (by kernel_rfl) ?_
      dsimp only
      go_wp2
      exact ⟨rfl, .pointer (some ⟨B, 0, none⟩), by kernel_rfl, Below.refl _ _, rfl⟩
    refine wf_stepK [6, 9] [fun _ => t6 = .bool true, fun _ => t9 = .pointer (some ⟨B, 0, none⟩)] (by kernel_rfl) (by kernel_rfl) (fun wf hb hf => ?_) (fun t10 => ?_)
    · obtain ⟨rfl, rfl, -⟩ := hf
      refine WfOp.yes (by kernel_rfl) ?_
      dsimp only
      go_wp2
      exact ⟨rfl, .pointer (some ⟨B, 0, none⟩), by kernel_rfl, Below.refl _ _, rfl⟩
    refine wf_stepK [6, 8, 10] [fun _ => t6 = .bool true, fun _ => t8 = .int .i64 ((U : Int)), fun _ => t10 = .pointer (some ⟨B, 0, none⟩)] (by kernel_rfl) (by kernel_rfl) (fun wf hb hf => ?_) (fun t11 => ?_)
    · obtain ⟨rfl, rfl, rfl, -⟩ := hf
      refine WfOp.yes (by kernel_rfl) ?_
      dsimp only
      go_wp2
      exact ⟨rfl, .pointer (some ⟨B, U, none⟩), by kernel_rfl, Below.refl _ _, rfl⟩
    refine wf_stepK [6, 11] [fun _ => t6 = .bool true, fun _ => t11 = .pointer (some ⟨B, U, none⟩)] (by kernel_rfl) (by kernel_rfl) (fun wf hb hf => ?_) (fun t12 => ?_)
    · obtain ⟨rfl, rfl, -⟩ := hf
      refine WfOp.yes (by kernel_rfl) ?_
      dsimp only
      have z0 := (hb.cell (p := ⟨B, U, none⟩) hBlt).trans q
      go_wp2
      exact ⟨rfl, .int .u32 ((a : Nat) : Int), by kernel_rfl, Below.refl _ _, rfl⟩
    refine wf_stepK [6] [fun _ => t6 = .bool true] (by kernel_rfl) (by kernel_rfl) (fun wf hb hf => ?_) (fun t13 => ?_)
    · obtain ⟨rfl, -⟩ := hf
      refine WfOp.yes (by kernel_rfl) ?_
      dsimp only
      go_wp2
      exact ⟨rfl, .int .i64 ((V : Int)), by kernel_rfl, Below.refl _ _, rfl⟩
    refine wf_stepK [6, 13] [fun _ => t6 = .bool true, fun _ => t13 = .int .i64 ((V : Int))] (by kernel_rfl) (by kernel_rfl) (fun wf hb hf => ?_) (fun t14 => ?_)
    · obtain ⟨rfl, rfl, -⟩ := hf
      refine WfOp.yes (by kernel_rfl) ?_
      dsimp only
      go_wp2_with (go_at_call 51; refine (hsv _).mono ?_; rintro e w2 ⟨rfl, rfl⟩)
      exact ⟨rfl, _, by kernel_rfl, Below.refl _ _, rfl⟩
    refine wf_stepK [6, 12, 14] [fun _ => t6 = .bool true, fun _ => t12 = .int .u32 ((a : Nat) : Int), fun _ => t14 = .int .u32 ((y : Nat) : Int)] (by kernel_rfl) (by kernel_rfl) (fun wf hb hf => ?_) (fun t15 => ?_)
    · obtain ⟨rfl, rfl, rfl, -⟩ := hf
      refine WfOp.yes (by kernel_rfl) ?_
      dsimp only
      go_wp2
      exact ⟨rfl, .int .u32 ((y : Nat) : Int), by kernel_rfl, Below.refl _ _, rfl⟩
    refine wf_stepK [6, 15] [fun _ => t6 = .bool true, fun _ => t15 = .int .u32 ((y : Nat) : Int)] (by kernel_rfl) (by kernel_rfl) (fun wf hb hf => ?_) (fun t16 => ?_)
    · obtain ⟨rfl, rfl, -⟩ := hf
      refine WfOp.yes (by kernel_rfl) ?_
      dsimp only
      go_wp2
      exact ⟨rfl, .bool true, by kernel_rfl, Below.refl _ _, rfl⟩
    refine wf_stepK [6, 16] [fun _ => t6 = .bool true, fun _ => t16 = .bool true] (by kernel_rfl) (by kernel_rfl) (fun wf hb hf => ?_) (fun t17 => ?_)
    · obtain ⟨rfl, rfl, -⟩ := hf
      refine ⟨?_⟩
      go_wp2
      exact ⟨rfl, .bool true, by kernel_rfl, Below.refl _ _, rfl⟩
    refine wf_doneK [17] [fun _ => t17 = .bool true] (by kernel_rfl) (by kernel_rfl) (fun w4 b4 hf => ?_)
    obtain ⟨rfl, -⟩ := hf
    show wpList _ _ _ [_] _ _
    refine wpList_frame (by simp [Act.put]; rfl) ?_
    go_wp2
    go_ret
    exact ⟨ret_bool HT.out.symm, b4⟩
end Go.Proofs.YtifjenleoagefaaGreat

/- HELPER, no statement of the seat: CheckPath of both sides. -/
namespace Go.Proofs.YtifjenleoagefaaGreat
open Go.RowKit Go.Sort Go.Shelf
set_option linter.unusedSimpArgs false
set_option linter.unusedVariables false

theorem relC_expl : ∀ {l : List Nat}, l.length = 20 → ∃ a0 a1 a2 a3 a4 a5 a6 a7 a8 a9 a10 a11 a12 a13 a14 a15 a16 a17 a18 a19 : Nat, relC l = #[.int .u32 ((a0 : Nat) : Int), .int .u32 ((a1 : Nat) : Int), .int .u32 ((a2 : Nat) : Int), .int .u32 ((a3 : Nat) : Int), .int .u32 ((a4 : Nat) : Int), .int .u32 ((a5 : Nat) : Int), .int .u32 ((a6 : Nat) : Int), .int .u32 ((a7 : Nat) : Int), .int .u32 ((a8 : Nat) : Int), .int .u32 ((a9 : Nat) : Int), .int .u32 ((a10 : Nat) : Int), .int .u32 ((a11 : Nat) : Int), .int .u32 ((a12 : Nat) : Int), .int .u32 ((a13 : Nat) : Int), .int .u32 ((a14 : Nat) : Int), .int .u32 ((a15 : Nat) : Int), .int .u32 ((a16 : Nat) : Int), .int .u32 ((a17 : Nat) : Int), .int .u32 ((a18 : Nat) : Int), .int .u32 ((a19 : Nat) : Int)]
  | [a0, a1, a2, a3, a4, a5, a6, a7, a8, a9, a10, a11, a12, a13, a14, a15, a16, a17, a18, a19], _ => ⟨a0, a1, a2, a3, a4, a5, a6, a7, a8, a9, a10, a11, a12, a13, a14, a15, a16, a17, a18, a19, rfl⟩
theorem IntsAt.open2 {w : World} {A : Option Addr} {p : List Int} (h : IntsAt w A p) (hn : 0 < p.length) : ∃ b off, A = some ⟨b, off, none⟩ := by
  obtain ⟨b, off, e, -⟩ := h hn
  exact ⟨b, off, e⟩
theorem wpList_buildK {P0 : Program} {ops : Array Oper} {rest : List Oper} {o : Oper} {a : Act} {w : World} {Q : Exit → Act → World → Prop} (hg : o.guard = none) (t : TypeId) (parts : Array (Nat × Operand)) (ho : o.op = .build t parts) (cells : Array Value)
    (hb : P0.built t (parts.map fun (i, x) => (i, a.eval x)).toList = some cells) (h : wpList P0 ops Q rest (a.put o.dst (.agg cells)) w) : wpList P0 ops Q (o :: rest) a w :=
  wpList_build hg t parts ho (by rw [hb]; rfl) (by rw [hb]; exact h)
theorem infoCk : (Tryz.prog.info? 72).map (·.size) = some 20 := by kernel_rfl
theorem built_ck {r : List Nat} (h : r.length = 20) : Tryz.prog.built 72 [(0, .agg (relC r))] = some (relC r) := by
  obtain ⟨a0, a1, a2, a3, a4, a5, a6, a7, a8, a9, a10, a11, a12, a13, a14, a15, a16, a17, a18, a19, hex⟩ := relC_expl h
  rw [hex]
  kernel_rfl
end Go.Proofs.YtifjenleoagefaaGreat

/- HELPER, no statement of the seat: the model's CheckPath. -/
namespace Go.Proofs.YtifjenleoagefaaGreat
open Go.RowKit Go.Sort Go.Shelf
set_option linter.unusedSimpArgs false
set_option linter.unusedVariables false

end Go.Proofs.YtifjenleoagefaaGreat
