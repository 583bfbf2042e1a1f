/- HELPER, no statement of the seat: hasEdge of a checker that lies at the beginning of a larger block. -/
import Derived.Test.YtifjenleoagefaaGreatCgf
namespace Go.Proofs.YtifjenleoagefaaGreat
open Go.RowKit Go.Sort Go.Shelf
set_option linter.unusedSimpArgs false
set_option linter.unusedVariables false

set_option maxHeartbeats 3200000 in
theorem hasEdge_c (B : Nat) (r : List Nat) (u v : Int) (w : World) (hBlt : B < w.heap.size) (hB : ∀ x, x < 20 → w.cell? ⟨B, x, none⟩ = some (.int .u32 ((r.getD x 0 : Nat) : Int))) (hr : OkR r) :
    Calls Tryz.prog 72 #[.pointer (some ⟨B, 0, none⟩), .int .i64 u, .int .i64 v] w fun e w' => e = .returned (.bool (hasB r u v)) ∧ Below w.heap.size w w' := by
  cases h1 : inB u 0 19
  · have HT : Hid (hasB r u v = false) := by simp [Hid, hasB, h1]
    clear hB
    go_enter Tryz.func72, Tryz.ntmps72
    go_wp2_with fail
    refine wp_region_facts [[], [0], [0, 1], [0, 1, 2], List.range 4, List.range 5, List.range 6, List.range 7, List.range 7, List.range 8, [0, 1, 2, 3, 4, 5, 6, 7, 9], List.range 11, List.range 12, List.range 7, [0, 1, 2, 3, 4, 5, 6, 13], List.range 15, List.range 16, List.range 17]
      [fun v' _ => v' = .int .i64 (u), fun v' _ => v' = .bool false, fun v' _ => v' = .bool false, fun v' _ => v' = undef, fun v' _ => v' = undef, fun v' _ => v' = .bool false, fun v' _ => v' = .bool false, fun v' _ => v' = undef, fun v' _ => v' = undef, fun v' _ => v' = undef, fun v' _ => v' = undef, fun v' _ => v' = undef, fun v' _ => v' = undef, fun v' _ => v' = undef, fun v' _ => v' = undef, fun v' _ => v' = undef, fun v' _ => v' = undef, fun v' _ => v' = .bool false]
      (by kernel_rfl) (by kernel_rfl) rfl ⟨stable_pure _, stable_pure _, stable_pure _, stable_pure _, stable_pure _, stable_pure _, stable_pure _, stable_pure _, stable_pure _, stable_pure _, stable_pure _, stable_pure _, stable_pure _, stable_pure _, stable_pure _, stable_pure _, stable_pure _, stable_pure _, trivial⟩ ?_
    refine wf_stepK [] [] (by kernel_rfl) (by kernel_rfl) (fun wf hb hf => ?_) (fun t0 => ?_)
    · refine ⟨?_⟩
      go_wp2
      exact ⟨rfl, .int .i64 (u), by kernel_rfl, Below.refl _ _, rfl⟩
    refine wf_stepK [0] [fun _ => t0 = .int .i64 (u)] (by kernel_rfl) (by kernel_rfl) (fun wf hb hf => ?_) (fun t1 => ?_)
    · obtain ⟨rfl, -⟩ := hf
      refine ⟨?_⟩
      go_wp2_with (go_at_call 22; refine (isVertex_w _ _).mono ?_; rintro e w2 ⟨rfl, rfl⟩; rw [h1])
      exact ⟨rfl, _, by kernel_rfl, Below.refl _ _, rfl⟩
    refine wf_stepK [1] [fun _ => t1 = .bool false] (by kernel_rfl) (by kernel_rfl) (fun wf hb hf => ?_) (fun t2 => ?_)
    · obtain ⟨rfl, -⟩ := hf
      refine ⟨?_⟩
      go_wp2
      exact ⟨rfl, .bool false, by kernel_rfl, Below.refl _ _, rfl⟩
    refine wf_stepK [2] [fun _ => t2 = .bool false] (by kernel_rfl) (by kernel_rfl) (fun wf hb hf => ?_) (fun t3 => ?_)
    · obtain ⟨rfl, -⟩ := hf
      exact WfOp.no (by kernel_rfl) rfl
    refine wf_stepK [2, 3] [fun _ => t2 = .bool false, fun _ => t3 = undef] (by kernel_rfl) (by kernel_rfl) (fun wf hb hf => ?_) (fun t4 => ?_)
    · obtain ⟨rfl, rfl, -⟩ := hf
      exact WfOp.no (by kernel_rfl) rfl
    refine wf_stepK [2, 4] [fun _ => t2 = .bool false, fun _ => t4 = undef] (by kernel_rfl) (by kernel_rfl) (fun wf hb hf => ?_) (fun t5 => ?_)
    · obtain ⟨rfl, rfl, -⟩ := hf
      refine ⟨?_⟩
      go_wp2
      exact ⟨rfl, .bool false, by kernel_rfl, Below.refl _ _, rfl⟩
    refine wf_stepK [5] [fun _ => t5 = .bool false] (by kernel_rfl) (by kernel_rfl) (fun wf hb hf => ?_) (fun t6 => ?_)
    · obtain ⟨rfl, -⟩ := hf
      refine ⟨?_⟩
      go_wp2
      exact ⟨rfl, .bool false, by kernel_rfl, Below.refl _ _, rfl⟩
    refine wf_stepK [6] [fun _ => t6 = .bool false] (by kernel_rfl) (by kernel_rfl) (fun wf hb hf => ?_) (fun t7 => ?_)
    · obtain ⟨rfl, -⟩ := hf
      exact WfOp.no (by kernel_rfl) rfl
    refine wf_stepK [6] [fun _ => t6 = .bool false] (by kernel_rfl) (by kernel_rfl) (fun wf hb hf => ?_) (fun t8 => ?_)
    · obtain ⟨rfl, -⟩ := hf
      exact WfOp.no (by kernel_rfl) rfl
    refine wf_stepK [6, 7] [fun _ => t6 = .bool false, fun _ => t7 = undef] (by kernel_rfl) (by kernel_rfl) (fun wf hb hf => ?_) (fun t9 => ?_)
    · obtain ⟨rfl, rfl, -⟩ := hf
      exact WfOp.no (by kernel_rfl) rfl
    refine wf_stepK [6, 9] [fun _ => t6 = .bool false, fun _ => t9 = undef] (by kernel_rfl) (by kernel_rfl) (fun wf hb hf => ?_) (fun t10 => ?_)
    · obtain ⟨rfl, rfl, -⟩ := hf
      exact WfOp.no (by kernel_rfl) rfl
    refine wf_stepK [6, 8, 10] [fun _ => t6 = .bool false, fun _ => t8 = undef, fun _ => t10 = undef] (by kernel_rfl) (by kernel_rfl) (fun wf hb hf => ?_) (fun t11 => ?_)
    · obtain ⟨rfl, rfl, rfl, -⟩ := hf
      exact WfOp.no (by kernel_rfl) rfl
    refine wf_stepK [6, 11] [fun _ => t6 = .bool false, fun _ => t11 = undef] (by kernel_rfl) (by kernel_rfl) (fun wf hb hf => ?_) (fun t12 => ?_)
    · obtain ⟨rfl, rfl, -⟩ := hf
      exact WfOp.no (by kernel_rfl) rfl
    refine wf_stepK [6] [fun _ => t6 = .bool false] (by kernel_rfl) (by kernel_rfl) (fun wf hb hf => ?_) (fun t13 => ?_)
    · obtain ⟨rfl, -⟩ := hf
      exact WfOp.no (by kernel_rfl) rfl
    refine wf_stepK [6, 13] [fun _ => t6 = .bool false, fun _ => t13 = undef] (by kernel_rfl) (by kernel_rfl) (fun wf hb hf => ?_) (fun t14 => ?_)
    · obtain ⟨rfl, rfl, -⟩ := hf
      exact WfOp.no (by kernel_rfl) rfl
    refine wf_stepK [6, 12, 14] [fun _ => t6 = .bool false, fun _ => t12 = undef, fun _ => t14 = undef] (by kernel_rfl) (by kernel_rfl) (fun wf hb hf => ?_) (fun t15 => ?_)
    · obtain ⟨rfl, rfl, rfl, -⟩ := hf
      exact WfOp.no (by kernel_rfl) rfl
    refine wf_stepK [6, 15] [fun _ => t6 = .bool false, fun _ => t15 = undef] (by kernel_rfl) (by kernel_rfl) (fun wf hb hf => ?_) (fun t16 => ?_)
    · obtain ⟨rfl, rfl, -⟩ := hf
      exact WfOp.no (by kernel_rfl) rfl
    refine wf_stepK [6, 16] [fun _ => t6 = .bool false, fun _ => t16 = undef] (by kernel_rfl) (by kernel_rfl) (fun wf hb hf => ?_) (fun t17 => ?_)
    · obtain ⟨rfl, rfl, -⟩ := hf
      refine ⟨?_⟩
      go_wp2
      exact ⟨rfl, .bool false, by kernel_rfl, Below.refl _ _, rfl⟩
    refine wf_doneK [17] [fun _ => t17 = .bool false] (by kernel_rfl) (by kernel_rfl) (fun w4 b4 hf => ?_)
    obtain ⟨rfl, -⟩ := hf
    show wpList _ _ _ [_] _ _
    refine wpList_frame (by simp [Act.put]; rfl) ?_
    go_wp2
    go_ret
    exact ⟨ret_bool HT.out.symm, b4⟩
  cases h2 : inB v 0 19
  · have HT : Hid (hasB r u v = false) := by simp [Hid, hasB, h1, h2]
    clear hB
    go_enter Tryz.func72, Tryz.ntmps72
    go_wp2_with fail
    refine wp_region_facts [[], [0], [0, 1], [0, 1, 2], List.range 4, List.range 5, List.range 6, List.range 7, List.range 7, List.range 8, [0, 1, 2, 3, 4, 5, 6, 7, 9], List.range 11, List.range 12, List.range 7, [0, 1, 2, 3, 4, 5, 6, 13], List.range 15, List.range 16, List.range 17]
      [fun v' _ => v' = .int .i64 (u), fun v' _ => v' = .bool true, fun v' _ => v' = .bool true, fun v' _ => v' = .int .i64 (v), fun v' _ => v' = .bool false, fun v' _ => v' = .bool false, fun v' _ => v' = .bool false, fun v' _ => v' = undef, fun v' _ => v' = undef, fun v' _ => v' = undef, fun v' _ => v' = undef, fun v' _ => v' = undef, fun v' _ => v' = undef, fun v' _ => v' = undef, fun v' _ => v' = undef, fun v' _ => v' = undef, fun v' _ => v' = undef, fun v' _ => v' = .bool false]
      (by kernel_rfl) (by kernel_rfl) rfl ⟨stable_pure _, stable_pure _, stable_pure _, stable_pure _, stable_pure _, stable_pure _, stable_pure _, stable_pure _, stable_pure _, stable_pure _, stable_pure _, stable_pure _, stable_pure _, stable_pure _, stable_pure _, stable_pure _, stable_pure _, stable_pure _, trivial⟩ ?_
    refine wf_stepK [] [] (by kernel_rfl) (by kernel_rfl) (fun wf hb hf => ?_) (fun t0 => ?_)
    · refine ⟨?_⟩
      go_wp2
      exact ⟨rfl, .int .i64 (u), by kernel_rfl, Below.refl _ _, rfl⟩
    refine wf_stepK [0] [fun _ => t0 = .int .i64 (u)] (by kernel_rfl) (by kernel_rfl) (fun wf hb hf => ?_) (fun t1 => ?_)
    · obtain ⟨rfl, -⟩ := hf
      refine ⟨?_⟩
      go_wp2_with (go_at_call 22; refine (isVertex_w _ _).mono ?_; rintro e w2 ⟨rfl, rfl⟩; rw [h1])
      exact ⟨rfl, _, by kernel_rfl, Below.refl _ _, rfl⟩
    refine wf_stepK [1] [fun _ => t1 = .bool true] (by kernel_rfl) (by kernel_rfl) (fun wf hb hf => ?_) (fun t2 => ?_)
    · obtain ⟨rfl, -⟩ := hf
      refine ⟨?_⟩
      go_wp2
      exact ⟨rfl, .bool true, by kernel_rfl, Below.refl _ _, rfl⟩
    refine wf_stepK [2] [fun _ => t2 = .bool true] (by kernel_rfl) (by kernel_rfl) (fun wf hb hf => ?_) (fun t3 => ?_)
    · obtain ⟨rfl, -⟩ := hf
      refine WfOp.yes (by kernel_rfl) ?_
      dsimp only
      go_wp2
      exact ⟨rfl, .int .i64 (v), by kernel_rfl, Below.refl _ _, rfl⟩
    refine wf_stepK [2, 3] [fun _ => t2 = .bool true, fun _ => t3 = .int .i64 (v)] (by kernel_rfl) (by kernel_rfl) (fun wf hb hf => ?_) (fun t4 => ?_)
    · obtain ⟨rfl, rfl, -⟩ := hf
      refine WfOp.yes (by kernel_rfl) ?_
      dsimp only
      go_wp2_with (go_at_call 22; refine (isVertex_w _ _).mono ?_; rintro e w2 ⟨rfl, rfl⟩; rw [h2])
      exact ⟨rfl, _, by kernel_rfl, Below.refl _ _, rfl⟩
    refine wf_stepK [2, 4] [fun _ => t2 = .bool true, fun _ => t4 = .bool false] (by kernel_rfl) (by kernel_rfl) (fun wf hb hf => ?_) (fun t5 => ?_)
    · obtain ⟨rfl, rfl, -⟩ := hf
      refine ⟨?_⟩
      go_wp2
      exact ⟨rfl, .bool false, by kernel_rfl, Below.refl _ _, rfl⟩
    refine wf_stepK [5] [fun _ => t5 = .bool false] (by kernel_rfl) (by kernel_rfl) (fun wf hb hf => ?_) (fun t6 => ?_)
    · obtain ⟨rfl, -⟩ := hf
      refine ⟨?_⟩
      go_wp2
      exact ⟨rfl, .bool false, by kernel_rfl, Below.refl _ _, rfl⟩
    refine wf_stepK [6] [fun _ => t6 = .bool false] (by kernel_rfl) (by kernel_rfl) (fun wf hb hf => ?_) (fun t7 => ?_)
    · obtain ⟨rfl, -⟩ := hf
      exact WfOp.no (by kernel_rfl) rfl
    refine wf_stepK [6] [fun _ => t6 = .bool false] (by kernel_rfl) (by kernel_rfl) (fun wf hb hf => ?_) (fun t8 => ?_)
    · obtain ⟨rfl, -⟩ := hf
      exact WfOp.no (by kernel_rfl) rfl
    refine wf_stepK [6, 7] [fun _ => t6 = .bool false, fun _ => t7 = undef] (by kernel_rfl) (by kernel_rfl) (fun wf hb hf => ?_) (fun t9 => ?_)
    · obtain ⟨rfl, rfl, -⟩ := hf
      exact WfOp.no (by kernel_rfl) rfl
    refine wf_stepK [6, 9] [fun _ => t6 = .bool false, fun _ => t9 = undef] (by kernel_rfl) (by kernel_rfl) (fun wf hb hf => ?_) (fun t10 => ?_)
    · obtain ⟨rfl, rfl, -⟩ := hf
      exact WfOp.no (by kernel_rfl) rfl
    refine wf_stepK [6, 8, 10] [fun _ => t6 = .bool false, fun _ => t8 = undef, fun _ => t10 = undef] (by kernel_rfl) (by kernel_rfl) (fun wf hb hf => ?_) (fun t11 => ?_)
    · obtain ⟨rfl, rfl, rfl, -⟩ := hf
      exact WfOp.no (by kernel_rfl) rfl
    refine wf_stepK [6, 11] [fun _ => t6 = .bool false, fun _ => t11 = undef] (by kernel_rfl) (by kernel_rfl) (fun wf hb hf => ?_) (fun t12 => ?_)
    · obtain ⟨rfl, rfl, -⟩ := hf
      exact WfOp.no (by kernel_rfl) rfl
    refine wf_stepK [6] [fun _ => t6 = .bool false] (by kernel_rfl) (by kernel_rfl) (fun wf hb hf => ?_) (fun t13 => ?_)
    · obtain ⟨rfl, -⟩ := hf
      exact WfOp.no (by kernel_rfl) rfl
    refine wf_stepK [6, 13] [fun _ => t6 = .bool false, fun _ => t13 = undef] (by kernel_rfl) (by kernel_rfl) (fun wf hb hf => ?_) (fun t14 => ?_)
    · obtain ⟨rfl, rfl, -⟩ := hf
      exact WfOp.no (by kernel_rfl) rfl
    refine wf_stepK [6, 12, 14] [fun _ => t6 = .bool false, fun _ => t12 = undef, fun _ => t14 = undef] (by kernel_rfl) (by kernel_rfl) (fun wf hb hf => ?_) (fun t15 => ?_)
    · obtain ⟨rfl, rfl, rfl, -⟩ := hf
      exact WfOp.no (by kernel_rfl) rfl
    refine wf_stepK [6, 15] [fun _ => t6 = .bool false, fun _ => t15 = undef] (by kernel_rfl) (by kernel_rfl) (fun wf hb hf => ?_) (fun t16 => ?_)
    · obtain ⟨rfl, rfl, -⟩ := hf
      exact WfOp.no (by kernel_rfl) rfl
    refine wf_stepK [6, 16] [fun _ => t6 = .bool false, fun _ => t16 = undef] (by kernel_rfl) (by kernel_rfl) (fun wf hb hf => ?_) (fun t17 => ?_)
    · obtain ⟨rfl, rfl, -⟩ := hf
      refine ⟨?_⟩
      go_wp2
      exact ⟨rfl, .bool false, by kernel_rfl, Below.refl _ _, rfl⟩
    refine wf_doneK [17] [fun _ => t17 = .bool false] (by kernel_rfl) (by kernel_rfl) (fun w4 b4 hf => ?_)
    obtain ⟨rfl, -⟩ := hf
    show wpList _ _ _ [_] _ _
    refine wpList_frame (by simp [Act.put]; rfl) ?_
    go_wp2
    go_ret
    exact ⟨ret_bool HT.out.symm, b4⟩
  obtain ⟨U, hU, rfl⟩ : ∃ U : Nat, U < 20 ∧ u = (U : Int) := ⟨u.toNat, by simp [inB] at h1; omega, by simp [inB] at h1; omega⟩
  obtain ⟨V, hV, rfl⟩ : ∃ V : Nat, V < 20 ∧ v = (V : Int) := ⟨v.toNat, by simp [inB] at h2; omega, by simp [inB] at h2; omega⟩
  have HT : Hid (hasB r U V = hasR r U V) := by simp [Hid, hasB, h1, h2]
  have hsv := fun W => setOfVertex_w V hV W
  have q := hB U hU
  have ha : r.getD U 0 < 4294967296 := by have := hr.at U; omega
  have hb0 : (0 : Int) ≤ U := by omega
  have hb1 : (U : Int) < 20 := by omega
  clear hB
  cases hb : hasR r U V
  · have hand := and_no ha hV hb
    rw [hb] at HT
    generalize r.getD U 0 = a at *
    generalize bitOf V = y at *
    clear hb ha
    go_enter Tryz.func72, Tryz.ntmps72
    go_wp2_with fail
    refine wp_region_facts [[], [0], [0, 1], [0, 1, 2], List.range 4, List.range 5, List.range 6, List.range 7, List.range 7, List.range 8, [0, 1, 2, 3, 4, 5, 6, 7, 9], List.range 11, List.range 12, List.range 7, [0, 1, 2, 3, 4, 5, 6, 13], List.range 15, List.range 16, List.range 17]
      [fun v' _ => v' = .int .i64 ((U : Int)), fun v' _ => v' = .bool true, fun v' _ => v' = .bool true, fun v' _ => v' = .int .i64 ((V : Int)), fun v' _ => v' = .bool true, fun v' _ => v' = .bool true, fun v' _ => v' = .bool true, fun v' _ => v' = .pointer (some ⟨B, 0, none⟩), fun v' _ => v' = .int .i64 ((U : Int)), fun v' _ => v' = .pointer (some ⟨B, 0, none⟩), fun v' _ => v' = .pointer (some ⟨B, 0, none⟩), fun v' _ => v' = .pointer (some ⟨B, U, none⟩), fun v' _ => v' = .int .u32 ((a : Nat) : Int), fun v' _ => v' = .int .i64 ((V : Int)), fun v' _ => v' = .int .u32 ((y : Nat) : Int), fun v' _ => v' = .int .u32 0, fun v' _ => v' = .bool false, fun v' _ => v' = .bool false]
      (by kernel_rfl) (by kernel_rfl) rfl ⟨stable_pure _, stable_pure _, stable_pure _, stable_pure _, stable_pure _, stable_pure _, stable_pure _, stable_pure _, stable_pure _, stable_pure _, stable_pure _, stable_pure _, stable_pure _, stable_pure _, stable_pure _, stable_pure _, stable_pure _, stable_pure _, trivial⟩ ?_
    refine wf_stepK [] [] (by kernel_rfl) (by kernel_rfl) (fun wf hb hf => ?_) (fun t0 => ?_)
    · refine ⟨?_⟩
      go_wp2
      exact ⟨rfl, .int .i64 ((U : Int)), by kernel_rfl, Below.refl _ _, rfl⟩
    refine wf_stepK [0] [fun _ => t0 = .int .i64 ((U : Int))] (by kernel_rfl) (by kernel_rfl) (fun wf hb hf => ?_) (fun t1 => ?_)
    · obtain ⟨rfl, -⟩ := hf
      refine ⟨?_⟩
      go_wp2_with (go_at_call 22; refine (isVertex_w _ _).mono ?_; rintro e w2 ⟨rfl, rfl⟩; rw [h1])
      exact ⟨rfl, _, by kernel_rfl, Below.refl _ _, rfl⟩
    refine wf_stepK [1] [fun _ => t1 = .bool true] (by kernel_rfl) (by kernel_rfl) (fun wf hb hf => ?_) (fun t2 => ?_)
    · obtain ⟨rfl, -⟩ := hf
      refine ⟨?_⟩
      go_wp2
      exact ⟨rfl, .bool true, by kernel_rfl, Below.refl _ _, rfl⟩
    refine wf_stepK [2] [fun _ => t2 = .bool true] (by kernel_rfl) (by kernel_rfl) (fun wf hb hf => ?_) (fun t3 => ?_)
    · obtain ⟨rfl, -⟩ := hf
      refine WfOp.yes (by kernel_rfl) ?_
      dsimp only
      go_wp2
      exact ⟨rfl, .int .i64 ((V : Int)), by kernel_rfl, Below.refl _ _, rfl⟩
    refine wf_stepK [2, 3] [fun _ => t2 = .bool true, fun _ => t3 = .int .i64 ((V : Int))] (by kernel_rfl) (by kernel_rfl) (fun wf hb hf => ?_) (fun t4 => ?_)
    · obtain ⟨rfl, rfl, -⟩ := hf
      refine WfOp.yes (by kernel_rfl) ?_
      dsimp only
      go_wp2_with (go_at_call 22; refine (isVertex_w _ _).mono ?_; rintro e w2 ⟨rfl, rfl⟩; rw [h2])
      exact ⟨rfl, _, by kernel_rfl, Below.refl _ _, rfl⟩
    refine wf_stepK [2, 4] [fun _ => t2 = .bool true, fun _ => t4 = .bool true] (by kernel_rfl) (by kernel_rfl) (fun wf hb hf => ?_) (fun t5 => ?_)
    · obtain ⟨rfl, rfl, -⟩ := hf
      refine ⟨?_⟩
      go_wp2
      exact ⟨rfl, .bool true, by kernel_rfl, Below.refl _ _, rfl⟩
    refine wf_stepK [5] [fun _ => t5 = .bool true] (by kernel_rfl) (by kernel_rfl) (fun wf hb hf => ?_) (fun t6 => ?_)
    · obtain ⟨rfl, -⟩ := hf
      refine ⟨?_⟩
      go_wp2
      exact ⟨rfl, .bool true, by kernel_rfl, Below.refl _ _, rfl⟩
    refine wf_stepK [6] [fun _ => t6 = .bool true] (by kernel_rfl) (by kernel_rfl) (fun wf hb hf => ?_) (fun t7 => ?_)
    · obtain ⟨rfl, -⟩ := hf
      refine WfOp.yes (by kernel_rfl) ?_
      dsimp only
      go_wp2
      exact ⟨rfl, .pointer (some ⟨B, 0, none⟩), by kernel_rfl, Below.refl _ _, rfl⟩
    refine wf_stepK [6] [fun _ => t6 = .bool true] (by kernel_rfl) (by kernel_rfl) (fun wf hb hf => ?_) (fun t8 => ?_)
    · obtain ⟨rfl, -⟩ := hf
      refine WfOp.yes (by kernel_rfl) ?_
      dsimp only
      go_wp2
      exact ⟨rfl, .int .i64 ((U : Int)), by kernel_rfl, Below.refl _ _, rfl⟩
    refine wf_stepK [6, 7] [fun _ => t6 = .bool true, fun _ => t7 = .pointer (some ⟨B, 0, none⟩)] (by kernel_rfl) (by kernel_rfl) (fun wf hb hf => ?_) (fun t9 => ?_)
    · obtain ⟨rfl, rfl, -⟩ := hf
      refine WfOp.yes (by kernel_rfl) ?_
      dsimp only
      go_wp2
      exact ⟨rfl, .pointer (some ⟨B, 0, none⟩), by kernel_rfl, Below.refl _ _, rfl⟩
    refine wf_stepK [6, 9] [fun _ => t6 = .bool true, fun _ => t9 = .pointer (some ⟨B, 0, none⟩)] (by kernel_rfl) (by kernel_rfl) (fun wf hb hf => ?_) (fun t10 => ?_)
    · obtain ⟨rfl, rfl, -⟩ := hf
      refine WfOp.yes (by kernel_rfl) ?_
      dsimp only
      go_wp2
      exact ⟨rfl, .pointer (some ⟨B, 0, none⟩), by kernel_rfl, Below.refl _ _, rfl⟩
    refine wf_stepK [6, 8, 10] [fun _ => t6 = .bool true, fun _ => t8 = .int .i64 ((U : Int)), fun _ => t10 = .pointer (some ⟨B, 0, none⟩)] (by kernel_rfl) (by kernel_rfl) (fun wf hb hf => ?_) (fun t11 => ?_)
    · obtain ⟨rfl, rfl, rfl, -⟩ := hf
      refine WfOp.yes (by kernel_rfl) ?_
      dsimp only
      go_wp2
      exact ⟨rfl, .pointer (some ⟨B, U, none⟩), by kernel_rfl, Below.refl _ _, rfl⟩
    refine wf_stepK [6, 11] [fun _ => t6 = .bool true, fun _ => t11 = .pointer (some ⟨B, U, none⟩)] (by kernel_rfl) (by kernel_rfl) (fun wf hb hf => ?_) (fun t12 => ?_)
    · obtain ⟨rfl, rfl, -⟩ := hf
      refine WfOp.yes (by kernel_rfl) ?_
      dsimp only
      have z0 := (hb.cell (p := ⟨B, U, none⟩) hBlt).trans q
      go_wp2
      exact ⟨rfl, .int .u32 ((a : Nat) : Int), by kernel_rfl, Below.refl _ _, rfl⟩
    refine wf_stepK [6] [fun _ => t6 = .bool true] (by kernel_rfl) (by kernel_rfl) (fun wf hb hf => ?_) (fun t13 => ?_)
    · obtain ⟨rfl, -⟩ := hf
      refine WfOp.yes (by kernel_rfl) ?_
      dsimp only
      go_wp2
      exact ⟨rfl, .int .i64 ((V : Int)), by kernel_rfl, Below.refl _ _, rfl⟩
    refine wf_stepK [6, 13] [fun _ => t6 = .bool true, fun _ => t13 = .int .i64 ((V : Int))] (by kernel_rfl) (by kernel_rfl) (fun wf hb hf => ?_) (fun t14 => ?_)
    · obtain ⟨rfl, rfl, -⟩ := hf
      refine WfOp.yes (by kernel_rfl) ?_
      dsimp only
      go_wp2_with (go_at_call 51; refine (hsv _).mono ?_; rintro e w2 ⟨rfl, rfl⟩)
      exact ⟨rfl, _, by kernel_rfl, Below.refl _ _, rfl⟩
    refine wf_stepK [6, 12, 14] [fun _ => t6 = .bool true, fun _ => t12 = .int .u32 ((a : Nat) : Int), fun _ => t14 = .int .u32 ((y : Nat) : Int)] (by kernel_rfl) (by kernel_rfl) (fun wf hb hf => ?_) (fun t15 => ?_)
    · obtain ⟨rfl, rfl, rfl, -⟩ := hf
      refine WfOp.yes (by kernel_rfl) ?_
      dsimp only
      go_wp2
      exact ⟨rfl, .int .u32 0, by kernel_rfl, Below.refl _ _, rfl⟩
    refine wf_stepK [6, 15] [fun _ => t6 = .bool true, fun _ => t15 = .int .u32 0] (by kernel_rfl) (by kernel_rfl) (fun wf hb hf => ?_) (fun t16 => ?_)
    · obtain ⟨rfl, rfl, -⟩ := hf
      refine WfOp.yes (by kernel_rfl) ?_
      dsimp only
      go_wp2
      exact ⟨rfl, .bool false, by kernel_rfl, Below.refl _ _, rfl⟩
    refine wf_stepK [6, 16] [fun _ => t6 = .bool true, fun _ => t16 = .bool false] (by kernel_rfl) (by kernel_rfl) (fun wf hb hf => ?_) (fun t17 => ?_)
    · obtain ⟨rfl, rfl, -⟩ := hf
      refine ⟨?_⟩
      go_wp2
      exact ⟨rfl, .bool false, by kernel_rfl, Below.refl _ _, rfl⟩
    refine wf_doneK [17] [fun _ => t17 = .bool false] (by kernel_rfl) (by kernel_rfl) (fun w4 b4 hf => ?_)
    obtain ⟨rfl, -⟩ := hf
    show wpList _ _ _ [_] _ _
    refine wpList_frame (by simp [Act.put]; rfl) ?_
    go_wp2
    go_ret
    exact ⟨ret_bool HT.out.symm, b4⟩
  · have hand := and_yes ha hV hb
    have hy0 : (((bitOf V : Nat) : Int) != 0) = true := by
      rw [bne_iff_ne]
      have : 0 < bitOf V := Nat.pos_of_ne_zero (by unfold bitOf; exact Nat.pos_iff_ne_zero.1 (Nat.two_pow_pos V))
      omega
    rw [hb] at HT
    generalize r.getD U 0 = a at *
    generalize bitOf V = y at *
    clear hb ha
    go_enter Tryz.func72, Tryz.ntmps72
    go_wp2_with fail
    refine wp_region_facts [[], [0], [0, 1], [0, 1, 2], List.range 4, List.range 5, List.range 6, List.range 7, List.range 7, List.range 8, [0, 1, 2, 3, 4, 5, 6, 7, 9], List.range 11, List.range 12, List.range 7, [0, 1, 2, 3, 4, 5, 6, 13], List.range 15, List.range 16, List.range 17]
      [fun v' _ => v' = .int .i64 ((U : Int)), fun v' _ => v' = .bool true, fun v' _ => v' = .bool true, fun v' _ => v' = .int .i64 ((V : Int)), fun v' _ => v' = .bool true, fun v' _ => v' = .bool true, fun v' _ => v' = .bool true, fun v' _ => v' = .pointer (some ⟨B, 0, none⟩), fun v' _ => v' = .int .i64 ((U : Int)), fun v' _ => v' = .pointer (some ⟨B, 0, none⟩), fun v' _ => v' = .pointer (some ⟨B, 0, none⟩), fun v' _ => v' = .pointer (some ⟨B, U, none⟩), fun v' _ => v' = .int .u32 ((a : Nat) : Int), fun v' _ => v' = .int .i64 ((V : Int)), fun v' _ => v' = .int .u32 ((y : Nat) : Int), fun v' _ => v' = .int .u32 ((y : Nat) : Int), fun v' _ => v' = .bool true, fun v' _ => v' = .bool true]
      (by kernel_rfl) (by kernel_rfl) rfl ⟨stable_pure _, stable_pure _, stable_pure _, stable_pure _, stable_pure _, stable_pure _, stable_pure _, stable_pure _, stable_pure _, stable_pure _, stable_pure _, stable_pure _, stable_pure _, stable_pure _, stable_pure _, stable_pure _, stable_pure _, stable_pure _, trivial⟩ ?_
    refine wf_stepK [] [] (by kernel_rfl) (by kernel_rfl) (fun wf hb hf => ?_) (fun t0 => ?_)
    · refine ⟨?_⟩
      go_wp2
      exact ⟨rfl, .int .i64 ((U : Int)), by kernel_rfl, Below.refl _ _, rfl⟩
    refine wf_stepK [0] [fun _ => t0 = .int .i64 ((U : Int))] (by kernel_rfl) (by kernel_rfl) (fun wf hb hf => ?_) (fun t1 => ?_)
    · obtain ⟨rfl, -⟩ := hf
      refine ⟨?_⟩
      go_wp2_with (go_at_call 22; refine (isVertex_w _ _).mono ?_; rintro e w2 ⟨rfl, rfl⟩; rw [h1])
      exact ⟨rfl, _, by kernel_rfl, Below.refl _ _, rfl⟩
    refine wf_stepK [1] [fun _ => t1 = .bool true] (by kernel_rfl) (by kernel_rfl) (fun wf hb hf => ?_) (fun t2 => ?_)
    · obtain ⟨rfl, -⟩ := hf
      refine ⟨?_⟩
      go_wp2
      exact ⟨rfl, .bool true, by kernel_rfl, Below.refl _ _, rfl⟩
    refine wf_stepK [2] [fun _ => t2 = .bool true] (by kernel_rfl) (by kernel_rfl) (fun wf hb hf => ?_) (fun t3 => ?_)
    · obtain ⟨rfl, -⟩ := hf
      refine WfOp.yes (by kernel_rfl) ?_
      dsimp only
      go_wp2
      exact ⟨rfl, .int .i64 ((V : Int)), by kernel_rfl, Below.refl _ _, rfl⟩
    refine wf_stepK [2, 3] [fun _ => t2 = .bool true, fun _ => t3 = .int .i64 ((V : Int))] (by kernel_rfl) (by kernel_rfl) (fun wf hb hf => ?_) (fun t4 => ?_)
    · obtain ⟨rfl, rfl, -⟩ := hf
      refine WfOp.yes (by kernel_rfl) ?_
      dsimp only
      go_wp2_with (go_at_call 22; refine (isVertex_w _ _).mono ?_; rintro e w2 ⟨rfl, rfl⟩; rw [h2])
      exact ⟨rfl, _, by kernel_rfl, Below.refl _ _, rfl⟩
    refine wf_stepK [2, 4] [fun _ => t2 = .bool true, fun _ => t4 = .bool true] (by kernel_rfl) (by kernel_rfl) (fun wf hb hf => ?_) (fun t5 => ?_)
    · obtain ⟨rfl, rfl, -⟩ := hf
      refine ⟨?_⟩
      go_wp2
      exact ⟨rfl, .bool true, by kernel_rfl, Below.refl _ _, rfl⟩
    refine wf_stepK [5] [fun _ => t5 = .bool true] (by kernel_rfl) (by kernel_rfl) (fun wf hb hf => ?_) (fun t6 => ?_)
    · obtain ⟨rfl, -⟩ := hf
      refine ⟨?_⟩
      go_wp2
      exact ⟨rfl, .bool true, by kernel_rfl, Below.refl _ _, rfl⟩
    refine wf_stepK [6] [fun _ => t6 = .bool true] (by kernel_rfl) (by kernel_rfl) (fun wf hb hf => ?_) (fun t7 => ?_)
    · obtain ⟨rfl, -⟩ := hf
      refine WfOp.yes (by kernel_rfl) ?_
      dsimp only
      go_wp2
      exact ⟨rfl, .pointer (some ⟨B, 0, none⟩), by kernel_rfl, Below.refl _ _, rfl⟩
    refine wf_stepK [6] [fun _ => t6 = .bool true] (by kernel_rfl) (by kernel_rfl) (fun wf hb hf => ?_) (fun t8 => ?_)
    · obtain ⟨rfl, -⟩ := hf
      refine WfOp.yes (by kernel_rfl) ?_
      dsimp only
      go_wp2
      exact ⟨rfl, .int .i64 ((U : Int)), by kernel_rfl, Below.refl _ _, rfl⟩
    refine wf_stepK [6, 7] [fun _ => t6 = .bool true, fun _ => t7 = .pointer (some ⟨B, 0, none⟩)] (by kernel_rfl) (by kernel_rfl) (fun wf hb hf => ?_) (fun t9 => ?_)
    · obtain ⟨rfl, rfl, -⟩ := hf
      refine WfOp.yes (by kernel_rfl) ?_
      dsimp only
      go_wp2
      exact ⟨rfl, .pointer (some ⟨B, 0, none⟩), by kernel_rfl, Below.refl _ _, rfl⟩
    refine wf_stepK [6, 9] [fun _ => t6 = .bool true, fun _ => t9 = .pointer (some ⟨B, 0, none⟩)] (by kernel_rfl) (by kernel_rfl) (fun wf hb hf => ?_) (fun t10 => ?_)
    · obtain ⟨rfl, rfl, -⟩ := hf
      refine WfOp.yes (by kernel_rfl) ?_
      dsimp only
      go_wp2
      exact ⟨rfl, .pointer (some ⟨B, 0, none⟩), by kernel_rfl, Below.refl _ _, rfl⟩
    refine wf_stepK [6, 8, 10] [fun _ => t6 = .bool true, fun _ => t8 = .int .i64 ((U : Int)), fun _ => t10 = .pointer (some ⟨B, 0, none⟩)] (by kernel_rfl) (by kernel_rfl) (fun wf hb hf => ?_) (fun t11 => ?_)
    · obtain ⟨rfl, rfl, rfl, -⟩ := hf
      refine WfOp.yes (by kernel_rfl) ?_
      dsimp only
      go_wp2
      exact ⟨rfl, .pointer (some ⟨B, U, none⟩), by kernel_rfl, Below.refl _ _, rfl⟩
    refine wf_stepK [6, 11] [fun _ => t6 = .bool true, fun _ => t11 = .pointer (some ⟨B, U, none⟩)] (by kernel_rfl) (by kernel_rfl) (fun wf hb hf => ?_) (fun t12 => ?_)
    · obtain ⟨rfl, rfl, -⟩ := hf
      refine WfOp.yes (by kernel_rfl) ?_
      dsimp only
      have z0 := (hb.cell (p := ⟨B, U, none⟩) hBlt).trans q
      go_wp2
      exact ⟨rfl, .int .u32 ((a : Nat) : Int), by kernel_rfl, Below.refl _ _, rfl⟩
    refine wf_stepK [6] [fun _ => t6 = .bool true] (by kernel_rfl) (by kernel_rfl) (fun wf hb hf => ?_) (fun t13 => ?_)
    · obtain ⟨rfl, -⟩ := hf
      refine WfOp.yes (by kernel_rfl) ?_
      dsimp only
      go_wp2
      exact ⟨rfl, .int .i64 ((V : Int)), by kernel_rfl, Below.refl _ _, rfl⟩
    refine wf_stepK [6, 13] [fun _ => t6 = .bool true, fun _ => t13 = .int .i64 ((V : Int))] (by kernel_rfl) (by kernel_rfl) (fun wf hb hf => ?_) (fun t14 => ?_)
    · obtain ⟨rfl, rfl, -⟩ := hf
      refine WfOp.yes (by kernel_rfl) ?_
      dsimp only
      go_wp2_with (go_at_call 51; refine (hsv _).mono ?_; rintro e w2 ⟨rfl, rfl⟩)
      exact ⟨rfl, _, by kernel_rfl, Below.refl _ _, rfl⟩
    refine wf_stepK [6, 12, 14] [fun _ => t6 = .bool true, fun _ => t12 = .int .u32 ((a : Nat) : Int), fun _ => t14 = .int .u32 ((y : Nat) : Int)] (by kernel_rfl) (by kernel_rfl) (fun wf hb hf => ?_) (fun t15 => ?_)
    · obtain ⟨rfl, rfl, rfl, -⟩ := hf
      refine WfOp.yes (by kernel_rfl) ?_
      dsimp only
      go_wp2
      exact ⟨rfl, .int .u32 ((y : Nat) : Int), by kernel_rfl, Below.refl _ _, rfl⟩
    refine wf_stepK [6, 15] [fun _ => t6 = .bool true, fun _ => t15 = .int .u32 ((y : Nat) : Int)] (by kernel_rfl) (by kernel_rfl) (fun wf hb hf => ?_) (fun t16 => ?_)
    · obtain ⟨rfl, rfl, -⟩ := hf
      refine WfOp.yes (by kernel_rfl) ?_
      dsimp only
      go_wp2
      exact ⟨rfl, .bool true, by kernel_rfl, Below.refl _ _, rfl⟩
    refine wf_stepK [6, 16] [fun _ => t6 = .bool true, fun _ => t16 = .bool true] (by kernel_rfl) (by kernel_rfl) (fun wf hb hf => ?_) (fun t17 => ?_)
    · obtain ⟨rfl, rfl, -⟩ := hf
      refine ⟨?_⟩
      go_wp2
      exact ⟨rfl, .bool true, by kernel_rfl, Below.refl _ _, rfl⟩
    refine wf_doneK [17] [fun _ => t17 = .bool true] (by kernel_rfl) (by kernel_rfl) (fun w4 b4 hf => ?_)
    obtain ⟨rfl, -⟩ := hf
    show wpList _ _ _ [_] _ _
    refine wpList_frame (by simp [Act.put]; rfl) ?_
    go_wp2
    go_ret
    exact ⟨ret_bool HT.out.symm, b4⟩
end Go.Proofs.YtifjenleoagefaaGreat
