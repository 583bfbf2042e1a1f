/- HELPER, no statement of the seat: the program's order of times, by cmp.Or and cmp.Compare. -/
import Derived.Test.YtkonhjdfcfljpaaTimeBase
import Derived.Test.YtkonhjdfcfljpaaZba
namespace Go.Proofs.Ytkonhjdfcfljpaa
namespace Tcm
open Go.RowKit
set_option linter.unusedSimpArgs false
set_option linter.unusedVariables false

/-- The first that is not zero. -/
def orV (a b : Int) : Int := if a = 0 then b else a
theorem orV_eq {a b : Int} : (if a = 0 then b else a) = orV a b := rfl
def cmpT (x y u v : Int) : Int := orV (cmpI x u) (cmpI y v)
/-- v is a new slice of these two numbers. -/
def PairV (base : Nat) (a b : Int) (v : Value) (w : World) : Prop := ∃ g, v = .slice (some ⟨g, 0, none⟩) 2 2 ∧ base ≤ g ∧ Blk w g 3 #[.int .i64 a, .int .i64 b]
theorem stable_pairV (base : Nat) (a b : Int) : Stable (PairV base a b) := fun _ _ _ hb ⟨g, e, h, k⟩ => ⟨g, e, h, k.below hb⟩
theorem cmpInt_below (a b : Int) (w : World) : Calls Try.prog 125 #[.int .i64 a, .int .i64 b] w fun e w' => e = .returned (.int .i64 (cmpI a b)) ∧ Below w.heap.size w w' :=
  (cmpInt_any a b w).mono fun e w' ⟨he, hw⟩ => ⟨he, hw ▸ Below.refl _ _⟩
set_option maxHeartbeats 400000 in
theorem cmpOr_any (g : Nat) (a b : Int) (w : World) (hk : Blk w g 3 #[.int .i64 a, .int .i64 b]) : Calls Try.prog 124 #[.slice (some ⟨g, 0, none⟩) 2 2] w fun e w' => e = .returned (.int .i64 (orV a b)) ∧ w = w' := by
  have c0 := hk.cell 0
  have c1 := hk.cell 1
  simp at c0 c1
  clear hk
  go_enter Try.func124, Try.ntmps124
  go_wp2
  go_loopw [5, 8] (fun _ i wr => ∃ k : Nat, k ≤ 2 ∧ i = .int .i64 k ∧ (1 ≤ k → a = 0) ∧ (2 ≤ k → b = 0) ∧ w = wr) (fun _ i _ => 2 - (intOf i).toNat)
  case atStart => exact ⟨0, by omega, rfl, by omega, by omega, rfl⟩
  case round =>
    obtain ⟨k, hk, rfl, h1, h2, rfl⟩ := hrel
    have HA := Lib.hid h1
    have HB := Lib.hid h2
    clear h1 h2
    obtain rfl | rfl | rfl : k = 0 ∨ k = 1 ∨ k = 2 := by omega
    · by_cases ha : a = 0
      · have hne : (a != 0) = false := by simp [ha]
        have H0 := Lib.hid ha
        clear ha
        go_wp2
        go_roundw
        case rel => exact ⟨1, by omega, by go_num, fun _ => H0.out, by omega, by trivial⟩
        case measure => simp [intOf]
      · have hne : (a != 0) = true := by simp [ha]
        have H0 : Hid (orV a b = a) := by simp [Hid, orV, ha]
        clear ha
        go_wp2
        go_ret
        exact ⟨ret_int H0.out.symm, rfl⟩
    · by_cases hb : b = 0
      · have hne : (b != 0) = false := by simp [hb]
        have H0 := Lib.hid hb
        clear hb
        go_wp2
        go_roundw
        case rel => exact ⟨2, by omega, by go_num, fun _ => HA.out (by omega), fun _ => H0.out, by trivial⟩
        case measure => simp [intOf]
      · have hne : (b != 0) = true := by simp [hb]
        have H0 : Hid (orV a b = b) := by simp [Hid, orV, HA.out (by omega)]
        clear hb
        go_wp2
        go_ret
        exact ⟨ret_int H0.out.symm, rfl⟩
    · have H0 : Hid (orV a b = 0) := by simp [Hid, orV, HA.out (by omega), HB.out (by omega)]
      go_wp2
      go_ret
      exact ⟨ret_int H0.out.symm, rfl⟩
set_option maxHeartbeats 1600000 in
theorem timeCompare_i (x y u v : Int) (w : World) : Calls Try.prog 81 #[.agg #[.int .i64 x, .int .i64 y], .agg #[.int .i64 u, .int .i64 v]] w fun e w' => e = .returned (.int .i64 (cmpT x y u v)) ∧ Below w.heap.size w w' := by
  go_enter Try.func81, Try.ntmps81
  go_wp2_with fail
  refine abs_world (fun wB => Below w.heap.size w wB ∧ Blk wB w.heap.size 52 #[.int .i64 x, .int .i64 y] ∧ Blk wB (w.heap.size + 1) 52 #[.int .i64 u, .int .i64 v])
    ⟨bal (bal (Below.refl _ _) _) _, (Blk.newAt rfl).alloc _, Blk.newAt (by simp)⟩ (fun wB hx' => ?_)
  obtain ⟨hB, h0, h1⟩ := hx'
  refine wp_region_facts [[], [0], [], [2], [0, 1, 2, 3], [], [5], [], [7], [5, 6, 7, 8], [0, 1, 2, 3, 4, 5, 6, 7, 8, 9]]
    [fun v' _ => v' = .pointer (some ⟨w.heap.size, 0, none⟩), fun v' _ => v' = .int .i64 x, fun v' _ => v' = .pointer (some ⟨w.heap.size + 1, 0, none⟩), fun v' _ => v' = .int .i64 u, fun v' _ => v' = .int .i64 (cmpI x u), fun v' _ => v' = .pointer (some ⟨w.heap.size, 1, none⟩), fun v' _ => v' = .int .i64 y, fun v' _ => v' = .pointer (some ⟨w.heap.size + 1, 1, none⟩), fun v' _ => v' = .int .i64 v, fun v' _ => v' = .int .i64 (cmpI y v), PairV wB.heap.size (cmpI x u) (cmpI y v)]
    (by kernel_rfl) (by kernel_rfl) rfl ⟨stable_pure _, stable_pure _, stable_pure _, stable_pure _, stable_pure _, stable_pure _, stable_pure _, stable_pure _, stable_pure _, stable_pure _, stable_pairV _ _ _, trivial⟩ ?_
  refine wf_step (fun wf hb hf => ?_) (fun t0 => ?_)
  · go_wp2
    exact ⟨rfl, .pointer (some ⟨w.heap.size, 0, none⟩), by simp [Act.put], Below.refl _ _, rfl⟩
  refine wf_step (fun wf hb hf => ?_) (fun t1 => ?_)
  · obtain ⟨rfl, -⟩ := hf
    have c0 := (h0.below hb).cell 0
    simp at c0
    go_wp2
    exact ⟨rfl, .int .i64 x, by simp [Act.put], Below.refl _ _, rfl⟩
  refine wf_step (fun wf hb hf => ?_) (fun t2 => ?_)
  · go_wp2
    exact ⟨rfl, .pointer (some ⟨w.heap.size + 1, 0, none⟩), by simp [Act.put], Below.refl _ _, rfl⟩
  refine wf_step (fun wf hb hf => ?_) (fun t3 => ?_)
  · obtain ⟨rfl, -⟩ := hf
    have c0 := (h1.below hb).cell 0
    simp at c0
    go_wp2
    exact ⟨rfl, .int .i64 u, by simp [Act.put], Below.refl _ _, rfl⟩
  refine wf_step (fun wf hb hf => ?_) (fun t4 => ?_)
  · obtain ⟨rfl, rfl, rfl, rfl, -⟩ := hf
    go_wp2_with (go_at_call 125; refine (cmpInt_below _ _ _).mono ?_; rintro e w2 ⟨rfl, hb2⟩)
    exact ⟨rfl, .int .i64 (cmpI x u), by simp [Act.put], hb2, rfl⟩
  refine wf_step (fun wf hb hf => ?_) (fun t5 => ?_)
  · go_wp2
    exact ⟨rfl, .pointer (some ⟨w.heap.size, 1, none⟩), by simp [Act.put], Below.refl _ _, rfl⟩
  refine wf_step (fun wf hb hf => ?_) (fun t6 => ?_)
  · obtain ⟨rfl, -⟩ := hf
    have c0 := (h0.below hb).cell 1
    simp at c0
    go_wp2
    exact ⟨rfl, .int .i64 y, by simp [Act.put], Below.refl _ _, rfl⟩
  refine wf_step (fun wf hb hf => ?_) (fun t7 => ?_)
  · go_wp2
    exact ⟨rfl, .pointer (some ⟨w.heap.size + 1, 1, none⟩), by simp [Act.put], Below.refl _ _, rfl⟩
  refine wf_step (fun wf hb hf => ?_) (fun t8 => ?_)
  · obtain ⟨rfl, -⟩ := hf
    have c0 := (h1.below hb).cell 1
    simp at c0
    go_wp2
    exact ⟨rfl, .int .i64 v, by simp [Act.put], Below.refl _ _, rfl⟩
  refine wf_step (fun wf hb hf => ?_) (fun t9 => ?_)
  · obtain ⟨rfl, rfl, rfl, rfl, -⟩ := hf
    go_wp2_with (go_at_call 125; refine (cmpInt_below _ _ _).mono ?_; rintro e w2 ⟨rfl, hb2⟩)
    exact ⟨rfl, .int .i64 (cmpI y v), by simp [Act.put], hb2, rfl⟩
  refine wf_step (fun wf hb hf => ?_) (fun t10 => ?_)
  · obtain ⟨rfl, rfl, rfl, rfl, rfl, rfl, rfl, rfl, rfl, rfl, -⟩ := hf
    go_wp2
    exact ⟨rfl, .slice (some ⟨wf.heap.size, 0, none⟩) 2 2, by simp [Act.put], bal (Below.refl _ _) _, _, rfl, hb.size, Blk.newAt rfl⟩
  refine wf_done (fun wC hb hf => ?_)
  obtain ⟨rfl, rfl, rfl, rfl, rfl, rfl, rfl, rfl, rfl, rfl, ⟨g, rfl, hg, kg⟩, -⟩ := hf
  show wpList _ _ _ [_, _] _ _
  refine wpList_frame (by simp [Act.put]; rfl) ?_
  have HB := Lib.hid (btr hB hb)
  clear h0 h1 hB hb
  go_wp2_with (go_at_call 124; refine (cmpOr_any _ _ _ _ kg).mono ?_; rintro e w2 ⟨rfl, rfl⟩)
  go_ret
  exact ⟨rfl, HB.out⟩
theorem cmpT_lt (x y u v : Int) : decide (cmpT x y u v < 0) = bfB x y u v := by
  unfold cmpT orV bfB cmpI
  by_cases h1 : x < u <;> by_cases h2 : u < x <;> by_cases h3 : y < v <;> by_cases h4 : v < y <;> simp [h1, h2, h3, h4] <;> omega

set_option maxHeartbeats 800000 in
theorem before_i (x y u v : Int) (w : World) : Calls Try.prog 89 #[.agg #[.int .i64 x, .int .i64 y], .agg #[.int .i64 u, .int .i64 v]] w fun e w' =>
    e = .returned (.bool (bfB x y u v)) ∧ Below w.heap.size w w' := by
  rw [← cmpT_lt]
  go_enter Try.func89, Try.ntmps89
  go_wp2_with (go_at_call 81; refine (timeCompare_i _ _ _ _ _).mono ?_; rintro e w1 ⟨rfl, hb⟩)
  go_ret
  exact ⟨rfl, btr (bal (bal (Below.refl _ _) _) _) hb⟩
set_option maxHeartbeats 800000 in
theorem TimeBefore_i (x y u v : Int) (w : World) : Calls Try.prog 36 #[.agg #[.int .i64 x, .int .i64 y], .agg #[.int .i64 u, .int .i64 v]] w fun e w' =>
    e = .returned (.bool (bfB x y u v)) ∧ Below w.heap.size w w' := by
  go_enter Try.func36, Try.ntmps36
  go_wp2_with (go_at_call 89; refine (before_i _ _ _ _ _).mono ?_; rintro e w1 ⟨rfl, hb⟩)
  go_ret
  exact ⟨rfl, btr (bal (bal (Below.refl _ _) _) _) hb⟩
end Tcm
end Go.Proofs.Ytkonhjdfcfljpaa
