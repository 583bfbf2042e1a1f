/- HELPER, no statement of the seat: several texts in one file. -/
import Derived.Test.YtkonhjdfcfljpaaTimeBase
import Derived.Test.YtkonhjdfcfljpaaZba
import Derived.Test.YtkonhjdfcfljpaaFrj
import Derived.Test.YtkonhjdfcfljpaaFrt
import Derived.Test.YtkonhjdfcfljpaaGrf
import Derived.RangeFuncNested
import Derived.RangeFuncBound
import Derived.RangeFuncCalls
import Derived.RangeFuncLeaves
import Derived.Shelf.Abstract
import Derived.Shelf.RegionOpen
import Derived.OwnWalkIn
import Derived.TacticsInMore
import Derived.LoopNIn
import Derived.LoopIn
/- HELPER, no statement of the seat: the program's order of times, by cmp.Or and cmp.Compare. -/
namespace Go.Proofs.Ytkonhjdfcfljpaa
namespace Tcm
open Go.RowKit
set_option linter.unusedSimpArgs false
set_option linter.unusedVariables false

/-- The first that is not zero. -/
def orV (a b : Int) : Int := if a = 0 then b else a
theorem orV_eq {a b : Int} : (if a = 0 then b else a) = orV a b := rfl
def cmpT (x y u v : Int) : Int := orV (cmpI x u) (cmpI y v)
/-- v is a new slice of these two numbers. -/
def PairV (base : Nat) (a b : Int) (v : Value) (w : World) : Prop := ∃ g, v = .slice (some ⟨g, 0, none⟩) 2 2 ∧ base ≤ g ∧ Blk w g 3 #[.int .i64 a, .int .i64 b]
theorem stable_pairV (base : Nat) (a b : Int) : Stable (PairV base a b) := fun _ _ _ hb ⟨g, e, h, k⟩ => ⟨g, e, h, k.below hb⟩
theorem cmpInt_below (a b : Int) (w : World) : Calls Try.prog 125 #[.int .i64 a, .int .i64 b] w fun e w' => e = .returned (.int .i64 (cmpI a b)) ∧ Below w.heap.size w w' :=
  (cmpInt_any a b w).mono fun e w' ⟨he, hw⟩ => ⟨he, hw ▸ Below.refl _ _⟩
set_option maxHeartbeats 400000 in
theorem cmpOr_any (g : Nat) (a b : Int) (w : World) (hk : Blk w g 3 #[.int .i64 a, .int .i64 b]) : Calls Try.prog 124 #[.slice (some ⟨g, 0, none⟩) 2 2] w fun e w' => e = .returned (.int .i64 (orV a b)) ∧ w = w' := by
  have c0 := hk.cell 0
  have c1 := hk.cell 1
  simp at c0 c1
  clear hk
  go_enter Try.func124, Try.ntmps124
  go_wp2
  go_loopw [5, 8] (fun _ i wr => ∃ k : Nat, k ≤ 2 ∧ i = .int .i64 k ∧ (1 ≤ k → a = 0) ∧ (2 ≤ k → b = 0) ∧ w = wr) (fun _ i _ => 2 - (intOf i).toNat)
  case atStart => exact ⟨0, by omega, rfl, by omega, by omega, rfl⟩
  case round =>
    obtain ⟨k, hk, rfl, h1, h2, rfl⟩ := hrel
    have HA := Lib.hid h1
    have HB := Lib.hid h2
    clear h1 h2
    obtain rfl | rfl | rfl : k = 0 ∨ k = 1 ∨ k = 2 := by omega
    · by_cases ha : a = 0
      · have hne : (a != 0) = false := by simp [ha]
        have H0 := Lib.hid ha
        clear ha
        go_wp2
        go_roundw
        case rel => exact ⟨1, by omega, by go_num, fun _ => H0.out, by omega, by trivial⟩
        case measure => simp [intOf]
      · have hne : (a != 0) = true := by simp [ha]
        have H0 : Hid (orV a b = a) := by simp [Hid, orV, ha]
        clear ha
        go_wp2
        go_ret
        exact ⟨ret_int H0.out.symm, rfl⟩
    · by_cases hb : b = 0
      · have hne : (b != 0) = false := by simp [hb]
        have H0 := Lib.hid hb
        clear hb
        go_wp2
        go_roundw
        case rel => exact ⟨2, by omega, by go_num, fun _ => HA.out (by omega), fun _ => H0.out, by trivial⟩
        case measure => simp [intOf]
      · have hne : (b != 0) = true := by simp [hb]
        have H0 : Hid (orV a b = b) := by simp [Hid, orV, HA.out (by omega)]
        clear hb
        go_wp2
        go_ret
        exact ⟨ret_int H0.out.symm, rfl⟩
    · have H0 : Hid (orV a b = 0) := by simp [Hid, orV, HA.out (by omega), HB.out (by omega)]
      go_wp2
      go_ret
      exact ⟨ret_int H0.out.symm, rfl⟩
set_option maxHeartbeats 1600000 in
theorem timeCompare_i (x y u v : Int) (w : World) : Calls Try.prog 81 #[.agg #[.int .i64 x, .int .i64 y], .agg #[.int .i64 u, .int .i64 v]] w fun e w' => e = .returned (.int .i64 (cmpT x y u v)) ∧ Below w.heap.size w w' := by
  go_enter Try.func81, Try.ntmps81
  go_wp2_with fail
  refine abs_world (fun wB => Below w.heap.size w wB ∧ Blk wB w.heap.size 52 #[.int .i64 x, .int .i64 y] ∧ Blk wB (w.heap.size + 1) 52 #[.int .i64 u, .int .i64 v])
    ⟨bal (bal (Below.refl _ _) _) _, (Blk.newAt rfl).alloc _, Blk.newAt (by simp)⟩ (fun wB hx' => ?_)
  obtain ⟨hB, h0, h1⟩ := hx'
  refine wp_region_facts [[], [0], [], [2], [0, 1, 2, 3], [], [5], [], [7], [5, 6, 7, 8], [0, 1, 2, 3, 4, 5, 6, 7, 8, 9]]
    [fun v' _ => v' = .pointer (some ⟨w.heap.size, 0, none⟩), fun v' _ => v' = .int .i64 x, fun v' _ => v' = .pointer (some ⟨w.heap.size + 1, 0, none⟩), fun v' _ => v' = .int .i64 u, fun v' _ => v' = .int .i64 (cmpI x u), fun v' _ => v' = .pointer (some ⟨w.heap.size, 1, none⟩), fun v' _ => v' = .int .i64 y, fun v' _ => v' = .pointer (some ⟨w.heap.size + 1, 1, none⟩), fun v' _ => v' = .int .i64 v, fun v' _ => v' = .int .i64 (cmpI y v), PairV wB.heap.size (cmpI x u) (cmpI y v)]
    (by kernel_rfl) (by kernel_rfl) rfl ⟨stable_pure _, stable_pure _, stable_pure _, stable_pure _, stable_pure _, stable_pure _, stable_pure _, stable_pure _, stable_pure _, stable_pure _, stable_pairV _ _ _, trivial⟩ ?_
  refine wf_step (fun wf hb hf => ?_) (fun t0 => ?_)
  · go_wp2
    exact ⟨rfl, .pointer (some ⟨w.heap.size, 0, none⟩), by simp [Act.put], Below.refl _ _, rfl⟩
  refine wf_step (fun wf hb hf => ?_) (fun t1 => ?_)
  · obtain ⟨rfl, -⟩ := hf
    have c0 := (h0.below hb).cell 0
    simp at c0
    go_wp2
    exact ⟨rfl, .int .i64 x, by simp [Act.put], Below.refl _ _, rfl⟩
  refine wf_step (fun wf hb hf => ?_) (fun t2 => ?_)
  · go_wp2
    exact ⟨rfl, .pointer (some ⟨w.heap.size + 1, 0, none⟩), by simp [Act.put], Below.refl _ _, rfl⟩
  refine wf_step (fun wf hb hf => ?_) (fun t3 => ?_)
  · obtain ⟨rfl, -⟩ := hf
    have c0 := (h1.below hb).cell 0
    simp at c0
    go_wp2
    exact ⟨rfl, .int .i64 u, by simp [Act.put], Below.refl _ _, rfl⟩
  refine wf_step (fun wf hb hf => ?_) (fun t4 => ?_)
  · obtain ⟨rfl, rfl, rfl, rfl, -⟩ := hf
    go_wp2_with (go_at_call 125; refine (cmpInt_below _ _ _).mono ?_; rintro e w2 ⟨rfl, hb2⟩)
    exact ⟨rfl, .int .i64 (cmpI x u), by simp [Act.put], hb2, rfl⟩
  refine wf_step (fun wf hb hf => ?_) (fun t5 => ?_)
  · go_wp2
    exact ⟨rfl, .pointer (some ⟨w.heap.size, 1, none⟩), by simp [Act.put], Below.refl _ _, rfl⟩
  refine wf_step (fun wf hb hf => ?_) (fun t6 => ?_)
  · obtain ⟨rfl, -⟩ := hf
    have c0 := (h0.below hb).cell 1
    simp at c0
    go_wp2
    exact ⟨rfl, .int .i64 y, by simp [Act.put], Below.refl _ _, rfl⟩
  refine wf_step (fun wf hb hf => ?_) (fun t7 => ?_)
  · go_wp2
    exact ⟨rfl, .pointer (some ⟨w.heap.size + 1, 1, none⟩), by simp [Act.put], Below.refl _ _, rfl⟩
  refine wf_step (fun wf hb hf => ?_) (fun t8 => ?_)
  · obtain ⟨rfl, -⟩ := hf
    have c0 := (h1.below hb).cell 1
    simp at c0
    go_wp2
    exact ⟨rfl, .int .i64 v, by simp [Act.put], Below.refl _ _, rfl⟩
  refine wf_step (fun wf hb hf => ?_) (fun t9 => ?_)
  · obtain ⟨rfl, rfl, rfl, rfl, -⟩ := hf
    go_wp2_with (go_at_call 125; refine (cmpInt_below _ _ _).mono ?_; rintro e w2 ⟨rfl, hb2⟩)
    exact ⟨rfl, .int .i64 (cmpI y v), by simp [Act.put], hb2, rfl⟩
  refine wf_step (fun wf hb hf => ?_) (fun t10 => ?_)
  · obtain ⟨rfl, rfl, rfl, rfl, rfl, rfl, rfl, rfl, rfl, rfl, -⟩ := hf
    go_wp2
    exact ⟨rfl, .slice (some ⟨wf.heap.size, 0, none⟩) 2 2, by simp [Act.put], bal (Below.refl _ _) _, _, rfl, hb.size, Blk.newAt rfl⟩
  refine wf_done (fun wC hb hf => ?_)
  obtain ⟨rfl, rfl, rfl, rfl, rfl, rfl, rfl, rfl, rfl, rfl, ⟨g, rfl, hg, kg⟩, -⟩ := hf
  show wpList _ _ _ [_, _] _ _
  refine wpList_frame (by simp [Act.put]; rfl) ?_
  have HB := Lib.hid (btr hB hb)
  clear h0 h1 hB hb
  go_wp2_with (go_at_call 124; refine (cmpOr_any _ _ _ _ kg).mono ?_; rintro e w2 ⟨rfl, rfl⟩)
  go_ret
  exact ⟨rfl, HB.out⟩
theorem cmpT_lt (x y u v : Int) : decide (cmpT x y u v < 0) = bfB x y u v := by
  unfold cmpT orV bfB cmpI
  by_cases h1 : x < u <;> by_cases h2 : u < x <;> by_cases h3 : y < v <;> by_cases h4 : v < y <;> simp [h1, h2, h3, h4] <;> omega

set_option maxHeartbeats 800000 in
theorem before_i (x y u v : Int) (w : World) : Calls Try.prog 89 #[.agg #[.int .i64 x, .int .i64 y], .agg #[.int .i64 u, .int .i64 v]] w fun e w' =>
    e = .returned (.bool (bfB x y u v)) ∧ Below w.heap.size w w' := by
  rw [← cmpT_lt]
  go_enter Try.func89, Try.ntmps89
  go_wp2_with (go_at_call 81; refine (timeCompare_i _ _ _ _ _).mono ?_; rintro e w1 ⟨rfl, hb⟩)
  go_ret
  exact ⟨rfl, btr (bal (bal (Below.refl _ _) _) _) hb⟩
set_option maxHeartbeats 800000 in
theorem TimeBefore_i (x y u v : Int) (w : World) : Calls Try.prog 36 #[.agg #[.int .i64 x, .int .i64 y], .agg #[.int .i64 u, .int .i64 v]] w fun e w' =>
    e = .returned (.bool (bfB x y u v)) ∧ Below w.heap.size w w' := by
  go_enter Try.func36, Try.ntmps36
  go_wp2_with (go_at_call 89; refine (before_i _ _ _ _ _).mono ?_; rintro e w1 ⟨rfl, hb⟩)
  go_ret
  exact ⟨rfl, btr (bal (bal (Below.refl _ _) _) _) hb⟩
end Tcm
end Go.Proofs.Ytkonhjdfcfljpaa

/- HELPER, no statement of the seat: the program's insertion of a time into an antichain (antichain.insert). -/
namespace Go.Proofs.Ytkonhjdfcfljpaa
open Go.RowKit Go.Sort
set_option linter.unusedSimpArgs false
set_option linter.unusedVariables false

/-- slices.Insert of one time at whatever place. -/
theorem insAt_i (base : Nat) (A : Option Addr) (c : Nat) (ks : List Tm) (p : Nat) (hp : p ≤ ks.length) (x y : Int) (V : Nat) (w : World) (ho : TmOwn w base A c ks) (hV : Blk w V 52 #[.int .i64 x, .int .i64 y]) (hVA : blk A ≠ some V) (hn : ks.length ≤ 4194000) (hb : base ≤ w.heap.size) :
    Calls Try.prog 162 #[.slice A ks.length c, .int .i64 p, .slice (some ⟨V, 0, none⟩) 1 1] w fun e w' => ∃ A' c', e = .returned (.slice A' (ks.length + 1) c') ∧ TmOwn w' base A' c' (ks.take p ++ [(x, y)] ++ ks.drop p) ∧ GrownS w w' (fun k => blk A = some k) ∧ ∀ k, blk A' = some k → blk A = some k ∨ w.heap.size ≤ k := by
  rcases Nat.lt_or_ge p ks.length with h | h
  · obtain ⟨g, rfl, hbg, hgl, hnc, hcm⟩ : ∃ g, A = some ⟨g, 0, none⟩ ∧ base ≤ g ∧ g < w.heap.size ∧ ks.length ≤ c ∧ c ≤ maxLen := by
      rcases ownsRow_form ho with ⟨_, _, h0⟩ | h0
      · omega
      · exact h0
    have hVg : V ≠ g := fun e => hVA (by rw [e]; rfl)
    rcases Nat.lt_or_ge ks.length c with hr | hr
    · exact (insRoom_i base g c ks p h x y V w ho hV hVg hn hb hr).mono fun e w' ⟨h1, h2, h3⟩ => ⟨_, _, h1, h2, h3.mono (fun k hk => by rw [hk]; rfl), fun k hk => .inl hk⟩
    · obtain rfl : c = ks.length := by omega
      exact (insGrow_i base g ks p h x y V w ho hV hVg hn hb).mono fun e w' ⟨A', c', h1, h2, h3, h4⟩ => ⟨A', c', h1, h2, h3.mono (fun k hk => hk.elim), fun k hk => .inr (h4 k hk)⟩
  · obtain rfl : p = ks.length := by omega
    refine (insEnd_i base A c ks x y V w ho hV hn hb).mono fun e w' ⟨A', c', h1, h2, h3, h4⟩ => ⟨A', c', h1, ?_, h3, h4⟩
    rw [List.take_length, List.drop_length, List.append_nil]
    exact h2
theorem keepF_len (t : Tm) (xs : List Tm) : (keepF t xs).length ≤ xs.length := List.length_filter_le _ _
set_option maxRecDepth 100000 in
set_option maxHeartbeats 12800000 in
theorem insert_i (base B : Nat) (A : Option Addr) (c : Nat) (xs : List Tm) (x y : Int) (w : World) (kB0 : Blk w B 106 #[.slice A xs.length c]) (ho : TmOwn w base A c xs) (hn : xs.length ≤ 4190000) (hb0 : base ≤ w.heap.size) :
    Calls Try.prog 133 #[.pointer (some ⟨B, 0, none⟩), .agg #[.int .i64 x, .int .i64 y]] w fun e w' => e = .returned (.tuple #[]) ∧ ∃ A' c', Blk w' B 106 #[.slice A' (insT xs (x, y)).length c'] ∧ TmOwn w' base A' c' (insT xs (x, y)) ∧ GrownS w w' (fun k => k = B ∨ blk A = some k) ∧ ∀ k, blk A' = some k → blk A = some k ∨ w.heap.size ≤ k := by
  have hAB : blk A ≠ some B := by
    rcases ownsRow_form ho with ⟨rfl, _, _⟩ | ⟨g, rfl, _, _, _, _⟩
    · simp [blk]
    · intro e
      have hgB : g = B := by simpa [blk] using e
      subst hgB
      obtain ⟨_, ⟨e1, _⟩ | ⟨g', cap, cur, e1, _, hg, _⟩⟩ := ho
      · cases e1
      · injection e1 with e1 _ _
        injection e1 with e1
        injection e1 with e1
        subst e1
        unfold Blk at kB0
        rw [kB0] at hg
        injection hg with hg
        injection hg with _ hg _
        exact absurd hg (by decide)
  have hAw : ∀ k, blk A = some k → base ≤ k ∧ k < w.heap.size := ho.lt
  have hB0w : B < w.heap.size := kB0.lt
  have HAB := Lib.hid hAB
  have HAW := Lib.hid hAw
  clear hAB hAw
  go_enter Try.func133, Try.ntmps133
  go_wp2_with fail
  refine abs_world (fun W => Below w.heap.size w W ∧ Blk W w.heap.size 52 #[.int .i64 x, .int .i64 y]) ⟨bal (Below.refl _ _) _, Blk.newAt rfl⟩ ?_
  rintro w0 ⟨hB0, kT⟩
  obtain ⟨T, hT⟩ : ∃ T, T = w.heap.size := ⟨_, rfl⟩
  rw [← hT] at kT ⊢
  have HT := Lib.hid hT
  clear hT
  have kB := kB0.below hB0
  have ho0 := ho.below hB0
  have hAT : Hid (blk A ≠ some T) := fun e => by have := (HAW.out T e).2; rw [HT.out] at this; exact Nat.lt_irrefl _ this
  have hTB : Hid (T ≠ B) := fun e => by rw [HT.out] at e; rw [e] at hB0w; exact Nat.lt_irrefl _ hB0w
  have hcon := fun W (h : TimesAt W A xs) => covers_i A c xs x y W h (by omega)
  by_cases hcv : cvB xs x y = true
  · simp only [hcv] at hcon
    have HR := Lib.hid (insT_cv (xs := xs) (t := (x, y)) hcv)
    clear hcv
    refine wp_region_facts [[], [0], [0, 1], []]
      [fun v' _ => v' = .pointer (some ⟨B, 0, none⟩), fun v' _ => v' = .pointer (some ⟨B, 0, none⟩), fun v' _ => v' = .slice A xs.length c, fun v' _ => v' = .agg #[.int .i64 x, .int .i64 y]]
      (by kernel_rfl) (by kernel_rfl) rfl ⟨stable_pure _, stable_pure _, stable_pure _, stable_pure _, trivial⟩ ?_
    refine wf_stepK [] [] (by kernel_rfl) (by kernel_rfl) (fun wf hb hf => ?_) (fun t0 => ?_)
    · refine ⟨?_⟩
      go_wp2
      exact ⟨rfl, .pointer (some ⟨B, 0, none⟩), by kernel_rfl, Below.refl _ _, rfl⟩
    refine wf_stepK [0] [fun _ => t0 = .pointer (some ⟨B, 0, none⟩)] (by kernel_rfl) (by kernel_rfl) (fun wf hb hf => ?_) (fun t1 => ?_)
    · obtain ⟨rfl, -⟩ := hf
      refine ⟨?_⟩
      go_wp2
      exact ⟨rfl, .pointer (some ⟨B, 0, none⟩), by kernel_rfl, Below.refl _ _, rfl⟩
    refine wf_stepK [1] [fun _ => t1 = .pointer (some ⟨B, 0, none⟩)] (by kernel_rfl) (by kernel_rfl) (fun wf hb hf => ?_) (fun t2 => ?_)
    · obtain ⟨rfl, -⟩ := hf
      refine ⟨?_⟩
      have p0 := (kB.below hb).cell 0
      simp at p0
      go_wp2
      exact ⟨rfl, .slice A xs.length c, by kernel_rfl, Below.refl _ _, rfl⟩
    refine wf_stepK [] [] (by kernel_rfl) (by kernel_rfl) (fun wf hb hf => ?_) (fun t3 => ?_)
    · refine ⟨?_⟩
      have p0 := (kT.below hb).cell 0
      have p1 := (kT.below hb).cell 1
      simp at p0 p1
      go_wp2
      exact ⟨rfl, .agg #[.int .i64 x, .int .i64 y], by kernel_rfl, Below.refl _ _, rfl⟩
    refine wf_doneK [2, 3] [fun _ => t2 = .slice A xs.length c, fun _ => t3 = .agg #[.int .i64 x, .int .i64 y]] (by kernel_rfl) (by kernel_rfl) (fun w1 b1 hf => ?_)
    obtain ⟨rfl, rfl, -⟩ := hf
    show wpList _ _ _ [_] _ _
    refine wpList_frame (by simp [Act.put]; rfl) ?_
    go_wp2_with fail
    refine (hcon _ (ho0.below b1).at_).mono ?_
    rintro e w2 ⟨rfl, b2⟩
    have hB2 := Lib.hid (btr hB0 (btr b1 b2))
    clear hcon
    go_wp2
    refine bodyPost_ret (results_none rfl _ _ _) rfl ?_
    refine ⟨rfl, A, c, ?_, ?_, GrownS.ofBelow hB2.out, fun k hk => .inl hk⟩
    · rw [HR.out]; exact kB0.below hB2.out
    · rw [HR.out]; exact ho.below hB2.out
  · have hcv' : cvB xs x y = false := by simpa using hcv
    simp only [hcv'] at hcon
    have HR := Lib.hid (insT_at (xs := xs) (t := (x, y)) hcv')
    clear hcv hcv'
    refine wp_region_facts [[], [0], [0, 1], []]
      [fun v' _ => v' = .pointer (some ⟨B, 0, none⟩), fun v' _ => v' = .pointer (some ⟨B, 0, none⟩), fun v' _ => v' = .slice A xs.length c, fun v' _ => v' = .agg #[.int .i64 x, .int .i64 y]]
      (by kernel_rfl) (by kernel_rfl) rfl ⟨stable_pure _, stable_pure _, stable_pure _, stable_pure _, trivial⟩ ?_
    refine wf_stepK [] [] (by kernel_rfl) (by kernel_rfl) (fun wf hb hf => ?_) (fun t0 => ?_)
    · refine ⟨?_⟩
      go_wp2
      exact ⟨rfl, .pointer (some ⟨B, 0, none⟩), by kernel_rfl, Below.refl _ _, rfl⟩
    refine wf_stepK [0] [fun _ => t0 = .pointer (some ⟨B, 0, none⟩)] (by kernel_rfl) (by kernel_rfl) (fun wf hb hf => ?_) (fun t1 => ?_)
    · obtain ⟨rfl, -⟩ := hf
      refine ⟨?_⟩
      go_wp2
      exact ⟨rfl, .pointer (some ⟨B, 0, none⟩), by kernel_rfl, Below.refl _ _, rfl⟩
    refine wf_stepK [1] [fun _ => t1 = .pointer (some ⟨B, 0, none⟩)] (by kernel_rfl) (by kernel_rfl) (fun wf hb hf => ?_) (fun t2 => ?_)
    · obtain ⟨rfl, -⟩ := hf
      refine ⟨?_⟩
      have p0 := (kB.below hb).cell 0
      simp at p0
      go_wp2
      exact ⟨rfl, .slice A xs.length c, by kernel_rfl, Below.refl _ _, rfl⟩
    refine wf_stepK [] [] (by kernel_rfl) (by kernel_rfl) (fun wf hb hf => ?_) (fun t3 => ?_)
    · refine ⟨?_⟩
      have p0 := (kT.below hb).cell 0
      have p1 := (kT.below hb).cell 1
      simp at p0 p1
      go_wp2
      exact ⟨rfl, .agg #[.int .i64 x, .int .i64 y], by kernel_rfl, Below.refl _ _, rfl⟩
    refine wf_doneK [2, 3] [fun _ => t2 = .slice A xs.length c, fun _ => t3 = .agg #[.int .i64 x, .int .i64 y]] (by kernel_rfl) (by kernel_rfl) (fun w1 b1 hf => ?_)
    obtain ⟨rfl, rfl, -⟩ := hf
    show wpList _ _ _ [_] _ _
    refine wpList_frame (by simp [Act.put]; rfl) ?_
    go_wp2_with fail
    refine (hcon _ (ho0.below b1).at_).mono ?_
    rintro e w2 ⟨rfl, b2⟩
    have b02 := btr b1 b2
    have hB2 := Lib.hid (btr hB0 b02)
    have kB2 := kB.below b02
    have kT2 := kT.below b02
    have ho2 := ho0.below b02
    clear hcon kB kT ho0 b1 b2 b02 hB0
    have kB := kB2
    have kT := kT2
    clear kB2 kT2
    go_wp2_with fail
    refine wp_region_facts [[], [0], [0, 1], [], [3]]
      [fun v' _ => v' = .pointer (some ⟨B, 0, none⟩), fun v' _ => v' = .pointer (some ⟨B, 0, none⟩), fun v' _ => v' = .slice A xs.length c, fun v' _ => v' = .agg #[.int .i64 x, .int .i64 y], fun v' _ => v' = leFn x y]
      (by kernel_rfl) (by kernel_rfl) rfl ⟨stable_pure _, stable_pure _, stable_pure _, stable_pure _, stable_pure _, trivial⟩ ?_
    refine wf_stepK [] [] (by kernel_rfl) (by kernel_rfl) (fun wf hb hf => ?_) (fun t0 => ?_)
    · refine ⟨?_⟩
      go_wp2
      exact ⟨rfl, .pointer (some ⟨B, 0, none⟩), by kernel_rfl, Below.refl _ _, rfl⟩
    refine wf_stepK [0] [fun _ => t0 = .pointer (some ⟨B, 0, none⟩)] (by kernel_rfl) (by kernel_rfl) (fun wf hb hf => ?_) (fun t1 => ?_)
    · obtain ⟨rfl, -⟩ := hf
      refine ⟨?_⟩
      go_wp2
      exact ⟨rfl, .pointer (some ⟨B, 0, none⟩), by kernel_rfl, Below.refl _ _, rfl⟩
    refine wf_stepK [1] [fun _ => t1 = .pointer (some ⟨B, 0, none⟩)] (by kernel_rfl) (by kernel_rfl) (fun wf hb hf => ?_) (fun t2 => ?_)
    · obtain ⟨rfl, -⟩ := hf
      refine ⟨?_⟩
      have p0 := (kB.below hb).cell 0
      simp at p0
      go_wp2
      exact ⟨rfl, .slice A xs.length c, by kernel_rfl, Below.refl _ _, rfl⟩
    refine wf_stepK [] [] (by kernel_rfl) (by kernel_rfl) (fun wf hb hf => ?_) (fun t3 => ?_)
    · refine ⟨?_⟩
      have p0 := (kT.below hb).cell 0
      have p1 := (kT.below hb).cell 1
      simp at p0 p1
      go_wp2
      exact ⟨rfl, .agg #[.int .i64 x, .int .i64 y], by kernel_rfl, Below.refl _ _, rfl⟩
    refine wf_stepK [3] [fun _ => t3 = .agg #[.int .i64 x, .int .i64 y]] (by kernel_rfl) (by kernel_rfl) (fun wf hb hf => ?_) (fun t4 => ?_)
    · obtain ⟨rfl, -⟩ := hf
      refine ⟨?_⟩
      go_wp2
      exact ⟨rfl, leFn x y, by kernel_rfl, Below.refl _ _, rfl⟩
    refine wf_doneK [2, 4] [fun _ => t2 = .slice A xs.length c, fun _ => t4 = leFn x y] (by kernel_rfl) (by kernel_rfl) (fun w3 b3 hf => ?_)
    obtain ⟨rfl, rfl, -⟩ := hf
    show wpList _ _ _ [_, _] _ _
    refine wpList_frame (by simp [Act.put]; rfl) ?_
    go_wp2_with fail
    refine (delT_i base A c xs x y _ (ho2.below b3) (by omega)).mono ?_
    rintro e w4 ⟨rfl, ho4, g4⟩
    have kB3 := kB.below b3
    have kT3 := kT.below b3
    have hs3 := b3.size
    have kT4 : Blk w4 T 52 #[.int .i64 x, .int .i64 y] := (g4.block T kT3.lt (fun e => hAT.out e)).trans kT3
    have kB4 : Blk w4 B 106 #[.slice A xs.length c] := (g4.block B kB3.lt (fun e => HAB.out e)).trans kB3
    have hG4 : Hid (GrownS w w4 (fun k => k = B ∨ blk A = some k)) := ((GrownS.ofBelow hB2.out).trans (GrownS.ofBelow b3)).trans (g4.mono (fun k hk => .inr hk))
    clear kB kT kB3 kT3 ho2 g4 b3
    have hkl := keepF_len (x, y) xs
    generalize keepF (x, y) xs = ks at ho4 hkl HR ⊢
    have hcap := ho4.cap
    go_wp2_with fail
    go_loopw [5] (fun pl wr => ∃ k : Nat, k ≤ ks.length ∧ pl = .int .i64 k ∧ Hid (∀ j (h : j < ks.length), j < k → bfB ks[j].1 ks[j].2 x y = true) ∧ Below w4.heap.size w4 wr) (fun pl _ => ks.length - (intOf pl).toNat)
    case atStart => exact ⟨0, by omega, rfl, fun j h hj => absurd hj (by omega), RowKit.Below.refl _ _⟩
    case round =>
      obtain ⟨k, hk, rfl, hall, hbel⟩ := hrel
      have kT := kT4.below hbel
      have hor := ho4.below hbel
      by_cases hlt : k < ks.length
      · obtain ⟨kb, koff, rfl, hkb, hc⟩ := hor.at_ (by omega)
        have q1 := (hc k hlt).1
        have q2 := (hc k hlt).2
        rw [getD_lt _ hlt] at q1 q2
        clear hc
        have hkI : (k : Int) < ks.length := by omega
        by_cases hz : bfB ks[k].1 ks[k].2 x y = true
        · have hbf := fun W => Tcm.before_i ks[k].1 ks[k].2 x y W
          simp only [hz] at hbf
          have HA : Hid (∀ j (h : j < ks.length), j < k + 1 → bfB ks[j].1 ks[j].2 x y = true) := fun j h hj => by
            rcases Nat.lt_or_ge j k with h2 | h2
            · exact hall.out j h h2
            · obtain rfl : j = k := by omega
              exact hz
          clear hz
          go_wp2_with fail
          refine wp_region_facts [[], [], [1], [0, 1, 2], List.range 4, List.range 5, List.range 5, List.range 7, List.range 8, List.range 5, List.range 10]
            [fun v' _ => v' = .int .i64 ((k : Nat)), fun v' _ => v' = .slice (some ⟨kb, koff, none⟩) ks.length c, fun v' _ => v' = .int .i64 ((ks.length : Nat)), fun v' _ => v' = .bool true, fun v' _ => v' = .bool true, fun v' _ => v' = .slice (some ⟨kb, koff, none⟩) ks.length c, fun v' _ => v' = .int .i64 ((k : Nat)), fun v' _ => v' = .pointer (some ⟨kb, koff + k * 2, none⟩), fun v' _ => v' = .agg #[.int .i64 ks[k].1, .int .i64 ks[k].2], fun v' _ => v' = .agg #[.int .i64 x, .int .i64 y], fun v' _ => v' = .bool true]
            (by kernel_rfl) (by kernel_rfl) rfl ⟨stable_pure _, stable_pure _, stable_pure _, stable_pure _, stable_pure _, stable_pure _, stable_pure _, stable_pure _, stable_pure _, stable_pure _, stable_pure _, trivial⟩ ?_
          refine wf_stepK [] [] (by kernel_rfl) (by kernel_rfl) (fun wf hb hf => ?_) (fun t0 => ?_)
          · refine ⟨?_⟩
            go_wp2
            exact ⟨rfl, .int .i64 ((k : Nat)), by kernel_rfl, Below.refl _ _, rfl⟩
          refine wf_stepK [] [] (by kernel_rfl) (by kernel_rfl) (fun wf hb hf => ?_) (fun t1 => ?_)
          · refine ⟨?_⟩
            go_wp2
            exact ⟨rfl, .slice (some ⟨kb, koff, none⟩) ks.length c, by kernel_rfl, Below.refl _ _, rfl⟩
          refine wf_stepK [1] [fun _ => t1 = .slice (some ⟨kb, koff, none⟩) ks.length c] (by kernel_rfl) (by kernel_rfl) (fun wf hb hf => ?_) (fun t2 => ?_)
          · obtain ⟨rfl, -⟩ := hf
            refine ⟨?_⟩
            go_wp2
            exact ⟨rfl, .int .i64 ((ks.length : Nat)), by kernel_rfl, Below.refl _ _, rfl⟩
          refine wf_stepK [0, 2] [fun _ => t0 = .int .i64 ((k : Nat)), fun _ => t2 = .int .i64 ((ks.length : Nat))] (by kernel_rfl) (by kernel_rfl) (fun wf hb hf => ?_) (fun t3 => ?_)
          · obtain ⟨rfl, rfl, -⟩ := hf
            refine ⟨?_⟩
            go_wp2
            exact ⟨rfl, .bool true, by kernel_rfl, Below.refl _ _, rfl⟩
          refine wf_stepK [3] [fun _ => t3 = .bool true] (by kernel_rfl) (by kernel_rfl) (fun wf hb hf => ?_) (fun t4 => ?_)
          · obtain ⟨rfl, -⟩ := hf
            refine ⟨?_⟩
            go_wp2
            exact ⟨rfl, .bool true, by kernel_rfl, Below.refl _ _, rfl⟩
          refine wf_stepK [4] [fun _ => t4 = .bool true] (by kernel_rfl) (by kernel_rfl) (fun wf hb hf => ?_) (fun t5 => ?_)
          · obtain ⟨rfl, -⟩ := hf
            refine WfOp.yes (by kernel_rfl) ?_
            dsimp only
            go_wp2
            exact ⟨rfl, .slice (some ⟨kb, koff, none⟩) ks.length c, by kernel_rfl, Below.refl _ _, rfl⟩
          refine wf_stepK [4] [fun _ => t4 = .bool true] (by kernel_rfl) (by kernel_rfl) (fun wf hb hf => ?_) (fun t6 => ?_)
          · obtain ⟨rfl, -⟩ := hf
            refine WfOp.yes (by kernel_rfl) ?_
            dsimp only
            go_wp2
            exact ⟨rfl, .int .i64 ((k : Nat)), by kernel_rfl, Below.refl _ _, rfl⟩
          refine wf_stepK [4, 5, 6] [fun _ => t4 = .bool true, fun _ => t5 = .slice (some ⟨kb, koff, none⟩) ks.length c, fun _ => t6 = .int .i64 ((k : Nat))] (by kernel_rfl) (by kernel_rfl) (fun wf hb hf => ?_) (fun t7 => ?_)
          · obtain ⟨rfl, rfl, rfl, -⟩ := hf
            refine WfOp.yes (by kernel_rfl) ?_
            dsimp only
            go_wp2
            exact ⟨rfl, .pointer (some ⟨kb, koff + k * 2, none⟩), by kernel_rfl, Below.refl _ _, rfl⟩
          refine wf_stepK [4, 7] [fun _ => t4 = .bool true, fun _ => t7 = .pointer (some ⟨kb, koff + k * 2, none⟩)] (by kernel_rfl) (by kernel_rfl) (fun wf hb hf => ?_) (fun t8 => ?_)
          · obtain ⟨rfl, rfl, -⟩ := hf
            refine WfOp.yes (by kernel_rfl) ?_
            dsimp only
            have p0 := (hb.cell (p := ⟨kb, koff + k * 2, none⟩) hkb).trans q1
            have p1 := (hb.cell (p := ⟨kb, koff + k * 2 + 1, none⟩) hkb).trans q2
            go_wp2
            exact ⟨rfl, .agg #[.int .i64 ks[k].1, .int .i64 ks[k].2], by kernel_rfl, Below.refl _ _, rfl⟩
          refine wf_stepK [4] [fun _ => t4 = .bool true] (by kernel_rfl) (by kernel_rfl) (fun wf hb hf => ?_) (fun t9 => ?_)
          · obtain ⟨rfl, -⟩ := hf
            refine WfOp.yes (by kernel_rfl) ?_
            dsimp only
            have p0 := (kT.below hb).cell 0
            have p1 := (kT.below hb).cell 1
            simp at p0 p1
            go_wp2
            exact ⟨rfl, .agg #[.int .i64 x, .int .i64 y], by kernel_rfl, Below.refl _ _, rfl⟩
          refine wf_stepK [4, 8, 9] [fun _ => t4 = .bool true, fun _ => t8 = .agg #[.int .i64 ks[k].1, .int .i64 ks[k].2], fun _ => t9 = .agg #[.int .i64 x, .int .i64 y]] (by kernel_rfl) (by kernel_rfl) (fun wf hb hf => ?_) (fun t10 => ?_)
          · obtain ⟨rfl, rfl, rfl, -⟩ := hf
            refine WfOp.yes (by kernel_rfl) ?_
            dsimp only
            go_wp2_with (go_at_call 89; refine (hbf _).mono ?_; rintro e w2 ⟨rfl, hb2⟩)
            exact ⟨rfl, .bool true, by kernel_rfl, hb2, rfl⟩
          refine wf_doneK [4, 10] [fun _ => t4 = .bool true, fun _ => t10 = .bool true] (by kernel_rfl) (by kernel_rfl) (fun w5 b5 hf => ?_)
          obtain ⟨rfl, rfl, -⟩ := hf
          show wpList _ _ _ [_] _ _
          refine wpList_frame (by simp [Act.put]; rfl) ?_
          go_wp2
          go_roundw
          case rel => exact ⟨k + 1, by omega, by go_num, HA, btr hbel b5⟩
          case measure => simp [intOf]; omega
        · have hz2 : bfB ks[k].1 ks[k].2 x y = false := by simpa using hz
          have hbf := fun W => Tcm.before_i ks[k].1 ks[k].2 x y W
          simp only [hz2] at hbf
          have HP : Hid (plc (x, y) ks = k) := plc_of (x, y) ks k hk hall.out (fun _ => hz2)
          clear hz hz2
          go_wp2_with fail
          refine wp_region_facts [[], [], [1], [0, 1, 2], List.range 4, List.range 5, List.range 5, List.range 7, List.range 8, List.range 5, List.range 10]
            [fun v' _ => v' = .int .i64 ((k : Nat)), fun v' _ => v' = .slice (some ⟨kb, koff, none⟩) ks.length c, fun v' _ => v' = .int .i64 ((ks.length : Nat)), fun v' _ => v' = .bool true, fun v' _ => v' = .bool true, fun v' _ => v' = .slice (some ⟨kb, koff, none⟩) ks.length c, fun v' _ => v' = .int .i64 ((k : Nat)), fun v' _ => v' = .pointer (some ⟨kb, koff + k * 2, none⟩), fun v' _ => v' = .agg #[.int .i64 ks[k].1, .int .i64 ks[k].2], fun v' _ => v' = .agg #[.int .i64 x, .int .i64 y], fun v' _ => v' = .bool false]
            (by kernel_rfl) (by kernel_rfl) rfl ⟨stable_pure _, stable_pure _, stable_pure _, stable_pure _, stable_pure _, stable_pure _, stable_pure _, stable_pure _, stable_pure _, stable_pure _, stable_pure _, trivial⟩ ?_
          refine wf_stepK [] [] (by kernel_rfl) (by kernel_rfl) (fun wf hb hf => ?_) (fun t0 => ?_)
          · refine ⟨?_⟩
            go_wp2
            exact ⟨rfl, .int .i64 ((k : Nat)), by kernel_rfl, Below.refl _ _, rfl⟩
          refine wf_stepK [] [] (by kernel_rfl) (by kernel_rfl) (fun wf hb hf => ?_) (fun t1 => ?_)
          · refine ⟨?_⟩
            go_wp2
            exact ⟨rfl, .slice (some ⟨kb, koff, none⟩) ks.length c, by kernel_rfl, Below.refl _ _, rfl⟩
          refine wf_stepK [1] [fun _ => t1 = .slice (some ⟨kb, koff, none⟩) ks.length c] (by kernel_rfl) (by kernel_rfl) (fun wf hb hf => ?_) (fun t2 => ?_)
          · obtain ⟨rfl, -⟩ := hf
            refine ⟨?_⟩
            go_wp2
            exact ⟨rfl, .int .i64 ((ks.length : Nat)), by kernel_rfl, Below.refl _ _, rfl⟩
          refine wf_stepK [0, 2] [fun _ => t0 = .int .i64 ((k : Nat)), fun _ => t2 = .int .i64 ((ks.length : Nat))] (by kernel_rfl) (by kernel_rfl) (fun wf hb hf => ?_) (fun t3 => ?_)
          · obtain ⟨rfl, rfl, -⟩ := hf
            refine ⟨?_⟩
            go_wp2
            exact ⟨rfl, .bool true, by kernel_rfl, Below.refl _ _, rfl⟩
          refine wf_stepK [3] [fun _ => t3 = .bool true] (by kernel_rfl) (by kernel_rfl) (fun wf hb hf => ?_) (fun t4 => ?_)
          · obtain ⟨rfl, -⟩ := hf
            refine ⟨?_⟩
            go_wp2
            exact ⟨rfl, .bool true, by kernel_rfl, Below.refl _ _, rfl⟩
          refine wf_stepK [4] [fun _ => t4 = .bool true] (by kernel_rfl) (by kernel_rfl) (fun wf hb hf => ?_) (fun t5 => ?_)
          · obtain ⟨rfl, -⟩ := hf
            refine WfOp.yes (by kernel_rfl) ?_
            dsimp only
            go_wp2
            exact ⟨rfl, .slice (some ⟨kb, koff, none⟩) ks.length c, by kernel_rfl, Below.refl _ _, rfl⟩
          refine wf_stepK [4] [fun _ => t4 = .bool true] (by kernel_rfl) (by kernel_rfl) (fun wf hb hf => ?_) (fun t6 => ?_)
          · obtain ⟨rfl, -⟩ := hf
            refine WfOp.yes (by kernel_rfl) ?_
            dsimp only
            go_wp2
            exact ⟨rfl, .int .i64 ((k : Nat)), by kernel_rfl, Below.refl _ _, rfl⟩
          refine wf_stepK [4, 5, 6] [fun _ => t4 = .bool true, fun _ => t5 = .slice (some ⟨kb, koff, none⟩) ks.length c, fun _ => t6 = .int .i64 ((k : Nat))] (by kernel_rfl) (by kernel_rfl) (fun wf hb hf => ?_) (fun t7 => ?_)
          · obtain ⟨rfl, rfl, rfl, -⟩ := hf
            refine WfOp.yes (by kernel_rfl) ?_
            dsimp only
            go_wp2
            exact ⟨rfl, .pointer (some ⟨kb, koff + k * 2, none⟩), by kernel_rfl, Below.refl _ _, rfl⟩
          refine wf_stepK [4, 7] [fun _ => t4 = .bool true, fun _ => t7 = .pointer (some ⟨kb, koff + k * 2, none⟩)] (by kernel_rfl) (by kernel_rfl) (fun wf hb hf => ?_) (fun t8 => ?_)
          · obtain ⟨rfl, rfl, -⟩ := hf
            refine WfOp.yes (by kernel_rfl) ?_
            dsimp only
            have p0 := (hb.cell (p := ⟨kb, koff + k * 2, none⟩) hkb).trans q1
            have p1 := (hb.cell (p := ⟨kb, koff + k * 2 + 1, none⟩) hkb).trans q2
            go_wp2
            exact ⟨rfl, .agg #[.int .i64 ks[k].1, .int .i64 ks[k].2], by kernel_rfl, Below.refl _ _, rfl⟩
          refine wf_stepK [4] [fun _ => t4 = .bool true] (by kernel_rfl) (by kernel_rfl) (fun wf hb hf => ?_) (fun t9 => ?_)
          · obtain ⟨rfl, -⟩ := hf
            refine WfOp.yes (by kernel_rfl) ?_
            dsimp only
            have p0 := (kT.below hb).cell 0
            have p1 := (kT.below hb).cell 1
            simp at p0 p1
            go_wp2
            exact ⟨rfl, .agg #[.int .i64 x, .int .i64 y], by kernel_rfl, Below.refl _ _, rfl⟩
          refine wf_stepK [4, 8, 9] [fun _ => t4 = .bool true, fun _ => t8 = .agg #[.int .i64 ks[k].1, .int .i64 ks[k].2], fun _ => t9 = .agg #[.int .i64 x, .int .i64 y]] (by kernel_rfl) (by kernel_rfl) (fun wf hb hf => ?_) (fun t10 => ?_)
          · obtain ⟨rfl, rfl, rfl, -⟩ := hf
            refine WfOp.yes (by kernel_rfl) ?_
            dsimp only
            go_wp2_with (go_at_call 89; refine (hbf _).mono ?_; rintro e w2 ⟨rfl, hb2⟩)
            exact ⟨rfl, .bool false, by kernel_rfl, hb2, rfl⟩
          refine wf_doneK [4, 10] [fun _ => t4 = .bool true, fun _ => t10 = .bool false] (by kernel_rfl) (by kernel_rfl) (fun w5 b5 hf => ?_)
          obtain ⟨rfl, rfl, -⟩ := hf
          show wpList _ _ _ [_] _ _
          refine wpList_frame (by simp [Act.put]; rfl) ?_
          have hF := btr hbel b5
          have kT5 := kT4.below hF
          have kB5 := kB4.below hF
          have ho5 := ho4.below hF
          have hG5 := hG4.out.trans (GrownS.ofBelow hF)
          have c0 := kT5.cell 0
          have c1 := kT5.cell 1
          simp at c0 c1
          have HH : Hid (w.heap.size ≤ w5.heap.size) := hG5.size
          have HG5 := Lib.hid hG5
          have HTB := Lib.hid kB5
          have hb5 : base ≤ w5.heap.size := by have := HH.out; omega
          clear hbf hbel kT hor kT5 hall hG5 kB5 kT4 hG4 kB4 ho4
          go_wp2_with fail
          refine (insAt_i base _ c ks k (by omega) x y w5.heap.size _ (ho5.below (bal (Below.refl _ _) _)) (Blk.newAt rfl) (fun e => by have := (ho5.lt _ e).2; omega) (by omega) (by simp; omega)).mono ?_
          rintro e w6 ⟨A6, c6, rfl, ho6, g6, n6⟩
          have hB6 : Blk w6 B 106 #[.slice (some ⟨kb, koff, none⟩) xs.length c] := (g6.block B (by have := HTB.out.lt; simp; omega) (fun e => HAB.out e)).trans (HTB.out.alloc _)
          have e0 := hB6.cell 0
          have f0 := hB6.frozen 0
          simp at e0
          have h6A : Hid (blk A6 ≠ some B) := by
            intro e
            rcases ownsRow_form ho6 with ⟨rfl, _, _⟩ | ⟨g, rfl, _, _, _, _⟩
            · simp [blk] at e
            · have hgB : g = B := by simpa [blk] using e
              subst hgB
              obtain ⟨_, ⟨e1, _⟩ | ⟨g', cap, cur, e1, _, hg, _⟩⟩ := ho6
              · cases e1
              · injection e1 with e1 _ _
                injection e1 with e1
                injection e1 with e1
                subst e1
                unfold Blk at hB6
                rw [hB6] at hg
                injection hg with hg
                injection hg with _ hg _
                exact absurd hg (by decide)
          have HN6 : Hid (∀ k, blk A6 = some k → blk (some ⟨kb, koff, none⟩) = some k ∨ w.heap.size ≤ k) := fun k hk => by
            rcases n6 k hk with h | h
            · exact .inl h
            · have h2 := HH.out; simp at h; exact .inr (by omega)
          have HB6 := Lib.hid hB6
          have HO6 := Lib.hid ho6
          have HG6 : Hid (GrownS w w6 (fun k => k = B ∨ blk (some ⟨kb, koff, none⟩) = some k)) := HG5.out.trans ((GrownS.ofBelow (bal (Below.refl _ _) _)).trans (g6.mono (fun k hk => .inr hk)))
          clear hB6 ho6 g6 n6
          go_wp2
          go_end0
          have hln : (insT xs (x, y)).length = ks.length + 1 := by
            rw [HR.out]; unfold insAt; have := plc_le (x, y) ks; simp; omega
          refine ⟨rfl, A6, c6, ?_, ?_, HG6.out.set_ (p := ⟨B, 0, none⟩) (.inl rfl) _, HN6.out⟩
          · rw [hln]; exact HB6.out.set_ 0 _
          · have h1 : TmOwn w6 base A6 c6 (insT xs (x, y)) := by rw [HR.out]; unfold insAt; rw [HP.out]; exact HO6.out
            exact h1.loc (fun k hk => Below.heap_setCell _ _ _ k (fun e => h6A.out (by rw [hk, e])))
      · obtain rfl : k = ks.length := by omega
        have HP : Hid (plc (x, y) ks = ks.length) := plc_of (x, y) ks ks.length hk hall.out (fun h => absurd h (Nat.lt_irrefl _))
        go_wp2_with fail
        refine wp_region_facts [[], [], [1], [0, 1, 2], List.range 4, List.range 5, List.range 5, List.range 7, List.range 8, List.range 5, List.range 10]
          [fun v' _ => v' = .int .i64 ((ks.length : Nat)), fun v' _ => v' = .slice A ks.length c, fun v' _ => v' = .int .i64 ((ks.length : Nat)), fun v' _ => v' = .bool false, fun v' _ => v' = .bool false, fun v' _ => v' = undef, fun v' _ => v' = undef, fun v' _ => v' = undef, fun v' _ => v' = undef, fun v' _ => v' = undef, fun v' _ => v' = undef]
          (by kernel_rfl) (by kernel_rfl) rfl ⟨stable_pure _, stable_pure _, stable_pure _, stable_pure _, stable_pure _, stable_pure _, stable_pure _, stable_pure _, stable_pure _, stable_pure _, stable_pure _, trivial⟩ ?_
        refine wf_stepK [] [] (by kernel_rfl) (by kernel_rfl) (fun wf hb hf => ?_) (fun t0 => ?_)
        · refine ⟨?_⟩
          go_wp2
          exact ⟨rfl, .int .i64 ((ks.length : Nat)), by kernel_rfl, Below.refl _ _, rfl⟩
        refine wf_stepK [] [] (by kernel_rfl) (by kernel_rfl) (fun wf hb hf => ?_) (fun t1 => ?_)
        · refine ⟨?_⟩
          go_wp2
          exact ⟨rfl, .slice A ks.length c, by kernel_rfl, Below.refl _ _, rfl⟩
        refine wf_stepK [1] [fun _ => t1 = .slice A ks.length c] (by kernel_rfl) (by kernel_rfl) (fun wf hb hf => ?_) (fun t2 => ?_)
        · obtain ⟨rfl, -⟩ := hf
          refine ⟨?_⟩
          go_wp2
          exact ⟨rfl, .int .i64 ((ks.length : Nat)), by kernel_rfl, Below.refl _ _, rfl⟩
        refine wf_stepK [0, 2] [fun _ => t0 = .int .i64 ((ks.length : Nat)), fun _ => t2 = .int .i64 ((ks.length : Nat))] (by kernel_rfl) (by kernel_rfl) (fun wf hb hf => ?_) (fun t3 => ?_)
        · obtain ⟨rfl, rfl, -⟩ := hf
          refine ⟨?_⟩
          go_wp2
          exact ⟨rfl, .bool false, by kernel_rfl, Below.refl _ _, rfl⟩
        refine wf_stepK [3] [fun _ => t3 = .bool false] (by kernel_rfl) (by kernel_rfl) (fun wf hb hf => ?_) (fun t4 => ?_)
        · obtain ⟨rfl, -⟩ := hf
          refine ⟨?_⟩
          go_wp2
          exact ⟨rfl, .bool false, by kernel_rfl, Below.refl _ _, rfl⟩
        refine wf_stepK [4] [fun _ => t4 = .bool false] (by kernel_rfl) (by kernel_rfl) (fun wf hb hf => ?_) (fun t5 => ?_)
        · obtain ⟨rfl, -⟩ := hf
          exact WfOp.no (by kernel_rfl) rfl
        refine wf_stepK [4] [fun _ => t4 = .bool false] (by kernel_rfl) (by kernel_rfl) (fun wf hb hf => ?_) (fun t6 => ?_)
        · obtain ⟨rfl, -⟩ := hf
          exact WfOp.no (by kernel_rfl) rfl
        refine wf_stepK [4, 5, 6] [fun _ => t4 = .bool false, fun _ => t5 = undef, fun _ => t6 = undef] (by kernel_rfl) (by kernel_rfl) (fun wf hb hf => ?_) (fun t7 => ?_)
        · obtain ⟨rfl, rfl, rfl, -⟩ := hf
          exact WfOp.no (by kernel_rfl) rfl
        refine wf_stepK [4, 7] [fun _ => t4 = .bool false, fun _ => t7 = undef] (by kernel_rfl) (by kernel_rfl) (fun wf hb hf => ?_) (fun t8 => ?_)
        · obtain ⟨rfl, rfl, -⟩ := hf
          exact WfOp.no (by kernel_rfl) rfl
        refine wf_stepK [4] [fun _ => t4 = .bool false] (by kernel_rfl) (by kernel_rfl) (fun wf hb hf => ?_) (fun t9 => ?_)
        · obtain ⟨rfl, -⟩ := hf
          exact WfOp.no (by kernel_rfl) rfl
        refine wf_stepK [4, 8, 9] [fun _ => t4 = .bool false, fun _ => t8 = undef, fun _ => t9 = undef] (by kernel_rfl) (by kernel_rfl) (fun wf hb hf => ?_) (fun t10 => ?_)
        · obtain ⟨rfl, rfl, rfl, -⟩ := hf
          exact WfOp.no (by kernel_rfl) rfl
        refine wf_doneK [4, 10] [fun _ => t4 = .bool false, fun _ => t10 = undef] (by kernel_rfl) (by kernel_rfl) (fun w5 b5 hf => ?_)
        obtain ⟨rfl, rfl, -⟩ := hf
        show wpList _ _ _ [_] _ _
        refine wpList_frame (by simp [Act.put]; rfl) ?_
        have hF := btr hbel b5
        have kT5 := kT4.below hF
        have kB5 := kB4.below hF
        have ho5 := ho4.below hF
        have hG5 := hG4.out.trans (GrownS.ofBelow hF)
        have c0 := kT5.cell 0
        have c1 := kT5.cell 1
        simp at c0 c1
        have HH : Hid (w.heap.size ≤ w5.heap.size) := hG5.size
        have HG5 := Lib.hid hG5
        have HTB := Lib.hid kB5
        have hb5 : base ≤ w5.heap.size := by have := HH.out; omega
        clear hbel kT hor kT5 hall hG5 kB5 kT4 hG4 kB4 ho4
        go_wp2_with fail
        refine (insAt_i base _ c ks ks.length (by omega) x y w5.heap.size _ (ho5.below (bal (Below.refl _ _) _)) (Blk.newAt rfl) (fun e => by have := (ho5.lt _ e).2; omega) (by omega) (by simp; omega)).mono ?_
        rintro e w6 ⟨A6, c6, rfl, ho6, g6, n6⟩
        have hB6 : Blk w6 B 106 #[.slice A xs.length c] := (g6.block B (by have := HTB.out.lt; simp; omega) (fun e => HAB.out e)).trans (HTB.out.alloc _)
        have e0 := hB6.cell 0
        have f0 := hB6.frozen 0
        simp at e0
        have h6A : Hid (blk A6 ≠ some B) := by
          intro e
          rcases ownsRow_form ho6 with ⟨rfl, _, _⟩ | ⟨g, rfl, _, _, _, _⟩
          · simp [blk] at e
          · have hgB : g = B := by simpa [blk] using e
            subst hgB
            obtain ⟨_, ⟨e1, _⟩ | ⟨g', cap, cur, e1, _, hg, _⟩⟩ := ho6
            · cases e1
            · injection e1 with e1 _ _
              injection e1 with e1
              injection e1 with e1
              subst e1
              unfold Blk at hB6
              rw [hB6] at hg
              injection hg with hg
              injection hg with _ hg _
              exact absurd hg (by decide)
        have HN6 : Hid (∀ k, blk A6 = some k → blk A = some k ∨ w.heap.size ≤ k) := fun k hk => by
          rcases n6 k hk with h | h
          · exact .inl h
          · have h2 := HH.out; simp at h; exact .inr (by omega)
        have HB6 := Lib.hid hB6
        have HO6 := Lib.hid ho6
        have HG6 : Hid (GrownS w w6 (fun k => k = B ∨ blk A = some k)) := HG5.out.trans ((GrownS.ofBelow (bal (Below.refl _ _) _)).trans (g6.mono (fun k hk => .inr hk)))
        clear hB6 ho6 g6 n6
        go_wp2
        go_end0
        have hln : (insT xs (x, y)).length = ks.length + 1 := by
          rw [HR.out]; unfold insAt; have := plc_le (x, y) ks; simp; omega
        refine ⟨rfl, A6, c6, ?_, ?_, HG6.out.set_ (p := ⟨B, 0, none⟩) (.inl rfl) _, HN6.out⟩
        · rw [hln]; exact HB6.out.set_ 0 _
        · have h1 : TmOwn w6 base A6 c6 (insT xs (x, y)) := by rw [HR.out]; unfold insAt; rw [HP.out]; exact HO6.out
          exact h1.loc (fun k hk => Below.heap_setCell _ _ _ k (fun e => h6A.out (by rw [hk, e])))
end Go.Proofs.Ytkonhjdfcfljpaa

/- HELPER, no statement of the seat: ranges over functions: what a round keeps (all blocks of cells but the loop's own boxes and the rows that they hold), so that an iterator's own blocks survive the rounds. -/
namespace Go.Proofs.Ytkonhjdfcfljpaa
open Go.RowKit
set_option linter.unusedSimpArgs false
set_option linter.unusedVariables false

theorem Blk.boxed {w : World} {B : Nat} {t : TypeId} {v : Value} (h : Blk w B t #[v]) : Boxed w B t v := h
theorem keepsFrom_grown {W W' : World} {S : Fp} {B : Nat} (h : GrownS W W' S) (hS : ∀ k o, S k → W.heap[k]? = some o → o.isCells = true) : KeepsFrom B W W' :=
  ⟨h.size, fun k o _ hk ho => by
    have hlt := (Array.getElem?_eq_some_iff.1 hk).1
    refine (h.block k hlt (fun hs => ?_)).trans hk
    rw [hS k o hs hk] at ho; cases ho⟩
theorem below_grown {W W' : World} {S : Fp} {n : Nat} (h : GrownS W W' S) (hn : n ≤ W.heap.size) (hS : ∀ k, S k → n ≤ k) : Below n W W' :=
  ⟨h.os, h.tape, h.output, h.size, fun k hk => h.block k (by omega) (fun hs => by have := hS k hs; omega)⟩
theorem row_cells {w : World} {base : Nat} {E : TypeId} {sz : Nat} {A : Option Addr} {n c : Nat} {vs : List Value} (h : w.ownsRow base E sz (.slice A n c) n vs) : ∀ k o, blk A = some k → w.heap[k]? = some o → o.isCells = true := by
  intro k o hk ho
  obtain ⟨_, ⟨e1, _⟩ | ⟨g', cap, cur, e1, _, hg, _⟩⟩ := h
  · injection e1 with e1 _ _
    subst e1
    cases hk
  · injection e1 with e1 _ _
    subst e1
    have : g' = k := by simpa [blk] using hk
    subst this
    rw [hg] at ho
    injection ho with ho
    subst ho
    rfl
theorem blk_cells {w : World} {B : Nat} {t : TypeId} {cs : Array Value} (h : Blk w B t cs) : ∀ o, w.heap[B]? = some o → o.isCells = true := by
  intro o ho
  unfold Blk at h
  rw [h] at ho
  injection ho with ho
  subst ho
  rfl
theorem abides_below {β : Type} {B : Nat} {J : β → World → Prop} (h : AbidesFrom B J) {s : β} {W W' : World} (hs : J s W) (hb : Below W.heap.size W W') : J s W' :=
  h s W W' none hs ⟨hb.os, hb.tape, hb.output, hb.size, fun k hk _ => hb.block k hk⟩ (fun r e => by cases e)

/-- Block k is the row of the slice in box B. -/
def RowOf (W : World) (B k : Nat) : Prop := ∃ n c T, W.heap[B]? = some (.cells #[.slice (some ⟨k, 0, none⟩) n c] T (0, 0))
/-- A loop's own blocks: its boxes, and the rows that they hold. -/
def OwB (Bs : List Nat) (W : World) (k : Nat) : Prop := ∃ B ∈ Bs, k = B ∨ RowOf W B k
def GoodO (Bs : List Nat) (n₀ : Nat) (W : World) : Prop := (∀ B ∈ Bs, n₀ ≤ B ∧ B < W.heap.size) ∧ ∀ k, OwB Bs W k → n₀ ≤ k ∧ k < W.heap.size
/-- What a round keeps. -/
def KpO (Bs : List Nat) (n₀ : Nat) (W1 W' : World) : Prop :=
  Below n₀ W1 W' ∧ (GoodO Bs n₀ W1 → (∀ k o, W1.heap[k]? = some o → o.isCells = true → ¬ OwB Bs W1 k → W'.heap[k]? = some o) ∧ (∀ k, OwB Bs W' k → k < W1.heap.size → OwB Bs W1 k) ∧ GoodO Bs n₀ W')
theorem kpO_t {Bs : List Nat} {n₀ : Nat} {A B C : World} (h : KpO Bs n₀ A B) (k : KpO Bs n₀ B C) : KpO Bs n₀ A C := by
  refine ⟨h.1.trans k.1, fun hg => ?_⟩
  obtain ⟨h1, h2, h3⟩ := h.2 hg
  obtain ⟨k1, k2, k3⟩ := k.2 h3
  refine ⟨fun j o hj ho hn => ?_, fun j hj hlt => h2 j (k2 j hj (Nat.lt_of_lt_of_le hlt h.1.size)) hlt, k3⟩
  have hlt := (Array.getElem?_eq_some_iff.1 hj).1
  exact k1 j o (h1 j o hj ho hn) ho (fun hb => hn (h2 j hb hlt))
theorem rowOf_same {W W' : World} {B k : Nat} (h : W'.heap[B]? = W.heap[B]?) : RowOf W' B k ↔ RowOf W B k := by unfold RowOf; rw [h]
theorem owB_same {Bs : List Nat} {W W' : World} (h : ∀ B ∈ Bs, W'.heap[B]? = W.heap[B]?) (k : Nat) : OwB Bs W' k ↔ OwB Bs W k := by
  constructor
  · rintro ⟨B, hB, rfl | hr⟩
    · exact ⟨k, hB, .inl rfl⟩
    · exact ⟨B, hB, .inr ((rowOf_same (h B hB)).1 hr)⟩
  · rintro ⟨B, hB, rfl | hr⟩
    · exact ⟨k, hB, .inl rfl⟩
    · exact ⟨B, hB, .inr ((rowOf_same (h B hB)).2 hr)⟩
theorem GoodO.below {Bs : List Nat} {n₀ : Nat} {W W' : World} (h : GoodO Bs n₀ W) (hb : Below W.heap.size W W') : GoodO Bs n₀ W' := by
  have hs : ∀ B ∈ Bs, W'.heap[B]? = W.heap[B]? := fun B hB => hb.block B (h.1 B hB).2
  refine ⟨fun B hB => ⟨(h.1 B hB).1, Nat.lt_of_lt_of_le (h.1 B hB).2 hb.size⟩, fun k hk => ?_⟩
  have := h.2 k ((owB_same hs k).1 hk)
  exact ⟨this.1, Nat.lt_of_lt_of_le this.2 hb.size⟩
theorem kpO_b {Bs : List Nat} {n₀ : Nat} {w : World} (hn : n₀ ≤ w.heap.size) (hBs : ∀ B ∈ Bs, B < w.heap.size) (W : World) (l : Nat) (o o' : Obj) (hl : w.heap.size ≤ l) (h : W.heap[l]? = some o) (hc : o.isCells = false) (hw : o.isWalk = false) : KpO Bs n₀ W (W.putObj l o') := by
  have hs : ∀ B ∈ Bs, (W.putObj l o').heap[B]? = W.heap[B]? := fun B hB => World.putObj_heap_other (fun e => by have := hBs B hB; omega)
  have hsz : (W.putObj l o').heap.size = W.heap.size := by simp
  refine ⟨belowK_b (w := w) hn W l o o' hl h hc hw, fun hg => ⟨fun k u hk hu hno => ?_, fun k hk _ => (owB_same hs k).1 hk, ⟨fun B hB => by rw [hsz]; exact hg.1 B hB, fun k hk => by rw [hsz]; exact hg.2 k ((owB_same hs k).1 hk)⟩⟩⟩
  refine (World.putObj_heap_other (fun e => ?_)).trans hk
  subst e
  rw [h] at hk
  injection hk with hk
  subst hk
  rw [hc] at hu; cases hu
/-- What made memory alone keeps all. -/
theorem kpO_below {Bs : List Nat} {n₀ : Nat} {W W' : World} (hn : n₀ ≤ W.heap.size) (hb : Below W.heap.size W W') : KpO Bs n₀ W W' := by
  refine ⟨hb.mono hn, fun hg => ?_⟩
  have hs : ∀ B ∈ Bs, W'.heap[B]? = W.heap[B]? := fun B hB => hb.block B (hg.1 B hB).2
  exact ⟨fun k o hk _ _ => (hb.block k (Array.getElem?_eq_some_iff.1 hk).1).trans hk, fun k hk _ => (owB_same hs k).1 hk, hg.below hb⟩
/-- A block of cells of the iterator's own stays through a round. -/
theorem KpO.blk {Bs : List Nat} {n₀ : Nat} {W W' : World} {g : Nat} {t : TypeId} {cs : Array Value} (h : KpO Bs n₀ W W') (hg : GoodO Bs n₀ W) (hb : Blk W g t cs) (hn : ¬ OwB Bs W g) : Blk W' g t cs ∧ GoodO Bs n₀ W' ∧ ¬ OwB Bs W' g :=
  ⟨(h.2 hg).1 g _ hb rfl hn, (h.2 hg).2.2, fun ho => hn ((h.2 hg).2.1 g ho hb.lt)⟩
theorem owB_fresh {Bs : List Nat} {n₀ : Nat} {W W' : World} (hg : GoodO Bs n₀ W) (hb : Below W.heap.size W W') {g : Nat} (hge : W.heap.size ≤ g) : ¬ OwB Bs W' g := fun ho => by
  have hs : ∀ B ∈ Bs, W'.heap[B]? = W.heap[B]? := fun B hB => hb.block B (hg.1 B hB).2
  have := (hg.2 g ((owB_same hs g).1 ho)).2
  omega
/-- A store into the loop's own blocks. -/
theorem kpO_grown {Bs : List Nat} {n₀ : Nat} {W W' : World} {S : Fp} (h : GrownS W W' S) (hn : n₀ ≤ W.heap.size) (hS : ∀ k, S k → n₀ ≤ k ∧ (GoodO Bs n₀ W → OwB Bs W k)) (hrow : ∀ k, OwB Bs W' k → k < W.heap.size → OwB Bs W k) (hgood : GoodO Bs n₀ W → GoodO Bs n₀ W') : KpO Bs n₀ W W' :=
  ⟨below_grown h hn (fun k hk => (hS k hk).1), fun hg => ⟨fun k o hk _ hno => (h.block k (Array.getElem?_eq_some_iff.1 hk).1 (fun hs => hno ((hS k hs).2 hg))).trans hk, hrow, hgood hg⟩⟩
end Go.Proofs.Ytkonhjdfcfljpaa

/- HELPER, no statement of the seat: the minimal times of what an iterator yields (minimalOf). -/
namespace Go.Proofs.Ytkonhjdfcfljpaa
open Go.RowKit Go.Sort Go.Shelf
set_option linter.unusedSimpArgs false
set_option linter.unusedVariables false
attribute [local go_sem] Oper.semAt_some

abbrev encT (t : Tm) : Array Value := #[.agg #[.int .i64 t.1, .int .i64 t.2]]
theorem minT_snoc (l : List Tm) (t : Tm) : minT (l ++ [t]) = insT (minT l) t := by simp [minT]
set_option maxRecDepth 100000 in
set_option maxHeartbeats 4000000 in
theorem minimalOf_i (gf : Nat) (lb : Array Value) (ts : List Tm) (w : World) (eg : ∀ args w, (callFunc gf args).run Try.prog w = .ok (.enter gf args) w)
    (hseq : ∀ w0, Below w.heap.size w w0 → GoodO [w.heap.size] w.heap.size w0 → ∀ n, 1 ≤ n → SeqStopsK Fence.wide n Try.prog gf lb encT (KpO [w.heap.size] w.heap.size) (fun ys => ys = ts) (fun _ => True) ts.length w0) (hn : ts.length ≤ 4180000) :
    Calls Try.prog 94 #[.func (.func gf) #[] lb] w fun e w' => ∃ A c, e = .returned (.slice A (minT ts).length c) ∧ TmOwn w' w.heap.size A c (minT ts) ∧ Below w.heap.size w w' := by
  refine (callsIn_wide (n := 9)).1 ?_
  refine callsIn_of_wp_marks Try.func94 rfl trivial ?_ rfl
  simp only [Try.ntmps94, List.size_toArray, List.length_cons, List.length_nil, Nat.reduceAdd, Nat.reduceSub, Array.replicate_succ, Array.replicate_zero, List.push_toArray, List.append_toArray, List.nil_append, List.cons_append]
  gi_wp2
  have bM : Blk (w.alloc (.cells #[.slice none 0 0] 106)) w.heap.size 106 #[.slice none 0 0] := Blk.newAt rfl
  have hB0 : Below w.heap.size w (w.alloc (.cells #[.slice none 0 0] 106)) := bal (Below.refl _ _) _
  have hG0 : GoodO [w.heap.size] w.heap.size (w.alloc (.cells #[.slice none 0 0] 106)) := by
    refine ⟨fun B hB => by simp at hB; subst hB; simp, fun k hk => ?_⟩
    obtain ⟨B, hB, rfl | ⟨n, c, T, hr⟩⟩ := hk
    · simp at hB; subst hB; simp
    · simp only [List.mem_singleton] at hB
      subst hB
      unfold Blk at bM
      rw [bM] at hr
      cases hr
  refine wpIn_rangeFunc_ownH rfl (by omega) (gf := gf) (lb := lb) rfl trivial eg
    (hseq _ hB0 hG0 (9 - 1) (by omega)) kpO_t (kpO_b (by simp) (by simp)) (Below.refl _ _) (fun _ => rfl)
    (fun pre W => (∃ v, Boxed W w.heap.size 106 v ∧ W.ownsRow w.heap.size 52 2 v (minT pre).length (timeL (minT pre)) ∧ (∃ A c, v = .slice A (minT pre).length c)) ∧ Below w.heap.size w W)
    (fun _ _ _ => False)
    (OwnFrom.and (Own.from (holdsRow_own w.heap.size w.heap.size 106 52 2 (fun pre => (minT pre).length) (fun pre => timeL (minT pre)) (fun pre v => ∃ A c, v = .slice A (minT pre).length c)) _) (ownFrom_below (Nat.le_refl _) (by simp)))
    (fun _ _ _ _ _ hs _ _ => hs)
    ⟨⟨_, bM, World.ownsRow_nil _ _ _ _, none, 0, rfl⟩, hB0⟩
    (fun x a' W => ∃ Bx, w.heap.size < Bx ∧ Blk W Bx 52 #[.int .i64 x.1, .int .i64 x.2] ∧ a' = { tmps := #[.func (.func gf) #[] lb, undef, .slice none 0 0, .pointer (some ⟨w.heap.size, 0, none⟩), .pointer (some ⟨Bx, 0, none⟩), .func (.func gf) #[] lb, .agg #[.int .i64 x.1, .int .i64 x.2], undef, undef, undef], defers := [] })
    (fun x a' _ X Y row hs hg hr => by
      obtain ⟨Bx, h1, h2, h3⟩ := hs
      refine ⟨Bx, h1, (hg.block Bx h2.lt (fun e => ?_)).trans h2, h3⟩
      obtain ⟨_, o, ho, hc⟩ := hr Bx e.symm
      rw [blk_cells h2 o ho] at hc; cases hc)
    ?assign ?body ?done ?stop
  case assign =>
    rintro l pre x W K ⟨⟨v, bv, hr, hv⟩, hB⟩ hK
    gi_wp2
    exact hK _ _ ((KeepsOthers.alloc _ _).from _) (kpO_below hB.size (bal (Below.refl _ _) _)) ⟨⟨v, bv.alloc _, hr.alloc _, hv⟩, hB.alloc hB.size _⟩ ⟨W.heap.size, bv.lt, Blk.newAt rfl, rfl⟩
  case body =>
    rintro l pre x a' W hl - ⟨⟨v, bv, hr, A, c, rfl⟩, hB⟩ ⟨Bx, hBx, kX, rfl⟩ hlt
    have cX0 := kX.cell 0
    have cX1 := kX.cell 1
    simp at cX0 cX1
    have hml := minT_len pre
    have hMB : Blk W w.heap.size 106 #[.slice A (minT pre).length c] := bv
    have hTM : TmOwn W w.heap.size A c (minT pre) := hr
    have hcon := insert_i w.heap.size w.heap.size A c (minT pre) x.1 x.2 W hMB hTM (by omega) hB.size
    have hcell := row_cells hTM
    have hcb := blk_cells hMB
    have hAlt := hTM.lt
    have HN := Lib.hid (minT_snoc pre x)
    have HRW : Hid (∀ k, blk A = some k → RowOf W w.heap.size k) := fun k hk => by
      rcases ownsRow_form hTM with ⟨rfl, _, _⟩ | ⟨g, rfl, _, _, _, _⟩
      · cases hk
      · have : g = k := by simpa [blk] using hk
        subst this
        exact ⟨_, _, _, hMB⟩
    have HCC := Lib.hid hcell
    have HCB := Lib.hid hcb
    have HAL := Lib.hid hAlt
    clear hMB hTM hr bv hcell hcb hAlt
    gi_wp2_with (refine ⟨trivial, ?_⟩; gi_at_call 133; refine (CallsIn.inRound l (callsIn_wide.2 hcon)).mono ?_; rintro e w2 ⟨rfl, A', c', hb2, ho2, hg2, hn2⟩)
    have hb := below_grown hg2 hB.size (fun k hk => by
      rcases hk with rfl | hk
      · exact Nat.le_refl _
      · exact (HAL.out k hk).1)
    have hlt2 := ho2.lt
    have hrow2 : ∀ k, OwB [w.heap.size] w2 k → k = w.heap.size ∨ blk A' = some k := by
      rintro k ⟨B, hB, rfl | ⟨n, c2, T, hr⟩⟩
      · simp at hB; exact .inl hB
      · simp only [List.mem_singleton] at hB
        subst hB
        have hb3 := hb2
        unfold Blk at hb3
        rw [hb3] at hr
        injection hr with hr
        injection hr with hr _ _
        have hr2 := congrArg (fun a : Array Value => a[0]?) hr
        simp at hr2
        exact .inr (by rw [hr2.1]; rfl)
    have hkp : KpO [w.heap.size] w.heap.size W w2 := by
      refine kpO_grown hg2 hB.size (fun k hk => ?_) (fun k hk hlt => ?_) (fun hg => ⟨fun B hB => ⟨(hg.1 B hB).1, Nat.lt_of_lt_of_le (hg.1 B hB).2 hg2.size⟩, fun k hk => ?_⟩)
      · rcases hk with rfl | hk
        · exact ⟨Nat.le_refl _, fun _ => ⟨_, List.mem_singleton.2 rfl, .inl rfl⟩⟩
        · exact ⟨(HAL.out k hk).1, fun _ => ⟨_, List.mem_singleton.2 rfl, .inr (HRW.out k hk)⟩⟩
      · rcases hrow2 k hk with rfl | hk
        · exact ⟨_, List.mem_singleton.2 rfl, .inl rfl⟩
        · rcases hn2 k hk with h | h
          · exact ⟨_, List.mem_singleton.2 rfl, .inr (HRW.out k h)⟩
          · omega
      · rcases hrow2 k hk with rfl | hk
        · exact ⟨Nat.le_refl _, hb2.lt⟩
        · exact hlt2 k hk
    refine ⟨keepsFrom_grown hg2 (fun k o hk ho => ?_), hkp, ⟨.slice A' (insT (minT pre) x).length c', hb2, ?_, A', c', ?_⟩, hB.trans hb⟩
    · rcases hk with rfl | hk
      · exact HCB.out o ho
      · exact HCC.out k o hk ho
    · simp only [HN.out]; exact ho2
    · simp only [HN.out]
  case done =>
    rintro D ys W hD rfl ⟨⟨v, bv, hr, A, c, rfl⟩, hB⟩ hK
    have cM := bv.cell
    gi_wp2
    refine ⟨by simp, .inl ⟨_, _, rfl, run_takeDeferred hK, ?_⟩⟩
    exact ⟨_, results_tmp rfl _ _ _, A, c, rfl, ownsRow_putObj hr _ hK rfl, hB.trans (belowK_b (w := w) (Nat.le_refl _) W D _ _ (by simp at hD; omega) hK rfl rfl)⟩
  case stop =>
    rintro D c pre W _ _ h _
    exact h.elim
end Go.Proofs.Ytkonhjdfcfljpaa

/- HELPER, no statement of the seat: the iterators of times: slices.Values; the joins of two antichains. -/
namespace Go.Proofs.Ytkonhjdfcfljpaa
open Go.RowKit Go.Sort Go.Shelf
set_option linter.unusedSimpArgs false
set_option linter.unusedVariables false
attribute [local go_sem] Oper.semAt_some

theorem Values_i (A : Option Addr) (n c : Nat) (w : World) :
    Calls Try.prog 95 #[.slice A n c] w fun e w' => e = .returned (.func (.func 134) #[] #[.pointer (some ⟨w.heap.size, 0, none⟩)]) ∧ Blk w' w.heap.size 30 #[.slice A n c] ∧ Below w.heap.size w w' := by
  go_enter Try.func95, Try.ntmps95
  go_wp2
  go_ret
  exact ⟨rfl, Blk.newAt rfl, bal (Below.refl _ _) _⟩
set_option maxRecDepth 100000 in
set_option maxHeartbeats 2000000 in
theorem values_stops (Bs : Nat) (A : Option Addr) (c : Nat) (xs : List Tm) (w : World) (hBs : Blk w Bs 30 #[.slice A xs.length c]) (hx : TimesAt w A xs) (hn : xs.length ≤ 4194304)  (Bl : List Nat) :
    ∀ w0, Below w.heap.size w w0 → GoodO Bl w.heap.size w0 → ∀ n, 1 ≤ n → SeqStopsK Fence.wide n Try.prog 134 #[.pointer (some ⟨Bs, 0, none⟩)] encT (KpO Bl w.heap.size) (fun ys => ys = xs) (fun _ => True) xs.length w0 := by
  intro w0 hw0 hgd n h1 l J Jx W hW' hJ hJx hY h0
  have hW : Below w.heap.size w W := btr hw0 hW'
  clear hgd hW' hw0
  have hb0 := (hBs.below hW).cell 0
  simp at hb0
  refine callsIn_of_wp Try.func134 rfl trivial ?_ rfl
  simp only [Try.ntmps134, List.size_toArray, List.length_cons, List.length_nil, Nat.reduceAdd, Nat.reduceSub, Array.replicate_succ, Array.replicate_zero, List.push_toArray, List.append_toArray, List.nil_append, List.cons_append]
  gi_wp2
  gi_loopw [7] (fun i wr => ∃ k : Nat, k ≤ xs.length ∧ i = .int .i64 k ∧ J (xs.take k) wr ∧ Below w.heap.size w wr) (fun i _ => xs.length - (intOf i).toNat)
  case atStart => exact ⟨0, Nat.zero_le _, rfl, by simpa using h0, hW⟩
  case round =>
    obtain ⟨k, hk, rfl, hJs, hbel⟩ := hrel
    by_cases hlt : k < xs.length
    · obtain ⟨b, off, rfl, hbl, hc⟩ := hx (by omega)
      have q1 := (hbel.cell (p := ⟨b, off + k * 2, none⟩) hbl).trans (hc k hlt).1
      have q2 := (hbel.cell (p := ⟨b, off + k * 2 + 1, none⟩) hbl).trans (hc k hlt).2
      rw [getD_lt _ hlt] at q1 q2
      clear hc
      obtain ⟨fn, tmps, assign, body, hy, hR⟩ := hY (xs.take k) xs[k] (wr.alloc (.cells #[.int .i64 xs[k].1, .int .i64 xs[k].2] 52)) (abides_below hJ hJs (bal (Below.refl _ _) _)) (by rw [List.length_take]; omega)
      have HT : Hid (xs.take (k + 1) = xs.take k ++ [xs[k]]) := List.take_succ_eq_append_getElem hlt
      have hba : Below w.heap.size w (wr.alloc (.cells #[.int .i64 xs[k].1, .int .i64 xs[k].2] 52)) := bal hbel _
      gi_wp2
      refine hR.mono ?_
      rintro e W3 (⟨rfl, hJ3, hk3⟩ | ⟨rfl, hJx3⟩)
      · gi_wp2
        go_roundw
        case rel => exact ⟨k + 1, by omega, by simp, by rw [HT.out]; exact hJ3, hba.trans hk3.1⟩
        case measure => simp [intOf]; omega
      · gi_wp2
        refine bodyPost_ret (results_none rfl _ _ _) rfl ?_
        exact ⟨⟨_, rfl⟩, .inr ⟨_, trivial, hJx3⟩⟩
    · obtain rfl : k = xs.length := by omega
      rw [List.take_length] at hJs
      gi_wp2
      go_end0
      exact ⟨⟨_, rfl⟩, .inl ⟨_, rfl, hJs⟩⟩

/-- The joins of the pairs, in their order. -/
def joinT (a b : Tm) : Tm := (max a.1 b.1, max a.2 b.2)
def joinsT (f g : List Tm) : List Tm := f.flatMap fun a => g.map (joinT a)
theorem joinsT_len (f g : List Tm) : (joinsT f g).length = f.length * g.length := by
  induction f with
  | nil => simp [joinsT]
  | cons a f ih =>
    have : joinsT (a :: f) g = g.map (joinT a) ++ joinsT f g := by simp [joinsT]
    rw [this, List.length_append, ih, List.length_map, List.length_cons, Nat.add_mul, Nat.one_mul, Nat.add_comm]
def joinsTo (f g : List Tm) (i k : Nat) : List Tm := joinsT (f.take i) g ++ ((g.take k).map (joinT (tg f i)))
theorem joinsTo_step (f g : List Tm) (i k : Nat) (hk : k < g.length) : joinsTo f g i (k + 1) = joinsTo f g i k ++ [joinT (tg f i) g[k]] := by
  unfold joinsTo
  rw [List.take_succ_eq_append_getElem hk, List.map_append, List.append_assoc]
  rfl
theorem joinsTo_next (f g : List Tm) (i : Nat) (hi : i < f.length) : joinsTo f g i g.length = joinsTo f g (i + 1) 0 := by
  unfold joinsTo
  rw [List.take_succ_eq_append_getElem hi, List.take_length, tg_lt hi]
  simp only [joinsT, List.flatMap_append, List.take_zero, List.map_nil, List.append_nil, List.flatMap_cons, List.flatMap_nil]
theorem joinsTo_end (f g : List Tm) : joinsTo f g f.length 0 = joinsT f g := by simp [joinsTo]
theorem joinsTo_len (f g : List Tm) (i k : Nat) (hi : i < f.length) (hk : k < g.length) : (joinsTo f g i k).length < (joinsT f g).length := by
  unfold joinsTo
  rw [List.length_append, joinsT_len, joinsT_len, List.length_map, List.length_take, List.length_take, Nat.min_eq_left (by omega), Nat.min_eq_left (by omega)]
  have h1 : (i + 1) * g.length ≤ f.length * g.length := Nat.mul_le_mul_right _ (by omega)
  rw [Nat.add_mul, Nat.one_mul] at h1
  omega
theorem joins_i (A B : Option Addr) (n c m d : Nat) (w : World) :
    Calls Try.prog 98 #[.slice A n c, .slice B m d] w fun e w' => e = .returned (.func (.func 137) #[] #[.pointer (some ⟨w.heap.size, 0, none⟩), .pointer (some ⟨w.heap.size + 1, 0, none⟩)]) ∧ Blk w' w.heap.size 106 #[.slice A n c] ∧ Blk w' (w.heap.size + 1) 106 #[.slice B m d] ∧ Below w.heap.size w w' := by
  go_enter Try.func98, Try.ntmps98
  go_wp2
  go_ret
  exact ⟨rfl, (Blk.newAt rfl).alloc _, Blk.newAt (by simp), bal (bal (Below.refl _ _) _) _⟩
set_option maxRecDepth 100000 in
set_option maxHeartbeats 6400000 in
theorem joins_stops (Bf Bg : Nat) (A B : Option Addr) (c d : Nat) (f g : List Tm) (w : World) (hBf : Blk w Bf 106 #[.slice A f.length c]) (hBg : Blk w Bg 106 #[.slice B g.length d]) (hf : TimesAt w A f) (hg : TimesAt w B g) (hn : f.length ≤ 4194304) (hm : g.length ≤ 4194304) (Bl : List Nat) :
    ∀ w0, Below w.heap.size w w0 → GoodO Bl w.heap.size w0 → ∀ n, 1 ≤ n → SeqStopsK Fence.wide n Try.prog 137 #[.pointer (some ⟨Bf, 0, none⟩), .pointer (some ⟨Bg, 0, none⟩)] encT (KpO Bl w.heap.size) (fun ys => ys = joinsT f g) (fun _ => True) (joinsT f g).length w0 := by
  intro w0 hw0 hgd n h1 l J Jx W hW' hJ hJx hY h0
  have hW : Below w.heap.size w W := btr hw0 hW'
  have hGW : GoodO Bl w.heap.size W := hgd.below hW'
  clear hgd hW' hw0
  have hb0 := (hBf.below hW).cell 0
  simp at hb0
  refine callsIn_of_wp Try.func137 rfl trivial ?_ rfl
  simp only [Try.ntmps137, List.size_toArray, List.length_cons, List.length_nil, Nat.reduceAdd, Nat.reduceSub, Array.replicate_succ, Array.replicate_zero, List.push_toArray, List.append_toArray, List.nil_append, List.cons_append]
  gi_wp2
  gi_loopw [10] (fun i wr => ∃ k : Nat, k ≤ f.length ∧ i = .int .i64 k ∧ J (joinsTo f g k 0) wr ∧ Below w.heap.size w wr ∧ GoodO Bl w.heap.size wr) (fun i _ => f.length - (intOf i).toNat)
  case atStart => exact ⟨0, Nat.zero_le _, rfl, by simpa [joinsTo, joinsT] using h0, hW, hGW⟩
  case round =>
    obtain ⟨k, hk, rfl, hJs, hbel, hgood⟩ := hrel
    by_cases hlt : k < f.length
    · obtain ⟨b, off, rfl, hbl, hc⟩ := hf (by omega)
      have q1 := (hbel.cell (p := ⟨b, off + k * 2, none⟩) hbl).trans (hc k hlt).1
      have q2 := (hbel.cell (p := ⟨b, off + k * 2 + 1, none⟩) hbl).trans (hc k hlt).2
      change _ = some (Value.int .i64 (tg f k).1) at q1
      change _ = some (Value.int .i64 (tg f k).2) at q2
      have hkF : Blk (wr.alloc (.cells #[.int .i64 (tg f k).1, .int .i64 (tg f k).2] 52)) wr.heap.size 52 #[.int .i64 (tg f k).1, .int .i64 (tg f k).2] := Blk.newAt rfl
      have hba0 : Below wr.heap.size wr (wr.alloc (.cells #[.int .i64 (tg f k).1, .int .i64 (tg f k).2] 52)) := bal (Below.refl _ _) _
      have hJ1 := abides_below hJ hJs hba0
      have hba := btr hbel hba0
      have hg1 := hgood.below hba0
      have hno := owB_fresh hgood hba0 (Nat.le_refl wr.heap.size)
      have hg0 := (hBg.below hba).cell 0
      simp at hg0
      obtain ⟨FB, hFB⟩ : ∃ FB, FB = wr.heap.size := ⟨_, rfl⟩
      have HN := Lib.hid (joinsTo_next f g k hlt)
      clear hc
      gi_wp2
      rw [← hFB] at hkF hno ⊢
      clear hFB hJs hbel hgood hba0 q1 q2 hg0
      obtain ⟨Wo, hWo⟩ : ∃ Wo, Wo = wr.alloc (.cells #[.int .i64 (tg f k).1, .int .i64 (tg f k).2] 52) := ⟨_, rfl⟩
      rw [← hWo] at hkF hno hJ1 hba hg1 ⊢
      clear hWo
      obtain ⟨V, rfl⟩ : ∃ V : World, V = wr := ⟨_, rfl⟩
      gi_loopw [16] (fun i wr => ∃ j : Nat, j ≤ g.length ∧ i = .int .i64 j ∧ J (joinsTo f g k j) wr ∧ Below w.heap.size w wr ∧ GoodO Bl w.heap.size wr ∧ Blk wr FB 52 #[.int .i64 (tg f k).1, .int .i64 (tg f k).2] ∧ ¬ OwB Bl wr FB) (fun i _ => g.length - (intOf i).toNat)
      case atStart => exact ⟨0, Nat.zero_le _, rfl, hJ1, hba, hg1, hkF, hno⟩
      case round =>
        obtain ⟨j, hj, rfl, hJs, hbel, hgood, hkF, hno⟩ := hrel
        by_cases hlj : j < g.length
        · obtain ⟨b2, off2, rfl, hbl2, hc⟩ := hg (by omega)
          have q1 := (hbel.cell (p := ⟨b2, off2 + j * 2, none⟩) hbl2).trans (hc j hlj).1
          have q2 := (hbel.cell (p := ⟨b2, off2 + j * 2 + 1, none⟩) hbl2).trans (hc j hlj).2
          rw [getD_lt _ hlj] at q1 q2
          have hba0 : Below wr.heap.size wr (wr.alloc (.cells #[.int .i64 g[j].1, .int .i64 g[j].2] 52)) := bal (Below.refl _ _) _
          have f0 := (hkF.below hba0).cell 0
          have f1 := (hkF.below hba0).cell 1
          simp at f0 f1
          have hlen := joinsTo_len f g k j hlt hlj
          have HS := Lib.hid (joinsTo_step f g k j hlj)
          clear hc
          gi_wp2_with (refine ⟨trivial, ?_⟩; gi_at_call 138; refine (callsIn_wide.2 (timeJoin_i _ _ _ _ _)).mono ?_; rintro e w2 ⟨rfl, hb2⟩; obtain ⟨fn, tmps, assign, body, hy, hR⟩ := hY (joinsTo f g k j) (joinT (tg f k) g[j]) w2 (abides_below hJ hJs (btr hba0 hb2)) hlen; simp only [encT, joinT] at hy)
          refine hR.mono ?_
          have hbb := btr hba0 hb2
          rintro e W3 (⟨rfl, hJ3, hk3⟩ | ⟨rfl, hJx3⟩)
          · have hx3 := hk3.blk (hgood.below hbb) (hkF.below hbb) (fun ho => hno ((owB_same (fun B hB => hbb.block B (hgood.1 B hB).2) FB).1 ho))
            have HX3 := Lib.hid hx3
            clear hx3 hR hy
            gi_wp2
            go_roundw
            case rel => exact ⟨j + 1, by omega, by simp, by rw [HS.out]; exact hJ3, (btr hbel hbb).trans hk3.1, HX3.out.2.1, HX3.out.1, HX3.out.2.2⟩
            case measure => simp [intOf]; omega
          · gi_wp2
            refine bodyPost_ret (results_none rfl _ _ _) rfl ?_
            exact ⟨⟨_, rfl⟩, .inr ⟨_, trivial, hJx3⟩⟩
        · obtain rfl : j = g.length := by omega
          rw [HN.out] at hJs
          gi_wp2
          go_roundw
          case rel => exact ⟨k + 1, by omega, by simp, hJs, hbel, hgood⟩
          case measure => simp [intOf]; omega
    · obtain rfl : k = f.length := by omega
      rw [joinsTo_end] at hJs
      gi_wp2
      go_end0
      exact ⟨⟨_, rfl⟩, .inl ⟨_, rfl, hJs⟩⟩
end Go.Proofs.Ytkonhjdfcfljpaa
