/- HELPER, no statement of the seat: the order of times and of updates, and how the world has grown behind it. -/
import Derived.Test.YthefakiobpijiaaUpg
import Derived.Test.YthefakiobpijiaaRegD
namespace Go.Proofs.Ythefakiobpijiaa
open Go.RowKit Go.Sort
set_option linter.unusedSimpArgs false
set_option linter.unusedVariables false

theorem cmpInt_d (a b : Int) (w : World) : Calls Try.prog 222 #[.int .i64 a, .int .i64 b] w fun e w' => e = .returned (.int .i64 (cmpI a b)) ∧ Drn.BelD w w' :=
  (cmpInt_any a b w).mono fun e w' ⟨he, hw⟩ => ⟨he, hw ▸ Drn.BelD.refl _⟩
theorem vCompare_d (A B : Option Addr) (c d : Nat) (xs ys : List Int) (w : World) (hx : IntsAt w A xs) (hy : IntsAt w B ys) (hn : xs.length * 8 ≤ 140737488351232) (hm : ys.length * 8 ≤ 140737488351232) :
    Calls Try.prog 201 #[.slice A xs.length c, .slice B ys.length d] w fun e w' => e = .returned (.int .i64 (cmpL xs ys)) ∧ Drn.BelD w w' :=
  (valuesCompare_same A B c d xs ys w hx hy hn hm).mono fun e w' ⟨he, hw⟩ => ⟨he, hw ▸ Drn.BelD.refl _⟩
set_option maxHeartbeats 1600000 in
theorem timeCompare_d (x y u v : Int) (w : World) : Calls Try.prog 240 #[.agg #[.int .i64 x, .int .i64 y], .agg #[.int .i64 u, .int .i64 v]] w fun e w' => e = .returned (.int .i64 (cmpT x y u v)) ∧ Drn.BelD w w' := by
  go_enter Try.func240, Try.ntmps240
  go_wp2_with fail
  refine abs_world (fun wB => Drn.BelD w wB ∧ Blk wB w.heap.size 117 #[.int .i64 x, .int .i64 y] ∧ Blk wB (w.heap.size + 1) 117 #[.int .i64 u, .int .i64 v])
    ⟨((Drn.BelD.refl _).alloc _).alloc _, (Blk.newAt rfl).alloc _, Blk.newAt (by simp)⟩ (fun wB hx' => ?_)
  obtain ⟨hB, h0, h1⟩ := hx'
  refine Drn.wp_region_facts [[], [0], [], [2], [0, 1, 2, 3], [], [5], [], [7], [5, 6, 7, 8], [0, 1, 2, 3, 4, 5, 6, 7, 8, 9]]
    [fun v' _ => v' = .pointer (some ⟨w.heap.size, 0, none⟩), fun v' _ => v' = .int .i64 x, fun v' _ => v' = .pointer (some ⟨w.heap.size + 1, 0, none⟩), fun v' _ => v' = .int .i64 u, fun v' _ => v' = .int .i64 (cmpI x u), fun v' _ => v' = .pointer (some ⟨w.heap.size, 1, none⟩), fun v' _ => v' = .int .i64 y, fun v' _ => v' = .pointer (some ⟨w.heap.size + 1, 1, none⟩), fun v' _ => v' = .int .i64 v, fun v' _ => v' = .int .i64 (cmpI y v), PairV wB.heap.size (cmpI x u) (cmpI y v)]
    (by kernel_rfl) (by kernel_rfl) rfl ⟨stable_pure _, stable_pure _, stable_pure _, stable_pure _, stable_pure _, stable_pure _, stable_pure _, stable_pure _, stable_pure _, stable_pure _, stable_pairV _ _ _, trivial⟩ ?_
  refine Drn.wf_step (fun wf hb hf => ?_) (fun t0 => ?_)
  · go_wp2
    exact ⟨rfl, .pointer (some ⟨w.heap.size, 0, none⟩), by simp [Act.put], Drn.BelD.refl _, rfl⟩
  refine Drn.wf_step (fun wf hb hf => ?_) (fun t1 => ?_)
  · obtain ⟨rfl, -⟩ := hf
    have c0 := (h0.below hb.1).cell 0
    simp at c0
    go_wp2
    exact ⟨rfl, .int .i64 x, by simp [Act.put], Drn.BelD.refl _, rfl⟩
  refine Drn.wf_step (fun wf hb hf => ?_) (fun t2 => ?_)
  · go_wp2
    exact ⟨rfl, .pointer (some ⟨w.heap.size + 1, 0, none⟩), by simp [Act.put], Drn.BelD.refl _, rfl⟩
  refine Drn.wf_step (fun wf hb hf => ?_) (fun t3 => ?_)
  · obtain ⟨rfl, -⟩ := hf
    have c0 := (h1.below hb.1).cell 0
    simp at c0
    go_wp2
    exact ⟨rfl, .int .i64 u, by simp [Act.put], Drn.BelD.refl _, rfl⟩
  refine Drn.wf_step (fun wf hb hf => ?_) (fun t4 => ?_)
  · obtain ⟨rfl, rfl, rfl, rfl, -⟩ := hf
    go_wp2_with (go_at_call 222; refine (cmpInt_d _ _ _).mono ?_; rintro e w2 ⟨rfl, hb2⟩)
    exact ⟨rfl, .int .i64 (cmpI x u), by simp [Act.put], hb2, rfl⟩
  refine Drn.wf_step (fun wf hb hf => ?_) (fun t5 => ?_)
  · go_wp2
    exact ⟨rfl, .pointer (some ⟨w.heap.size, 1, none⟩), by simp [Act.put], Drn.BelD.refl _, rfl⟩
  refine Drn.wf_step (fun wf hb hf => ?_) (fun t6 => ?_)
  · obtain ⟨rfl, -⟩ := hf
    have c0 := (h0.below hb.1).cell 1
    simp at c0
    go_wp2
    exact ⟨rfl, .int .i64 y, by simp [Act.put], Drn.BelD.refl _, rfl⟩
  refine Drn.wf_step (fun wf hb hf => ?_) (fun t7 => ?_)
  · go_wp2
    exact ⟨rfl, .pointer (some ⟨w.heap.size + 1, 1, none⟩), by simp [Act.put], Drn.BelD.refl _, rfl⟩
  refine Drn.wf_step (fun wf hb hf => ?_) (fun t8 => ?_)
  · obtain ⟨rfl, -⟩ := hf
    have c0 := (h1.below hb.1).cell 1
    simp at c0
    go_wp2
    exact ⟨rfl, .int .i64 v, by simp [Act.put], Drn.BelD.refl _, rfl⟩
  refine Drn.wf_step (fun wf hb hf => ?_) (fun t9 => ?_)
  · obtain ⟨rfl, rfl, rfl, rfl, -⟩ := hf
    go_wp2_with (go_at_call 222; refine (cmpInt_d _ _ _).mono ?_; rintro e w2 ⟨rfl, hb2⟩)
    exact ⟨rfl, .int .i64 (cmpI y v), by simp [Act.put], hb2, rfl⟩
  refine Drn.wf_step (fun wf hb hf => ?_) (fun t10 => ?_)
  · obtain ⟨rfl, rfl, rfl, rfl, rfl, rfl, rfl, rfl, rfl, rfl, -⟩ := hf
    go_wp2
    exact ⟨rfl, .slice (some ⟨wf.heap.size, 0, none⟩) 2 2, by simp [Act.put], (Drn.BelD.refl _).alloc _, _, rfl, hb.1.size, Blk.newAt rfl⟩
  refine Drn.wf_done (fun wC hb hf => ?_)
  obtain ⟨rfl, rfl, rfl, rfl, rfl, rfl, rfl, rfl, rfl, rfl, ⟨g, rfl, hg, kg⟩, -⟩ := hf
  show wpList _ _ _ [_, _] _ _
  refine wpList_frame (by simp [Act.put]; rfl) ?_
  have HB := Lib.hid (hB.tr hb)
  clear h0 h1 hB hb
  go_wp2_with (go_at_call 242; refine (cmpOr_any _ _ _ _ kg).mono ?_; rintro e w2 ⟨rfl, rfl⟩)
  go_ret
  exact ⟨rfl, HB.out⟩
set_option maxHeartbeats 1600000 in
theorem updCompare_d (A B : Option Addr) (c d : Nat) (xs ys : List Int) (p q x r s y : Int) (w : World) (hx : IntsAt w A xs) (hy : IntsAt w B ys) (hn : xs.length ≤ 4194304) (hm : ys.length ≤ 4194304) :
    Calls Try.prog 243 #[.agg #[.slice A xs.length c, .int .i64 p, .int .i64 q, .int .i64 x], .agg #[.slice B ys.length d, .int .i64 r, .int .i64 s, .int .i64 y]] w fun e w' => e = .returned (.int .i64 (orV (cmpL xs ys) (cmpT p q r s))) ∧ Drn.BelD w w' := by
  go_enter Try.func243, Try.ntmps243
  go_wp2_with fail
  refine abs_world (fun wB => Drn.BelD w wB ∧ Blk wB w.heap.size 119 #[.slice A xs.length c, .int .i64 p, .int .i64 q, .int .i64 x] ∧ Blk wB (w.heap.size + 1) 119 #[.slice B ys.length d, .int .i64 r, .int .i64 s, .int .i64 y])
    ⟨((Drn.BelD.refl _).alloc _).alloc _, (Blk.newAt rfl).alloc _, Blk.newAt (by simp)⟩ (fun wB hx' => ?_)
  obtain ⟨hB, h0, h1⟩ := hx'
  refine Drn.wp_region_facts [[], [0], [], [2], [0, 1, 2, 3], [], [5], [], [7], [5, 6, 7, 8], [0, 1, 2, 3, 4, 5, 6, 7, 8, 9]]
    [fun v' _ => v' = .pointer (some ⟨w.heap.size, 0, none⟩), fun v' _ => v' = .slice A xs.length c, fun v' _ => v' = .pointer (some ⟨w.heap.size + 1, 0, none⟩), fun v' _ => v' = .slice B ys.length d, fun v' _ => v' = .int .i64 (cmpL xs ys), fun v' _ => v' = .pointer (some ⟨w.heap.size, 1, none⟩), fun v' _ => v' = .agg #[.int .i64 p, .int .i64 q], fun v' _ => v' = .pointer (some ⟨w.heap.size + 1, 1, none⟩), fun v' _ => v' = .agg #[.int .i64 r, .int .i64 s], fun v' _ => v' = .int .i64 (cmpT p q r s), PairV wB.heap.size (cmpL xs ys) (cmpT p q r s)]
    (by kernel_rfl) (by kernel_rfl) rfl ⟨stable_pure _, stable_pure _, stable_pure _, stable_pure _, stable_pure _, stable_pure _, stable_pure _, stable_pure _, stable_pure _, stable_pure _, stable_pairV _ _ _, trivial⟩ ?_
  refine Drn.wf_step (fun wf hb hf => ?_) (fun t0 => ?_)
  · go_wp2
    exact ⟨rfl, .pointer (some ⟨w.heap.size, 0, none⟩), by simp [Act.put], Drn.BelD.refl _, rfl⟩
  refine Drn.wf_step (fun wf hb hf => ?_) (fun t1 => ?_)
  · obtain ⟨rfl, -⟩ := hf
    have c0 := (h0.below hb.1).cell 0
    simp at c0
    go_wp2
    exact ⟨rfl, .slice A xs.length c, by simp [Act.put], Drn.BelD.refl _, rfl⟩
  refine Drn.wf_step (fun wf hb hf => ?_) (fun t2 => ?_)
  · go_wp2
    exact ⟨rfl, .pointer (some ⟨w.heap.size + 1, 0, none⟩), by simp [Act.put], Drn.BelD.refl _, rfl⟩
  refine Drn.wf_step (fun wf hb hf => ?_) (fun t3 => ?_)
  · obtain ⟨rfl, -⟩ := hf
    have c0 := (h1.below hb.1).cell 0
    simp at c0
    go_wp2
    exact ⟨rfl, .slice B ys.length d, by simp [Act.put], Drn.BelD.refl _, rfl⟩
  refine Drn.wf_step (fun wf hb hf => ?_) (fun t4 => ?_)
  · obtain ⟨rfl, rfl, rfl, rfl, -⟩ := hf
    go_wp2_with (go_at_call 201; refine (vCompare_d _ _ _ _ _ _ _ ((hx.below hB.1).below hb.1) ((hy.below hB.1).below hb.1) (by omega) (by omega)).mono ?_; rintro e w2 ⟨rfl, hb2⟩)
    exact ⟨rfl, .int .i64 (cmpL xs ys), by simp [Act.put], hb2, rfl⟩
  refine Drn.wf_step (fun wf hb hf => ?_) (fun t5 => ?_)
  · go_wp2
    exact ⟨rfl, .pointer (some ⟨w.heap.size, 1, none⟩), by simp [Act.put], Drn.BelD.refl _, rfl⟩
  refine Drn.wf_step (fun wf hb hf => ?_) (fun t6 => ?_)
  · obtain ⟨rfl, -⟩ := hf
    have c0 := (h0.below hb.1).cell 1
    have c1 := (h0.below hb.1).cell 2
    simp at c0 c1
    go_wp2
    exact ⟨rfl, .agg #[.int .i64 p, .int .i64 q], by simp [Act.put], Drn.BelD.refl _, rfl⟩
  refine Drn.wf_step (fun wf hb hf => ?_) (fun t7 => ?_)
  · go_wp2
    exact ⟨rfl, .pointer (some ⟨w.heap.size + 1, 1, none⟩), by simp [Act.put], Drn.BelD.refl _, rfl⟩
  refine Drn.wf_step (fun wf hb hf => ?_) (fun t8 => ?_)
  · obtain ⟨rfl, -⟩ := hf
    have c0 := (h1.below hb.1).cell 1
    have c1 := (h1.below hb.1).cell 2
    simp at c0 c1
    go_wp2
    exact ⟨rfl, .agg #[.int .i64 r, .int .i64 s], by simp [Act.put], Drn.BelD.refl _, rfl⟩
  refine Drn.wf_step (fun wf hb hf => ?_) (fun t9 => ?_)
  · obtain ⟨rfl, rfl, rfl, rfl, -⟩ := hf
    go_wp2_with (go_at_call 240; refine (timeCompare_d _ _ _ _ _).mono ?_; rintro e w2 ⟨rfl, hb2⟩)
    exact ⟨rfl, .int .i64 (cmpT p q r s), by simp [Act.put], hb2, rfl⟩
  refine Drn.wf_step (fun wf hb hf => ?_) (fun t10 => ?_)
  · obtain ⟨rfl, rfl, rfl, rfl, rfl, rfl, rfl, rfl, rfl, rfl, -⟩ := hf
    go_wp2
    exact ⟨rfl, .slice (some ⟨wf.heap.size, 0, none⟩) 2 2, by simp [Act.put], (Drn.BelD.refl _).alloc _, _, rfl, hb.1.size, Blk.newAt rfl⟩
  refine Drn.wf_done (fun wC hb hf => ?_)
  obtain ⟨rfl, rfl, rfl, rfl, rfl, rfl, rfl, rfl, rfl, rfl, ⟨g, rfl, hg, kg⟩, -⟩ := hf
  show wpList _ _ _ [_, _] _ _
  refine wpList_frame (by simp [Act.put]; rfl) ?_
  have HB := Lib.hid (hB.tr hb)
  clear h0 h1 hB hb
  go_wp2_with (go_at_call 242; refine (cmpOr_any _ _ _ _ kg).mono ?_; rintro e w2 ⟨rfl, rfl⟩)
  go_ret
  exact ⟨rfl, HB.out⟩
theorem updCompare_grw (A B : Option Addr) (c d : Nat) (xs ys : List Int) (p q x r s y : Int) (w : World) (hx : IntsAt w A xs) (hy : IntsAt w B ys) (hn : xs.length ≤ 4194304) (hm : ys.length ≤ 4194304) :
    Calls Try.prog 243 #[.agg #[.slice A xs.length c, .int .i64 p, .int .i64 q, .int .i64 x], .agg #[.slice B ys.length d, .int .i64 r, .int .i64 s, .int .i64 y]] w fun e w' => e = .returned (.int .i64 (orV (cmpL xs ys) (cmpT p q r s))) ∧ Grw w w' :=
  (updCompare_d A B c d xs ys p q x r s y w hx hy hn hm).mono fun _ _ ⟨he, hw⟩ => ⟨he, hw.grw⟩
end Go.Proofs.Ythefakiobpijiaa
