/- HELPER, no statement of the seat: batches of the program, copied (batch). -/
import Derived.Test.YtffgonddephkkaaGreatVwc
namespace Go.Proofs.YtffgonddephkkaaGreat
open Go.RowKit Go.Sort
set_option linter.unusedSimpArgs false
set_option linter.unusedVariables false

set_option maxRecDepth 100000 in
set_option maxHeartbeats 3200000 in
theorem batch_i (LA UA TA : Option Addr) (lc uc tc : Nat) (lo up : List Tm) (us : List Upd) (w : World) (h1 : TimesAt w LA lo) (h2 : TimesAt w UA up) (h3 : UpdsAt w TA us) (n1 : lo.length ≤ 4194304) (n2 : up.length ≤ 4194304) (n3 : us.length ≤ 4194304) (r3 : rowsU us 4194304) :
    Calls Tryz.prog 21 #[.agg #[.slice TA us.length tc, .slice LA lo.length lc, .slice UA up.length uc]] w fun e w' => ∃ L1 d1 U1 d2 T1 d3, e = .returned (.agg #[.slice L1 lo.length d1, .slice U1 up.length d2, .slice T1 us.length d3]) ∧ BatO w' (news w w') [.slice L1 lo.length d1, .slice U1 up.length d2, .slice T1 us.length d3] (lo, (up, us)) ∧ Below w.heap.size w w' := by
  go_enter Tryz.func21, Tryz.ntmps21
  go_wp2_with fail
  refine abs_world (fun W => Below w.heap.size w W ∧ W.heap.size = w.heap.size + 2 ∧ Blk W w.heap.size 47 #[.slice TA us.length tc, .slice LA lo.length lc, .slice UA up.length uc] ∧ Blk W (w.heap.size + 1) 30 #[.slice none 0 0, .slice none 0 0, .slice none 0 0]) ⟨bal (bal (Below.refl _ _) _) _, by simp, (Blk.newAt rfl).alloc _, Blk.newAt (by simp)⟩ ?_
  rintro W0 ⟨hB0, hsz, kA, kR⟩
  have g1 := h1.below hB0
  have g2 := h2.below hB0
  have g3 := h3.below updR hB0
  have cl := fun W (hW : Below W0.heap.size W0 W) => cloneT_i LA lc lo W (g1.below hW) n1
  have cu := fun W (hW : Below W0.heap.size W0 W) => cloneT_i UA uc up W (g2.below hW) n2
  have ci := fun W (hW : Below W0.heap.size W0 W) => copyItems_u TA tc us W (g3.below updR hW) n3 r3
  clear g1 g2 g3 h1 h2 h3
  refine Rgo.wp_region_facts [[], [0], [0, 1], [], [3], [3, 4], [], [6], [6, 7]]
    [fun _ _ v' _ => v' = .pointer (some ⟨w.heap.size, 1, none⟩), fun _ _ v' _ => v' = .slice LA lo.length lc, TmB lo, fun _ _ v' _ => v' = .pointer (some ⟨w.heap.size, 2, none⟩), fun _ _ v' _ => v' = .slice UA up.length uc, TmB up, fun _ _ v' _ => v' = .pointer (some ⟨w.heap.size, 0, none⟩), fun _ _ v' _ => v' = .slice TA us.length tc, UpB us]
    (by kernel_rfl) (by kernel_rfl) rfl ⟨Rgo.stable_pure _, Rgo.stable_pure _, stable_tmB _, Rgo.stable_pure _, Rgo.stable_pure _, stable_tmB _, Rgo.stable_pure _, Rgo.stable_pure _, stable_upB _, trivial⟩ ?_
  refine Rgo.wf_stepK [] [] (by kernel_rfl) (by kernel_rfl) (fun wf hb hf => ?_) (fun t0 l0 h0 => ?_)
  · refine ⟨?_⟩
    go_wp2
    exact ⟨rfl, .pointer (some ⟨w.heap.size, 1, none⟩), by kernel_rfl, Below.refl _ _, rfl⟩
  refine Rgo.wf_stepK [0] [fun _ => t0 = .pointer (some ⟨w.heap.size, 1, none⟩)] (by kernel_rfl) (by kernel_rfl) (fun wf hb hf => ?_) (fun t1 l1 h1 => ?_)
  · obtain ⟨rfl, -⟩ := hf
    refine ⟨?_⟩
    have p0 := (kA.below hb).cell 1
    simp at p0
    go_wp2
    exact ⟨rfl, .slice LA lo.length lc, by kernel_rfl, Below.refl _ _, rfl⟩
  refine Rgo.wf_stepK [1] [fun _ => t1 = .slice LA lo.length lc] (by kernel_rfl) (by kernel_rfl) (fun wf hb hf => ?_) (fun t2 l2 h2 => ?_)
  · obtain ⟨rfl, -⟩ := hf
    refine ⟨?_⟩
    go_wp2_with (go_at_call 40; refine (cl _ hb).mono ?_; rintro e w2 ⟨A', c', rfl, ho, hb2⟩)
    exact ⟨rfl, .slice A' lo.length c', by kernel_rfl, hb2, A', c', rfl, ho, fun k hk => (ho.lt k hk).2⟩
  refine Rgo.wf_stepK [] [] (by kernel_rfl) (by kernel_rfl) (fun wf hb hf => ?_) (fun t3 l3 h3 => ?_)
  · refine ⟨?_⟩
    go_wp2
    exact ⟨rfl, .pointer (some ⟨w.heap.size, 2, none⟩), by kernel_rfl, Below.refl _ _, rfl⟩
  refine Rgo.wf_stepK [3] [fun _ => t3 = .pointer (some ⟨w.heap.size, 2, none⟩)] (by kernel_rfl) (by kernel_rfl) (fun wf hb hf => ?_) (fun t4 l4 h4 => ?_)
  · obtain ⟨rfl, -⟩ := hf
    refine ⟨?_⟩
    have p0 := (kA.below hb).cell 2
    simp at p0
    go_wp2
    exact ⟨rfl, .slice UA up.length uc, by kernel_rfl, Below.refl _ _, rfl⟩
  refine Rgo.wf_stepK [4] [fun _ => t4 = .slice UA up.length uc] (by kernel_rfl) (by kernel_rfl) (fun wf hb hf => ?_) (fun t5 l5 h5 => ?_)
  · obtain ⟨rfl, -⟩ := hf
    refine ⟨?_⟩
    go_wp2_with (go_at_call 40; refine (cu _ hb).mono ?_; rintro e w2 ⟨A', c', rfl, ho, hb2⟩)
    exact ⟨rfl, .slice A' up.length c', by kernel_rfl, hb2, A', c', rfl, ho, fun k hk => (ho.lt k hk).2⟩
  refine Rgo.wf_stepK [] [] (by kernel_rfl) (by kernel_rfl) (fun wf hb hf => ?_) (fun t6 l6 h6 => ?_)
  · refine ⟨?_⟩
    go_wp2
    exact ⟨rfl, .pointer (some ⟨w.heap.size, 0, none⟩), by kernel_rfl, Below.refl _ _, rfl⟩
  refine Rgo.wf_stepK [6] [fun _ => t6 = .pointer (some ⟨w.heap.size, 0, none⟩)] (by kernel_rfl) (by kernel_rfl) (fun wf hb hf => ?_) (fun t7 l7 h7 => ?_)
  · obtain ⟨rfl, -⟩ := hf
    refine ⟨?_⟩
    have p0 := (kA.below hb).cell 0
    simp at p0
    go_wp2
    exact ⟨rfl, .slice TA us.length tc, by kernel_rfl, Below.refl _ _, rfl⟩
  refine Rgo.wf_stepK [7] [fun _ => t7 = .slice TA us.length tc] (by kernel_rfl) (by kernel_rfl) (fun wf hb hf => ?_) (fun t8 l8 h8 => ?_)
  · obtain ⟨rfl, -⟩ := hf
    refine ⟨?_⟩
    go_wp2_with (go_at_call 41; refine (ci _ hb).mono ?_; rintro e w2 ⟨A', c', rfl, ho, hb2⟩)
    exact ⟨rfl, .slice A' us.length c', by kernel_rfl, hb2, A', c', rfl, ho⟩
  refine Rgo.wf_doneK [2, 5, 8] [TmB lo l2 h2 t2, TmB up l5 h5 t5, UpB us l8 h8 t8] (by kernel_rfl) (by kernel_rfl) (fun w9 b9 hf hap hbo => ?_)
  obtain ⟨⟨A1, c1, rfl, o1, e1⟩, ⟨A2, c2, rfl, o2, e2⟩, ⟨A3, c3, rfl, o3⟩, -⟩ := hf
  have a12 : h2 ≤ l5 ∨ h5 ≤ l2 := hap 2 5 (by omega) (by simp)
  have a13 : h2 ≤ l8 ∨ h8 ≤ l2 := hap 2 8 (by omega) (by simp)
  have a23 : h5 ≤ l8 ∨ h8 ≤ l5 := hap 5 8 (by omega) (by simp)
  have q1 : W0.heap.size ≤ l2 ∧ l2 ≤ h2 ∧ h2 ≤ w9.heap.size := hbo 2 (by simp)
  have q2 : W0.heap.size ≤ l5 ∧ l5 ≤ h5 ∧ h5 ≤ w9.heap.size := hbo 5 (by simp)
  have q3 : W0.heap.size ≤ l8 ∧ l8 ≤ h8 ∧ h8 ≤ w9.heap.size := hbo 8 (by simp)
  rw [hsz] at q1 q2 q3
  show wpList _ _ _ [_, _] _ _
  refine wpList_frame (by simp [Act.put]; rfl) ?_
  have HE := Lib.hid (view_end o1 e1 o2 e2 o3 (btr hB0 b9) q1 q2 q3 a12 a13 a23 (.slice A1 lo.length c1) (.slice A2 up.length c2) (.slice A3 us.length c3))
  have kR9 := kR.below b9
  have g0 := kR9.cell 0
  have g1 := kR9.cell 1
  have g2 := kR9.cell 2
  have f0 := kR9.frozen 0
  have f1 := kR9.frozen 1
  have f2 := kR9.frozen 2
  simp at g0 g1 g2
  have kR5 := ((kR9.set_ 0 (.slice A1 lo.length c1)).set_ 1 (.slice A2 up.length c2)).set_ 2 (.slice A3 us.length c3)
  have r0 := kR5.cell 0
  have r1 := kR5.cell 1
  have r2 := kR5.cell 2
  simp at r0 r1 r2
  have HR0 := Lib.hid r0
  have HR1 := Lib.hid r1
  have HR2 := Lib.hid r2
  clear r0 r1 r2 kR5 kR9 kR kA cl cu ci o1 o2 o3 e1 e2 a12 a13 a23 q1 q2 q3 hap hbo b9 hB0 hsz
  go_wp2
  exact bodyPost_ret (v := .agg #[.slice A1 lo.length c1, .slice A2 up.length c2, .slice A3 us.length c3]) (by simp [results, Tryz.results21, go_sem, HR0.out, HR1.out, HR2.out]) rfl ⟨_, _, _, _, _, _, rfl, HE.out.1, HE.out.2⟩
end Go.Proofs.YtffgonddephkkaaGreat
