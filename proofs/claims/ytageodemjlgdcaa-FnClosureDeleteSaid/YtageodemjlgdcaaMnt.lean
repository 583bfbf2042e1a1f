/- HELPER, no statement of the seat: the program's closures that are maintained. -/
import Derived.Test.YtageodemjlgdcaaMnf
import Derived.Test.YtageodemjlgdcaaRdi
import Derived.Test.YtageodemjlgdcaaEdg
import Derived.Test.YtageodemjlgdcaaRb
import Derived.Test.YtageodemjlgdcaaPrt
namespace Go.Proofs.Ytageodemjlgdcaa
open Go.RowKit Go.Sort Go.Shelf
set_option linter.unusedSimpArgs false
set_option linter.unusedVariables false
set_option maxRecDepth 100000 in
set_option maxHeartbeats 6400000 in
theorem maintained_insG (A : Option Addr) (c : Nat) (es : List Ent) (B : Option Addr) (d : Nat) (cs : List Ent) (C : Option Addr) (k : Nat) (ms : List Ent) (w : World) (hx : EntsAt w A es) (hy : EntsAt w B cs) (hz : EntsAt w C ms) (hn : es.length ≤ 4194304) (hr : rowsIn es 4194304) (hn1 : cs.length ≤ 4194304) (hr1 : rowsIn cs 4194304) (hn2 : ms.length ≤ 4194304) (hr2 : rowsIn ms 4194304) :
    Calls Try.prog 77 #[.slice A es.length c, .slice B cs.length d, .slice C ms.length k, .func (.func 78) #[] #[]] w fun e w' => ∃ A' c', e = .returned (.slice A' (MntF insG es cs ms).length c') ∧ EntsOw w' (news w w') A' c' (MntF insG es cs ms) ∧ Below w.heap.size w w' := by
  have hv0 := ValidEdges_i A c es w hx hn hr
  have hv1 := fun W (hb : Below w.heap.size w W) => ValidEdges_i B d cs W (hy.below entR hb) hn1 hr1
  have hv2 := fun W (hb : Below w.heap.size w W) => ValidEdges_i C k ms W (hz.below entR hb) hn2 hr2
  have HX := Lib.hid (And.intro hx (And.intro hy hz))
  clear hx hy hz
  cases h0 : edgB es
  · have HT : Hid (MntF insG es cs ms = []) := by simp [Hid, MntF, mntB, h0]
    rw [h0] at hv0
    clear h0 hv1 hv2
    go_enter Try.func77, Try.ntmps77
    go_wp2_with fail
    refine hv0.mono ?_
    rintro e w1 ⟨rfl, b1⟩
    clear hv0
    go_wp2
    go_ret
    rw [HT.out]
    exact ⟨none, 0, rfl, ⟨_, _, SlF.nil (fun k hk => hk.2)⟩, b1⟩
  cases h1 : edgB cs
  · have HT : Hid (MntF insG es cs ms = []) := by simp [Hid, MntF, mntB, h0, h1]
    rw [h0] at hv0
    simp only [h1] at hv1
    clear h0 h1 hv2
    go_enter Try.func77, Try.ntmps77
    go_wp2_with fail
    refine hv0.mono ?_
    rintro e w1 ⟨rfl, b1⟩
    clear hv0
    go_wp2_with fail
    refine (hv1 _ b1).mono ?_
    rintro e w2 ⟨rfl, b2⟩
    have b2 := btr b1 b2
    clear hv1 b1
    go_wp2
    go_ret
    rw [HT.out]
    exact ⟨none, 0, rfl, ⟨_, _, SlF.nil (fun k hk => hk.2)⟩, b2⟩
  cases h2 : edgB ms
  · have HT : Hid (MntF insG es cs ms = []) := by simp [Hid, MntF, mntB, h0, h1, h2]
    rw [h0] at hv0
    simp only [h1] at hv1
    simp only [h2] at hv2
    clear h0 h1 h2
    go_enter Try.func77, Try.ntmps77
    go_wp2_with fail
    refine hv0.mono ?_
    rintro e w1 ⟨rfl, b1⟩
    clear hv0
    go_wp2_with fail
    refine (hv1 _ b1).mono ?_
    rintro e w2 ⟨rfl, b2⟩
    have b2 := btr b1 b2
    clear hv1 b1
    go_wp2_with fail
    refine (hv2 _ b2).mono ?_
    rintro e w3 ⟨rfl, b3⟩
    have b3 := btr b2 b3
    clear hv2 b2
    go_wp2
    go_ret
    rw [HT.out]
    exact ⟨none, 0, rfl, ⟨_, _, SlF.nil (fun k hk => hk.2)⟩, b3⟩
  have hR := relOf_ok h0
  have hC := relOf_ok h1
  have hM := relOf_ok h2
  have hcl := closR_ok hR
  have hG : OkR (insG (relOf es) (relOf cs) (relOf ms)) := nandR_ok (closR_ok (orR_ok hR hM)) hC
  have c0 := fun W (hb : Below w.heap.size w W) => relationOf_i A c es W (HX.out.1.below entR hb) h0
  have c1 := fun W (hb : Below w.heap.size w W) => relationOf_i B d cs W (HX.out.2.1.below entR hb) h1
  have c2 := fun W (hb : Below w.heap.size w W) => relationOf_i C k ms W (HX.out.2.2.below entR hb) h2
  have HEQ : Hid (∀ W, (Op.equalIn 10000 50 (.agg (relC (relOf cs))) (.agg (relC (closR (relOf es))))).run Try.prog W = .ok (decide (relOf cs = closR (relOf es))) W) := fun W => run_eqR hC.len hcl.len W
  have HM : Hid (MntF insG es cs ms = if relOf cs = closR (relOf es) then prs (insG (relOf es) (relOf cs) (relOf ms)) else []) := by
    simp only [Hid, MntF, mntB, h0, h1, h2, Bool.true_and, decide_eq_true_eq]
    by_cases e : relOf cs = closR (relOf es)
    · rw [if_pos e, if_pos e.symm]
    · rw [if_neg e, if_neg (fun h => e h.symm)]
  rw [h0] at hv0
  simp only [h1] at hv1
  simp only [h2] at hv2
  clear h0 h1 h2 hn hr hn1 hr1 hn2 hr2
  generalize MntF insG es cs ms = Z at *
  generalize relOf es = r at *
  generalize relOf cs = q at *
  generalize relOf ms = m at *
  go_enter Try.func77, Try.ntmps77
  go_wp2_with fail
  refine hv0.mono ?_
  rintro e w1 ⟨rfl, b1⟩
  clear hv0
  go_wp2_with fail
  refine (hv1 _ b1).mono ?_
  rintro e w2 ⟨rfl, b2⟩
  have b2 := btr b1 b2
  clear hv1 b1
  go_wp2_with fail
  refine (hv2 _ b2).mono ?_
  rintro e w3 ⟨rfl, b3⟩
  have b3 := btr b2 b3
  clear hv2 b2
  go_wp2_with fail
  refine (c0 _ b3).mono ?_
  rintro e w4 ⟨rfl, b4⟩
  have b4 := btr b3 b4
  clear c0 b3
  go_wp2_with fail
  refine (c1 _ b4).mono ?_
  rintro e w5 ⟨rfl, b5⟩
  have b5 := btr b4 b5
  clear c1 b4
  have HW := Lib.hid (brow (brow (bal (bal b5 (.cells (relC zeroR) 50)) (.cells (relC zeroR) 50)) b5.size (relC r)) (Nat.le_succ_of_le b5.size) (relC q))
  have HA := Lib.hid ((((Blk.newAt (cs := relC zeroR) (t := 50) (w := w5) rfl).alloc (.cells (relC zeroR) 50)).row (relC r)).rowFar (k := w5.heap.size + 1) (by omega) (relC q))
  have HB := Lib.hid (((Blk.newAt (cs := relC zeroR) (t := 50) (w := w5.alloc (.cells (relC zeroR) 50)) (g := w5.heap.size + 1) (by simp)).rowFar (k := w5.heap.size) (by omega) (relC r)).row (relC q))
  have hsz5 := b5.size
  clear b5
  go_wp2_with (first | refine wpList_store_row rfl 50 _ _ rfl w5.heap.size (relC r) rfl rfl 50 (relC zeroR) ((Blk.newAt rfl).alloc _) (sizeR hR) (by rw [relC_size, relC_size, zeroR_ok.len, hR.len]) (relC_one _) ?_ | refine wpList_store_row rfl 50 _ _ rfl (w5.heap.size + 1) (relC q) rfl rfl 50 (relC zeroR) ((Blk.newAt (by simp)).rowFar (by omega) _) (sizeR hC) (by rw [relC_size, relC_size, zeroR_ok.len, hC.len]) (relC_one _) ?_)
  refine abs_world (fun W => Blk W w5.heap.size 50 (relC r) ∧ Blk W (w5.heap.size + 1) 50 (relC q) ∧ Below w.heap.size w W) ⟨HA.out, HB.out, HW.out⟩ ?_
  clear HA HB HW
  rintro W ⟨k0, k1, hbW⟩
  refine wp_region_facts [[], [], [1]]
    [fun v' _ => v' = .agg (relC (q)), fun v' _ => v' = .agg (relC (r)), fun v' _ => v' = .agg (relC (closR r))]
    (by kernel_rfl) (by kernel_rfl) rfl ⟨stable_pure _, stable_pure _, stable_pure _, trivial⟩ ?_
  refine wf_stepK [] [] (by kernel_rfl) (by kernel_rfl) (fun wf hb hf => ?_) (fun t0 => ?_)
  · refine ⟨?_⟩
    go_wp2_with (refine wpList_load_row rfl 50 _ rfl (w5.heap.size + 1) rfl 50 (relC (q)) (0, 0) _ (k1.below hb) underR rfl (sizeR hC) ?_)
    exact ⟨rfl, _, by kernel_rfl, Below.refl _ _, rfl⟩
  refine wf_stepK [] [] (by kernel_rfl) (by kernel_rfl) (fun wf hb hf => ?_) (fun t1 => ?_)
  · refine ⟨?_⟩
    go_wp2_with (refine wpList_load_row rfl 50 _ rfl w5.heap.size rfl 50 (relC (r)) (0, 0) _ (k0.below hb) underR rfl (sizeR hR) ?_)
    exact ⟨rfl, _, by kernel_rfl, Below.refl _ _, rfl⟩
  refine wf_stepK [1] [fun _ => t1 = .agg (relC (r))] (by kernel_rfl) (by kernel_rfl) (fun wf hb hf => ?_) (fun t2 => ?_)
  · obtain ⟨rfl, -⟩ := hf
    refine ⟨?_⟩
    go_wp2_with (go_at_call 49; refine (closure_w r _ hR).mono ?_; rintro e w2 ⟨rfl, hb2⟩)
    exact ⟨rfl, _, by kernel_rfl, hb2, rfl⟩
  refine wf_doneK [0, 2] [fun _ => t0 = .agg (relC (q)), fun _ => t2 = .agg (relC (closR r))] (by kernel_rfl) (by kernel_rfl) (fun w6 b6 hf => ?_)
  obtain ⟨rfl, rfl, -⟩ := hf
  show wpList _ _ _ [_] _ _
  refine wpList_frame (by simp [Act.put]; rfl) ?_
  have hg : ∀ W x y, (eqGuard .neq 50 x y (.agg (relC q)) (.agg (relC (closR r)))).run Try.prog W = .ok () W := fun W x y => run_eqGuard_agg W _ _ _ _ _ _ (by kernel_rfl)
  have k0 := k0.below b6
  have k1 := k1.below b6
  have hbW := btr hbW b6
  clear b6
  by_cases e0 : q = closR r
  · have heq : ∀ W, (Op.equalIn 10000 50 (.agg (relC q)) (.agg (relC (closR r)))).run Try.prog W = .ok true W := fun W => by rw [HEQ.out]; simp [e0]
    have HT : Hid (Z = prs (insG r q m)) := by rw [Hid, HM.out, if_pos e0]
    have HE := Lib.hid e0
    clear e0 HM HEQ
    have HBW := Lib.hid hbW
    clear hbW
    go_wp2_with fail
    refine wp_region_facts [[], [], [], [], [3], [0, 1, 2, 3, 4], [0, 1, 2, 3, 4, 5]]
      [fun v' _ => v' = .func (.func 78) #[] #[], fun v' _ => v' = .agg (relC (r)), fun v' _ => v' = .agg (relC (q)), fun v' _ => v' = .slice C ms.length k, fun v' _ => v' = .agg (relC (m)), fun v' _ => v' = .agg (relC (insG r q m)), PrV w6.heap.size (prs (insG r q m))]
      (by kernel_rfl) (by kernel_rfl) rfl ⟨stable_pure _, stable_pure _, stable_pure _, stable_pure _, stable_pure _, stable_pure _, stable_prV _ _, trivial⟩ ?_
    refine wf_stepK [] [] (by kernel_rfl) (by kernel_rfl) (fun wf hb hf => ?_) (fun t0 => ?_)
    · refine ⟨?_⟩
      go_wp2
      exact ⟨rfl, .func (.func 78) #[] #[], by kernel_rfl, Below.refl _ _, rfl⟩
    refine wf_stepK [] [] (by kernel_rfl) (by kernel_rfl) (fun wf hb hf => ?_) (fun t1 => ?_)
    · refine ⟨?_⟩
      go_wp2_with (refine wpList_load_row rfl 50 _ rfl w5.heap.size rfl 50 (relC (r)) (0, 0) _ (k0.below hb) underR rfl (sizeR hR) ?_)
      exact ⟨rfl, _, by kernel_rfl, Below.refl _ _, rfl⟩
    refine wf_stepK [] [] (by kernel_rfl) (by kernel_rfl) (fun wf hb hf => ?_) (fun t2 => ?_)
    · refine ⟨?_⟩
      go_wp2_with (refine wpList_load_row rfl 50 _ rfl (w5.heap.size + 1) rfl 50 (relC (q)) (0, 0) _ (k1.below hb) underR rfl (sizeR hC) ?_)
      exact ⟨rfl, _, by kernel_rfl, Below.refl _ _, rfl⟩
    refine wf_stepK [] [] (by kernel_rfl) (by kernel_rfl) (fun wf hb hf => ?_) (fun t3 => ?_)
    · refine ⟨?_⟩
      go_wp2
      exact ⟨rfl, .slice C ms.length k, by kernel_rfl, Below.refl _ _, rfl⟩
    refine wf_stepK [3] [fun _ => t3 = .slice C ms.length k] (by kernel_rfl) (by kernel_rfl) (fun wf hb hf => ?_) (fun t4 => ?_)
    · obtain ⟨rfl, -⟩ := hf
      refine ⟨?_⟩
      go_wp2_with (go_at_call 48; refine (c2 _ (btr HBW.out hb)).mono ?_; rintro e w2 ⟨rfl, hb2⟩)
      exact ⟨rfl, _, by kernel_rfl, hb2, rfl⟩
    refine wf_stepK [0, 1, 2, 4] [fun _ => t0 = .func (.func 78) #[] #[], fun _ => t1 = .agg (relC (r)), fun _ => t2 = .agg (relC (q)), fun _ => t4 = .agg (relC (m))] (by kernel_rfl) (by kernel_rfl) (fun wf hb hf => ?_) (fun t5 => ?_)
    · obtain ⟨rfl, rfl, rfl, rfl, -⟩ := hf
      refine ⟨?_⟩
      go_wp2_with (go_at_call 78; refine (ins1_w r q m _ hR hC hM).mono ?_; rintro e w2 ⟨rfl, hb2⟩)
      exact ⟨rfl, _, by kernel_rfl, hb2, rfl⟩
    refine wf_stepK [5] [fun _ => t5 = .agg (relC (insG r q m))] (by kernel_rfl) (by kernel_rfl) (fun wf hb hf => ?_) (fun t6 => ?_)
    · obtain ⟨rfl, -⟩ := hf
      refine ⟨?_⟩
      go_wp2_with (go_at_call 50; refine (pairs_t _ _ hG).mono ?_; rintro e w2 ⟨Ad, cd, S, rfl, ho, hS, hb2⟩)
      exact ⟨rfl, _, by kernel_rfl, hb2, Ad, cd, S, rfl, ho, fun k hk => ⟨Nat.le_trans hb.size (hS k hk).1, (hS k hk).2⟩⟩
    refine wf_doneK [6] [PrV w6.heap.size (prs (insG r q m)) t6] (by kernel_rfl) (by kernel_rfl) (fun w8 b8 hf => ?_)
    obtain ⟨⟨Ad, cd, S, rfl, ho, hS⟩, -⟩ := hf
    show wpList _ _ _ [_] _ _
    refine wpList_frame (by simp [Act.put]; rfl) ?_
    have HO := Lib.hid (And.intro ho (And.intro hS b8))
    clear ho hS b8 k0 k1 heq hg c2
    go_wp2
    go_ret
    rw [HT.out]
    obtain ⟨ho, hS, b8⟩ := HO.out
    exact ⟨Ad, cd, rfl, SlOw.mono ho (fun k hk => ⟨Nat.le_trans HBW.out.size (hS k hk).1, SlOw.lt ho k hk⟩) (fun k hk => hk.2), btr HBW.out b8⟩
  · have heq : ∀ W, (Op.equalIn 10000 50 (.agg (relC q)) (.agg (relC (closR r)))).run Try.prog W = .ok false W := fun W => by rw [HEQ.out]; simp [e0]
    have HT : Hid (Z = []) := by rw [Hid, HM.out, if_neg e0]
    clear e0 HM HEQ c2 k0 k1
    go_wp2
    go_ret
    rw [HT.out]
    exact ⟨none, 0, rfl, ⟨_, _, SlF.nil (fun k hk => hk.2)⟩, hbW⟩
set_option maxHeartbeats 1600000 in
theorem ClosureInsert_i (A : Option Addr) (c : Nat) (es : List Ent) (B : Option Addr) (d : Nat) (cs : List Ent) (C : Option Addr) (k : Nat) (ms : List Ent) (w : World) (hx : EntsAt w A es) (hy : EntsAt w B cs) (hz : EntsAt w C ms) (hn : es.length ≤ 4194304) (hr : rowsIn es 4194304) (hn1 : cs.length ≤ 4194304) (hr1 : rowsIn cs 4194304) (hn2 : ms.length ≤ 4194304) (hr2 : rowsIn ms 4194304) :
    Calls Try.prog 33 #[.slice A es.length c, .slice B cs.length d, .slice C ms.length k] w fun e w' => ∃ A' c', e = .returned (.slice A' (MntF insG es cs ms).length c') ∧ EntsOw w' (news w w') A' c' (MntF insG es cs ms) ∧ Below w.heap.size w w' := by
  have hcon := maintained_insG A c es B d cs C k ms w hx hy hz hn hr hn1 hr1 hn2 hr2
  clear hx hy hz
  generalize MntF insG es cs ms = Z at *
  go_enter Try.func33, Try.ntmps33
  go_wp2_with fail
  refine hcon.mono ?_
  rintro e w1 ⟨A', c', rfl, ho, b1⟩
  clear hcon
  go_wp2_with fail
  go_ret
  exact ⟨A', c', rfl, ho, b1⟩
set_option maxRecDepth 100000 in
set_option maxHeartbeats 6400000 in
theorem maintained_ovrG (A : Option Addr) (c : Nat) (es : List Ent) (B : Option Addr) (d : Nat) (cs : List Ent) (C : Option Addr) (k : Nat) (ms : List Ent) (w : World) (hx : EntsAt w A es) (hy : EntsAt w B cs) (hz : EntsAt w C ms) (hn : es.length ≤ 4194304) (hr : rowsIn es 4194304) (hn1 : cs.length ≤ 4194304) (hr1 : rowsIn cs 4194304) (hn2 : ms.length ≤ 4194304) (hr2 : rowsIn ms 4194304) :
    Calls Try.prog 77 #[.slice A es.length c, .slice B cs.length d, .slice C ms.length k, .func (.func 86) #[] #[]] w fun e w' => ∃ A' c', e = .returned (.slice A' (MntF ovrG es cs ms).length c') ∧ EntsOw w' (news w w') A' c' (MntF ovrG es cs ms) ∧ Below w.heap.size w w' := by
  have hv0 := ValidEdges_i A c es w hx hn hr
  have hv1 := fun W (hb : Below w.heap.size w W) => ValidEdges_i B d cs W (hy.below entR hb) hn1 hr1
  have hv2 := fun W (hb : Below w.heap.size w W) => ValidEdges_i C k ms W (hz.below entR hb) hn2 hr2
  have HX := Lib.hid (And.intro hx (And.intro hy hz))
  clear hx hy hz
  cases h0 : edgB es
  · have HT : Hid (MntF ovrG es cs ms = []) := by simp [Hid, MntF, mntB, h0]
    rw [h0] at hv0
    clear h0 hv1 hv2
    go_enter Try.func77, Try.ntmps77
    go_wp2_with fail
    refine hv0.mono ?_
    rintro e w1 ⟨rfl, b1⟩
    clear hv0
    go_wp2
    go_ret
    rw [HT.out]
    exact ⟨none, 0, rfl, ⟨_, _, SlF.nil (fun k hk => hk.2)⟩, b1⟩
  cases h1 : edgB cs
  · have HT : Hid (MntF ovrG es cs ms = []) := by simp [Hid, MntF, mntB, h0, h1]
    rw [h0] at hv0
    simp only [h1] at hv1
    clear h0 h1 hv2
    go_enter Try.func77, Try.ntmps77
    go_wp2_with fail
    refine hv0.mono ?_
    rintro e w1 ⟨rfl, b1⟩
    clear hv0
    go_wp2_with fail
    refine (hv1 _ b1).mono ?_
    rintro e w2 ⟨rfl, b2⟩
    have b2 := btr b1 b2
    clear hv1 b1
    go_wp2
    go_ret
    rw [HT.out]
    exact ⟨none, 0, rfl, ⟨_, _, SlF.nil (fun k hk => hk.2)⟩, b2⟩
  cases h2 : edgB ms
  · have HT : Hid (MntF ovrG es cs ms = []) := by simp [Hid, MntF, mntB, h0, h1, h2]
    rw [h0] at hv0
    simp only [h1] at hv1
    simp only [h2] at hv2
    clear h0 h1 h2
    go_enter Try.func77, Try.ntmps77
    go_wp2_with fail
    refine hv0.mono ?_
    rintro e w1 ⟨rfl, b1⟩
    clear hv0
    go_wp2_with fail
    refine (hv1 _ b1).mono ?_
    rintro e w2 ⟨rfl, b2⟩
    have b2 := btr b1 b2
    clear hv1 b1
    go_wp2_with fail
    refine (hv2 _ b2).mono ?_
    rintro e w3 ⟨rfl, b3⟩
    have b3 := btr b2 b3
    clear hv2 b2
    go_wp2
    go_ret
    rw [HT.out]
    exact ⟨none, 0, rfl, ⟨_, _, SlF.nil (fun k hk => hk.2)⟩, b3⟩
  have hR := relOf_ok h0
  have hC := relOf_ok h1
  have hM := relOf_ok h2
  have hcl := closR_ok hR
  have hG : OkR (ovrG (relOf es) (relOf cs) (relOf ms)) := overR_ok hC (andR_ok hR hM)
  have c0 := fun W (hb : Below w.heap.size w W) => relationOf_i A c es W (HX.out.1.below entR hb) h0
  have c1 := fun W (hb : Below w.heap.size w W) => relationOf_i B d cs W (HX.out.2.1.below entR hb) h1
  have c2 := fun W (hb : Below w.heap.size w W) => relationOf_i C k ms W (HX.out.2.2.below entR hb) h2
  have HEQ : Hid (∀ W, (Op.equalIn 10000 50 (.agg (relC (relOf cs))) (.agg (relC (closR (relOf es))))).run Try.prog W = .ok (decide (relOf cs = closR (relOf es))) W) := fun W => run_eqR hC.len hcl.len W
  have HM : Hid (MntF ovrG es cs ms = if relOf cs = closR (relOf es) then prs (ovrG (relOf es) (relOf cs) (relOf ms)) else []) := by
    simp only [Hid, MntF, mntB, h0, h1, h2, Bool.true_and, decide_eq_true_eq]
    by_cases e : relOf cs = closR (relOf es)
    · rw [if_pos e, if_pos e.symm]
    · rw [if_neg e, if_neg (fun h => e h.symm)]
  rw [h0] at hv0
  simp only [h1] at hv1
  simp only [h2] at hv2
  clear h0 h1 h2 hn hr hn1 hr1 hn2 hr2
  generalize MntF ovrG es cs ms = Z at *
  generalize relOf es = r at *
  generalize relOf cs = q at *
  generalize relOf ms = m at *
  go_enter Try.func77, Try.ntmps77
  go_wp2_with fail
  refine hv0.mono ?_
  rintro e w1 ⟨rfl, b1⟩
  clear hv0
  go_wp2_with fail
  refine (hv1 _ b1).mono ?_
  rintro e w2 ⟨rfl, b2⟩
  have b2 := btr b1 b2
  clear hv1 b1
  go_wp2_with fail
  refine (hv2 _ b2).mono ?_
  rintro e w3 ⟨rfl, b3⟩
  have b3 := btr b2 b3
  clear hv2 b2
  go_wp2_with fail
  refine (c0 _ b3).mono ?_
  rintro e w4 ⟨rfl, b4⟩
  have b4 := btr b3 b4
  clear c0 b3
  go_wp2_with fail
  refine (c1 _ b4).mono ?_
  rintro e w5 ⟨rfl, b5⟩
  have b5 := btr b4 b5
  clear c1 b4
  have HW := Lib.hid (brow (brow (bal (bal b5 (.cells (relC zeroR) 50)) (.cells (relC zeroR) 50)) b5.size (relC r)) (Nat.le_succ_of_le b5.size) (relC q))
  have HA := Lib.hid ((((Blk.newAt (cs := relC zeroR) (t := 50) (w := w5) rfl).alloc (.cells (relC zeroR) 50)).row (relC r)).rowFar (k := w5.heap.size + 1) (by omega) (relC q))
  have HB := Lib.hid (((Blk.newAt (cs := relC zeroR) (t := 50) (w := w5.alloc (.cells (relC zeroR) 50)) (g := w5.heap.size + 1) (by simp)).rowFar (k := w5.heap.size) (by omega) (relC r)).row (relC q))
  have hsz5 := b5.size
  clear b5
  go_wp2_with (first | refine wpList_store_row rfl 50 _ _ rfl w5.heap.size (relC r) rfl rfl 50 (relC zeroR) ((Blk.newAt rfl).alloc _) (sizeR hR) (by rw [relC_size, relC_size, zeroR_ok.len, hR.len]) (relC_one _) ?_ | refine wpList_store_row rfl 50 _ _ rfl (w5.heap.size + 1) (relC q) rfl rfl 50 (relC zeroR) ((Blk.newAt (by simp)).rowFar (by omega) _) (sizeR hC) (by rw [relC_size, relC_size, zeroR_ok.len, hC.len]) (relC_one _) ?_)
  refine abs_world (fun W => Blk W w5.heap.size 50 (relC r) ∧ Blk W (w5.heap.size + 1) 50 (relC q) ∧ Below w.heap.size w W) ⟨HA.out, HB.out, HW.out⟩ ?_
  clear HA HB HW
  rintro W ⟨k0, k1, hbW⟩
  refine wp_region_facts [[], [], [1]]
    [fun v' _ => v' = .agg (relC (q)), fun v' _ => v' = .agg (relC (r)), fun v' _ => v' = .agg (relC (closR r))]
    (by kernel_rfl) (by kernel_rfl) rfl ⟨stable_pure _, stable_pure _, stable_pure _, trivial⟩ ?_
  refine wf_stepK [] [] (by kernel_rfl) (by kernel_rfl) (fun wf hb hf => ?_) (fun t0 => ?_)
  · refine ⟨?_⟩
    go_wp2_with (refine wpList_load_row rfl 50 _ rfl (w5.heap.size + 1) rfl 50 (relC (q)) (0, 0) _ (k1.below hb) underR rfl (sizeR hC) ?_)
    exact ⟨rfl, _, by kernel_rfl, Below.refl _ _, rfl⟩
  refine wf_stepK [] [] (by kernel_rfl) (by kernel_rfl) (fun wf hb hf => ?_) (fun t1 => ?_)
  · refine ⟨?_⟩
    go_wp2_with (refine wpList_load_row rfl 50 _ rfl w5.heap.size rfl 50 (relC (r)) (0, 0) _ (k0.below hb) underR rfl (sizeR hR) ?_)
    exact ⟨rfl, _, by kernel_rfl, Below.refl _ _, rfl⟩
  refine wf_stepK [1] [fun _ => t1 = .agg (relC (r))] (by kernel_rfl) (by kernel_rfl) (fun wf hb hf => ?_) (fun t2 => ?_)
  · obtain ⟨rfl, -⟩ := hf
    refine ⟨?_⟩
    go_wp2_with (go_at_call 49; refine (closure_w r _ hR).mono ?_; rintro e w2 ⟨rfl, hb2⟩)
    exact ⟨rfl, _, by kernel_rfl, hb2, rfl⟩
  refine wf_doneK [0, 2] [fun _ => t0 = .agg (relC (q)), fun _ => t2 = .agg (relC (closR r))] (by kernel_rfl) (by kernel_rfl) (fun w6 b6 hf => ?_)
  obtain ⟨rfl, rfl, -⟩ := hf
  show wpList _ _ _ [_] _ _
  refine wpList_frame (by simp [Act.put]; rfl) ?_
  have hg : ∀ W x y, (eqGuard .neq 50 x y (.agg (relC q)) (.agg (relC (closR r)))).run Try.prog W = .ok () W := fun W x y => run_eqGuard_agg W _ _ _ _ _ _ (by kernel_rfl)
  have k0 := k0.below b6
  have k1 := k1.below b6
  have hbW := btr hbW b6
  clear b6
  by_cases e0 : q = closR r
  · have heq : ∀ W, (Op.equalIn 10000 50 (.agg (relC q)) (.agg (relC (closR r)))).run Try.prog W = .ok true W := fun W => by rw [HEQ.out]; simp [e0]
    have HT : Hid (Z = prs (ovrG r q m)) := by rw [Hid, HM.out, if_pos e0]
    have HE := Lib.hid e0
    clear e0 HM HEQ
    have HBW := Lib.hid hbW
    clear hbW
    go_wp2_with fail
    refine wp_region_facts [[], [], [], [], [3], [0, 1, 2, 3, 4], [0, 1, 2, 3, 4, 5]]
      [fun v' _ => v' = .func (.func 86) #[] #[], fun v' _ => v' = .agg (relC (r)), fun v' _ => v' = .agg (relC (q)), fun v' _ => v' = .slice C ms.length k, fun v' _ => v' = .agg (relC (m)), fun v' _ => v' = .agg (relC (ovrG r q m)), PrV w6.heap.size (prs (ovrG r q m))]
      (by kernel_rfl) (by kernel_rfl) rfl ⟨stable_pure _, stable_pure _, stable_pure _, stable_pure _, stable_pure _, stable_pure _, stable_prV _ _, trivial⟩ ?_
    refine wf_stepK [] [] (by kernel_rfl) (by kernel_rfl) (fun wf hb hf => ?_) (fun t0 => ?_)
    · refine ⟨?_⟩
      go_wp2
      exact ⟨rfl, .func (.func 86) #[] #[], by kernel_rfl, Below.refl _ _, rfl⟩
    refine wf_stepK [] [] (by kernel_rfl) (by kernel_rfl) (fun wf hb hf => ?_) (fun t1 => ?_)
    · refine ⟨?_⟩
      go_wp2_with (refine wpList_load_row rfl 50 _ rfl w5.heap.size rfl 50 (relC (r)) (0, 0) _ (k0.below hb) underR rfl (sizeR hR) ?_)
      exact ⟨rfl, _, by kernel_rfl, Below.refl _ _, rfl⟩
    refine wf_stepK [] [] (by kernel_rfl) (by kernel_rfl) (fun wf hb hf => ?_) (fun t2 => ?_)
    · refine ⟨?_⟩
      go_wp2_with (refine wpList_load_row rfl 50 _ rfl (w5.heap.size + 1) rfl 50 (relC (q)) (0, 0) _ (k1.below hb) underR rfl (sizeR hC) ?_)
      exact ⟨rfl, _, by kernel_rfl, Below.refl _ _, rfl⟩
    refine wf_stepK [] [] (by kernel_rfl) (by kernel_rfl) (fun wf hb hf => ?_) (fun t3 => ?_)
    · refine ⟨?_⟩
      go_wp2
      exact ⟨rfl, .slice C ms.length k, by kernel_rfl, Below.refl _ _, rfl⟩
    refine wf_stepK [3] [fun _ => t3 = .slice C ms.length k] (by kernel_rfl) (by kernel_rfl) (fun wf hb hf => ?_) (fun t4 => ?_)
    · obtain ⟨rfl, -⟩ := hf
      refine ⟨?_⟩
      go_wp2_with (go_at_call 48; refine (c2 _ (btr HBW.out hb)).mono ?_; rintro e w2 ⟨rfl, hb2⟩)
      exact ⟨rfl, _, by kernel_rfl, hb2, rfl⟩
    refine wf_stepK [0, 1, 2, 4] [fun _ => t0 = .func (.func 86) #[] #[], fun _ => t1 = .agg (relC (r)), fun _ => t2 = .agg (relC (q)), fun _ => t4 = .agg (relC (m))] (by kernel_rfl) (by kernel_rfl) (fun wf hb hf => ?_) (fun t5 => ?_)
    · obtain ⟨rfl, rfl, rfl, rfl, -⟩ := hf
      refine ⟨?_⟩
      go_wp2_with (go_at_call 86; refine (over_w r q m _ hR hC hM).mono ?_; rintro e w2 ⟨rfl, hb2⟩)
      exact ⟨rfl, _, by kernel_rfl, hb2, rfl⟩
    refine wf_stepK [5] [fun _ => t5 = .agg (relC (ovrG r q m))] (by kernel_rfl) (by kernel_rfl) (fun wf hb hf => ?_) (fun t6 => ?_)
    · obtain ⟨rfl, -⟩ := hf
      refine ⟨?_⟩
      go_wp2_with (go_at_call 50; refine (pairs_t _ _ hG).mono ?_; rintro e w2 ⟨Ad, cd, S, rfl, ho, hS, hb2⟩)
      exact ⟨rfl, _, by kernel_rfl, hb2, Ad, cd, S, rfl, ho, fun k hk => ⟨Nat.le_trans hb.size (hS k hk).1, (hS k hk).2⟩⟩
    refine wf_doneK [6] [PrV w6.heap.size (prs (ovrG r q m)) t6] (by kernel_rfl) (by kernel_rfl) (fun w8 b8 hf => ?_)
    obtain ⟨⟨Ad, cd, S, rfl, ho, hS⟩, -⟩ := hf
    show wpList _ _ _ [_] _ _
    refine wpList_frame (by simp [Act.put]; rfl) ?_
    have HO := Lib.hid (And.intro ho (And.intro hS b8))
    clear ho hS b8 k0 k1 heq hg c2
    go_wp2
    go_ret
    rw [HT.out]
    obtain ⟨ho, hS, b8⟩ := HO.out
    exact ⟨Ad, cd, rfl, SlOw.mono ho (fun k hk => ⟨Nat.le_trans HBW.out.size (hS k hk).1, SlOw.lt ho k hk⟩) (fun k hk => hk.2), btr HBW.out b8⟩
  · have heq : ∀ W, (Op.equalIn 10000 50 (.agg (relC q)) (.agg (relC (closR r)))).run Try.prog W = .ok false W := fun W => by rw [HEQ.out]; simp [e0]
    have HT : Hid (Z = []) := by rw [Hid, HM.out, if_neg e0]
    clear e0 HM HEQ c2 k0 k1
    go_wp2
    go_ret
    rw [HT.out]
    exact ⟨none, 0, rfl, ⟨_, _, SlF.nil (fun k hk => hk.2)⟩, hbW⟩
set_option maxHeartbeats 1600000 in
theorem Overdelete_i (A : Option Addr) (c : Nat) (es : List Ent) (B : Option Addr) (d : Nat) (cs : List Ent) (C : Option Addr) (k : Nat) (ms : List Ent) (w : World) (hx : EntsAt w A es) (hy : EntsAt w B cs) (hz : EntsAt w C ms) (hn : es.length ≤ 4194304) (hr : rowsIn es 4194304) (hn1 : cs.length ≤ 4194304) (hr1 : rowsIn cs 4194304) (hn2 : ms.length ≤ 4194304) (hr2 : rowsIn ms 4194304) :
    Calls Try.prog 41 #[.slice A es.length c, .slice B cs.length d, .slice C ms.length k] w fun e w' => ∃ A' c', e = .returned (.slice A' (MntF ovrG es cs ms).length c') ∧ EntsOw w' (news w w') A' c' (MntF ovrG es cs ms) ∧ Below w.heap.size w w' := by
  have hcon := maintained_ovrG A c es B d cs C k ms w hx hy hz hn hr hn1 hr1 hn2 hr2
  clear hx hy hz
  generalize MntF ovrG es cs ms = Z at *
  go_enter Try.func41, Try.ntmps41
  go_wp2_with fail
  refine hcon.mono ?_
  rintro e w1 ⟨A', c', rfl, ho, b1⟩
  clear hcon
  go_wp2_with fail
  go_ret
  exact ⟨A', c', rfl, ho, b1⟩
set_option maxRecDepth 100000 in
set_option maxHeartbeats 6400000 in
theorem maintained_redG (A : Option Addr) (c : Nat) (es : List Ent) (B : Option Addr) (d : Nat) (cs : List Ent) (C : Option Addr) (k : Nat) (ms : List Ent) (w : World) (hx : EntsAt w A es) (hy : EntsAt w B cs) (hz : EntsAt w C ms) (hn : es.length ≤ 4194304) (hr : rowsIn es 4194304) (hn1 : cs.length ≤ 4194304) (hr1 : rowsIn cs 4194304) (hn2 : ms.length ≤ 4194304) (hr2 : rowsIn ms 4194304) :
    Calls Try.prog 77 #[.slice A es.length c, .slice B cs.length d, .slice C ms.length k, .func (.func 89) #[] #[]] w fun e w' => ∃ A' c', e = .returned (.slice A' (MntF redG es cs ms).length c') ∧ EntsOw w' (news w w') A' c' (MntF redG es cs ms) ∧ Below w.heap.size w w' := by
  have hv0 := ValidEdges_i A c es w hx hn hr
  have hv1 := fun W (hb : Below w.heap.size w W) => ValidEdges_i B d cs W (hy.below entR hb) hn1 hr1
  have hv2 := fun W (hb : Below w.heap.size w W) => ValidEdges_i C k ms W (hz.below entR hb) hn2 hr2
  have HX := Lib.hid (And.intro hx (And.intro hy hz))
  clear hx hy hz
  cases h0 : edgB es
  · have HT : Hid (MntF redG es cs ms = []) := by simp [Hid, MntF, mntB, h0]
    rw [h0] at hv0
    clear h0 hv1 hv2
    go_enter Try.func77, Try.ntmps77
    go_wp2_with fail
    refine hv0.mono ?_
    rintro e w1 ⟨rfl, b1⟩
    clear hv0
    go_wp2
    go_ret
    rw [HT.out]
    exact ⟨none, 0, rfl, ⟨_, _, SlF.nil (fun k hk => hk.2)⟩, b1⟩
  cases h1 : edgB cs
  · have HT : Hid (MntF redG es cs ms = []) := by simp [Hid, MntF, mntB, h0, h1]
    rw [h0] at hv0
    simp only [h1] at hv1
    clear h0 h1 hv2
    go_enter Try.func77, Try.ntmps77
    go_wp2_with fail
    refine hv0.mono ?_
    rintro e w1 ⟨rfl, b1⟩
    clear hv0
    go_wp2_with fail
    refine (hv1 _ b1).mono ?_
    rintro e w2 ⟨rfl, b2⟩
    have b2 := btr b1 b2
    clear hv1 b1
    go_wp2
    go_ret
    rw [HT.out]
    exact ⟨none, 0, rfl, ⟨_, _, SlF.nil (fun k hk => hk.2)⟩, b2⟩
  cases h2 : edgB ms
  · have HT : Hid (MntF redG es cs ms = []) := by simp [Hid, MntF, mntB, h0, h1, h2]
    rw [h0] at hv0
    simp only [h1] at hv1
    simp only [h2] at hv2
    clear h0 h1 h2
    go_enter Try.func77, Try.ntmps77
    go_wp2_with fail
    refine hv0.mono ?_
    rintro e w1 ⟨rfl, b1⟩
    clear hv0
    go_wp2_with fail
    refine (hv1 _ b1).mono ?_
    rintro e w2 ⟨rfl, b2⟩
    have b2 := btr b1 b2
    clear hv1 b1
    go_wp2_with fail
    refine (hv2 _ b2).mono ?_
    rintro e w3 ⟨rfl, b3⟩
    have b3 := btr b2 b3
    clear hv2 b2
    go_wp2
    go_ret
    rw [HT.out]
    exact ⟨none, 0, rfl, ⟨_, _, SlF.nil (fun k hk => hk.2)⟩, b3⟩
  have hR := relOf_ok h0
  have hC := relOf_ok h1
  have hM := relOf_ok h2
  have hcl := closR_ok hR
  have hG : OkR (redG (relOf es) (relOf cs) (relOf ms)) := andR_ok (overR_ok hC (andR_ok hR hM)) (closR_ok (nandR_ok hR hM))
  have c0 := fun W (hb : Below w.heap.size w W) => relationOf_i A c es W (HX.out.1.below entR hb) h0
  have c1 := fun W (hb : Below w.heap.size w W) => relationOf_i B d cs W (HX.out.2.1.below entR hb) h1
  have c2 := fun W (hb : Below w.heap.size w W) => relationOf_i C k ms W (HX.out.2.2.below entR hb) h2
  have HEQ : Hid (∀ W, (Op.equalIn 10000 50 (.agg (relC (relOf cs))) (.agg (relC (closR (relOf es))))).run Try.prog W = .ok (decide (relOf cs = closR (relOf es))) W) := fun W => run_eqR hC.len hcl.len W
  have HM : Hid (MntF redG es cs ms = if relOf cs = closR (relOf es) then prs (redG (relOf es) (relOf cs) (relOf ms)) else []) := by
    simp only [Hid, MntF, mntB, h0, h1, h2, Bool.true_and, decide_eq_true_eq]
    by_cases e : relOf cs = closR (relOf es)
    · rw [if_pos e, if_pos e.symm]
    · rw [if_neg e, if_neg (fun h => e h.symm)]
  rw [h0] at hv0
  simp only [h1] at hv1
  simp only [h2] at hv2
  clear h0 h1 h2 hn hr hn1 hr1 hn2 hr2
  generalize MntF redG es cs ms = Z at *
  generalize relOf es = r at *
  generalize relOf cs = q at *
  generalize relOf ms = m at *
  go_enter Try.func77, Try.ntmps77
  go_wp2_with fail
  refine hv0.mono ?_
  rintro e w1 ⟨rfl, b1⟩
  clear hv0
  go_wp2_with fail
  refine (hv1 _ b1).mono ?_
  rintro e w2 ⟨rfl, b2⟩
  have b2 := btr b1 b2
  clear hv1 b1
  go_wp2_with fail
  refine (hv2 _ b2).mono ?_
  rintro e w3 ⟨rfl, b3⟩
  have b3 := btr b2 b3
  clear hv2 b2
  go_wp2_with fail
  refine (c0 _ b3).mono ?_
  rintro e w4 ⟨rfl, b4⟩
  have b4 := btr b3 b4
  clear c0 b3
  go_wp2_with fail
  refine (c1 _ b4).mono ?_
  rintro e w5 ⟨rfl, b5⟩
  have b5 := btr b4 b5
  clear c1 b4
  have HW := Lib.hid (brow (brow (bal (bal b5 (.cells (relC zeroR) 50)) (.cells (relC zeroR) 50)) b5.size (relC r)) (Nat.le_succ_of_le b5.size) (relC q))
  have HA := Lib.hid ((((Blk.newAt (cs := relC zeroR) (t := 50) (w := w5) rfl).alloc (.cells (relC zeroR) 50)).row (relC r)).rowFar (k := w5.heap.size + 1) (by omega) (relC q))
  have HB := Lib.hid (((Blk.newAt (cs := relC zeroR) (t := 50) (w := w5.alloc (.cells (relC zeroR) 50)) (g := w5.heap.size + 1) (by simp)).rowFar (k := w5.heap.size) (by omega) (relC r)).row (relC q))
  have hsz5 := b5.size
  clear b5
  go_wp2_with (first | refine wpList_store_row rfl 50 _ _ rfl w5.heap.size (relC r) rfl rfl 50 (relC zeroR) ((Blk.newAt rfl).alloc _) (sizeR hR) (by rw [relC_size, relC_size, zeroR_ok.len, hR.len]) (relC_one _) ?_ | refine wpList_store_row rfl 50 _ _ rfl (w5.heap.size + 1) (relC q) rfl rfl 50 (relC zeroR) ((Blk.newAt (by simp)).rowFar (by omega) _) (sizeR hC) (by rw [relC_size, relC_size, zeroR_ok.len, hC.len]) (relC_one _) ?_)
  refine abs_world (fun W => Blk W w5.heap.size 50 (relC r) ∧ Blk W (w5.heap.size + 1) 50 (relC q) ∧ Below w.heap.size w W) ⟨HA.out, HB.out, HW.out⟩ ?_
  clear HA HB HW
  rintro W ⟨k0, k1, hbW⟩
  refine wp_region_facts [[], [], [1]]
    [fun v' _ => v' = .agg (relC (q)), fun v' _ => v' = .agg (relC (r)), fun v' _ => v' = .agg (relC (closR r))]
    (by kernel_rfl) (by kernel_rfl) rfl ⟨stable_pure _, stable_pure _, stable_pure _, trivial⟩ ?_
  refine wf_stepK [] [] (by kernel_rfl) (by kernel_rfl) (fun wf hb hf => ?_) (fun t0 => ?_)
  · refine ⟨?_⟩
    go_wp2_with (refine wpList_load_row rfl 50 _ rfl (w5.heap.size + 1) rfl 50 (relC (q)) (0, 0) _ (k1.below hb) underR rfl (sizeR hC) ?_)
    exact ⟨rfl, _, by kernel_rfl, Below.refl _ _, rfl⟩
  refine wf_stepK [] [] (by kernel_rfl) (by kernel_rfl) (fun wf hb hf => ?_) (fun t1 => ?_)
  · refine ⟨?_⟩
    go_wp2_with (refine wpList_load_row rfl 50 _ rfl w5.heap.size rfl 50 (relC (r)) (0, 0) _ (k0.below hb) underR rfl (sizeR hR) ?_)
    exact ⟨rfl, _, by kernel_rfl, Below.refl _ _, rfl⟩
  refine wf_stepK [1] [fun _ => t1 = .agg (relC (r))] (by kernel_rfl) (by kernel_rfl) (fun wf hb hf => ?_) (fun t2 => ?_)
  · obtain ⟨rfl, -⟩ := hf
    refine ⟨?_⟩
    go_wp2_with (go_at_call 49; refine (closure_w r _ hR).mono ?_; rintro e w2 ⟨rfl, hb2⟩)
    exact ⟨rfl, _, by kernel_rfl, hb2, rfl⟩
  refine wf_doneK [0, 2] [fun _ => t0 = .agg (relC (q)), fun _ => t2 = .agg (relC (closR r))] (by kernel_rfl) (by kernel_rfl) (fun w6 b6 hf => ?_)
  obtain ⟨rfl, rfl, -⟩ := hf
  show wpList _ _ _ [_] _ _
  refine wpList_frame (by simp [Act.put]; rfl) ?_
  have hg : ∀ W x y, (eqGuard .neq 50 x y (.agg (relC q)) (.agg (relC (closR r)))).run Try.prog W = .ok () W := fun W x y => run_eqGuard_agg W _ _ _ _ _ _ (by kernel_rfl)
  have k0 := k0.below b6
  have k1 := k1.below b6
  have hbW := btr hbW b6
  clear b6
  by_cases e0 : q = closR r
  · have heq : ∀ W, (Op.equalIn 10000 50 (.agg (relC q)) (.agg (relC (closR r)))).run Try.prog W = .ok true W := fun W => by rw [HEQ.out]; simp [e0]
    have HT : Hid (Z = prs (redG r q m)) := by rw [Hid, HM.out, if_pos e0]
    have HE := Lib.hid e0
    clear e0 HM HEQ
    have HBW := Lib.hid hbW
    clear hbW
    go_wp2_with fail
    refine wp_region_facts [[], [], [], [], [3], [0, 1, 2, 3, 4], [0, 1, 2, 3, 4, 5]]
      [fun v' _ => v' = .func (.func 89) #[] #[], fun v' _ => v' = .agg (relC (r)), fun v' _ => v' = .agg (relC (q)), fun v' _ => v' = .slice C ms.length k, fun v' _ => v' = .agg (relC (m)), fun v' _ => v' = .agg (relC (redG r q m)), PrV w6.heap.size (prs (redG r q m))]
      (by kernel_rfl) (by kernel_rfl) rfl ⟨stable_pure _, stable_pure _, stable_pure _, stable_pure _, stable_pure _, stable_pure _, stable_prV _ _, trivial⟩ ?_
    refine wf_stepK [] [] (by kernel_rfl) (by kernel_rfl) (fun wf hb hf => ?_) (fun t0 => ?_)
    · refine ⟨?_⟩
      go_wp2
      exact ⟨rfl, .func (.func 89) #[] #[], by kernel_rfl, Below.refl _ _, rfl⟩
    refine wf_stepK [] [] (by kernel_rfl) (by kernel_rfl) (fun wf hb hf => ?_) (fun t1 => ?_)
    · refine ⟨?_⟩
      go_wp2_with (refine wpList_load_row rfl 50 _ rfl w5.heap.size rfl 50 (relC (r)) (0, 0) _ (k0.below hb) underR rfl (sizeR hR) ?_)
      exact ⟨rfl, _, by kernel_rfl, Below.refl _ _, rfl⟩
    refine wf_stepK [] [] (by kernel_rfl) (by kernel_rfl) (fun wf hb hf => ?_) (fun t2 => ?_)
    · refine ⟨?_⟩
      go_wp2_with (refine wpList_load_row rfl 50 _ rfl (w5.heap.size + 1) rfl 50 (relC (q)) (0, 0) _ (k1.below hb) underR rfl (sizeR hC) ?_)
      exact ⟨rfl, _, by kernel_rfl, Below.refl _ _, rfl⟩
    refine wf_stepK [] [] (by kernel_rfl) (by kernel_rfl) (fun wf hb hf => ?_) (fun t3 => ?_)
    · refine ⟨?_⟩
      go_wp2
      exact ⟨rfl, .slice C ms.length k, by kernel_rfl, Below.refl _ _, rfl⟩
    refine wf_stepK [3] [fun _ => t3 = .slice C ms.length k] (by kernel_rfl) (by kernel_rfl) (fun wf hb hf => ?_) (fun t4 => ?_)
    · obtain ⟨rfl, -⟩ := hf
      refine ⟨?_⟩
      go_wp2_with (go_at_call 48; refine (c2 _ (btr HBW.out hb)).mono ?_; rintro e w2 ⟨rfl, hb2⟩)
      exact ⟨rfl, _, by kernel_rfl, hb2, rfl⟩
    refine wf_stepK [0, 1, 2, 4] [fun _ => t0 = .func (.func 89) #[] #[], fun _ => t1 = .agg (relC (r)), fun _ => t2 = .agg (relC (q)), fun _ => t4 = .agg (relC (m))] (by kernel_rfl) (by kernel_rfl) (fun wf hb hf => ?_) (fun t5 => ?_)
    · obtain ⟨rfl, rfl, rfl, rfl, -⟩ := hf
      refine ⟨?_⟩
      go_wp2_with (go_at_call 89; refine (red1_w r q m _ hR hC hM).mono ?_; rintro e w2 ⟨rfl, hb2⟩)
      exact ⟨rfl, _, by kernel_rfl, hb2, rfl⟩
    refine wf_stepK [5] [fun _ => t5 = .agg (relC (redG r q m))] (by kernel_rfl) (by kernel_rfl) (fun wf hb hf => ?_) (fun t6 => ?_)
    · obtain ⟨rfl, -⟩ := hf
      refine ⟨?_⟩
      go_wp2_with (go_at_call 50; refine (pairs_t _ _ hG).mono ?_; rintro e w2 ⟨Ad, cd, S, rfl, ho, hS, hb2⟩)
      exact ⟨rfl, _, by kernel_rfl, hb2, Ad, cd, S, rfl, ho, fun k hk => ⟨Nat.le_trans hb.size (hS k hk).1, (hS k hk).2⟩⟩
    refine wf_doneK [6] [PrV w6.heap.size (prs (redG r q m)) t6] (by kernel_rfl) (by kernel_rfl) (fun w8 b8 hf => ?_)
    obtain ⟨⟨Ad, cd, S, rfl, ho, hS⟩, -⟩ := hf
    show wpList _ _ _ [_] _ _
    refine wpList_frame (by simp [Act.put]; rfl) ?_
    have HO := Lib.hid (And.intro ho (And.intro hS b8))
    clear ho hS b8 k0 k1 heq hg c2
    go_wp2
    go_ret
    rw [HT.out]
    obtain ⟨ho, hS, b8⟩ := HO.out
    exact ⟨Ad, cd, rfl, SlOw.mono ho (fun k hk => ⟨Nat.le_trans HBW.out.size (hS k hk).1, SlOw.lt ho k hk⟩) (fun k hk => hk.2), btr HBW.out b8⟩
  · have heq : ∀ W, (Op.equalIn 10000 50 (.agg (relC q)) (.agg (relC (closR r)))).run Try.prog W = .ok false W := fun W => by rw [HEQ.out]; simp [e0]
    have HT : Hid (Z = []) := by rw [Hid, HM.out, if_neg e0]
    clear e0 HM HEQ c2 k0 k1
    go_wp2
    go_ret
    rw [HT.out]
    exact ⟨none, 0, rfl, ⟨_, _, SlF.nil (fun k hk => hk.2)⟩, hbW⟩
set_option maxHeartbeats 1600000 in
theorem Rederive_i (A : Option Addr) (c : Nat) (es : List Ent) (B : Option Addr) (d : Nat) (cs : List Ent) (C : Option Addr) (k : Nat) (ms : List Ent) (w : World) (hx : EntsAt w A es) (hy : EntsAt w B cs) (hz : EntsAt w C ms) (hn : es.length ≤ 4194304) (hr : rowsIn es 4194304) (hn1 : cs.length ≤ 4194304) (hr1 : rowsIn cs 4194304) (hn2 : ms.length ≤ 4194304) (hr2 : rowsIn ms 4194304) :
    Calls Try.prog 43 #[.slice A es.length c, .slice B cs.length d, .slice C ms.length k] w fun e w' => ∃ A' c', e = .returned (.slice A' (MntF redG es cs ms).length c') ∧ EntsOw w' (news w w') A' c' (MntF redG es cs ms) ∧ Below w.heap.size w w' := by
  have hcon := maintained_redG A c es B d cs C k ms w hx hy hz hn hr hn1 hr1 hn2 hr2
  clear hx hy hz
  generalize MntF redG es cs ms = Z at *
  go_enter Try.func43, Try.ntmps43
  go_wp2_with fail
  refine hcon.mono ?_
  rintro e w1 ⟨A', c', rfl, ho, b1⟩
  clear hcon
  go_wp2_with fail
  go_ret
  exact ⟨A', c', rfl, ho, b1⟩
set_option maxRecDepth 100000 in
set_option maxHeartbeats 6400000 in
theorem maintained_delG (A : Option Addr) (c : Nat) (es : List Ent) (B : Option Addr) (d : Nat) (cs : List Ent) (C : Option Addr) (k : Nat) (ms : List Ent) (w : World) (hx : EntsAt w A es) (hy : EntsAt w B cs) (hz : EntsAt w C ms) (hn : es.length ≤ 4194304) (hr : rowsIn es 4194304) (hn1 : cs.length ≤ 4194304) (hr1 : rowsIn cs 4194304) (hn2 : ms.length ≤ 4194304) (hr2 : rowsIn ms 4194304) :
    Calls Try.prog 77 #[.slice A es.length c, .slice B cs.length d, .slice C ms.length k, .func (.func 84) #[] #[]] w fun e w' => ∃ A' c', e = .returned (.slice A' (MntF delG es cs ms).length c') ∧ EntsOw w' (news w w') A' c' (MntF delG es cs ms) ∧ Below w.heap.size w w' := by
  have hv0 := ValidEdges_i A c es w hx hn hr
  have hv1 := fun W (hb : Below w.heap.size w W) => ValidEdges_i B d cs W (hy.below entR hb) hn1 hr1
  have hv2 := fun W (hb : Below w.heap.size w W) => ValidEdges_i C k ms W (hz.below entR hb) hn2 hr2
  have HX := Lib.hid (And.intro hx (And.intro hy hz))
  clear hx hy hz
  cases h0 : edgB es
  · have HT : Hid (MntF delG es cs ms = []) := by simp [Hid, MntF, mntB, h0]
    rw [h0] at hv0
    clear h0 hv1 hv2
    go_enter Try.func77, Try.ntmps77
    go_wp2_with fail
    refine hv0.mono ?_
    rintro e w1 ⟨rfl, b1⟩
    clear hv0
    go_wp2
    go_ret
    rw [HT.out]
    exact ⟨none, 0, rfl, ⟨_, _, SlF.nil (fun k hk => hk.2)⟩, b1⟩
  cases h1 : edgB cs
  · have HT : Hid (MntF delG es cs ms = []) := by simp [Hid, MntF, mntB, h0, h1]
    rw [h0] at hv0
    simp only [h1] at hv1
    clear h0 h1 hv2
    go_enter Try.func77, Try.ntmps77
    go_wp2_with fail
    refine hv0.mono ?_
    rintro e w1 ⟨rfl, b1⟩
    clear hv0
    go_wp2_with fail
    refine (hv1 _ b1).mono ?_
    rintro e w2 ⟨rfl, b2⟩
    have b2 := btr b1 b2
    clear hv1 b1
    go_wp2
    go_ret
    rw [HT.out]
    exact ⟨none, 0, rfl, ⟨_, _, SlF.nil (fun k hk => hk.2)⟩, b2⟩
  cases h2 : edgB ms
  · have HT : Hid (MntF delG es cs ms = []) := by simp [Hid, MntF, mntB, h0, h1, h2]
    rw [h0] at hv0
    simp only [h1] at hv1
    simp only [h2] at hv2
    clear h0 h1 h2
    go_enter Try.func77, Try.ntmps77
    go_wp2_with fail
    refine hv0.mono ?_
    rintro e w1 ⟨rfl, b1⟩
    clear hv0
    go_wp2_with fail
    refine (hv1 _ b1).mono ?_
    rintro e w2 ⟨rfl, b2⟩
    have b2 := btr b1 b2
    clear hv1 b1
    go_wp2_with fail
    refine (hv2 _ b2).mono ?_
    rintro e w3 ⟨rfl, b3⟩
    have b3 := btr b2 b3
    clear hv2 b2
    go_wp2
    go_ret
    rw [HT.out]
    exact ⟨none, 0, rfl, ⟨_, _, SlF.nil (fun k hk => hk.2)⟩, b3⟩
  have hR := relOf_ok h0
  have hC := relOf_ok h1
  have hM := relOf_ok h2
  have hcl := closR_ok hR
  have hG : OkR (delG (relOf es) (relOf cs) (relOf ms)) := nandR_ok hC (closR_ok (nandR_ok hR hM))
  have c0 := fun W (hb : Below w.heap.size w W) => relationOf_i A c es W (HX.out.1.below entR hb) h0
  have c1 := fun W (hb : Below w.heap.size w W) => relationOf_i B d cs W (HX.out.2.1.below entR hb) h1
  have c2 := fun W (hb : Below w.heap.size w W) => relationOf_i C k ms W (HX.out.2.2.below entR hb) h2
  have HEQ : Hid (∀ W, (Op.equalIn 10000 50 (.agg (relC (relOf cs))) (.agg (relC (closR (relOf es))))).run Try.prog W = .ok (decide (relOf cs = closR (relOf es))) W) := fun W => run_eqR hC.len hcl.len W
  have HM : Hid (MntF delG es cs ms = if relOf cs = closR (relOf es) then prs (delG (relOf es) (relOf cs) (relOf ms)) else []) := by
    simp only [Hid, MntF, mntB, h0, h1, h2, Bool.true_and, decide_eq_true_eq]
    by_cases e : relOf cs = closR (relOf es)
    · rw [if_pos e, if_pos e.symm]
    · rw [if_neg e, if_neg (fun h => e h.symm)]
  rw [h0] at hv0
  simp only [h1] at hv1
  simp only [h2] at hv2
  clear h0 h1 h2 hn hr hn1 hr1 hn2 hr2
  generalize MntF delG es cs ms = Z at *
  generalize relOf es = r at *
  generalize relOf cs = q at *
  generalize relOf ms = m at *
  go_enter Try.func77, Try.ntmps77
  go_wp2_with fail
  refine hv0.mono ?_
  rintro e w1 ⟨rfl, b1⟩
  clear hv0
  go_wp2_with fail
  refine (hv1 _ b1).mono ?_
  rintro e w2 ⟨rfl, b2⟩
  have b2 := btr b1 b2
  clear hv1 b1
  go_wp2_with fail
  refine (hv2 _ b2).mono ?_
  rintro e w3 ⟨rfl, b3⟩
  have b3 := btr b2 b3
  clear hv2 b2
  go_wp2_with fail
  refine (c0 _ b3).mono ?_
  rintro e w4 ⟨rfl, b4⟩
  have b4 := btr b3 b4
  clear c0 b3
  go_wp2_with fail
  refine (c1 _ b4).mono ?_
  rintro e w5 ⟨rfl, b5⟩
  have b5 := btr b4 b5
  clear c1 b4
  have HW := Lib.hid (brow (brow (bal (bal b5 (.cells (relC zeroR) 50)) (.cells (relC zeroR) 50)) b5.size (relC r)) (Nat.le_succ_of_le b5.size) (relC q))
  have HA := Lib.hid ((((Blk.newAt (cs := relC zeroR) (t := 50) (w := w5) rfl).alloc (.cells (relC zeroR) 50)).row (relC r)).rowFar (k := w5.heap.size + 1) (by omega) (relC q))
  have HB := Lib.hid (((Blk.newAt (cs := relC zeroR) (t := 50) (w := w5.alloc (.cells (relC zeroR) 50)) (g := w5.heap.size + 1) (by simp)).rowFar (k := w5.heap.size) (by omega) (relC r)).row (relC q))
  have hsz5 := b5.size
  clear b5
  go_wp2_with (first | refine wpList_store_row rfl 50 _ _ rfl w5.heap.size (relC r) rfl rfl 50 (relC zeroR) ((Blk.newAt rfl).alloc _) (sizeR hR) (by rw [relC_size, relC_size, zeroR_ok.len, hR.len]) (relC_one _) ?_ | refine wpList_store_row rfl 50 _ _ rfl (w5.heap.size + 1) (relC q) rfl rfl 50 (relC zeroR) ((Blk.newAt (by simp)).rowFar (by omega) _) (sizeR hC) (by rw [relC_size, relC_size, zeroR_ok.len, hC.len]) (relC_one _) ?_)
  refine abs_world (fun W => Blk W w5.heap.size 50 (relC r) ∧ Blk W (w5.heap.size + 1) 50 (relC q) ∧ Below w.heap.size w W) ⟨HA.out, HB.out, HW.out⟩ ?_
  clear HA HB HW
  rintro W ⟨k0, k1, hbW⟩
  refine wp_region_facts [[], [], [1]]
    [fun v' _ => v' = .agg (relC (q)), fun v' _ => v' = .agg (relC (r)), fun v' _ => v' = .agg (relC (closR r))]
    (by kernel_rfl) (by kernel_rfl) rfl ⟨stable_pure _, stable_pure _, stable_pure _, trivial⟩ ?_
  refine wf_stepK [] [] (by kernel_rfl) (by kernel_rfl) (fun wf hb hf => ?_) (fun t0 => ?_)
  · refine ⟨?_⟩
    go_wp2_with (refine wpList_load_row rfl 50 _ rfl (w5.heap.size + 1) rfl 50 (relC (q)) (0, 0) _ (k1.below hb) underR rfl (sizeR hC) ?_)
    exact ⟨rfl, _, by kernel_rfl, Below.refl _ _, rfl⟩
  refine wf_stepK [] [] (by kernel_rfl) (by kernel_rfl) (fun wf hb hf => ?_) (fun t1 => ?_)
  · refine ⟨?_⟩
    go_wp2_with (refine wpList_load_row rfl 50 _ rfl w5.heap.size rfl 50 (relC (r)) (0, 0) _ (k0.below hb) underR rfl (sizeR hR) ?_)
    exact ⟨rfl, _, by kernel_rfl, Below.refl _ _, rfl⟩
  refine wf_stepK [1] [fun _ => t1 = .agg (relC (r))] (by kernel_rfl) (by kernel_rfl) (fun wf hb hf => ?_) (fun t2 => ?_)
  · obtain ⟨rfl, -⟩ := hf
    refine ⟨?_⟩
    go_wp2_with (go_at_call 49; refine (closure_w r _ hR).mono ?_; rintro e w2 ⟨rfl, hb2⟩)
    exact ⟨rfl, _, by kernel_rfl, hb2, rfl⟩
  refine wf_doneK [0, 2] [fun _ => t0 = .agg (relC (q)), fun _ => t2 = .agg (relC (closR r))] (by kernel_rfl) (by kernel_rfl) (fun w6 b6 hf => ?_)
  obtain ⟨rfl, rfl, -⟩ := hf
  show wpList _ _ _ [_] _ _
  refine wpList_frame (by simp [Act.put]; rfl) ?_
  have hg : ∀ W x y, (eqGuard .neq 50 x y (.agg (relC q)) (.agg (relC (closR r)))).run Try.prog W = .ok () W := fun W x y => run_eqGuard_agg W _ _ _ _ _ _ (by kernel_rfl)
  have k0 := k0.below b6
  have k1 := k1.below b6
  have hbW := btr hbW b6
  clear b6
  by_cases e0 : q = closR r
  · have heq : ∀ W, (Op.equalIn 10000 50 (.agg (relC q)) (.agg (relC (closR r)))).run Try.prog W = .ok true W := fun W => by rw [HEQ.out]; simp [e0]
    have HT : Hid (Z = prs (delG r q m)) := by rw [Hid, HM.out, if_pos e0]
    have HE := Lib.hid e0
    clear e0 HM HEQ
    have HBW := Lib.hid hbW
    clear hbW
    go_wp2_with fail
    refine wp_region_facts [[], [], [], [], [3], [0, 1, 2, 3, 4], [0, 1, 2, 3, 4, 5]]
      [fun v' _ => v' = .func (.func 84) #[] #[], fun v' _ => v' = .agg (relC (r)), fun v' _ => v' = .agg (relC (q)), fun v' _ => v' = .slice C ms.length k, fun v' _ => v' = .agg (relC (m)), fun v' _ => v' = .agg (relC (delG r q m)), PrV w6.heap.size (prs (delG r q m))]
      (by kernel_rfl) (by kernel_rfl) rfl ⟨stable_pure _, stable_pure _, stable_pure _, stable_pure _, stable_pure _, stable_pure _, stable_prV _ _, trivial⟩ ?_
    refine wf_stepK [] [] (by kernel_rfl) (by kernel_rfl) (fun wf hb hf => ?_) (fun t0 => ?_)
    · refine ⟨?_⟩
      go_wp2
      exact ⟨rfl, .func (.func 84) #[] #[], by kernel_rfl, Below.refl _ _, rfl⟩
    refine wf_stepK [] [] (by kernel_rfl) (by kernel_rfl) (fun wf hb hf => ?_) (fun t1 => ?_)
    · refine ⟨?_⟩
      go_wp2_with (refine wpList_load_row rfl 50 _ rfl w5.heap.size rfl 50 (relC (r)) (0, 0) _ (k0.below hb) underR rfl (sizeR hR) ?_)
      exact ⟨rfl, _, by kernel_rfl, Below.refl _ _, rfl⟩
    refine wf_stepK [] [] (by kernel_rfl) (by kernel_rfl) (fun wf hb hf => ?_) (fun t2 => ?_)
    · refine ⟨?_⟩
      go_wp2_with (refine wpList_load_row rfl 50 _ rfl (w5.heap.size + 1) rfl 50 (relC (q)) (0, 0) _ (k1.below hb) underR rfl (sizeR hC) ?_)
      exact ⟨rfl, _, by kernel_rfl, Below.refl _ _, rfl⟩
    refine wf_stepK [] [] (by kernel_rfl) (by kernel_rfl) (fun wf hb hf => ?_) (fun t3 => ?_)
    · refine ⟨?_⟩
      go_wp2
      exact ⟨rfl, .slice C ms.length k, by kernel_rfl, Below.refl _ _, rfl⟩
    refine wf_stepK [3] [fun _ => t3 = .slice C ms.length k] (by kernel_rfl) (by kernel_rfl) (fun wf hb hf => ?_) (fun t4 => ?_)
    · obtain ⟨rfl, -⟩ := hf
      refine ⟨?_⟩
      go_wp2_with (go_at_call 48; refine (c2 _ (btr HBW.out hb)).mono ?_; rintro e w2 ⟨rfl, hb2⟩)
      exact ⟨rfl, _, by kernel_rfl, hb2, rfl⟩
    refine wf_stepK [0, 1, 2, 4] [fun _ => t0 = .func (.func 84) #[] #[], fun _ => t1 = .agg (relC (r)), fun _ => t2 = .agg (relC (q)), fun _ => t4 = .agg (relC (m))] (by kernel_rfl) (by kernel_rfl) (fun wf hb hf => ?_) (fun t5 => ?_)
    · obtain ⟨rfl, rfl, rfl, rfl, -⟩ := hf
      refine ⟨?_⟩
      go_wp2_with (go_at_call 84; refine (del1_w r q m _ hR hC hM).mono ?_; rintro e w2 ⟨rfl, hb2⟩)
      exact ⟨rfl, _, by kernel_rfl, hb2, rfl⟩
    refine wf_stepK [5] [fun _ => t5 = .agg (relC (delG r q m))] (by kernel_rfl) (by kernel_rfl) (fun wf hb hf => ?_) (fun t6 => ?_)
    · obtain ⟨rfl, -⟩ := hf
      refine ⟨?_⟩
      go_wp2_with (go_at_call 50; refine (pairs_t _ _ hG).mono ?_; rintro e w2 ⟨Ad, cd, S, rfl, ho, hS, hb2⟩)
      exact ⟨rfl, _, by kernel_rfl, hb2, Ad, cd, S, rfl, ho, fun k hk => ⟨Nat.le_trans hb.size (hS k hk).1, (hS k hk).2⟩⟩
    refine wf_doneK [6] [PrV w6.heap.size (prs (delG r q m)) t6] (by kernel_rfl) (by kernel_rfl) (fun w8 b8 hf => ?_)
    obtain ⟨⟨Ad, cd, S, rfl, ho, hS⟩, -⟩ := hf
    show wpList _ _ _ [_] _ _
    refine wpList_frame (by simp [Act.put]; rfl) ?_
    have HO := Lib.hid (And.intro ho (And.intro hS b8))
    clear ho hS b8 k0 k1 heq hg c2
    go_wp2
    go_ret
    rw [HT.out]
    obtain ⟨ho, hS, b8⟩ := HO.out
    exact ⟨Ad, cd, rfl, SlOw.mono ho (fun k hk => ⟨Nat.le_trans HBW.out.size (hS k hk).1, SlOw.lt ho k hk⟩) (fun k hk => hk.2), btr HBW.out b8⟩
  · have heq : ∀ W, (Op.equalIn 10000 50 (.agg (relC q)) (.agg (relC (closR r)))).run Try.prog W = .ok false W := fun W => by rw [HEQ.out]; simp [e0]
    have HT : Hid (Z = []) := by rw [Hid, HM.out, if_neg e0]
    clear e0 HM HEQ c2 k0 k1
    go_wp2
    go_ret
    rw [HT.out]
    exact ⟨none, 0, rfl, ⟨_, _, SlF.nil (fun k hk => hk.2)⟩, hbW⟩
set_option maxHeartbeats 1600000 in
theorem ClosureDelete_i (A : Option Addr) (c : Nat) (es : List Ent) (B : Option Addr) (d : Nat) (cs : List Ent) (C : Option Addr) (k : Nat) (ms : List Ent) (w : World) (hx : EntsAt w A es) (hy : EntsAt w B cs) (hz : EntsAt w C ms) (hn : es.length ≤ 4194304) (hr : rowsIn es 4194304) (hn1 : cs.length ≤ 4194304) (hr1 : rowsIn cs 4194304) (hn2 : ms.length ≤ 4194304) (hr2 : rowsIn ms 4194304) :
    Calls Try.prog 37 #[.slice A es.length c, .slice B cs.length d, .slice C ms.length k] w fun e w' => ∃ A' c', e = .returned (.slice A' (MntF delG es cs ms).length c') ∧ EntsOw w' (news w w') A' c' (MntF delG es cs ms) ∧ Below w.heap.size w w' := by
  have hcon := maintained_delG A c es B d cs C k ms w hx hy hz hn hr hn1 hr1 hn2 hr2
  clear hx hy hz
  generalize MntF delG es cs ms = Z at *
  go_enter Try.func37, Try.ntmps37
  go_wp2_with fail
  refine hcon.mono ?_
  rintro e w1 ⟨A', c', rfl, ho, b1⟩
  clear hcon
  go_wp2_with fail
  go_ret
  exact ⟨A', c', rfl, ho, b1⟩
end Go.Proofs.Ytageodemjlgdcaa
