/- HELPER, no statement of the seat: the program's CheckClosure. -/
import Derived.Test.YtifjenleoagefaaGreatCcl
import Derived.Test.YtifjenleoagefaaGreatCge
namespace Go.Proofs.YtifjenleoagefaaGreat
open Go.RowKit Go.Sort Go.Shelf
set_option linter.unusedSimpArgs false
set_option linter.unusedVariables false

theorem foldset (off : Nat) : ∀ (c : List Value) (k : Nat) (p m q : List Value), p.length = off + k → m.length = c.length →
    (c.zipIdx k).foldl (fun (cs : Array Value) (x : Value × Nat) => cs.setIfInBounds (off + x.2) x.1) (p ++ m ++ q).toArray = (p ++ c ++ q).toArray
  | [], k, p, m, q, hp, hm => by
    have : m = [] := List.length_eq_zero_iff.1 hm
    subst this; rfl
  | v :: c, k, p, u :: m, q, hp, hm => by
    rw [List.zipIdx_cons, List.foldl_cons]
    have e1 : (p ++ u :: m ++ q).toArray.setIfInBounds (off + k) v = ((p ++ [v]) ++ m ++ q).toArray := by
      rw [List.setIfInBounds_toArray]
      congr 1
      rw [List.append_assoc, List.set_append_right _ _ (by omega), hp, Nat.sub_self]
      simp
    rw [e1, foldset off c (k + 1) (p ++ [v]) m q (by simp; omega) (by simpa using hm)]
    simp
theorem fill2 (place : Nat → Option (Nat × Nat)) (z c0 c1 : Array Value) (n m : Nat) (h0 : place 0 = some (0, n)) (h1 : place 1 = some (n, m)) (hz : z.size = n + m) (hc0 : c0.size = n) (hc1 : c1.size = m) : Instr.fill place z [(0, .agg c0), (1, .agg c1)] = some (c0 ++ c1) := by
  obtain ⟨z⟩ := z
  obtain ⟨c0⟩ := c0
  obtain ⟨c1⟩ := c1
  simp only [List.size_toArray] at hz hc0 hc1
  have e1 : Array.foldl (fun (cs : Array Value) (x : Value × Nat) => cs.setIfInBounds (0 + x.2) x.1) z.toArray c0.toArray.zipIdx = (c0 ++ z.drop n).toArray := by
    have := foldset 0 c0 0 [] (z.take n) (z.drop n) rfl (by simp; omega)
    rw [List.nil_append, List.take_append_drop, List.nil_append] at this
    rw [← this]
    simp
  have e2 : Array.foldl (fun (cs : Array Value) (x : Value × Nat) => cs.setIfInBounds (n + x.2) x.1) (c0 ++ z.drop n).toArray c1.toArray.zipIdx = (c0 ++ c1).toArray := by
    have := foldset n c1 0 c0 (z.drop n) [] (by omega) (by simp; omega)
    rw [List.append_nil, List.append_nil] at this
    rw [← this]
    simp
  have f : ∀ (c : List Value), (Value.agg c.toArray).cells = c.toArray := fun _ => rfl
  unfold Instr.fill
  rw [h0]
  dsimp only
  rw [f, if_neg (by simp; omega), e1]
  unfold Instr.fill
  rw [h1]
  dsimp only
  rw [f, if_neg (by simp; omega), e2]
  unfold Instr.fill
  simp
theorem built_cc_eq (parts : List (Nat × Value)) : Tryz.prog.built 74 parts = Instr.fill (fun i => #[(0, 20), (20, 400)][i]?) (Tryz.zeroCells74) parts := by kernel_rfl
theorem zsz_cc : (Tryz.zeroCells74).size = 420 := by kernel_rfl
theorem infoCC : (Tryz.prog.info? 74).map (·.size) = some 420 := by kernel_rfl
theorem built_cc {r : List Nat} {T : List Int} (h : r.length = 20) (hT : T.length = 400) : Tryz.prog.built 74 [(0, .agg (relC r)), (1, .agg (ints T))] = some (relC r ++ ints T) := by
  rw [built_cc_eq]
  exact fill2 _ _ _ _ 20 400 rfl rfl zsz_cc (by rw [relC_size, h]) (by rw [ints_size, hT])
theorem ccC_one (r : List Nat) (T : List Int) : ((relC r ++ ints T).all fun x => x.oneCell') = true := by
  rw [Array.all_append, relC_one, ints_one2]; rfl
/-- What a table holds came out of rows of numbers within bounds. -/
theorem TabF_le {ds : List Ent} {T : List Int} (h : TabF ds = some T) : ∀ u v : Nat, u < 20 → v < 20 → 0 ≤ getT T u v ∧ getT T u v ≤ 9999 := fun u v hu hv => by
  obtain ⟨t1, t2, t3⟩ := TabF_some h
  refine ⟨t2 u v hu hv, ?_⟩
  by_cases h0 : getT T u v = 0
  · omega
  · have hm : ([(u : Int), (v : Int), getT T u v], (1 : Int)) ∈ entT T := mem_entT.2 ⟨u, v, hu, hv, by have := t2 u v hu hv; omega, rfl⟩
    rw [t1] at hm
    obtain ⟨k, hk, e⟩ := List.getElem_of_mem hm
    have hok : tabOk ds = true := by
      rw [TabF] at h; split at h
      · assumption
      · cases h
    have hr := (zsB_get (one_of_set (wid_of hok).1).1 hk).1
    rw [e] at hr
    simp only [rowB, decide_eq_true_eq] at hr
    exact (hr.2.2 (getT T u v) (by simp)).2
set_option maxRecDepth 100000 in
set_option maxHeartbeats 6400000 in
theorem CheckClosure_i (A : Option Addr) (c : Nat) (es : List Ent) (D : Option Addr) (d : Nat) (ds : List Ent) (w : World) (hx : EntsAt w A es) (hy : EntsAt w D ds) (hn : es.length ≤ 4194304) (hr : rowsIn es 4194304) (hm : ds.length ≤ 4194304) (hrd : rowsIn ds 4194304) :
    Calls Tryz.prog 17 #[.slice A es.length c, .slice D ds.length d] w fun e w' => e = .returned (.bool (CckF es ds)) ∧ Below w.heap.size w w' := by
  have hdt := distanceTableOf_i D d ds w hy hm hrd
  have hv := fun W (hb : Below w.heap.size w W) => ValidEdges_i A c es W (hx.below entR hb) hn hr
  have HX := Lib.hid hx
  clear hx hy
  cases h1 : edgB es
  · have HT : Hid (CckF es ds = false) := by simp [Hid, CckF, h1]
    rw [h1] at hv
    clear h1
    go_enter Tryz.func17, Tryz.ntmps17
    go_wp2_with fail
    refine hdt.mono ?_
    rintro e w1 ⟨hres, b1⟩
    clear hdt
    obtain ⟨T, ok, hT4, rfl⟩ : ∃ T ok, T.length = 400 ∧ e = .returned (.tuple #[.agg (ints T), .bool ok]) := by
      rcases hres with ⟨T, _, h4, h5⟩ | ⟨_, h5⟩
      · exact ⟨T, true, h4, h5⟩
      · exact ⟨zeroT, false, zeroT_len, h5⟩
    clear hres
    go_wp2_with (refine wpList_store_row rfl 67 _ _ rfl w1.heap.size (ints T) rfl rfl 67 (ints zeroT) (show Blk _ w1.heap.size 67 (ints zeroT) by rw [← zcT]; exact Blk.newAt rfl) (sizeDT_ hT4) (by rw [ints_size, ints_size, hT4, zeroT_len]) (ints_one2 _) ?_; refine abs_list (fun W => Below w.heap.size w W) (brow (bal b1 _) b1.size _) ?_; rintro w3 hb3; clear b1)
    refine (hv _ hb3).mono ?_
    rintro e w4 ⟨rfl, b4⟩
    have hb4 := btr hb3 b4
    clear hv b4 hb3
    go_wp2
    go_ret
    exact ⟨ret_bool HT.out.symm, hb4⟩
  rw [h1] at hv
  rcases hTF : TabF ds with _ | T
  · have HT : Hid (CckF es ds = false) := CckF_none hTF
    have hdt2 := hdt.mono (R' := fun e w' => e = .returned (.tuple #[.agg (ints zeroT), .bool false]) ∧ Below w.heap.size w w') (by
      rintro e w1 ⟨⟨T, hT, _⟩ | ⟨_, h⟩, b⟩
      · rw [hTF] at hT; cases hT
      · exact ⟨h, b⟩)
    clear hdt hTF h1
    go_enter Tryz.func17, Tryz.ntmps17
    go_wp2_with fail
    refine hdt2.mono ?_
    rintro e w1 ⟨rfl, b1⟩
    clear hdt2
    go_wp2_with (refine wpList_store_row rfl 67 _ _ rfl w1.heap.size (ints zeroT) rfl rfl 67 (ints zeroT) (show Blk _ w1.heap.size 67 (ints zeroT) by rw [← zcT]; exact Blk.newAt rfl) (sizeDT_ zeroT_len) rfl (ints_one2 _) ?_; refine abs_list (fun W => Below w.heap.size w W) (brow (bal b1 _) b1.size _) ?_; rintro w3 hb3; clear b1)
    refine (hv _ hb3).mono ?_
    rintro e w4 ⟨rfl, b4⟩
    have hb4 := btr hb3 b4
    clear hv b4 hb3
    go_wp2
    go_ret
    exact ⟨ret_bool HT.out.symm, hb4⟩
  have hT4 : T.length = 400 := (TabF_some hTF).2.2
  have hro := relOf_ok h1
  have HT : Hid (CckF es ds = allTo (fun x => allTo (fun y => cellB (relOf es) T x y) 20) 20) := CckF_cells h1 hTF
  have hbd := TabF_le hTF
  have hdt2 := hdt.mono (R' := fun e w' => e = .returned (.tuple #[.agg (ints T), .bool true]) ∧ Below w.heap.size w w') (by
    rintro e w1 ⟨⟨T', hT', _, h⟩ | ⟨h, _⟩, b⟩
    · rw [hTF] at hT'; cases hT'; exact ⟨h, b⟩
    · rw [hTF] at h; cases h)
  have hrl := Lib.hid (fun W (hb : Below w.heap.size w W) => relationOf_i A c es W (HX.out.below entR hb) h1)
  have hic := Lib.hid (fun (B : Nat) (W : World) (hB : CkB W B (relOf es) T) => isCertified_w B (relOf es) T W hB hro hT4 hbd)
  clear hdt hTF h1 hbd
  generalize allTo (fun x => allTo (fun y => cellB (relOf es) T x y) 20) 20 = R at *
  generalize relOf es = r at *
  have hbl := Lib.hid (built_cc hro.len hT4)
  have hbk := Lib.hid (built_ck hro.len)
  go_enter Tryz.func17, Tryz.ntmps17
  go_wp2_with fail
  refine hdt2.mono ?_
  rintro e w1 ⟨rfl, b1⟩
  clear hdt2
  have HB1 := Lib.hid b1
  go_wp2_with (refine wpList_store_row rfl 67 _ _ rfl w1.heap.size (ints T) rfl rfl 67 (ints zeroT) (show Blk _ w1.heap.size 67 (ints zeroT) by rw [← zcT]; exact Blk.newAt rfl) (sizeDT_ hT4) (by rw [ints_size, ints_size, hT4, zeroT_len]) (ints_one2 _) ?_; refine abs_list (fun W => Below w.heap.size w W ∧ Blk W w1.heap.size 67 (ints T)) ⟨brow (bal b1 _) b1.size _, (show Blk _ w1.heap.size 67 (ints zeroT) by rw [← zcT]; exact Blk.newAt rfl).row _⟩ ?_; rintro w3 ⟨hb3, k3⟩; clear b1)
  refine (hv _ hb3).mono ?_
  rintro e w4 ⟨rfl, b4⟩
  have hb4 := btr hb3 b4
  have k4 := k3.below b4
  clear hv b4 hb3 k3
  go_wp2_with fail
  refine wp_region_facts [[], [0], [0, 1], [], [0, 1, 2, 3], []]
    [fun v' _ => v' = .slice A es.length c, fun v' _ => v' = .agg (relC r), fun v' _ => v' = .agg (relC r), fun v' _ => v' = .agg (ints T), fun v' _ => v' = .agg (relC r ++ ints T), AtBlk w4.heap.size 74 (Tryz.zeroCells74)]
    (by kernel_rfl) (by kernel_rfl) rfl ⟨stable_pure _, stable_pure _, stable_pure _, stable_pure _, stable_pure _, stable_atBlk _ _ _, trivial⟩ ?_
  refine wf_stepK [] [] (by kernel_rfl) (by kernel_rfl) (fun wf hb hf => ?_) (fun t0 => ?_)
  · refine ⟨?_⟩
    go_wp2
    exact ⟨rfl, .slice A es.length c, by kernel_rfl, Below.refl _ _, rfl⟩
  refine wf_stepK [0] [fun _ => t0 = .slice A es.length c] (by kernel_rfl) (by kernel_rfl) (fun wf hb hf => ?_) (fun t1 => ?_)
  · obtain ⟨rfl, -⟩ := hf
    refine ⟨?_⟩
    go_wp2_with fail
    refine (hrl.out _ (btr hb4 hb)).mono ?_
    rintro e w2 ⟨rfl, b2⟩
    go_wp2
    exact ⟨rfl, .agg (relC r), by kernel_rfl, b2, rfl⟩
  refine wf_stepK [1] [fun _ => t1 = .agg (relC r)] (by kernel_rfl) (by kernel_rfl) (fun wf hb hf => ?_) (fun t2 => ?_)
  · obtain ⟨rfl, -⟩ := hf
    refine ⟨?_⟩
    go_wp2_with (refine wpList_buildK rfl 72 _ rfl (relC r) (Eq.trans (by kernel_rfl) hbk.out) ?_)
    exact ⟨rfl, .agg (relC r), by kernel_rfl, Below.refl _ _, rfl⟩
  refine wf_stepK [] [] (by kernel_rfl) (by kernel_rfl) (fun wf hb hf => ?_) (fun t3 => ?_)
  · refine ⟨?_⟩
    have kz := k4.below hb
    go_wp2_with (refine wpList_load_row rfl 67 _ rfl w1.heap.size rfl 67 (ints T) (0, 0) _ kz underDT_ rfl (sizeDT_ hT4) ?_)
    exact ⟨rfl, .agg (ints T), by kernel_rfl, Below.refl _ _, rfl⟩
  refine wf_stepK [2, 3] [fun _ => t2 = .agg (relC r), fun _ => t3 = .agg (ints T)] (by kernel_rfl) (by kernel_rfl) (fun wf hb hf => ?_) (fun t4 => ?_)
  · obtain ⟨rfl, rfl, -⟩ := hf
    refine ⟨?_⟩
    go_wp2_with (refine wpList_buildK rfl 74 _ rfl (relC r ++ ints T) (Eq.trans (by kernel_rfl) hbl.out) ?_)
    exact ⟨rfl, .agg (relC r ++ ints T), by kernel_rfl, Below.refl _ _, rfl⟩
  refine wf_stepK [] [] (by kernel_rfl) (by kernel_rfl) (fun wf hb hf => ?_) (fun t5 => ?_)
  · refine ⟨?_⟩
    go_wp2
    exact ⟨rfl, _, rfl, bal (Below.refl _ _) _, _, rfl, hb.size, Blk.newAt rfl⟩
  refine wf_doneK [4, 5] [fun _ => t4 = .agg (relC r ++ ints T), AtBlk w4.heap.size 74 (Tryz.zeroCells74) t5] (by kernel_rfl) (by kernel_rfl) (fun w9 b9 hf => ?_)
  obtain ⟨rfl, ⟨b0, rfl, hle0, k0⟩, -⟩ := hf
  show wpList _ _ _ [_] _ _
  refine wpList_frame (by simp [Act.put]; rfl) ?_
  have hb9 := btr hb4 b9
  have hwb : w.heap.size ≤ b0 := Nat.le_trans hb4.size hle0
  clear hb4 b9 k4 hle0
  refine wpList_store_row rfl 74 _ _ rfl b0 (relC r ++ ints T) rfl rfl 74 (Tryz.zeroCells74) k0 (by rw [Array.size_append, relC_size, ints_size, hro.len, hT4]; exact infoCC) (by rw [zsz_cc, Array.size_append, relC_size, ints_size, hro.len, hT4]) (ccC_one _ _) ?_
  refine abs_list (fun W => Below w.heap.size w W ∧ CkB W b0 r T) ⟨brow hb9 hwb _, k0.row _⟩ ?_
  rintro w5 ⟨hb5, k5⟩
  have hcon := hic.out b0 w5 k5
  clear hb9 k0 hic hrl hbl hbk
  go_wp2_with fail
  refine hcon.mono ?_
  rintro e w6 ⟨rfl, b6⟩
  have hb6 := btr hb5 b6
  go_wp2
  go_ret
  exact ⟨ret_bool HT.out.symm, hb6⟩
end Go.Proofs.YtifjenleoagefaaGreat
