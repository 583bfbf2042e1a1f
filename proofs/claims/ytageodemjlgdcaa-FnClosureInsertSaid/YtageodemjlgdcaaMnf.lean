/- HELPER, no statement of the seat: the program's functions of relations behind closures that are maintained. -/
import Derived.Test.YtageodemjlgdcaaRf
import Derived.Test.YtageodemjlgdcaaGrf
import Derived.Test.YtageodemjlgdcaaMli
namespace Go.Proofs.Ytageodemjlgdcaa
open Go.RowKit Go.Sort Go.Shelf
set_option linter.unusedSimpArgs false
set_option linter.unusedVariables false
def sameTo (k : Nat) : List Nat := (List.range 20).map fun x => if x < k then 2 ^ x else 0
theorem sameTo_len (k : Nat) : (sameTo k).length = 20 := by simp [sameTo]
theorem sameTo_zero : sameTo 0 = zeroR := by decide
theorem sameTo_end : sameTo 20 = idR := by decide
theorem sameTo_set {k : Nat} (hk : k < 20) : (sameTo k).set k (bitOf k) = sameTo (k + 1) := by
  apply List.ext_getElem (by simp [sameTo])
  intro i h1 h2
  rw [List.getElem_set]
  simp only [sameTo, List.getElem_map, List.getElem_range, bitOf]
  by_cases e : k = i
  · subst e; simp
  · rw [if_neg e]
    by_cases h : i < k
    · rw [if_pos h, if_pos (by omega)]
    · rw [if_neg h, if_neg (by omega)]
set_option maxHeartbeats 1600000 in
theorem sameVertices_w (w : World) : Calls Try.prog 115 #[] w fun e w' => e = .returned (.agg (relC idR)) ∧ Below w.heap.size w w' := by
  have hid := idR_ok
  have hend := Lib.hid sameTo_end
  go_enter Try.func115, Try.ntmps115
  go_wp2
  go_loopw [2, 3] (fun z i wr => ∃ k : Nat, k ≤ 20 ∧ i = .int .i64 k ∧ Blk wr w.heap.size 50 (relC zeroR) ∧ Blk wr (w.heap.size + 1) 50 (relC (sameTo k)) ∧ Below w.heap.size w wr) (fun _ i _ => 20 - (intOf i).toNat)
  case atStart => exact ⟨0, by omega, rfl, (Blk.newAt rfl).alloc _, Blk.newAt (by simp), bal (bal (Below.refl _ _) _) _⟩
  case round =>
    obtain ⟨k, hk, rfl, hZ, hB, hbel⟩ := hrel
    by_cases hlt : k < 20
    · have hcon := fun W => setOfVertex_w k hlt W
      have q := (hB.cell k).trans (relC_at (by rw [sameTo_len]; exact hlt))
      have qf := hB.frozen k
      have hset : Hid ((relC (sameTo k)).setIfInBounds k (.int .u32 ((bitOf k : Nat) : Int)) = relC (sameTo (k + 1))) := by rw [Hid, relC_set, sameTo_set hlt]
      have hlt' : (k : Int) < 20 := by omega
      have H1 := Lib.hid hB
      have H2 := Lib.hid hZ
      have H3 := Lib.hid hbel
      generalize (sameTo k).getD k 0 = x at *
      generalize bitOf k = y at *
      clear hB hZ hbel
      go_wp2_with fail
      refine (hcon _).mono ?_
      rintro e w2 ⟨rfl, rfl⟩
      clear hcon
      go_wp2
      go_roundw
      case rel => exact ⟨k + 1, by omega, by go_num, H2.out.far (by simp) _, by rw [← hset.out]; exact H1.out.set_ _ _, bset H3.out (by simp) _⟩
      case measure => simp [intOf]; omega
    · obtain rfl : k = 20 := by omega
      rw [hend.out] at hB
      have H3 := Lib.hid hbel
      have HR := Lib.hid (hZ.row (relC idR))
      clear hbel
      go_wp2_with (first | refine wpList_load_row rfl 50 _ rfl (w.heap.size + 1) rfl 50 (relC idR) (0, 0) _ hB underR rfl (sizeR hid) ?_ | refine wpList_store_row rfl 50 _ _ rfl w.heap.size (relC idR) rfl rfl 50 (relC zeroR) hZ (sizeR hid) (by rw [relC_size, relC_size, zeroR_ok.len, hid.len]) (relC_one _) ?_)
      refine bodyPost_ret (results_cell_row rfl _ _ w.heap.size 50 (relC idR) (0, 0) _ rfl HR.out underR rfl (sizeR hid)) rfl ?_
      exact ⟨rfl, brow H3.out (Nat.le_refl _) _⟩
set_option maxHeartbeats 1600000 in
theorem ins1_w (r c m : List Nat) (w : World) (hr : OkR r) (hc : OkR c) (hm : OkR m) : Calls Try.prog 78 #[.agg (relC r), .agg (relC c), .agg (relC m)] w fun e w' => e = .returned (.agg (relC (nandR (closR (orR r m)) c))) ∧ Below w.heap.size w w' := by
  have hu := orR_ok hr hm
  have hcl := closR_ok hu
  have ho : OkR (nandR (closR (orR r m)) c) := nandR_ok hcl hc
  go_enter Try.func78, Try.ntmps78
  go_wp2_with fail
  refine abs_world (fun W => Blk W w.heap.size 50 (relC r) ∧ Blk W (w.heap.size + 1) 50 (relC c) ∧ Blk W (w.heap.size + 2) 50 (relC m) ∧ Blk W (w.heap.size + 3) 50 (relC zeroR) ∧ Below w.heap.size w W) ⟨((((Blk.newAt rfl).alloc _).alloc _).alloc _), (((Blk.newAt (by simp)).alloc _).alloc _), ((Blk.newAt (by simp)).alloc _), (Blk.newAt (by simp)), (bal (bal (bal (bal (Below.refl _ _) _) _) _) _)⟩ ?_
  rintro W ⟨k0, k1, k2, k3, hbW⟩
  refine wp_region_facts [[], [], [0, 1], [0, 1, 2], [], [0, 1, 2, 3, 4]]
    [fun v' _ => v' = .agg (relC (r)), fun v' _ => v' = .agg (relC (m)), fun v' _ => v' = .agg (relC (orR r m)), fun v' _ => v' = .agg (relC (closR (orR r m))), fun v' _ => v' = .agg (relC (c)), fun v' _ => v' = .agg (relC (nandR (closR (orR r m)) c))]
    (by kernel_rfl) (by kernel_rfl) rfl ⟨stable_pure _, stable_pure _, stable_pure _, stable_pure _, stable_pure _, stable_pure _, trivial⟩ ?_
  refine wf_stepK [] [] (by kernel_rfl) (by kernel_rfl) (fun wf hb hf => ?_) (fun t0 => ?_)
  · refine ⟨?_⟩
    go_wp2_with (refine wpList_load_row rfl 50 _ rfl w.heap.size rfl 50 (relC (r)) (0, 0) _ (k0.below hb) underR rfl (sizeR hr) ?_)
    exact ⟨rfl, _, by kernel_rfl, Below.refl _ _, rfl⟩
  refine wf_stepK [] [] (by kernel_rfl) (by kernel_rfl) (fun wf hb hf => ?_) (fun t1 => ?_)
  · refine ⟨?_⟩
    go_wp2_with (refine wpList_load_row rfl 50 _ rfl (w.heap.size + 2) rfl 50 (relC (m)) (0, 0) _ (k2.below hb) underR rfl (sizeR hm) ?_)
    exact ⟨rfl, _, by kernel_rfl, Below.refl _ _, rfl⟩
  refine wf_stepK [0, 1] [fun _ => t0 = .agg (relC (r)), fun _ => t1 = .agg (relC (m))] (by kernel_rfl) (by kernel_rfl) (fun wf hb hf => ?_) (fun t2 => ?_)
  · obtain ⟨rfl, rfl, -⟩ := hf
    refine ⟨?_⟩
    go_wp2_with (go_at_call 79; refine (union_w r m _ hr hm).mono ?_; rintro e w2 ⟨rfl, hb2⟩)
    exact ⟨rfl, _, by kernel_rfl, hb2, rfl⟩
  refine wf_stepK [2] [fun _ => t2 = .agg (relC (orR r m))] (by kernel_rfl) (by kernel_rfl) (fun wf hb hf => ?_) (fun t3 => ?_)
  · obtain ⟨rfl, -⟩ := hf
    refine ⟨?_⟩
    go_wp2_with (go_at_call 49; refine (closure_w _ _ hu).mono ?_; rintro e w2 ⟨rfl, hb2⟩)
    exact ⟨rfl, _, by kernel_rfl, hb2, rfl⟩
  refine wf_stepK [] [] (by kernel_rfl) (by kernel_rfl) (fun wf hb hf => ?_) (fun t4 => ?_)
  · refine ⟨?_⟩
    go_wp2_with (refine wpList_load_row rfl 50 _ rfl (w.heap.size + 1) rfl 50 (relC (c)) (0, 0) _ (k1.below hb) underR rfl (sizeR hc) ?_)
    exact ⟨rfl, _, by kernel_rfl, Below.refl _ _, rfl⟩
  refine wf_stepK [3, 4] [fun _ => t3 = .agg (relC (closR (orR r m))), fun _ => t4 = .agg (relC (c))] (by kernel_rfl) (by kernel_rfl) (fun wf hb hf => ?_) (fun t5 => ?_)
  · obtain ⟨rfl, rfl, -⟩ := hf
    refine ⟨?_⟩
    go_wp2_with (go_at_call 57; refine (without_w _ _ _ hcl hc).mono ?_; rintro e w2 ⟨rfl, hb2⟩)
    exact ⟨rfl, _, by kernel_rfl, hb2, rfl⟩
  refine wf_doneK [5] [fun _ => t5 = .agg (relC (nandR (closR (orR r m)) c))] (by kernel_rfl) (by kernel_rfl) (fun w7 b7 hf => ?_)
  obtain ⟨rfl, -⟩ := hf
  show wpList _ _ _ [_] _ _
  refine wpList_frame (by simp [Act.put]; rfl) ?_
  have hres := k3.below b7
  have HR := Lib.hid (hres.row (relC (nandR (closR (orR r m)) c)))
  have HB := Lib.hid (brow (btr hbW b7) (by omega) (relC (nandR (closR (orR r m)) c)) : Below w.heap.size w (w7.setRow (w.heap.size + 3) (relC (nandR (closR (orR r m)) c))))
  clear hbW b7 k0 k1 k2 k3
  go_wp2_with (refine wpList_store_row rfl 50 _ _ rfl (w.heap.size + 3) (relC (nandR (closR (orR r m)) c)) rfl rfl 50 (relC zeroR) hres (sizeR ho) (by rw [relC_size, relC_size, zeroR_ok.len, (ho).len]) (relC_one _) ?_)
  refine bodyPost_ret (results_cell_row rfl _ _ (w.heap.size + 3) 50 (relC (nandR (closR (orR r m)) c)) (0, 0) _ rfl HR.out underR rfl (sizeR ho)) rfl ?_
  exact ⟨rfl, HB.out⟩
set_option maxHeartbeats 1600000 in
theorem del1_w (r c m : List Nat) (w : World) (hr : OkR r) (hc : OkR c) (hm : OkR m) : Calls Try.prog 84 #[.agg (relC r), .agg (relC c), .agg (relC m)] w fun e w' => e = .returned (.agg (relC (nandR c (closR (nandR r m))))) ∧ Below w.heap.size w w' := by
  have hn := nandR_ok hr hm
  have hcl := closR_ok hn
  have ho : OkR (nandR c (closR (nandR r m))) := nandR_ok hc hcl
  go_enter Try.func84, Try.ntmps84
  go_wp2_with fail
  refine abs_world (fun W => Blk W w.heap.size 50 (relC r) ∧ Blk W (w.heap.size + 1) 50 (relC c) ∧ Blk W (w.heap.size + 2) 50 (relC m) ∧ Blk W (w.heap.size + 3) 50 (relC zeroR) ∧ Below w.heap.size w W) ⟨((((Blk.newAt rfl).alloc _).alloc _).alloc _), (((Blk.newAt (by simp)).alloc _).alloc _), ((Blk.newAt (by simp)).alloc _), (Blk.newAt (by simp)), (bal (bal (bal (bal (Below.refl _ _) _) _) _) _)⟩ ?_
  rintro W ⟨k0, k1, k2, k3, hbW⟩
  refine wp_region_facts [[], [], [], [1, 2], [1, 2, 3], [0, 1, 2, 3, 4]]
    [fun v' _ => v' = .agg (relC (c)), fun v' _ => v' = .agg (relC (r)), fun v' _ => v' = .agg (relC (m)), fun v' _ => v' = .agg (relC (nandR r m)), fun v' _ => v' = .agg (relC (closR (nandR r m))), fun v' _ => v' = .agg (relC (nandR c (closR (nandR r m))))]
    (by kernel_rfl) (by kernel_rfl) rfl ⟨stable_pure _, stable_pure _, stable_pure _, stable_pure _, stable_pure _, stable_pure _, trivial⟩ ?_
  refine wf_stepK [] [] (by kernel_rfl) (by kernel_rfl) (fun wf hb hf => ?_) (fun t0 => ?_)
  · refine ⟨?_⟩
    go_wp2_with (refine wpList_load_row rfl 50 _ rfl (w.heap.size + 1) rfl 50 (relC (c)) (0, 0) _ (k1.below hb) underR rfl (sizeR hc) ?_)
    exact ⟨rfl, _, by kernel_rfl, Below.refl _ _, rfl⟩
  refine wf_stepK [] [] (by kernel_rfl) (by kernel_rfl) (fun wf hb hf => ?_) (fun t1 => ?_)
  · refine ⟨?_⟩
    go_wp2_with (refine wpList_load_row rfl 50 _ rfl w.heap.size rfl 50 (relC (r)) (0, 0) _ (k0.below hb) underR rfl (sizeR hr) ?_)
    exact ⟨rfl, _, by kernel_rfl, Below.refl _ _, rfl⟩
  refine wf_stepK [] [] (by kernel_rfl) (by kernel_rfl) (fun wf hb hf => ?_) (fun t2 => ?_)
  · refine ⟨?_⟩
    go_wp2_with (refine wpList_load_row rfl 50 _ rfl (w.heap.size + 2) rfl 50 (relC (m)) (0, 0) _ (k2.below hb) underR rfl (sizeR hm) ?_)
    exact ⟨rfl, _, by kernel_rfl, Below.refl _ _, rfl⟩
  refine wf_stepK [1, 2] [fun _ => t1 = .agg (relC (r)), fun _ => t2 = .agg (relC (m))] (by kernel_rfl) (by kernel_rfl) (fun wf hb hf => ?_) (fun t3 => ?_)
  · obtain ⟨rfl, rfl, -⟩ := hf
    refine ⟨?_⟩
    go_wp2_with (go_at_call 57; refine (without_w r m _ hr hm).mono ?_; rintro e w2 ⟨rfl, hb2⟩)
    exact ⟨rfl, _, by kernel_rfl, hb2, rfl⟩
  refine wf_stepK [3] [fun _ => t3 = .agg (relC (nandR r m))] (by kernel_rfl) (by kernel_rfl) (fun wf hb hf => ?_) (fun t4 => ?_)
  · obtain ⟨rfl, -⟩ := hf
    refine ⟨?_⟩
    go_wp2_with (go_at_call 49; refine (closure_w _ _ hn).mono ?_; rintro e w2 ⟨rfl, hb2⟩)
    exact ⟨rfl, _, by kernel_rfl, hb2, rfl⟩
  refine wf_stepK [0, 4] [fun _ => t0 = .agg (relC (c)), fun _ => t4 = .agg (relC (closR (nandR r m)))] (by kernel_rfl) (by kernel_rfl) (fun wf hb hf => ?_) (fun t5 => ?_)
  · obtain ⟨rfl, rfl, -⟩ := hf
    refine ⟨?_⟩
    go_wp2_with (go_at_call 57; refine (without_w _ _ _ hc hcl).mono ?_; rintro e w2 ⟨rfl, hb2⟩)
    exact ⟨rfl, _, by kernel_rfl, hb2, rfl⟩
  refine wf_doneK [5] [fun _ => t5 = .agg (relC (nandR c (closR (nandR r m))))] (by kernel_rfl) (by kernel_rfl) (fun w7 b7 hf => ?_)
  obtain ⟨rfl, -⟩ := hf
  show wpList _ _ _ [_] _ _
  refine wpList_frame (by simp [Act.put]; rfl) ?_
  have hres := k3.below b7
  have HR := Lib.hid (hres.row (relC (nandR c (closR (nandR r m)))))
  have HB := Lib.hid (brow (btr hbW b7) (by omega) (relC (nandR c (closR (nandR r m)))) : Below w.heap.size w (w7.setRow (w.heap.size + 3) (relC (nandR c (closR (nandR r m))))))
  clear hbW b7 k0 k1 k2 k3
  go_wp2_with (refine wpList_store_row rfl 50 _ _ rfl (w.heap.size + 3) (relC (nandR c (closR (nandR r m)))) rfl rfl 50 (relC zeroR) hres (sizeR ho) (by rw [relC_size, relC_size, zeroR_ok.len, (ho).len]) (relC_one _) ?_)
  refine bodyPost_ret (results_cell_row rfl _ _ (w.heap.size + 3) 50 (relC (nandR c (closR (nandR r m)))) (0, 0) _ rfl HR.out underR rfl (sizeR ho)) rfl ?_
  exact ⟨rfl, HB.out⟩
set_option maxHeartbeats 1600000 in
theorem over_w (r c m : List Nat) (w : World) (hr : OkR r) (hc : OkR c) (hm : OkR m) : Calls Try.prog 86 #[.agg (relC r), .agg (relC c), .agg (relC m)] w fun e w' => e = .returned (.agg (relC (overR c (andR r m)))) ∧ Below w.heap.size w w' := by
  have hq := orR_ok hc idR_ok
  have ha := andR_ok hr hm
  have h1 := thenR_ok hq ha
  have ho : OkR (overR c (andR r m)) := overR_ok hc ha
  go_enter Try.func86, Try.ntmps86
  go_wp2_with fail
  refine abs_world (fun W => Blk W w.heap.size 50 (relC r) ∧ Blk W (w.heap.size + 1) 50 (relC c) ∧ Blk W (w.heap.size + 2) 50 (relC m) ∧ Blk W (w.heap.size + 3) 50 (relC zeroR) ∧ Below w.heap.size w W) ⟨((((Blk.newAt rfl).alloc _).alloc _).alloc _), (((Blk.newAt (by simp)).alloc _).alloc _), ((Blk.newAt (by simp)).alloc _), (Blk.newAt (by simp)), (bal (bal (bal (bal (Below.refl _ _) _) _) _) _)⟩ ?_
  rintro W ⟨k0, k1, k2, k3, hbW⟩
  refine wp_region_facts [[], [], [0, 1], []]
    [fun v' _ => v' = .agg (relC (c)), fun v' _ => v' = .agg (relC (idR)), fun v' _ => v' = .agg (relC (orR c idR)), AtBlk W.heap.size 50 (relC zeroR)]
    (by kernel_rfl) (by kernel_rfl) rfl ⟨stable_pure _, stable_pure _, stable_pure _, stable_atBlk _ _ _, trivial⟩ ?_
  refine wf_stepK [] [] (by kernel_rfl) (by kernel_rfl) (fun wf hb hf => ?_) (fun t0 => ?_)
  · refine ⟨?_⟩
    go_wp2_with (refine wpList_load_row rfl 50 _ rfl (w.heap.size + 1) rfl 50 (relC (c)) (0, 0) _ (k1.below hb) underR rfl (sizeR hc) ?_)
    exact ⟨rfl, _, by kernel_rfl, Below.refl _ _, rfl⟩
  refine wf_stepK [] [] (by kernel_rfl) (by kernel_rfl) (fun wf hb hf => ?_) (fun t1 => ?_)
  · refine ⟨?_⟩
    go_wp2_with (go_at_call 115; refine (sameVertices_w _).mono ?_; rintro e w2 ⟨rfl, hb2⟩)
    exact ⟨rfl, _, by kernel_rfl, hb2, rfl⟩
  refine wf_stepK [0, 1] [fun _ => t0 = .agg (relC (c)), fun _ => t1 = .agg (relC (idR))] (by kernel_rfl) (by kernel_rfl) (fun wf hb hf => ?_) (fun t2 => ?_)
  · obtain ⟨rfl, rfl, -⟩ := hf
    refine ⟨?_⟩
    go_wp2_with (go_at_call 79; refine (union_w c idR _ hc idR_ok).mono ?_; rintro e w2 ⟨rfl, hb2⟩)
    exact ⟨rfl, _, by kernel_rfl, hb2, rfl⟩
  refine wf_stepK [] [] (by kernel_rfl) (by kernel_rfl) (fun wf hb hf => ?_) (fun t3 => ?_)
  · refine ⟨?_⟩
    go_wp2
    exact ⟨rfl, .pointer (some ⟨wf.heap.size, 0, none⟩), by kernel_rfl, bal (Below.refl _ _) _, wf.heap.size, rfl, hb.size, Blk.newAt rfl⟩
  refine wf_doneK [2, 3] [fun _ => t2 = .agg (relC (orR c idR)), AtBlk W.heap.size 50 (relC zeroR) t3] (by kernel_rfl) (by kernel_rfl) (fun w6 b6 hf => ?_)
  obtain ⟨rfl, ⟨b, rfl, hbb, hBb⟩, -⟩ := hf
  show wpList _ _ _ [_] _ _
  refine wpList_frame (by simp [Act.put]; rfl) ?_
  have hlt3 := k3.lt
  have Q0 := Lib.hid ((k0.below b6).rowFar (by omega) (relC (orR c idR)) : Blk (w6.setRow b (relC (orR c idR))) w.heap.size 50 (relC r))
  have Q2 := Lib.hid ((k2.below b6).rowFar (by omega) (relC (orR c idR)) : Blk (w6.setRow b (relC (orR c idR))) (w.heap.size + 2) 50 (relC m))
  have Q3 := Lib.hid ((k3.below b6).rowFar (by omega) (relC (orR c idR)) : Blk (w6.setRow b (relC (orR c idR))) (w.heap.size + 3) 50 (relC zeroR))
  have QS := Lib.hid (hBb.row (relC (orR c idR)))
  have HV := Lib.hid (brow (btr hbW b6) (by omega) (relC (orR c idR)) : Below w.heap.size w (w6.setRow b (relC (orR c idR))))
  clear k0 k1 k2 k3 hbW b6
  refine wpList_store_row rfl 50 _ _ rfl b (relC (orR c idR)) rfl rfl 50 (relC zeroR) hBb (sizeR hq) (by rw [relC_size, relC_size, zeroR_ok.len, hq.len]) (relC_one _) ?_
  rw [wpList]
  clear hBb
  go_wp2_with fail
  refine abs_world (fun V => Blk V w.heap.size 50 (relC r) ∧ Blk V (w.heap.size + 2) 50 (relC m) ∧ Blk V (w.heap.size + 3) 50 (relC zeroR) ∧ Blk V b 50 (relC (orR c idR)) ∧ Below w.heap.size w V) ⟨Q0.out, Q2.out, Q3.out, QS.out, HV.out⟩ ?_
  clear Q0 Q2 Q3 QS HV
  rintro V ⟨q0, q2, q3, qs, hbV⟩
  refine wp_region_facts [[], [], [], [1, 2], [0, 1, 2, 3], [], [0, 1, 2, 3, 4, 5]]
    [fun v' _ => v' = .agg (relC (orR c idR)), fun v' _ => v' = .agg (relC (r)), fun v' _ => v' = .agg (relC (m)), fun v' _ => v' = .agg (relC (andR r m)), fun v' _ => v' = .agg (relC (thenR (orR c idR) (andR r m))), fun v' _ => v' = .agg (relC (orR c idR)), fun v' _ => v' = .agg (relC (overR c (andR r m)))]
    (by kernel_rfl) (by kernel_rfl) rfl ⟨stable_pure _, stable_pure _, stable_pure _, stable_pure _, stable_pure _, stable_pure _, stable_pure _, trivial⟩ ?_
  refine wf_stepK [] [] (by kernel_rfl) (by kernel_rfl) (fun wf hb hf => ?_) (fun t0 => ?_)
  · refine ⟨?_⟩
    go_wp2_with (refine wpList_load_row rfl 50 _ rfl b rfl 50 (relC (orR c idR)) (0, 0) _ (qs.below hb) underR rfl (sizeR hq) ?_)
    exact ⟨rfl, _, by kernel_rfl, Below.refl _ _, rfl⟩
  refine wf_stepK [] [] (by kernel_rfl) (by kernel_rfl) (fun wf hb hf => ?_) (fun t1 => ?_)
  · refine ⟨?_⟩
    go_wp2_with (refine wpList_load_row rfl 50 _ rfl w.heap.size rfl 50 (relC (r)) (0, 0) _ (q0.below hb) underR rfl (sizeR hr) ?_)
    exact ⟨rfl, _, by kernel_rfl, Below.refl _ _, rfl⟩
  refine wf_stepK [] [] (by kernel_rfl) (by kernel_rfl) (fun wf hb hf => ?_) (fun t2 => ?_)
  · refine ⟨?_⟩
    go_wp2_with (refine wpList_load_row rfl 50 _ rfl (w.heap.size + 2) rfl 50 (relC (m)) (0, 0) _ (q2.below hb) underR rfl (sizeR hm) ?_)
    exact ⟨rfl, _, by kernel_rfl, Below.refl _ _, rfl⟩
  refine wf_stepK [1, 2] [fun _ => t1 = .agg (relC (r)), fun _ => t2 = .agg (relC (m))] (by kernel_rfl) (by kernel_rfl) (fun wf hb hf => ?_) (fun t3 => ?_)
  · obtain ⟨rfl, rfl, -⟩ := hf
    refine ⟨?_⟩
    go_wp2_with (go_at_call 90; refine (common_w r m _ hr hm).mono ?_; rintro e w2 ⟨rfl, hb2⟩)
    exact ⟨rfl, _, by kernel_rfl, hb2, rfl⟩
  refine wf_stepK [0, 3] [fun _ => t0 = .agg (relC (orR c idR)), fun _ => t3 = .agg (relC (andR r m))] (by kernel_rfl) (by kernel_rfl) (fun wf hb hf => ?_) (fun t4 => ?_)
  · obtain ⟨rfl, rfl, -⟩ := hf
    refine ⟨?_⟩
    go_wp2_with (go_at_call 56; refine (then_w _ _ _ hq ha).mono ?_; rintro e w2 ⟨rfl, hb2⟩)
    exact ⟨rfl, _, by kernel_rfl, hb2, rfl⟩
  refine wf_stepK [] [] (by kernel_rfl) (by kernel_rfl) (fun wf hb hf => ?_) (fun t5 => ?_)
  · refine ⟨?_⟩
    go_wp2_with (refine wpList_load_row rfl 50 _ rfl b rfl 50 (relC (orR c idR)) (0, 0) _ (qs.below hb) underR rfl (sizeR hq) ?_)
    exact ⟨rfl, _, by kernel_rfl, Below.refl _ _, rfl⟩
  refine wf_stepK [4, 5] [fun _ => t4 = .agg (relC (thenR (orR c idR) (andR r m))), fun _ => t5 = .agg (relC (orR c idR))] (by kernel_rfl) (by kernel_rfl) (fun wf hb hf => ?_) (fun t6 => ?_)
  · obtain ⟨rfl, rfl, -⟩ := hf
    refine ⟨?_⟩
    go_wp2_with (go_at_call 56; refine (then_w _ _ _ h1 hq).mono ?_; rintro e w2 ⟨rfl, hb2⟩)
    exact ⟨rfl, _, by kernel_rfl, hb2, rfl⟩
  refine wf_doneK [6] [fun _ => t6 = .agg (relC (overR c (andR r m)))] (by kernel_rfl) (by kernel_rfl) (fun w7 b7 hf => ?_)
  obtain ⟨rfl, -⟩ := hf
  show wpList _ _ _ [_] _ _
  refine wpList_frame (by simp [Act.put]; rfl) ?_
  have hres := q3.below b7
  have HR := Lib.hid (hres.row (relC (overR c (andR r m))))
  have HB := Lib.hid (brow (btr hbV b7) (by omega) (relC (overR c (andR r m))) : Below w.heap.size w (w7.setRow (w.heap.size + 3) (relC (overR c (andR r m)))))
  clear b7 q0 q2 q3 hbV qs
  go_wp2_with (refine wpList_store_row rfl 50 _ _ rfl (w.heap.size + 3) (relC (overR c (andR r m))) rfl rfl 50 (relC zeroR) hres (sizeR ho) (by rw [relC_size, relC_size, zeroR_ok.len, (ho).len]) (relC_one _) ?_)
  refine bodyPost_ret (results_cell_row rfl _ _ (w.heap.size + 3) 50 (relC (overR c (andR r m))) (0, 0) _ rfl HR.out underR rfl (sizeR ho)) rfl ?_
  exact ⟨rfl, HB.out⟩
set_option maxHeartbeats 1600000 in
theorem red1_w (r c m : List Nat) (w : World) (hr : OkR r) (hc : OkR c) (hm : OkR m) : Calls Try.prog 89 #[.agg (relC r), .agg (relC c), .agg (relC m)] w fun e w' => e = .returned (.agg (relC (andR (overR c (andR r m)) (closR (nandR r m))))) ∧ Below w.heap.size w w' := by
  have ha := andR_ok hr hm
  have hv := overR_ok hc ha
  have hn := nandR_ok hr hm
  have hcl := closR_ok hn
  have ho : OkR (andR (overR c (andR r m)) (closR (nandR r m))) := andR_ok hv hcl
  go_enter Try.func89, Try.ntmps89
  go_wp2_with fail
  refine abs_world (fun W => Blk W w.heap.size 50 (relC r) ∧ Blk W (w.heap.size + 1) 50 (relC c) ∧ Blk W (w.heap.size + 2) 50 (relC m) ∧ Blk W (w.heap.size + 3) 50 (relC zeroR) ∧ Below w.heap.size w W) ⟨((((Blk.newAt rfl).alloc _).alloc _).alloc _), (((Blk.newAt (by simp)).alloc _).alloc _), ((Blk.newAt (by simp)).alloc _), (Blk.newAt (by simp)), (bal (bal (bal (bal (Below.refl _ _) _) _) _) _)⟩ ?_
  rintro W ⟨k0, k1, k2, k3, hbW⟩
  refine wp_region_facts [[], [], [], [0, 1, 2], [], [], [4, 5], [4, 5, 6], [0, 1, 2, 3, 4, 5, 6, 7]]
    [fun v' _ => v' = .agg (relC (r)), fun v' _ => v' = .agg (relC (c)), fun v' _ => v' = .agg (relC (m)), fun v' _ => v' = .agg (relC (overR c (andR r m))), fun v' _ => v' = .agg (relC (r)), fun v' _ => v' = .agg (relC (m)), fun v' _ => v' = .agg (relC (nandR r m)), fun v' _ => v' = .agg (relC (closR (nandR r m))), fun v' _ => v' = .agg (relC (andR (overR c (andR r m)) (closR (nandR r m))))]
    (by kernel_rfl) (by kernel_rfl) rfl ⟨stable_pure _, stable_pure _, stable_pure _, stable_pure _, stable_pure _, stable_pure _, stable_pure _, stable_pure _, stable_pure _, trivial⟩ ?_
  refine wf_stepK [] [] (by kernel_rfl) (by kernel_rfl) (fun wf hb hf => ?_) (fun t0 => ?_)
  · refine ⟨?_⟩
    go_wp2_with (refine wpList_load_row rfl 50 _ rfl w.heap.size rfl 50 (relC (r)) (0, 0) _ (k0.below hb) underR rfl (sizeR hr) ?_)
    exact ⟨rfl, _, by kernel_rfl, Below.refl _ _, rfl⟩
  refine wf_stepK [] [] (by kernel_rfl) (by kernel_rfl) (fun wf hb hf => ?_) (fun t1 => ?_)
  · refine ⟨?_⟩
    go_wp2_with (refine wpList_load_row rfl 50 _ rfl (w.heap.size + 1) rfl 50 (relC (c)) (0, 0) _ (k1.below hb) underR rfl (sizeR hc) ?_)
    exact ⟨rfl, _, by kernel_rfl, Below.refl _ _, rfl⟩
  refine wf_stepK [] [] (by kernel_rfl) (by kernel_rfl) (fun wf hb hf => ?_) (fun t2 => ?_)
  · refine ⟨?_⟩
    go_wp2_with (refine wpList_load_row rfl 50 _ rfl (w.heap.size + 2) rfl 50 (relC (m)) (0, 0) _ (k2.below hb) underR rfl (sizeR hm) ?_)
    exact ⟨rfl, _, by kernel_rfl, Below.refl _ _, rfl⟩
  refine wf_stepK [0, 1, 2] [fun _ => t0 = .agg (relC (r)), fun _ => t1 = .agg (relC (c)), fun _ => t2 = .agg (relC (m))] (by kernel_rfl) (by kernel_rfl) (fun wf hb hf => ?_) (fun t3 => ?_)
  · obtain ⟨rfl, rfl, rfl, -⟩ := hf
    refine ⟨?_⟩
    go_wp2_with (go_at_call 86; refine (over_w r c m _ hr hc hm).mono ?_; rintro e w2 ⟨rfl, hb2⟩)
    exact ⟨rfl, _, by kernel_rfl, hb2, rfl⟩
  refine wf_stepK [] [] (by kernel_rfl) (by kernel_rfl) (fun wf hb hf => ?_) (fun t4 => ?_)
  · refine ⟨?_⟩
    go_wp2_with (refine wpList_load_row rfl 50 _ rfl w.heap.size rfl 50 (relC (r)) (0, 0) _ (k0.below hb) underR rfl (sizeR hr) ?_)
    exact ⟨rfl, _, by kernel_rfl, Below.refl _ _, rfl⟩
  refine wf_stepK [] [] (by kernel_rfl) (by kernel_rfl) (fun wf hb hf => ?_) (fun t5 => ?_)
  · refine ⟨?_⟩
    go_wp2_with (refine wpList_load_row rfl 50 _ rfl (w.heap.size + 2) rfl 50 (relC (m)) (0, 0) _ (k2.below hb) underR rfl (sizeR hm) ?_)
    exact ⟨rfl, _, by kernel_rfl, Below.refl _ _, rfl⟩
  refine wf_stepK [4, 5] [fun _ => t4 = .agg (relC (r)), fun _ => t5 = .agg (relC (m))] (by kernel_rfl) (by kernel_rfl) (fun wf hb hf => ?_) (fun t6 => ?_)
  · obtain ⟨rfl, rfl, -⟩ := hf
    refine ⟨?_⟩
    go_wp2_with (go_at_call 57; refine (without_w r m _ hr hm).mono ?_; rintro e w2 ⟨rfl, hb2⟩)
    exact ⟨rfl, _, by kernel_rfl, hb2, rfl⟩
  refine wf_stepK [6] [fun _ => t6 = .agg (relC (nandR r m))] (by kernel_rfl) (by kernel_rfl) (fun wf hb hf => ?_) (fun t7 => ?_)
  · obtain ⟨rfl, -⟩ := hf
    refine ⟨?_⟩
    go_wp2_with (go_at_call 49; refine (closure_w _ _ hn).mono ?_; rintro e w2 ⟨rfl, hb2⟩)
    exact ⟨rfl, _, by kernel_rfl, hb2, rfl⟩
  refine wf_stepK [3, 7] [fun _ => t3 = .agg (relC (overR c (andR r m))), fun _ => t7 = .agg (relC (closR (nandR r m)))] (by kernel_rfl) (by kernel_rfl) (fun wf hb hf => ?_) (fun t8 => ?_)
  · obtain ⟨rfl, rfl, -⟩ := hf
    refine ⟨?_⟩
    go_wp2_with (go_at_call 90; refine (common_w _ _ _ hv hcl).mono ?_; rintro e w2 ⟨rfl, hb2⟩)
    exact ⟨rfl, _, by kernel_rfl, hb2, rfl⟩
  refine wf_doneK [8] [fun _ => t8 = .agg (relC (andR (overR c (andR r m)) (closR (nandR r m))))] (by kernel_rfl) (by kernel_rfl) (fun w7 b7 hf => ?_)
  obtain ⟨rfl, -⟩ := hf
  show wpList _ _ _ [_] _ _
  refine wpList_frame (by simp [Act.put]; rfl) ?_
  have hres := k3.below b7
  have HR := Lib.hid (hres.row (relC (andR (overR c (andR r m)) (closR (nandR r m)))))
  have HB := Lib.hid (brow (btr hbW b7) (by omega) (relC (andR (overR c (andR r m)) (closR (nandR r m)))) : Below w.heap.size w (w7.setRow (w.heap.size + 3) (relC (andR (overR c (andR r m)) (closR (nandR r m))))))
  clear hbW b7 k0 k1 k2 k3
  go_wp2_with (refine wpList_store_row rfl 50 _ _ rfl (w.heap.size + 3) (relC (andR (overR c (andR r m)) (closR (nandR r m)))) rfl rfl 50 (relC zeroR) hres (sizeR ho) (by rw [relC_size, relC_size, zeroR_ok.len, (ho).len]) (relC_one _) ?_)
  refine bodyPost_ret (results_cell_row rfl _ _ (w.heap.size + 3) 50 (relC (andR (overR c (andR r m)) (closR (nandR r m)))) (0, 0) _ rfl HR.out underR rfl (sizeR ho)) rfl ?_
  exact ⟨rfl, HB.out⟩
end Go.Proofs.Ytageodemjlgdcaa
