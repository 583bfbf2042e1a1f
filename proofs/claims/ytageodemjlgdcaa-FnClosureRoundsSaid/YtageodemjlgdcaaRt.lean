/- HELPER, no statement of the seat: IsTransitive of both sides. -/
import Derived.Test.YtageodemjlgdcaaRs
import Derived.Test.YtageodemjlgdcaaRd
namespace Go.Proofs.Ytageodemjlgdcaa
open Go.RowKit Go.Sort
set_option linter.unusedSimpArgs false
set_option linter.unusedVariables false

def TrF (es : List Ent) : Bool := edgB es && decide ((minE (compE es es) es).length = 0)
theorem edg_two {es : List Ent} (h : edgB es = true) : es.length ≤ 400 ∧ ∀ e ∈ es, e.1.length = 2 := by
  obtain ⟨h1, _, h3⟩ := edgB_parts h
  exact ⟨zsB_len h1, fun e he => by obtain ⟨X, Y, _, _, e1⟩ := edgeE_row (h3 e he); rw [e1]; rfl⟩
theorem comp_edg {es : List Ent} (h : edgB es = true) : compE es es = prs (thenR (relOf es) (relOf es)) := by
  have hr := relOf_ok h
  have := compE_prs hr hr
  rwa [prs_relOf h] at this
theorem min_edg {es : List Ent} (h : edgB es = true) : minE (compE es es) es = prs (nandR (thenR (relOf es) (relOf es)) (relOf es)) := by
  have hr := relOf_ok h
  have := minE_prs (thenR_ok hr hr) hr
  rw [prs_relOf h] at this
  rw [comp_edg h, this]
theorem TrF_rel {es : List Ent} (h : edgB es = true) : TrF es = decide (nandR (thenR (relOf es) (relOf es)) (relOf es) = zeroR) := by
  have hr := relOf_ok h
  unfold TrF
  rw [h, Bool.true_and, min_edg h, Bool.eq_iff_iff, decide_eq_true_eq, decide_eq_true_eq, List.length_eq_zero_iff, rel_zero (nandR_ok (thenR_ok hr hr) hr)]
set_option maxHeartbeats 1600000 in
theorem IsTransitive_s (A : Option Addr) (c : Nat) (es : List Ent) (w : World) (hx : EntsAt w A es) (hn : es.length ≤ 4194304) (hr : rowsIn es 4194304) :
    Calls Try.prog 21 #[.slice A es.length c] w fun e w' => e = .returned (.bool (TrF es)) ∧ Below w.heap.size w w' := by
  have hv := validEdges_s A c es w hx hn hr
  cases h1 : edgB es
  · have HT : Hid (TrF es = false) := by simp [Hid, TrF, h1]
    rw [h1] at hv
    clear h1
    go_enter Try.func21, Try.ntmps21
    go_wp2_with fail
    refine hv.mono ?_
    rintro e w1 ⟨rfl, b1⟩
    clear hv
    go_wp2_with fail
    go_ret
    exact ⟨ret_bool HT.out.symm, b1⟩
  · obtain ⟨hl, h2⟩ := edg_two h1
    have HL2 := Lib.hid h2
    have HCE : Hid (edgB (compE es es) = true) := by rw [Hid, comp_edg h1]; exact prs_edg _
    have HT : Hid (TrF es = decide ((minE (compE es es) es).length = 0)) := by simp [Hid, TrF, h1]
    rw [h1] at hv
    clear h1 h2
    have HX := Lib.hid hx
    go_enter Try.func21, Try.ntmps21
    go_wp2_with fail
    refine hv.mono ?_
    rintro e w1 ⟨rfl, b1⟩
    clear hv
    go_wp2_with fail
    refine (compose_s _ _ es _ _ es _ (HX.out.below entR b1) (HX.out.below entR b1) hl hl HL2.out HL2.out).mono ?_
    rintro e w2 ⟨A2, c2, rfl, o2, b2⟩
    have HB2 := Lib.hid (btr b1 b2)
    have HA2 := Lib.hid (SlOw.at_ entO o2)
    have hce := edg_two HCE.out
    have HCL := Lib.hid hce
    clear o2 b1 b2 hce
    go_wp2_with fail
    refine (minus_s _ _ (compE es es) _ _ es _ HA2.out (HX.out.below entR HB2.out) (by have := HCL.out.1; omega) (fun e he => by have := HCL.out.2 e he; omega) (by omega) hr).mono ?_
    rintro e w3 ⟨A3, c3, rfl, -, o3, b3⟩
    have HB3 := Lib.hid (btr HB2.out b3)
    clear o3 b3
    generalize (minE (compE es es) es).length = m at *
    go_wp2_with fail
    go_ret
    exact ⟨ret_bool (by rw [HT.out]; first | rfl | (rw [Bool.eq_iff_iff]; simp)), HB3.out⟩
set_option maxRecDepth 100000 in
set_option maxHeartbeats 3200000 in
theorem IsTransitive_i (A : Option Addr) (c : Nat) (es : List Ent) (w : World) (hx : EntsAt w A es) (hn : es.length ≤ 4194304) (hr : rowsIn es 4194304) :
    Calls Try.prog 19 #[.slice A es.length c] w fun e w' => e = .returned (.bool (TrF es)) ∧ Below w.heap.size w w' := by
  have hv := ValidEdges_i A c es w hx hn hr
  have HX := Lib.hid hx
  cases h1 : edgB es
  · have HT : Hid (TrF es = false) := by simp [Hid, TrF, h1]
    rw [h1] at hv
    clear h1
    go_enter Try.func19, Try.ntmps19
    go_wp2_with fail
    refine hv.mono ?_
    rintro e w1 ⟨rfl, b1⟩
    clear hv
    go_wp2_with fail
    go_ret
    exact ⟨ret_bool HT.out.symm, b1⟩
  · have hro := relOf_ok h1
    have hth := thenR_ok hro hro
    have hna := nandR_ok hth hro
    have HT := Lib.hid (TrF_rel h1)
    have HE := Lib.hid h1
    rw [h1] at hv
    clear h1
    go_enter Try.func19, Try.ntmps19
    go_wp2_with fail
    refine hv.mono ?_
    rintro e w1 ⟨rfl, b1⟩
    clear hv
    go_wp2_with fail
    refine (relationOf_i _ _ es _ (HX.out.below entR b1) HE.out).mono ?_
    rintro e w3 ⟨rfl, b3⟩
    have HB3 := Lib.hid (btr b1 b3)
    clear b1 b3
    go_wp2_with (refine wpList_store_row rfl 50 _ _ rfl w3.heap.size (relC (relOf es)) rfl rfl 50 (relC zeroR) (show Blk _ w3.heap.size 50 (relC zeroR) from Blk.newAt rfl) (sizeR hro) (by rw [relC_size, relC_size, hro.len]; rfl) (relC_one _) ?_)
    refine abs_world (fun wB => Blk wB w3.heap.size 50 (relC (relOf es)) ∧ Below w.heap.size w wB ∧ w3.heap.size < wB.heap.size) ⟨Blk.row (cs := relC zeroR) (Blk.newAt rfl) _, brow (bal HB3.out _) HB3.out.size _, by simp⟩ (fun wB hB => ?_)
    obtain ⟨hk, hB, hsz⟩ := hB
    refine wp_region_facts [[], [], [0, 1], [], List.range 4, List.range 5]
      [fun v' _ => v' = .agg (relC (relOf es)), fun v' _ => v' = .agg (relC (relOf es)), fun v' _ => v' = .agg (relC (thenR (relOf es) (relOf es))), fun v' _ => v' = .agg (relC (relOf es)), fun v' _ => v' = .agg (relC (nandR (thenR (relOf es) (relOf es)) (relOf es))), fun v' _ => v' = .bool (decide (nandR (thenR (relOf es) (relOf es)) (relOf es) = zeroR))]
      (by kernel_rfl) (by kernel_rfl) rfl ⟨stable_pure _, stable_pure _, stable_pure _, stable_pure _, stable_pure _, stable_pure _, trivial⟩ ?_
    refine wf_stepK [] [] (by kernel_rfl) (by kernel_rfl) (fun wf hb hf => ?_) (fun t0 => ?_)
    · refine ⟨?_⟩
      go_wp2_with (refine wpList_load_row rfl 50 _ rfl w3.heap.size rfl 50 (relC (relOf es)) (0, 0) _ (hk.below hb) underR rfl (sizeR hro) ?_)
      exact ⟨rfl, _, by kernel_rfl, Below.refl _ _, rfl⟩
    refine wf_stepK [] [] (by kernel_rfl) (by kernel_rfl) (fun wf hb hf => ?_) (fun t1 => ?_)
    · refine ⟨?_⟩
      go_wp2_with (refine wpList_load_row rfl 50 _ rfl w3.heap.size rfl 50 (relC (relOf es)) (0, 0) _ (hk.below hb) underR rfl (sizeR hro) ?_)
      exact ⟨rfl, _, by kernel_rfl, Below.refl _ _, rfl⟩
    refine wf_stepK [0, 1] [fun _ => t0 = .agg (relC (relOf es)), fun _ => t1 = .agg (relC (relOf es))] (by kernel_rfl) (by kernel_rfl) (fun wf hb hf => ?_) (fun t2 => ?_)
    · obtain ⟨rfl, rfl, -⟩ := hf
      refine ⟨?_⟩
      go_wp2_with (go_at_call 56; refine (then_w _ _ _ hro hro).mono ?_; rintro e w2 ⟨rfl, hb2⟩)
      exact ⟨rfl, _, by kernel_rfl, hb2, rfl⟩
    refine wf_stepK [] [] (by kernel_rfl) (by kernel_rfl) (fun wf hb hf => ?_) (fun t3 => ?_)
    · refine ⟨?_⟩
      go_wp2_with (refine wpList_load_row rfl 50 _ rfl w3.heap.size rfl 50 (relC (relOf es)) (0, 0) _ (hk.below hb) underR rfl (sizeR hro) ?_)
      exact ⟨rfl, _, by kernel_rfl, Below.refl _ _, rfl⟩
    refine wf_stepK [2, 3] [fun _ => t2 = .agg (relC (thenR (relOf es) (relOf es))), fun _ => t3 = .agg (relC (relOf es))] (by kernel_rfl) (by kernel_rfl) (fun wf hb hf => ?_) (fun t4 => ?_)
    · obtain ⟨rfl, rfl, -⟩ := hf
      refine ⟨?_⟩
      go_wp2_with (go_at_call 57; refine (without_w _ _ _ hth hro).mono ?_; rintro e w2 ⟨rfl, hb2⟩)
      exact ⟨rfl, _, by kernel_rfl, hb2, rfl⟩
    refine wf_stepK [4] [fun _ => t4 = .agg (relC (nandR (thenR (relOf es) (relOf es)) (relOf es)))] (by kernel_rfl) (by kernel_rfl) (fun wf hb hf => ?_) (fun t5 => ?_)
    · obtain ⟨rfl, -⟩ := hf
      refine ⟨?_⟩
      go_wp2_with (go_at_call 58; refine (isEmpty_w _ _ hna).mono ?_; rintro e w2 ⟨rfl, hb2⟩)
      exact ⟨rfl, _, by kernel_rfl, hb2, rfl⟩
    refine wf_doneK [5] [fun _ => t5 = .bool (decide (nandR (thenR (relOf es) (relOf es)) (relOf es) = zeroR))] (by kernel_rfl) (by kernel_rfl) (fun w4 b4 hf => ?_)
    obtain ⟨rfl, -⟩ := hf
    show wpList _ _ _ [_] _ _
    refine wpList_frame (by simp [Act.put]; rfl) ?_
    have HB4 := Lib.hid (btr hB b4)
    go_wp2_with fail
    go_ret
    exact ⟨ret_bool HT.out.symm, HB4.out⟩
end Go.Proofs.Ytageodemjlgdcaa
