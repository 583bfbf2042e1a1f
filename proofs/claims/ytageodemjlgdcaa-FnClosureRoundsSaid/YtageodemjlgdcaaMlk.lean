/- HELPER, no statement of the seat: the laws on closures, as lists; no program. -/
import Derived.Test.YtageodemjlgdcaaMlj
namespace Go.Proofs.Ytageodemjlgdcaa
open Go.RowKit Go.Sort
set_option linter.unusedSimpArgs false
set_option linter.unusedVariables false

theorem edg_rel {z : List Ent} (h : edgB z = true) : ∃ R, OkR R ∧ z = prs R := ⟨relOf z, relOf_ok h, (prs_relOf h).symm⟩
theorem mntF_prs {R M : List Nat} (hR : OkR R) (hM : OkR M) (G : List Nat → List Nat → List Nat → List Nat) : MntF G (prs R) (prs (closR R)) (prs M) = prs (G R (closR R) M) := by
  have hc := closR_ok hR
  have h : mntB (prs R) (prs (closR R)) (prs M) = true := by
    simp only [mntB, prs_edg, relOf_prs hR, relOf_prs hc, Bool.true_and, decide_true]
  rw [MntF, if_pos h, relOf_prs hR, relOf_prs hc, relOf_prs hM]
theorem mnt3 {z y x : List Ent} (h1 : edgB z = true) (h2 : edgB x = true) (h3 : ClosF z = y) : ∃ R M, OkR R ∧ OkR M ∧ z = prs R ∧ x = prs M ∧ y = prs (closR R) ∧ ∀ G, MntF G z y x = prs (G R (closR R) M) := by
  obtain ⟨R, hR, rfl⟩ := edg_rel h1
  obtain ⟨M, hM, rfl⟩ := edg_rel h2
  rw [ClosF_prs hR] at h3
  subst h3
  exact ⟨R, M, hR, hM, rfl, rfl, rfl, fun G => mntF_prs hR hM G⟩
/-- P62 -/
theorem tr_law {z : List Ent} (h : edgB z = true) : decide (ClosF z = z) = TrB z := by
  obtain ⟨R, hR, rfl⟩ := edg_rel h
  rw [ClosF_prs hR, TrB, prs_edg, relOf_prs hR, Bool.true_and, Bool.eq_iff_iff, decide_eq_true_eq, decide_eq_true_eq, trR_iff hR]
  constructor
  · intro h; have h1 := prs_inj (closR_ok hR) hR h; rw [← h1]; exact closR_tr hR
  · intro h; rw [closR_self hR h]
/-- P61 -/
theorem clo_law {z : List Ent} (h : edgB z = true) : (∀ e ∈ z, WeightF (ClosF z) e.1 ≠ 0) ∧ TrB (ClosF z) = true ∧ ClosF (ClosF z) = ClosF z ∧ edgB (ClosF z) = true := by
  obtain ⟨R, hR, rfl⟩ := edg_rel h
  have hc := closR_ok hR
  rw [ClosF_prs hR, ClosF_prs hc, closR_idem hR]
  refine ⟨sub_all hR hc (fun x y h => closR_sub hR h), ?_, rfl, prs_edg _⟩
  rw [TrB, prs_edg, relOf_prs hc, Bool.true_and, decide_eq_true_eq, trR_iff hc]
  exact closR_tr hR
theorem min_law {z y : List Ent} (h : edgB z = true) (h2 : TrB y = true) (h3 : subE z y = true) : ∀ e ∈ ClosF z, WeightF y e.1 ≠ 0 := by
  obtain ⟨R, hR, rfl⟩ := edg_rel h
  have h4 : edgB y = true := by simp only [TrB, Bool.and_eq_true] at h2; exact h2.1
  obtain ⟨S, hS, rfl⟩ := edg_rel h4
  rw [TrB, prs_edg, relOf_prs hS, Bool.true_and, decide_eq_true_eq, trR_iff hS] at h2
  rw [ClosF_prs hR]
  exact sub_all (closR_ok hR) hS (closR_min hR ((subE_prs hR hS).1 h3) h2)
/-- P63 -/
theorem mono_law {a z : List Ent} (h : edgB z = true) (hs : a.Sublist z) : ∀ e ∈ ClosF a, WeightF (ClosF z) e.1 ≠ 0 := by
  have ha := edgB_sub hs h
  have h1 := relOf_sub hs h
  rw [ClosF, if_pos ha, ClosF, if_pos h]
  exact sub_all (closR_ok (relOf_ok ha)) (closR_ok (relOf_ok h)) (closR_mono (relOf_ok ha) (relOf_ok h) h1)
/-- P73 -/
theorem ins_law {z y x : List Ent} (h1 : edgB z = true) (h2 : edgB x = true) (h3 : ClosF z = y) : AddF y (MntF insG z y x) = ClosF (DisF (AddF z x)) := by
  obtain ⟨R, M, hR, hM, rfl, rfl, rfl, hF⟩ := mnt3 h1 h2 h3
  have ho := orR_ok hR hM
  have hn := nandR_ok (closR_ok ho) (closR_ok hR)
  rw [hF, (AddF_uni hR hM).2.1, ClosF_prs ho, insG, add_prs (closR_ok hR) hn (disj_nand (closR_ok ho) (closR_ok hR)), or_nand (closR_ok hR) (closR_ok ho) (closR_mono hR ho (sub_or hR hM))]
/-- P74 -/
theorem del_law {z y x : List Ent} (h1 : edgB z = true) (h2 : edgB x = true) (h3 : ClosF z = y) : (∀ e ∈ MntF delG z y x, WeightF y e.1 ≠ 0) ∧ AddF y (NegF (MntF delG z y x)) = ClosF (DisF (AddF z (NegF x))) := by
  obtain ⟨R, M, hR, hM, rfl, rfl, rfl, hF⟩ := mnt3 h1 h2 h3
  have hc := closR_ok hR
  have hn := nandR_ok hR hM
  have hk := closR_ok hn
  have hd : OkR (delG R (closR R) M) := nandR_ok hc hk
  rw [hF, (minF_dis hR hM).2.1, ClosF_prs hn, (minF_dis hc hd).2.2 (sub_nand hc hk)]
  refine ⟨sub_all hd hc (sub_nand hc hk), ?_⟩
  rw [delG, nand_nand hc hk, and_of_sub hc hk (closR_mono hn hR (sub_nand hR hM))]
/-- P75 -/
theorem over_law {z y x : List Ent} (h1 : edgB z = true) (h2 : edgB x = true) (h3 : ClosF z = y) : AddF (MntF redG z y x) (MntF delG z y x) = MntF ovrG z y x ∧ ∀ e ∈ DisF (AddF z (NegF (DisF (AddF z (NegF x))))), WeightF (MntF ovrG z y x) e.1 ≠ 0 := by
  obtain ⟨R, M, hR, hM, rfl, rfl, rfl, hF⟩ := mnt3 h1 h2 h3
  have hc := closR_ok hR
  have hn := nandR_ok hR hM
  have ha := andR_ok hR hM
  have hk := closR_ok hn
  have ho : OkR (overR (closR R) (andR R M)) := overR_ok hc ha
  obtain ⟨h4, h5⟩ := del_over hR hM
  rw [hF, hF, hF, (minF_dis hR hM).2.1, (minF_dis hR hn).2.1, nand_nand hR hM]
  refine ⟨?_, sub_all ha ho (edge_over hR ha)⟩
  exact (add_prs (r := redG R (closR R) M) (s := delG R (closR R) M) (andR_ok ho hk) (nandR_ok hc hk) h5).trans (congrArg prs h4)
/-- P76 -/
theorem red_law {z y x : List Ent} (h : MntF redG z y x ≠ []) : (∀ e ∈ MntF redG z y x, WeightF (MntF ovrG z y x) e.1 ≠ 0) ∧ ∀ e ∈ MntF redG z y x, WeightF (ClosF (DisF (AddF z (NegF x)))) e.1 ≠ 0 := by
  have hm : mntB z y x = true := by
    cases h1 : mntB z y x
    · exact absurd (by rw [MntF, h1]; rfl) h
    · rfl
  simp only [mntB, Bool.and_eq_true, decide_eq_true_eq] at hm
  obtain ⟨h1, h2, h3, h4⟩ := hm
  have h5 : ClosF z = y := by rw [ClosF, if_pos h1, h4, prs_relOf h2]
  obtain ⟨R, M, hR, hM, rfl, rfl, rfl, hF⟩ := mnt3 h1 h3 h5
  have hc := closR_ok hR
  have hn := nandR_ok hR hM
  have ho : OkR (overR (closR R) (andR R M)) := overR_ok hc (andR_ok hR hM)
  have hk := closR_ok hn
  rw [hF, hF, (minF_dis hR hM).2.1, ClosF_prs hn]
  exact ⟨sub_all (andR_ok ho hk) ho (sub_and_l ho hk), sub_all (andR_ok ho hk) hk (sub_and_r ho hk)⟩
/-- P77 -/
theorem insdel_law {z y x : List Ent} (h1 : edgB z = true) (h2 : edgB x = true) (h3 : ClosF z = y) (h4 : (AddF z x).length = z.length + x.length) : MntF delG (AddF z x) (AddF y (MntF insG z y x)) x = MntF insG z y x := by
  obtain ⟨R, M, hR, hM, rfl, rfl, rfl, hF⟩ := mnt3 h1 h2 h3
  have hd := AddF_disj hR hM h4
  have ho := orR_ok hR hM
  have hn := nandR_ok (closR_ok ho) (closR_ok hR)
  rw [hF, add_prs hR hM hd]
  have h5 : AddF (prs (closR R)) (prs (insG R (closR R) M)) = prs (closR (orR R M)) := by
    rw [insG, add_prs (closR_ok hR) hn (disj_nand (closR_ok ho) (closR_ok hR)), or_nand (closR_ok hR) (closR_ok ho) (closR_mono hR ho (sub_or hR hM))]
  rw [h5, mntF_prs ho hM, delG, nand_or hR hM hd, insG]
theorem mntF_edg (G : List Nat → List Nat → List Nat → List Nat) (z y x : List Ent) : edgB (MntF G z y x) = true := by
  unfold MntF; split
  · exact prs_edg _
  · exact (by rw [← prs_zero]; exact prs_edg _)
end Go.Proofs.Ytageodemjlgdcaa
