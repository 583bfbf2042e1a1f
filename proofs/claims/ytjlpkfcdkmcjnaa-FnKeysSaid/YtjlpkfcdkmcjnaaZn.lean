/- HELPER, no statement of the seat: sets of rows, weights of rows, parts of Z-sets; no program. -/
import Derived.Test.YtjlpkfcdkmcjnaaZl
namespace Go.Proofs.Ytjlpkfcdkmcjnaa
set_option linter.unusedSimpArgs false
set_option linter.unusedVariables false

theorem wOf_mem {l : List Ent} (h : Asc lessB l) {e : Ent} (he : e ∈ l) : wOf l e.1 = e.2 := by
  obtain ⟨j, hj, rfl⟩ := List.getElem_of_mem he
  refine wOf_hit (fun x hx => ?_) hj rfl
  rw [List.mem_take_iff_getElem] at hx
  obtain ⟨i, hi, rfl⟩ := hx
  have hij : i < j := by omega
  exact rowTot.ne (asc_lt_ h (by omega) hj hij)
theorem wOf_not {l : List Ent} {r : List Int} (h : ∀ e ∈ l, e.1 ≠ r) : wOf l r = 0 := wOf_none (fun e he => h e (List.mem_of_mem_take he))
theorem asc_key {l : List Ent} (h : Asc lessB l) {x y : Ent} (hx : x ∈ l) (hy : y ∈ l) (e : x.1 = y.1) : x = y := by
  obtain ⟨i, hi, rfl⟩ := List.getElem_of_mem hx
  obtain ⟨j, hj, rfl⟩ := List.getElem_of_mem hy
  rcases Nat.lt_trichotomy i j with h1 | h1 | h1
  · exact absurd e (rowTot.ne (asc_lt_ h hi hj h1))
  · subst h1; rfl
  · exact absurd e.symm (rowTot.ne (asc_lt_ h hj hi h1))
theorem mem_disL {z : List Ent} {e : Ent} : e ∈ disL z ↔ ∃ q ∈ z, 0 < q.2 ∧ e = (q.1, 1) := by
  unfold disL
  rw [List.mem_map]
  constructor
  · rintro ⟨q, hq, rfl⟩
    have := List.mem_filter.1 hq
    exact ⟨q, this.1, by simpa using this.2, rfl⟩
  · rintro ⟨q, hq, h0, rfl⟩
    exact ⟨q, List.mem_filter.2 ⟨hq, by simpa using h0⟩, rfl⟩
theorem disL_asc {z : List Ent} (h : Asc lessB z) : Asc lessB (disL z) := by
  unfold disL
  rw [Asc, List.pairwise_map]
  exact List.Pairwise.sublist List.filter_sublist h
theorem zsB_disL {z : List Ent} (h : zsB z = true) : zsB (disL z) = true := by
  refine zsB_mk (n := wid z) ?_ (fun e he => ?_) (fun e he => ?_) (fun e he => ?_) (disL_asc (zsB_asc h))
  · unfold disL
    rw [List.length_map]
    exact Nat.le_trans (List.length_filter_le _ _) (zsB_len h)
  · obtain ⟨q, hq, -, rfl⟩ := mem_disL.1 he
    have := zsB_sumE h q hq
    simp only [sumE, Bool.and_eq_true] at this ⊢
    exact ⟨this.1, rfl⟩
  · obtain ⟨q, hq, -, rfl⟩ := mem_disL.1 he
    simp
  · obtain ⟨q, hq, -, rfl⟩ := mem_disL.1 he
    exact zsB_wid h q hq
theorem DisF_is {z : List Ent} (h : zsB z = true) : DisF z = disL z := by simp [DisF, h]
theorem DisF_no {z : List Ent} (h : zsB z = false) : DisF z = [] := by simp [DisF, h]
theorem zsB_DisF {z : List Ent} (h : zsB z = true) : zsB (DisF z) = true := by rw [DisF_is h]; exact zsB_disL h
theorem WeightF_dis_pos {z : List Ent} (h : zsB z = true) {k : Nat} (hk : k < z.length) (hp : 0 < z[k].2) : WeightF (DisF z) z[k].1 = 1 := by
  have hd := zsB_DisF h
  simp only [WeightF, hd, if_true]
  rw [DisF_is h]
  exact wOf_mem (e := (z[k].1, 1)) (disL_asc (zsB_asc h)) (mem_disL.2 ⟨z[k], List.getElem_mem hk, hp, rfl⟩)
theorem WeightF_dis_neg {z : List Ent} (h : zsB z = true) {k : Nat} (hk : k < z.length) (hp : ¬ 0 < z[k].2) : WeightF (DisF z) z[k].1 = 0 := by
  have hd := zsB_DisF h
  simp only [WeightF, hd, if_true]
  rw [DisF_is h]
  refine wOf_not fun e he hr => ?_
  obtain ⟨q, hq, h0, rfl⟩ := mem_disL.1 he
  have := asc_key (zsB_asc h) hq (List.getElem_mem hk) hr
  subst this
  exact hp h0
theorem oneB_iff {z : List Ent} : oneB z = true ↔ ∀ e ∈ z, e.2 = 1 := by
  unfold oneB
  rw [allTo_iff]
  constructor
  · intro h e he
    obtain ⟨j, hj, rfl⟩ := List.getElem_of_mem he
    have := h j hj
    rw [nth_get hj] at this
    simpa using this
  · intro h k hk
    rw [nth_get hk]
    simpa using h _ (List.getElem_mem hk)
theorem disL_one (z : List Ent) : ∀ e ∈ disL z, e.2 = 1 := fun e he => by
  obtain ⟨q, _, _, rfl⟩ := mem_disL.1 he
  rfl
theorem setB_DisF {z : List Ent} (h : zsB z = true) : setB (DisF z) = true := by
  simp only [setB, zsB_DisF h, Bool.true_and]
  rw [DisF_is h]
  exact oneB_iff.2 (disL_one z)
theorem disL_self {z : List Ent} (h : ∀ e ∈ z, e.2 = 1) : disL z = z := by
  unfold disL
  rw [List.filter_eq_self.2 (fun e he => by rw [h e he]; decide)]
  have : z.map (fun e => (e.1, (1 : Int))) = z.map id := List.map_congr_left (fun e he => by
    obtain ⟨r, x⟩ := e
    have := h _ he
    simp only at this
    subst this
    rfl)
  rw [this, List.map_id]
theorem DisF_DisF {z : List Ent} (h : zsB z = true) : DisF (DisF z) = DisF z := by
  rw [DisF_is (zsB_DisF h), DisF_is h]
  exact disL_self (disL_one z)
theorem setB_eq {z : List Ent} (h : zsB z = true) : setB z = decide (DisF z = z) := by
  simp only [setB, h, Bool.true_and]
  rw [DisF_is h, Bool.eq_iff_iff, oneB_iff, decide_eq_true_eq]
  constructor
  · exact disL_self
  · intro e x hx
    rw [← e] at hx
    exact disL_one z x hx
theorem totW_one {l : List Ent} (h : ∀ e ∈ l, e.2 = 1) : totW l = l.length := by
  induction l with
  | nil => rfl
  | cons e l ih =>
    have h1 : totW (e :: l) = e.2 + totW l := by simp [totW]
    rw [h1, h e (by simp), ih (fun x hx => h x (by simp [hx])), List.length_cons]
    push_cast
    omega
theorem TotF_DisF {z : List Ent} (h : zsB z = true) : TotF (DisF z) = ((DisF z).length : Int) := by
  simp only [TotF, zsB_DisF h, if_true]
  rw [DisF_is h]
  exact totW_one (disL_one z)

/-! ### Sums of lists -/
theorem nz_norm_z {z : List Ent} (h : zsB z = true) : nz (NormL z) = z := by
  have := nz_ext rowTot (NormL_asc z) (zsB_asc h) (fun r => NormL_wsum z r)
  rw [this, zsB_nz h]
theorem zsB_sums {z : List Ent} (h : zsB z = true) : sumsB z = true := by
  simp only [zsB, Bool.and_eq_true] at h
  exact h.2.1
theorem NormF_self {z : List Ent} (h : zsB z = true) : NormF z = z := by
  have h4 := zsB_len h
  simp only [NormF, zsB_sums h, h4, decide_true, Bool.and_self, if_true]
  rw [nz_norm_z h]
  simp [chkF, h]
theorem zsB_NormF (l : List Ent) : zsB (NormF l) = true := by
  unfold NormF
  split
  · exact zsB_chk' _
  · rfl
theorem sumsB_iff {l : List Ent} : sumsB l = true ↔ ∀ e ∈ l, sumE e = true := by
  unfold sumsB
  rw [allTo_iff]
  constructor
  · intro h e he
    obtain ⟨j, hj, rfl⟩ := List.getElem_of_mem he
    have := h j hj
    rwa [nth_get hj] at this
  · intro h k hk
    rw [nth_get hk]
    exact h _ (List.getElem_mem hk)
theorem NormF_perm {l m : List Ent} (h : l.Perm m) : NormF l = NormF m := by
  have h1 : sumsB l = sumsB m := by
    rw [Bool.eq_iff_iff, sumsB_iff, sumsB_iff]
    exact ⟨fun g e he => g e (h.mem_iff.2 he), fun g e he => g e (h.mem_iff.1 he)⟩
  have h2 : nz (NormL l) = nz (NormL m) := nz_ext rowTot (NormL_asc l) (NormL_asc m) (fun r => by rw [NormL_wsum, NormL_wsum, wsum_perm h])
  unfold NormF
  rw [h1, h.length_eq, h2]
theorem wsum_at {l : List Ent} (h : Asc lessB l) {e : Ent} (he : e ∈ l) : wsum l e.1 = e.2 := by
  induction l with
  | nil => cases he
  | cons x l ih =>
    obtain ⟨h1, h2⟩ := List.pairwise_cons.1 h
    rw [wsum_cons]
    rcases List.mem_cons.1 he with rfl | he
    · rw [if_pos rfl, wsum_zero (fun y hy e2 => rowTot.ne (h1 y hy) e2.symm)]; omega
    · rw [if_neg (rowTot.ne (h1 e he)), ih h2 he]; omega
/-- An entry of a sum has the sum of the weights of its row. -/
theorem NormF_wt {l : List Ent} {e : Ent} (he : e ∈ NormF l) : wsum l e.1 = e.2 := by
  unfold NormF at he
  split at he
  · unfold chkF at he
    split at he
    · have h1 : Asc lessB (nz (NormL l)) := nz_asc (NormL_asc l)
      have h2 := NormL_wsum l e.1
      rw [← h2, ← nz_wsum]
      exact wsum_at h1 he
    · cases he
  · cases he
end Go.Proofs.Ytjlpkfcdkmcjnaa
