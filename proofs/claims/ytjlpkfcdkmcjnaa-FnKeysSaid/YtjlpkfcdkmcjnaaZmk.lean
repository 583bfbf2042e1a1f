/- HELPER, no statement of the seat: when a list is a Z-set; parts of Z-sets. -/
import Derived.Test.YtjlpkfcdkmcjnaaSumsE
namespace Go.Proofs.Ytjlpkfcdkmcjnaa
set_option linter.unusedSimpArgs false
set_option linter.unusedVariables false

theorem asc_lt_ {z : List Ent} (h : Asc lessB z) {i j : Nat} (hi : i < z.length) (hj : j < z.length) (hij : i < j) : lessB z[i].1 z[j].1 = true := List.pairwise_iff_getElem.1 h i j hi hj hij
theorem zsB_mk {l : List Ent} {n : Nat} (h4 : l.length ≤ 400) (hs : ∀ e ∈ l, sumE e = true) (h0 : ∀ e ∈ l, e.2 ≠ 0) (hn : ∀ e ∈ l, e.1.length = n) (ha : Asc lessB l) : zsB l = true := by
  have h1 : sumsB l = true := allTo_iff.2 (fun k hk => by rw [nth_get hk]; exact hs _ (List.getElem_mem hk))
  have h2 : ordB l = true := allTo_iff.2 (fun k hk => by
    have hw : wid l = n := by rw [wid, nth_get (show 0 < l.length by omega)]; exact hn _ (List.getElem_mem _)
    simp only [stepB, nth_get hk, Bool.and_eq_true, Bool.or_eq_true, decide_eq_true_eq]
    refine ⟨h0 _ (List.getElem_mem hk), by rw [hw]; exact hn _ (List.getElem_mem hk), ?_⟩
    rcases Nat.eq_zero_or_pos k with rfl | hp
    · exact .inl rfl
    · right
      rw [nth_get (show k - 1 < l.length by omega)]
      exact asc_lt_ ha (by omega) hk (by omega))
  simp [zsB, h4, h1, h2]
theorem zsB_sumE {l : List Ent} (h : zsB l = true) : ∀ e ∈ l, sumE e = true := fun e he => by
  obtain ⟨j, hj, rfl⟩ := List.getElem_of_mem he
  have := zsB_get h hj
  simp [sumE, this.1, this.2.1]
theorem zsB_ne {l : List Ent} (h : zsB l = true) : ∀ e ∈ l, e.2 ≠ 0 := fun e he => by
  obtain ⟨j, hj, rfl⟩ := List.getElem_of_mem he
  exact (zsB_get h hj).2.2.1
theorem zsB_wid {l : List Ent} (h : zsB l = true) : ∀ e ∈ l, e.1.length = wid l := fun e he => by
  obtain ⟨j, hj, rfl⟩ := List.getElem_of_mem he
  exact (zsB_get h hj).2.2.2
theorem zsB_sub {l m : List Ent} (hs : l.Sublist m) (h : zsB m = true) : zsB l = true :=
  zsB_mk (n := wid m) (Nat.le_trans hs.length_le (zsB_len h)) (fun e he => zsB_sumE h e (hs.subset he)) (fun e he => zsB_ne h e (hs.subset he)) (fun e he => zsB_wid h e (hs.subset he)) (List.Pairwise.sublist hs (zsB_asc h))
theorem zsB_filter {l : List Ent} (p : Ent → Bool) (h : zsB l = true) : zsB (l.filter p) = true := zsB_sub List.filter_sublist h
theorem chkF_filter {l : List Ent} (p : Ent → Bool) (h : zsB l = true) : chkF (l.filter p) = l.filter p := by simp [chkF, zsB_filter p h]
theorem wid_row {l : List Ent} (h : zsB l = true) (hp : 0 < l.length) : 1 ≤ wid l ∧ wid l ≤ 6 := by
  have h1 := zsB_get h hp
  have := h1.1
  rw [← h1.2.2.2]
  simp only [rowB, decide_eq_true_eq] at this
  exact ⟨this.1, this.2.1⟩
theorem wid_zero {l : List Ent} (h : zsB l = true) : wid l = 0 ↔ l = [] := by
  constructor
  · intro hw
    rcases Nat.eq_zero_or_pos l.length with h0 | hp
    · exact List.eq_nil_of_length_eq_zero h0
    · have := (wid_row h hp).1; omega
  · rintro rfl; rfl
end Go.Proofs.Ytjlpkfcdkmcjnaa
