/- HELPER, no statement of the seat: the order of frontiers. -/
import Derived.Test.YtkonhjdfcfljpaaFrt
namespace Go.Proofs.Ytkonhjdfcfljpaa
open Go.RowKit Go.Sort
set_option linter.unusedSimpArgs false
set_option linter.unusedVariables false

theorem chain1 {xs : List Tm} : ∀ n, okTo xs (n + 1) → ∀ k, k < n → (tg xs k).1 < (tg xs n).1
  | 0, _, k, hk => by omega
  | n + 1, h, k, hk => by
    have h1 := (gd_parts (h (n + 1) (by omega))).2.1
    rcases Nat.lt_succ_iff_lt_or_eq.1 hk with h' | rfl
    · have := chain1 n (fun i hi => h i (by omega)) k h'; omega
    · exact h1
def tmLt (a b : Tm) : Prop := a.1 < b.1 ∧ b.2 < a.2
theorem frB_sorted {xs : List Tm} (h : frB xs = true) : xs.Pairwise tmLt := by
  have hk : okTo xs xs.length := fun i hi => by
    unfold frB at h
    simp only [Bool.and_eq_true, List.all_eq_true, List.mem_range] at h
    exact h.2 i hi
  rw [List.pairwise_iff_getElem]
  intro i j hi hj hij
  have h1 := chain1 j (fun q hq => hk q (by omega)) i hij
  have h2 := chain j (fun q hq => hk q (by omega)) i hij
  rw [tg_lt hi, tg_lt hj] at h1 h2
  exact ⟨h1, h2⟩
theorem frB_anti {xs : List Tm} (h : frB xs = true) {a b : Tm} (ha : a ∈ xs) (hb : b ∈ xs) (hab : leB a.1 a.2 b.1 b.2 = true) : a = b := by
  have hp := frB_sorted h
  rw [List.pairwise_iff_getElem] at hp
  obtain ⟨i, hi, rfl⟩ := List.getElem_of_mem ha
  obtain ⟨j, hj, rfl⟩ := List.getElem_of_mem hb
  simp only [leB, decide_eq_true_eq] at hab
  rcases Nat.lt_trichotomy i j with h1 | h1 | h1
  · have := hp i j hi hj h1
    unfold tmLt at this
    omega
  · subst h1; rfl
  · have := hp j i hj hi h1
    unfold tmLt at this
    omega
theorem sorted_eqT : ∀ {xs ys : List Tm}, xs.Pairwise tmLt → ys.Pairwise tmLt → (∀ t, t ∈ xs ↔ t ∈ ys) → xs = ys
  | [], [], _, _, _ => rfl
  | [], b :: ys, _, _, h => by have := (h b).2 (by simp); cases this
  | a :: xs, [], _, _, h => by have := (h a).1 (by simp); cases this
  | a :: xs, b :: ys, hx, hy, h => by
    have hx' := List.pairwise_cons.1 hx
    have hy' := List.pairwise_cons.1 hy
    have hab : a = b := by
      rcases List.mem_cons.1 ((h a).1 (by simp)) with e | e
      · exact e
      · rcases List.mem_cons.1 ((h b).2 (by simp)) with e2 | e2
        · exact e2.symm
        · have h1 := hx'.1 b e2
          have h2 := hy'.1 a e
          unfold tmLt at h1 h2
          omega
    subst hab
    rw [sorted_eqT hx'.2 hy'.2 (fun t => ⟨fun ht => by
      rcases List.mem_cons.1 ((h t).1 (List.mem_cons_of_mem _ ht)) with e | e
      · have := hx'.1 t ht; subst e; unfold tmLt at this; omega
      · exact e, fun ht => by
      rcases List.mem_cons.1 ((h t).2 (List.mem_cons_of_mem _ ht)) with e | e
      · have := hy'.1 t ht; subst e; unfold tmLt at this; omega
      · exact e⟩)]
theorem cv_iff {xs : List Tm} {u v : Int} : cvB xs u v = true ↔ ∃ e ∈ xs, leB e.1 e.2 u v = true := by
  unfold cvB
  rw [List.any_eq_true]
theorem leB_self (x y : Int) : leB x y x y = true := by simp [leB]
theorem leB_tr {x y u v p q : Int} (h : leB x y u v = true) (h2 : leB u v p q = true) : leB x y p q = true := by
  simp only [leB, decide_eq_true_eq] at *
  omega
theorem fl_parts {xs ys : List Tm} (h : flB xs ys = true) : frB xs = true ∧ frB ys = true ∧ ∀ e ∈ ys, cvB xs e.1 e.2 = true := by
  simp only [flB, Bool.and_eq_true, List.all_eq_true] at h
  exact ⟨h.1.1, h.1.2, h.2⟩
theorem fl_refl {xs : List Tm} (h : frB xs = true) : flB xs xs = true := by
  simp only [flB, Bool.and_eq_true, List.all_eq_true]
  exact ⟨⟨h, h⟩, fun e he => cv_iff.2 ⟨e, he, leB_self _ _⟩⟩
theorem fl_sub {xs ys : List Tm} (h1 : flB xs ys = true) (h2 : flB ys xs = true) {t : Tm} (ht : t ∈ xs) : t ∈ ys := by
  obtain ⟨f1, f2, c1⟩ := fl_parts h1
  obtain ⟨-, -, c2⟩ := fl_parts h2
  obtain ⟨y, hy, le1⟩ := cv_iff.1 (c2 t ht)
  obtain ⟨x, hx, le2⟩ := cv_iff.1 (c1 y hy)
  have e := frB_anti f1 hx ht (leB_tr le2 le1)
  subst e
  have : y = x := by
    simp only [leB, decide_eq_true_eq] at le1 le2
    exact Prod.ext (by omega) (by omega)
  exact this ▸ hy
theorem fl_antisymm {xs ys : List Tm} (h1 : flB xs ys = true) (h2 : flB ys xs = true) : xs = ys :=
  sorted_eqT (frB_sorted (fl_parts h1).1) (frB_sorted (fl_parts h1).2.1) (fun t => ⟨fl_sub h1 h2, fl_sub h2 h1⟩)
theorem fl_covers {xs ys : List Tm} {u v : Int} (h1 : flB xs ys = true) (h2 : fcB ys u v = true) : fcB xs u v = true := by
  obtain ⟨f1, f2, c1⟩ := fl_parts h1
  simp only [fcB, Bool.and_eq_true] at h2 ⊢
  obtain ⟨y, hy, le1⟩ := cv_iff.1 h2.2
  obtain ⟨x, hx, le2⟩ := cv_iff.1 (c1 y hy)
  exact ⟨⟨f1, h2.1.2⟩, cv_iff.2 ⟨x, hx, leB_tr le2 le1⟩⟩
end Go.Proofs.Ytkonhjdfcfljpaa
