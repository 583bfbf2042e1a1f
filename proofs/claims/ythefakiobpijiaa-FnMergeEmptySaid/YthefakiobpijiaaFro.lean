/- HELPER, no statement of the seat: several texts in one file. -/
import Derived.Test.YthefakiobpijiaaFrt
import Derived.Test.YthefakiobpijiaaFrj
/- HELPER, no statement of the seat: the order of frontiers. -/
namespace Go.Proofs.Ythefakiobpijiaa
open Go.RowKit Go.Sort
set_option linter.unusedSimpArgs false
set_option linter.unusedVariables false

theorem chain1 {xs : List Tm} : ∀ n, okTo xs (n + 1) → ∀ k, k < n → (tg xs k).1 < (tg xs n).1
  | 0, _, k, hk => by omega
  | n + 1, h, k, hk => by
    have h1 := (gd_parts (h (n + 1) (by omega))).2.1
    rcases Nat.lt_succ_iff_lt_or_eq.1 hk with h' | rfl
    · have := chain1 n (fun i hi => h i (by omega)) k h'; omega
    · exact h1
def tmLt (a b : Tm) : Prop := a.1 < b.1 ∧ b.2 < a.2
theorem frB_sorted {xs : List Tm} (h : frB xs = true) : xs.Pairwise tmLt := by
  have hk : okTo xs xs.length := fun i hi => by
    unfold frB at h
    simp only [Bool.and_eq_true, List.all_eq_true, List.mem_range] at h
    exact h.2 i hi
  rw [List.pairwise_iff_getElem]
  intro i j hi hj hij
  have h1 := chain1 j (fun q hq => hk q (by omega)) i hij
  have h2 := chain j (fun q hq => hk q (by omega)) i hij
  rw [tg_lt hi, tg_lt hj] at h1 h2
  exact ⟨h1, h2⟩
theorem frB_anti {xs : List Tm} (h : frB xs = true) {a b : Tm} (ha : a ∈ xs) (hb : b ∈ xs) (hab : leB a.1 a.2 b.1 b.2 = true) : a = b := by
  have hp := frB_sorted h
  rw [List.pairwise_iff_getElem] at hp
  obtain ⟨i, hi, rfl⟩ := List.getElem_of_mem ha
  obtain ⟨j, hj, rfl⟩ := List.getElem_of_mem hb
  simp only [leB, decide_eq_true_eq] at hab
  rcases Nat.lt_trichotomy i j with h1 | h1 | h1
  · have := hp i j hi hj h1
    unfold tmLt at this
    omega
  · subst h1; rfl
  · have := hp j i hj hi h1
    unfold tmLt at this
    omega
theorem sorted_eqT : ∀ {xs ys : List Tm}, xs.Pairwise tmLt → ys.Pairwise tmLt → (∀ t, t ∈ xs ↔ t ∈ ys) → xs = ys
  | [], [], _, _, _ => rfl
  | [], b :: ys, _, _, h => by have := (h b).2 (by simp); cases this
  | a :: xs, [], _, _, h => by have := (h a).1 (by simp); cases this
  | a :: xs, b :: ys, hx, hy, h => by
    have hx' := List.pairwise_cons.1 hx
    have hy' := List.pairwise_cons.1 hy
    have hab : a = b := by
      rcases List.mem_cons.1 ((h a).1 (by simp)) with e | e
      · exact e
      · rcases List.mem_cons.1 ((h b).2 (by simp)) with e2 | e2
        · exact e2.symm
        · have h1 := hx'.1 b e2
          have h2 := hy'.1 a e
          unfold tmLt at h1 h2
          omega
    subst hab
    rw [sorted_eqT hx'.2 hy'.2 (fun t => ⟨fun ht => by
      rcases List.mem_cons.1 ((h t).1 (List.mem_cons_of_mem _ ht)) with e | e
      · have := hx'.1 t ht; subst e; unfold tmLt at this; omega
      · exact e, fun ht => by
      rcases List.mem_cons.1 ((h t).2 (List.mem_cons_of_mem _ ht)) with e | e
      · have := hy'.1 t ht; subst e; unfold tmLt at this; omega
      · exact e⟩)]
theorem cv_iff {xs : List Tm} {u v : Int} : cvB xs u v = true ↔ ∃ e ∈ xs, leB e.1 e.2 u v = true := by
  unfold cvB
  rw [List.any_eq_true]
theorem leB_self (x y : Int) : leB x y x y = true := by simp [leB]
theorem leB_tr {x y u v p q : Int} (h : leB x y u v = true) (h2 : leB u v p q = true) : leB x y p q = true := by
  simp only [leB, decide_eq_true_eq] at *
  omega
theorem fl_parts {xs ys : List Tm} (h : flB xs ys = true) : frB xs = true ∧ frB ys = true ∧ ∀ e ∈ ys, cvB xs e.1 e.2 = true := by
  simp only [flB, Bool.and_eq_true, List.all_eq_true] at h
  exact ⟨h.1.1, h.1.2, h.2⟩
theorem fl_refl {xs : List Tm} (h : frB xs = true) : flB xs xs = true := by
  simp only [flB, Bool.and_eq_true, List.all_eq_true]
  exact ⟨⟨h, h⟩, fun e he => cv_iff.2 ⟨e, he, leB_self _ _⟩⟩
theorem fl_sub {xs ys : List Tm} (h1 : flB xs ys = true) (h2 : flB ys xs = true) {t : Tm} (ht : t ∈ xs) : t ∈ ys := by
  obtain ⟨f1, f2, c1⟩ := fl_parts h1
  obtain ⟨-, -, c2⟩ := fl_parts h2
  obtain ⟨y, hy, le1⟩ := cv_iff.1 (c2 t ht)
  obtain ⟨x, hx, le2⟩ := cv_iff.1 (c1 y hy)
  have e := frB_anti f1 hx ht (leB_tr le2 le1)
  subst e
  have : y = x := by
    simp only [leB, decide_eq_true_eq] at le1 le2
    exact Prod.ext (by omega) (by omega)
  exact this ▸ hy
theorem fl_antisymm {xs ys : List Tm} (h1 : flB xs ys = true) (h2 : flB ys xs = true) : xs = ys :=
  sorted_eqT (frB_sorted (fl_parts h1).1) (frB_sorted (fl_parts h1).2.1) (fun t => ⟨fl_sub h1 h2, fl_sub h2 h1⟩)
theorem fl_covers {xs ys : List Tm} {u v : Int} (h1 : flB xs ys = true) (h2 : fcB ys u v = true) : fcB xs u v = true := by
  obtain ⟨f1, f2, c1⟩ := fl_parts h1
  simp only [fcB, Bool.and_eq_true] at h2 ⊢
  obtain ⟨y, hy, le1⟩ := cv_iff.1 h2.2
  obtain ⟨x, hx, le2⟩ := cv_iff.1 (c1 y hy)
  exact ⟨⟨f1, h2.1.2⟩, cv_iff.2 ⟨x, hx, leB_tr le2 le1⟩⟩
end Go.Proofs.Ythefakiobpijiaa

/- HELPER, no statement of the seat: the minimal times of a list are a frontier that covers what the list covers. -/
namespace Go.Proofs.Ythefakiobpijiaa
open Go.RowKit Go.Sort
set_option linter.unusedSimpArgs false
set_option linter.unusedVariables false

theorem keepF_mem {t e : Tm} {xs : List Tm} : e ∈ keepF t xs ↔ e ∈ xs ∧ leB t.1 t.2 e.1 e.2 = false := by
  unfold keepF
  rw [List.mem_filter]
  simp
theorem cv_false {xs : List Tm} {u v : Int} (h : cvB xs u v = false) {e : Tm} (he : e ∈ xs) : leB e.1 e.2 u v = false := by
  cases hl : leB e.1 e.2 u v
  · rfl
  · rw [cv_iff.2 ⟨e, he, hl⟩] at h; cases h
theorem insAt_mem {t e : Tm} {ks : List Tm} : e ∈ insAt t ks ↔ e = t ∨ e ∈ ks := by
  unfold insAt
  simp only [List.mem_append, List.mem_singleton]
  have : e ∈ ks ↔ e ∈ ks.take (plc t ks) ∨ e ∈ ks.drop (plc t ks) := by rw [← List.mem_append, List.take_append_drop]
  rw [this]
  constructor
  · rintro ((h | h) | h)
    · exact .inr (.inl h)
    · exact .inl h
    · exact .inr (.inr h)
  · rintro (h | h | h)
    · exact .inl (.inr h)
    · exact .inl (.inl h)
    · exact .inr h
/-- Before t and after t. -/
theorem tm_lo {e t : Tm} (hb : bfB e.1 e.2 t.1 t.2 = true) (h1 : leB e.1 e.2 t.1 t.2 = false) : tmLt e t := by
  simp only [bfB, leB, decide_eq_true_eq, decide_eq_false_iff_not] at hb h1
  unfold tmLt
  omega
theorem tm_hi {e t : Tm} (hb : bfB e.1 e.2 t.1 t.2 = false) (h2 : leB t.1 t.2 e.1 e.2 = false) : tmLt t e := by
  simp only [bfB, leB, decide_eq_false_iff_not] at hb h2
  unfold tmLt
  omega
theorem insAt_sorted {t : Tm} {ks : List Tm} (hs : ks.Pairwise tmLt) (h1 : ∀ e ∈ ks, leB e.1 e.2 t.1 t.2 = false) (h2 : ∀ e ∈ ks, leB t.1 t.2 e.1 e.2 = false) : (insAt t ks).Pairwise tmLt := by
  unfold insAt
  have hlo : ∀ e ∈ ks.take (plc t ks), tmLt e t := fun e he => by
    obtain ⟨i, hi, rfl⟩ := List.mem_take_iff_getElem.1 he
    have hi2 : i < ks.length := by omega
    exact tm_lo (plc_lt t ks i hi2 (by omega)) (h1 _ (List.getElem_mem hi2))
  have hhi : ∀ e ∈ ks.drop (plc t ks), tmLt t e := fun e he => by
    obtain ⟨i, hi, rfl⟩ := List.mem_drop_iff_getElem.1 he
    have h0 := plc_at t ks (by omega)
    have hb := tm_hi h0 (h2 _ (List.getElem_mem (by omega)))
    rcases Nat.eq_zero_or_pos i with rfl | hp
    · simpa using hb
    · have := List.pairwise_iff_getElem.1 hs (plc t ks) (plc t ks + i) (by omega) (by omega) (by omega)
      unfold tmLt at hb this ⊢
      omega
  rw [List.append_assoc, List.pairwise_append]
  refine ⟨hs.sublist (List.take_sublist _ _), ?_, fun a ha b hb => ?_⟩
  · rw [List.singleton_append, List.pairwise_cons]
    exact ⟨hhi, hs.sublist (List.drop_sublist _ _)⟩
  · rcases List.mem_append.1 hb with hb | hb
    · simp at hb; subst hb; exact hlo a ha
    · have x := hlo a ha
      have y := hhi b hb
      unfold tmLt at x y ⊢
      omega
theorem insT_sorted {t : Tm} {xs : List Tm} (hs : xs.Pairwise tmLt) : (insT xs t).Pairwise tmLt := by
  by_cases h : cvB xs t.1 t.2 = true
  · rw [insT_cv h]; exact hs
  · have h' : cvB xs t.1 t.2 = false := by simpa using h
    rw [insT_at h']
    exact insAt_sorted (hs.sublist List.filter_sublist) (fun e he => cv_false h' (keepF_mem.1 he).1) (fun e he => (keepF_mem.1 he).2)
theorem insT_mem {t e : Tm} {xs : List Tm} (h : e ∈ insT xs t) : e = t ∨ e ∈ xs := by
  by_cases hc : cvB xs t.1 t.2 = true
  · rw [insT_cv hc] at h; exact .inr h
  · rw [insT_at (by simpa using hc), insAt_mem] at h
    rcases h with h | h
    · exact .inl h
    · exact .inr (keepF_mem.1 h).1
theorem insT_covers (t : Tm) (xs : List Tm) (u v : Int) : cvB (insT xs t) u v = (cvB xs u v || leB t.1 t.2 u v) := by
  rw [Bool.eq_iff_iff, Bool.or_eq_true, cv_iff, cv_iff]
  by_cases hc : cvB xs t.1 t.2 = true
  · rw [insT_cv hc]
    refine ⟨.inl, fun h => h.elim id (fun h => ?_)⟩
    obtain ⟨e, he, hl⟩ := cv_iff.1 hc
    exact ⟨e, he, leB_tr hl h⟩
  · rw [insT_at (by simpa using hc)]
    constructor
    · rintro ⟨e, he, hl⟩
      rcases insAt_mem.1 he with rfl | he
      · exact .inr hl
      · exact .inl ⟨e, (keepF_mem.1 he).1, hl⟩
    · rintro (⟨e, he, hl⟩ | h)
      · cases hk : leB t.1 t.2 e.1 e.2
        · exact ⟨e, insAt_mem.2 (.inr (keepF_mem.2 ⟨he, hk⟩)), hl⟩
        · exact ⟨t, insAt_mem.2 (.inl rfl), leB_tr hk hl⟩
      · exact ⟨t, insAt_mem.2 (.inl rfl), h⟩
theorem foldT_sorted : ∀ (l f : List Tm), f.Pairwise tmLt → (l.foldl insT f).Pairwise tmLt
  | [], f, h => h
  | t :: l, f, h => foldT_sorted l _ (insT_sorted h)
theorem minT_sorted (l : List Tm) : (minT l).Pairwise tmLt := foldT_sorted l [] List.Pairwise.nil
theorem foldT_mem : ∀ (l f : List Tm) (e : Tm), e ∈ l.foldl insT f → e ∈ l ∨ e ∈ f
  | [], f, e, h => .inr h
  | t :: l, f, e, h => by
    rcases foldT_mem l _ e h with h | h
    · exact .inl (List.mem_cons_of_mem _ h)
    · rcases insT_mem h with rfl | h
      · exact .inl (by simp)
      · exact .inr h
theorem minT_mem {l : List Tm} {e : Tm} (h : e ∈ minT l) : e ∈ l := (foldT_mem l [] e h).elim id (fun h => by cases h)
theorem foldT_covers (u v : Int) : ∀ (l f : List Tm), cvB (l.foldl insT f) u v = (cvB f u v || cvB l u v)
  | [], f => by simp [cvB]
  | t :: l, f => by
    rw [List.foldl_cons, foldT_covers u v l, insT_covers, Bool.or_assoc]
    rfl
theorem minT_covers (l : List Tm) (u v : Int) : cvB (minT l) u v = cvB l u v := by
  have := foldT_covers u v l []
  unfold minT
  rw [this]
  simp [cvB]
theorem foldT_same : ∀ (l f : List Tm), (f ++ l).Pairwise tmLt → l.foldl insT f = f ++ l
  | [], f, _ => by simp
  | t :: l, f, h => by
    have h0 := (List.pairwise_append.1 h).2.2
    have hc : cvB f t.1 t.2 = false := by
      cases hc : cvB f t.1 t.2
      · rfl
      · obtain ⟨e, he, hl⟩ := cv_iff.1 hc
        have := h0 e he t (by simp)
        simp only [leB, decide_eq_true_eq] at hl
        unfold tmLt at this
        omega
    have hk : keepF t f = f := List.filter_eq_self.2 (fun e he => by
      have := h0 e he t (by simp)
      unfold tmLt at this
      simp only [leB, Bool.not_eq_true', decide_eq_false_iff_not]
      omega)
    have hp : plc t f = f.length := plc_of t f f.length (Nat.le_refl _) (fun j hj _ => by
      have := h0 f[j] (List.getElem_mem hj) t (by simp)
      unfold tmLt at this
      simp only [bfB, decide_eq_true_eq]
      omega) (fun h => absurd h (Nat.lt_irrefl _))
    have hi : insT f t = f ++ [t] := by
      rw [insT_at hc, hk]
      unfold insAt
      rw [hp, List.take_length, List.drop_length, List.append_nil]
    rw [List.foldl_cons, hi, foldT_same l (f ++ [t]) (by simpa using h)]
    simp
theorem minT_same {l : List Tm} (h : l.Pairwise tmLt) : minT l = l := by
  have := foldT_same l [] (by simpa using h)
  simpa [minT] using this
theorem sorted_lo {xs : List Tm} (hs : xs.Pairwise tmLt) (hv : ∀ e ∈ xs, 0 ≤ e.1) : ∀ i (h : i < xs.length), (i : Int) ≤ xs[i].1
  | 0, h => by have := hv _ (List.getElem_mem h); simpa using this
  | i + 1, h => by
    have h1 := sorted_lo hs hv i (by omega)
    have h2 := (List.pairwise_iff_getElem.1 hs i (i + 1) (by omega) h (by omega)).1
    omega
theorem vt_parts {x y : Int} (h : vtB x y = true) : 0 ≤ x ∧ x ≤ 99 ∧ 0 ≤ y ∧ y ≤ 99 := by simpa [vtB] using h
theorem sorted_len {xs : List Tm} (hs : xs.Pairwise tmLt) (hv : ∀ e ∈ xs, vtB e.1 e.2 = true) : xs.length ≤ 100 := by
  rcases Nat.lt_or_ge 100 xs.length with h | h
  · have h1 := sorted_lo hs (fun e he => (vt_parts (hv e he)).1) 100 h
    have h2 := (vt_parts (hv _ (List.getElem_mem h))).2.1
    omega
  · exact h
theorem sorted_frB {xs : List Tm} (hs : xs.Pairwise tmLt) (hv : ∀ e ∈ xs, vtB e.1 e.2 = true) : frB xs = true := by
  rw [frB_end (fun i hi => ?_), decide_eq_true_iff]
  · exact sorted_len hs hv
  · unfold gd
    rw [tg_lt hi, hv _ (List.getElem_mem hi), Bool.true_and]
    rcases Nat.eq_zero_or_pos i with rfl | hp
    · simp
    · have := List.pairwise_iff_getElem.1 hs (i - 1) i (by omega) hi (by omega)
      rw [tg_lt (show i - 1 < xs.length by omega)]
      unfold tmLt at this
      simp only [Bool.or_eq_true, Bool.and_eq_true, decide_eq_true_eq]
      exact .inr this
theorem minT_frB {l : List Tm} (hv : ∀ e ∈ l, vtB e.1 e.2 = true) : frB (minT l) = true := sorted_frB (minT_sorted l) (fun e he => hv e (minT_mem he))
theorem minT_100 {l : List Tm} (hv : ∀ e ∈ l, vtB e.1 e.2 = true) : (minT l).length ≤ 100 := sorted_len (minT_sorted l) (fun e he => hv e (minT_mem he))
end Go.Proofs.Ythefakiobpijiaa
