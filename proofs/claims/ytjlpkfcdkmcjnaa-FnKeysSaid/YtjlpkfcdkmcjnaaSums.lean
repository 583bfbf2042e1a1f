/- HELPER, no statement of the seat: sums of weighted keys, over whatever order; no program. -/
import Derived.Test.YtjlpkfcdkmcjnaaRegion
namespace Go.Proofs.Ytjlpkfcdkmcjnaa
set_option linter.unusedSimpArgs false
set_option linter.unusedVariables false
set_option linter.unusedSectionVars false

/-- A strict total order. -/
structure TotLt {κ : Type} (lt : κ → κ → Bool) : Prop where
  irrefl : ∀ a, lt a a = false
  trans : ∀ a b c, lt a b = true → lt b c = true → lt a c = true
  tri : ∀ a b, lt a b = false → lt b a = false → a = b

section
variable {κ : Type} [DecidableEq κ] {lt : κ → κ → Bool}
theorem TotLt.asymm (h : TotLt lt) {a b : κ} (hab : lt a b = true) : lt b a = false := by
  cases hb : lt b a with
  | false => rfl
  | true => have := h.trans a b a hab hb; rw [h.irrefl] at this; cases this
theorem TotLt.ne (h : TotLt lt) {a b : κ} (hab : lt a b = true) : a ≠ b := fun e => by rw [e, h.irrefl] at hab; cases hab

/-- Ascending: each key once. -/
def Asc (lt : κ → κ → Bool) (l : List (κ × Int)) : Prop := l.Pairwise fun x y => lt x.1 y.1 = true
/-- Never descending. -/
def Up (lt : κ → κ → Bool) (l : List (κ × Int)) : Prop := l.Pairwise fun x y => lt y.1 x.1 = false
/-- The sum of the weights of a key. -/
def wsum (l : List (κ × Int)) (r : κ) : Int := ((l.filter fun x => decide (x.1 = r)).map (·.2)).sum
theorem wsum_nil (r : κ) : wsum ([] : List (κ × Int)) r = 0 := rfl
theorem wsum_cons (x : κ × Int) (l : List (κ × Int)) (r : κ) : wsum (x :: l) r = (if x.1 = r then x.2 else 0) + wsum l r := by
  unfold wsum
  by_cases h : x.1 = r <;> simp [h]
theorem wsum_append (l m : List (κ × Int)) (r : κ) : wsum (l ++ m) r = wsum l r + wsum m r := by
  induction l with
  | nil => simp [wsum_nil]
  | cons x l ih => rw [List.cons_append, wsum_cons, wsum_cons, ih]; omega
theorem wsum_zero {l : List (κ × Int)} {r : κ} (h : ∀ x ∈ l, x.1 ≠ r) : wsum l r = 0 := by
  induction l with
  | nil => rfl
  | cons x l ih => rw [wsum_cons, if_neg (h x (by simp)), ih (fun y hy => h y (by simp [hy]))]; rfl
theorem wsum_perm {l m : List (κ × Int)} (h : l.Perm m) (r : κ) : wsum l r = wsum m r := by
  induction h with
  | nil => rfl
  | cons x _ ih => rw [wsum_cons, wsum_cons, ih]
  | swap x y l => rw [wsum_cons, wsum_cons, wsum_cons, wsum_cons]; omega
  | trans _ _ h1 h2 => rw [h1, h2]
theorem wsum_filter (l : List (κ × Int)) (r : κ) : wsum (l.filter fun x => decide (x.2 ≠ 0)) r = wsum l r := by
  induction l with
  | nil => rfl
  | cons x l ih =>
    by_cases h : x.2 = 0
    · rw [List.filter_cons_of_neg (by simp [h]), wsum_cons, ih, h]; split <;> omega
    · rw [List.filter_cons_of_pos (by simp [h]), wsum_cons, wsum_cons, ih]
theorem wsum_reverse (l : List (κ × Int)) (r : κ) : wsum l.reverse r = wsum l r := wsum_perm l.reverse_perm r

theorem asc_filter {p : κ × Int → Bool} {l : List (κ × Int)} (h : Asc lt l) : Asc lt (l.filter p) := List.Pairwise.sublist List.filter_sublist h
/-- Two ascending lists without zeros, of the same sums, are the same. -/
theorem asc_ext (ht : TotLt lt) : ∀ {l m : List (κ × Int)}, Asc lt l → Asc lt m → (∀ x ∈ l, x.2 ≠ 0) → (∀ x ∈ m, x.2 ≠ 0) → (∀ r, wsum l r = wsum m r) → l = m
  | [], [], _, _, _, _, _ => rfl
  | [], y :: m, _, hm, _, h0, h => by
    have := h y.1
    rw [wsum_nil, wsum_cons, if_pos rfl, wsum_zero (fun x hx e => ht.ne ((List.pairwise_cons.1 hm).1 x hx) e.symm)] at this
    exact absurd (by omega) (h0 y (by simp))
  | x :: l, [], hl, _, h0, _, h => by
    have := h x.1
    rw [wsum_nil, wsum_cons, if_pos rfl, wsum_zero (fun y hy e => ht.ne ((List.pairwise_cons.1 hl).1 y hy) e.symm)] at this
    exact absurd (by omega) (h0 x (by simp))
  | x :: l, y :: m, hl, hm, h0, h1, h => by
    obtain ⟨hl1, hl2⟩ := List.pairwise_cons.1 hl
    obtain ⟨hm1, hm2⟩ := List.pairwise_cons.1 hm
    have key : x.1 = y.1 := by
      cases h2 : lt x.1 y.1 with
      | true =>
        have := h x.1
        rw [wsum_cons, if_pos rfl, wsum_zero (l := l) (fun z hz e => ht.ne (hl1 z hz) e.symm), wsum_zero (l := y :: m) (fun z hz e => by
          rcases List.mem_cons.1 hz with rfl | hz
          · exact ht.ne h2 e.symm
          · exact ht.ne (ht.trans _ _ _ h2 (hm1 z hz)) e.symm)] at this
        exact absurd (by omega) (h0 x (by simp))
      | false =>
        cases h3 : lt y.1 x.1 with
        | true =>
          have := h y.1
          rw [wsum_cons (x := y), if_pos rfl, wsum_zero (l := m) (fun z hz e => ht.ne (hm1 z hz) e.symm), wsum_zero (l := x :: l) (fun z hz e => by
            rcases List.mem_cons.1 hz with rfl | hz
            · exact ht.ne h3 e.symm
            · exact ht.ne (ht.trans _ _ _ h3 (hl1 z hz)) e.symm)] at this
          exact absurd (by omega) (h1 y (by simp))
        | false => exact ht.tri _ _ h2 h3
    have hx := h x.1
    rw [wsum_cons, if_pos rfl, wsum_zero (l := l) (fun z hz e => ht.ne (hl1 z hz) e.symm), wsum_cons, if_pos key.symm, wsum_zero (l := m) (fun z hz e => ht.ne (hm1 z hz) (e.trans key).symm)] at hx
    have hxy : x = y := Prod.ext key (by omega)
    subst hxy
    rw [asc_ext ht hl2 hm2 (fun z hz => h0 z (by simp [hz])) (fun z hz => h1 z (by simp [hz])) (fun r => by have := h r; rw [wsum_cons, wsum_cons] at this; omega)]

/-! ### Adding into a sorted list -/
/-- How many keys lie below r. -/
def low (lt : κ → κ → Bool) (l : List (κ × Int)) (r : κ) : Nat := (l.takeWhile fun x => lt x.1 r).length
def insK (lt : κ → κ → Bool) (l : List (κ × Int)) (r : κ) (w : Int) : List (κ × Int) :=
  match l with
  | [] => [(r, w)]
  | x :: l => if lt x.1 r = true then x :: insK lt l r w else if x.1 = r then (x.1, x.2 + w) :: l else (r, w) :: x :: l
theorem insK_wsum (l : List (κ × Int)) (r : κ) (w : Int) (q : κ) : wsum (insK lt l r w) q = wsum l q + if r = q then w else 0 := by
  induction l with
  | nil => simp [insK, wsum_cons, wsum_nil]
  | cons x l ih =>
    unfold insK
    split
    · rw [wsum_cons, wsum_cons, ih]; omega
    · split
      · rename_i h
        rw [wsum_cons, wsum_cons, h]
        simp only
        split <;> omega
      · rw [wsum_cons, wsum_cons]
        simp only
        omega
theorem insK_key {l : List (κ × Int)} {r : κ} {w : Int} {y : κ × Int} (h : y ∈ insK lt l r w) : y.1 = r ∨ ∃ x ∈ l, y.1 = x.1 := by
  induction l with
  | nil => simp [insK] at h; exact .inl (by rw [h])
  | cons x l ih =>
    unfold insK at h
    split at h
    · rcases List.mem_cons.1 h with rfl | h
      · exact .inr ⟨y, by simp, rfl⟩
      · rcases ih h with h | ⟨z, hz, e⟩
        · exact .inl h
        · exact .inr ⟨z, by simp [hz], e⟩
    · split at h
      · rcases List.mem_cons.1 h with rfl | h
        · exact .inr ⟨x, by simp, rfl⟩
        · exact .inr ⟨y, by simp [h], rfl⟩
      · rcases List.mem_cons.1 h with rfl | h
        · exact .inl rfl
        · exact .inr ⟨y, h, rfl⟩
theorem insK_asc (ht : TotLt lt) {l : List (κ × Int)} (h : Asc lt l) (r : κ) (w : Int) : Asc lt (insK lt l r w) := by
  induction l with
  | nil => exact List.pairwise_singleton _ _
  | cons x l ih =>
    obtain ⟨h1, h2⟩ := List.pairwise_cons.1 h
    unfold insK
    split
    · rename_i hx
      refine List.pairwise_cons.2 ⟨fun y hy => ?_, ih h2⟩
      rcases insK_key hy with e | ⟨z, hz, e⟩
      · rw [e]; exact hx
      · rw [e]; exact h1 z hz
    · rename_i hx
      split
      · exact List.pairwise_cons.2 ⟨fun y hy => h1 y hy, h2⟩
      · rename_i hne
        have hr : lt r x.1 = true := by
          cases hc : lt r x.1 with
          | true => rfl
          | false => exact absurd (ht.tri _ _ (by simpa using hx) hc) hne
        refine List.pairwise_cons.2 ⟨fun y hy => ?_, h⟩
        rcases List.mem_cons.1 hy with rfl | hy
        · exact hr
        · exact ht.trans _ _ _ hr (h1 y hy)
theorem insK_length (l : List (κ × Int)) (r : κ) (w : Int) : (insK lt l r w).length ≤ l.length + 1 := by
  induction l with
  | nil => simp [insK]
  | cons x l ih =>
    unfold insK
    split
    · simp; omega
    · split <;> simp
/-- The same, by the place of the key. -/
theorem insK_at (ht : TotLt lt) {l : List (κ × Int)} (h : Asc lt l) {r : κ} {w : Int} {k : Nat} (hk : k ≤ l.length) (h1 : ∀ j (hj : j < l.length), j < k → lt l[j].1 r = true) (h2 : ∀ j (hj : j < l.length), k ≤ j → lt l[j].1 r = false) :
    (∀ hk : k < l.length, l[k].1 = r → insK lt l r w = l.set k (r, l[k].2 + w)) ∧ ((∀ hk : k < l.length, l[k].1 ≠ r) → insK lt l r w = l.take k ++ (r, w) :: l.drop k) := by
  induction l generalizing k with
  | nil =>
    obtain rfl : k = 0 := by simpa using hk
    exact ⟨fun hk => absurd hk (by simp), fun _ => rfl⟩
  | cons x l ih =>
    cases k with
    | zero =>
      have hx := h2 0 (by simp) (Nat.le_refl _)
      simp only [List.getElem_cons_zero] at hx
      refine ⟨fun _ e => ?_, fun e => ?_⟩
      · simp only [List.getElem_cons_zero] at e ⊢
        unfold insK
        rw [if_neg (by simp [hx]), if_pos e, e]
        rfl
      · have := e (by simp)
        simp only [List.getElem_cons_zero] at this
        unfold insK
        rw [if_neg (by simp [hx]), if_neg this]
        rfl
    | succ k =>
      have hx := h1 0 (by simp) (by omega)
      simp only [List.getElem_cons_zero] at hx
      obtain ⟨i1, i2⟩ := ih (List.pairwise_cons.1 h).2 (k := k) (by simpa using hk) (fun j hj hjk => by have := h1 (j + 1) (by simpa using hj) (by omega); simpa using this) (fun j hj hjk => by have := h2 (j + 1) (by simpa using hj) (by omega); simpa using this)
      refine ⟨fun hk' e => ?_, fun e => ?_⟩
      · simp only [List.getElem_cons_succ] at e ⊢
        unfold insK
        rw [if_pos hx, i1 (by simpa using hk') e]
        rfl
      · unfold insK
        rw [if_pos hx, i2 (fun hk' => by have := e (by simpa using hk'); simpa using this)]
        rfl

/-! ### Collecting what comes in its order -/
/-- One more: into the last, where it has the same key. -/
def addM (l : List (κ × Int)) (x : κ × Int) : List (κ × Int) :=
  match l.getLast? with
  | some y => if y.1 = x.1 then l.dropLast ++ [(y.1, y.2 + x.2)] else l ++ [x]
  | none => [x]
theorem addM_nil (x : κ × Int) : addM [] x = [x] := rfl
theorem addM_snoc (l : List (κ × Int)) (y x : κ × Int) : addM (l ++ [y]) x = if y.1 = x.1 then l ++ [(y.1, y.2 + x.2)] else l ++ [y] ++ [x] := by
  unfold addM
  rw [List.getLast?_append]
  simp
theorem snoc_cases (l : List (κ × Int)) : l = [] ∨ ∃ m y, l = m ++ [y] := by
  rcases List.eq_nil_or_concat l with h | ⟨m, y, h⟩
  · exact .inl h
  · exact .inr ⟨m, y, by rw [h, List.concat_eq_append]⟩
theorem addM_wsum (l : List (κ × Int)) (x : κ × Int) (r : κ) : wsum (addM l x) r = wsum l r + if x.1 = r then x.2 else 0 := by
  rcases snoc_cases l with rfl | ⟨m, y, rfl⟩
  · rw [addM_nil, wsum_cons, wsum_nil]; omega
  · rw [addM_snoc]
    split
    · rename_i h
      rw [wsum_append, wsum_append, wsum_cons, wsum_cons, wsum_nil, h]
      simp only
      split <;> omega
    · rw [wsum_append, wsum_cons, wsum_nil]; omega
theorem addM_asc (ht : TotLt lt) {l : List (κ × Int)} (h : Asc lt l) {x : κ × Int} (hx : ∀ y ∈ l, lt x.1 y.1 = false) : Asc lt (addM l x) := by
  rcases snoc_cases l with rfl | ⟨m, y, rfl⟩
  · exact List.pairwise_singleton _ _
  · obtain ⟨h1, h2, h3⟩ := List.pairwise_append.1 h
    rw [addM_snoc]
    split
    · exact List.pairwise_append.2 ⟨h1, List.pairwise_singleton _ _, fun a ha b hb => by simp at hb; subst hb; exact h3 a ha y (by simp)⟩
    · rename_i hne
      have hyx : lt y.1 x.1 = true := by
        cases hc : lt y.1 x.1 with
        | true => rfl
        | false => exact absurd (ht.tri _ _ hc (hx y (by simp))) hne
      refine List.pairwise_append.2 ⟨h, List.pairwise_singleton _ _, fun a ha b hb => ?_⟩
      simp at hb
      subst hb
      rcases List.mem_append.1 ha with ha | ha
      · exact ht.trans _ _ _ (h3 a ha y (by simp)) hyx
      · simp at ha; subst ha; exact hyx
theorem addM_key {l : List (κ × Int)} {x y : κ × Int} (h : y ∈ addM l x) : y.1 = x.1 ∨ ∃ z ∈ l, y.1 = z.1 := by
  rcases snoc_cases l with rfl | ⟨m, q, rfl⟩
  · rw [addM_nil] at h; simp at h; exact .inl (by rw [h])
  · rw [addM_snoc] at h
    split at h
    · rcases List.mem_append.1 h with h | h
      · exact .inr ⟨y, by simp [h], rfl⟩
      · simp at h; exact .inr ⟨q, by simp, by rw [h]⟩
    · rcases List.mem_append.1 h with h | h
      · exact .inr ⟨y, h, rfl⟩
      · simp at h; exact .inl (by rw [h])
/-- All of them. -/
def sumM (l : List (κ × Int)) (xs : List (κ × Int)) : List (κ × Int) := xs.foldl addM l
theorem sumM_wsum (xs : List (κ × Int)) : ∀ (l : List (κ × Int)) (r : κ), wsum (sumM l xs) r = wsum l r + wsum xs r := by
  induction xs with
  | nil => intro l r; simp [sumM, wsum_nil]
  | cons x xs ih => intro l r; show wsum (sumM (addM l x) xs) r = _; rw [ih, addM_wsum, wsum_cons]; omega
theorem sumM_asc (ht : TotLt lt) : ∀ (xs l : List (κ × Int)), Asc lt l → Up lt xs → (∀ x ∈ xs, ∀ y ∈ l, lt x.1 y.1 = false) → Asc lt (sumM l xs)
  | [], l, h, _, _ => h
  | x :: xs, l, h, hu, hx => by
    obtain ⟨u1, u2⟩ := List.pairwise_cons.1 hu
    refine sumM_asc ht xs (addM l x) (addM_asc ht h (hx x (by simp))) u2 (fun y hy z hz => ?_)
    rcases addM_key hz with e | ⟨q, hq, e⟩
    · rw [e]; exact u1 y hy
    · rw [e]; exact hx y (by simp [hy]) q hq
/-- The sums, without those that are zero. -/
def nz (l : List (κ × Int)) : List (κ × Int) := l.filter fun x => decide (x.2 ≠ 0)
theorem nz_mem {l : List (κ × Int)} : ∀ x ∈ nz l, x.2 ≠ 0 := fun x hx => by have := (List.mem_filter.1 hx).2; simpa using this
theorem nz_wsum (l : List (κ × Int)) (r : κ) : wsum (nz l) r = wsum l r := wsum_filter l r
/-- Two ascending lists of the same sums agree without their zeros. -/
theorem nz_ext (ht : TotLt lt) {l m : List (κ × Int)} (hl : Asc lt l) (hm : Asc lt m) (h : ∀ r, wsum l r = wsum m r) : nz l = nz m :=
  asc_ext ht (asc_filter hl) (asc_filter hm) nz_mem nz_mem (fun r => by rw [nz_wsum, nz_wsum, h])
end
end Go.Proofs.Ytjlpkfcdkmcjnaa
