/- HELPER, no statement of the seat: several texts in one file. -/
import Derived.Test.YtifjenleoagefaaGreatZba
import Derived.Test.YtifjenleoagefaaGreatZbn
import Derived.Test.YtifjenleoagefaaGreatZbs
/- HELPER, no statement of the seat: Z-sets as sums; no program. -/
namespace Go.Proofs.YtifjenleoagefaaGreat
set_option linter.unusedSimpArgs false
set_option linter.unusedVariables false

theorem cmpI_anti (a b : Int) : cmpI b a = -cmpI a b := by
  unfold cmpI
  by_cases h1 : a < b
  · have : ¬ b < a := by omega
    simp [h1, this]
  · by_cases h2 : b < a <;> simp [h1, h2]
theorem cmpL_anti : ∀ (xs ys : List Int), cmpL ys xs = -cmpL xs ys
  | [], [] => rfl
  | [], _ :: _ => rfl
  | _ :: _, [] => rfl
  | a :: xs, b :: ys => by
    unfold cmpL
    have h := cmpI_anti a b
    by_cases e : cmpI a b = 0
    · rw [if_pos e, if_pos (by omega), cmpL_anti xs ys]
    · rw [if_neg e, if_neg (by omega), h]
theorem cmpL_trans : ∀ (xs ys zs : List Int), cmpL xs ys < 0 → cmpL ys zs < 0 → cmpL xs zs < 0
  | [], [], zs, h, _ => by simp [cmpL] at h
  | _ :: _, [], zs, h, _ => by simp [cmpL] at h
  | [], _ :: _, [], _, h => by simp [cmpL] at h
  | [], _ :: _, _ :: _, _, _ => by simp [cmpL]
  | _ :: _, _ :: _, [], _, h => by simp [cmpL] at h
  | a :: xs, b :: ys, c :: zs, h1, h2 => by
    unfold cmpL at h1 h2 ⊢
    by_cases e1 : cmpI a b = 0
    · have := (cmpI_zero a b).1 e1
      subst this
      rw [if_pos e1] at h1
      by_cases e2 : cmpI a c = 0
      · rw [if_pos e2] at h2 ⊢
        exact cmpL_trans xs ys zs h1 h2
      · rw [if_neg e2] at h2 ⊢
        exact h2
    · rw [if_neg e1] at h1
      by_cases e2 : cmpI b c = 0
      · have := (cmpI_zero b c).1 e2
        subst this
        rw [if_neg e1]
        exact h1
      · rw [if_neg e2] at h2
        have : a < c := by
          unfold cmpI at h1 h2
          split at h1 <;> split at h2 <;> (try split at h1) <;> (try split at h2) <;> omega
        have e3 : cmpI a c = -1 := by unfold cmpI; rw [if_pos this]
        rw [e3]; simp
theorem lessB_iff (xs ys : List Int) : lessB xs ys = true ↔ cmpL xs ys < 0 := by simp [lessB]
theorem lessB_not (xs ys : List Int) : lessB xs ys = false ↔ 0 ≤ cmpL xs ys := by simp [lessB]
theorem rowTot : TotLt lessB where
  irrefl a := by rw [lessB_not, cmpL_zero.2 rfl]; exact Int.le_refl _
  trans a b c h1 h2 := by rw [lessB_iff] at *; exact cmpL_trans a b c h1 h2
  tri a b h1 h2 := by
    rw [lessB_not] at *
    have := cmpL_anti a b
    exact cmpL_zero.1 (by omega)

/-- The order of the entries of a Z-set. -/
theorem asc_of_adj {es : List Ent} (h : ∀ m (h : m + 1 < es.length), lessB es[m].1 es[m + 1].1 = true) : Asc lessB es := by
  induction es with
  | nil => exact List.Pairwise.nil
  | cons x l ih =>
    refine List.pairwise_cons.2 ⟨fun y hy => ?_, ih (fun m hm => by have := h (m + 1) (by simpa using hm); simpa using this)⟩
    have hl : Asc lessB l := ih (fun m hm => by have := h (m + 1) (by simpa using hm); simpa using this)
    cases l with
    | nil => cases hy
    | cons z l =>
      have h0 := h 0 (by simp)
      simp only [List.getElem_cons_zero, List.getElem_cons_succ] at h0
      rcases List.mem_cons.1 hy with rfl | hy
      · exact h0
      · exact rowTot.trans _ _ _ h0 ((List.pairwise_cons.1 hl).1 y hy)
theorem zsB_asc {es : List Ent} (h : zsB es = true) : Asc lessB es := by
  refine asc_of_adj fun m hm => ?_
  rw [zsB_good] at h
  simp only [Bool.and_eq_true] at h
  have := allTo_iff.1 h.1 (m + 1) hm
  simp only [goodE, Bool.and_eq_true] at this
  have h2 := this.2
  simp only [stepB, Bool.and_eq_true, Bool.or_eq_true, decide_eq_true_eq] at h2
  have h3 := h2.2.2
  rw [nth_get hm, Nat.add_sub_cancel, nth_get (show m < es.length by omega)] at h3
  simpa using h3
theorem zsB_nz {es : List Ent} (h : zsB es = true) : nz es = es := by
  refine List.filter_eq_self.2 fun x hx => ?_
  obtain ⟨j, hj, rfl⟩ := List.getElem_of_mem hx
  simpa using (zsB_get h hj).2.2.1

/-! ### Sums of Z-sets -/
/-- What normalize and add come to. -/
def NormL (es : List Ent) : List Ent := es.foldl (fun z e => insK lessB z e.1 e.2) []
def NormF (es : List Ent) : List Ent := if (decide (es.length ≤ 400) && sumsB es) = true then chkF (nz (NormL es)) else []
def AddL (a b : List Ent) : List Ent := b.foldl (fun z e => insK lessB z e.1 e.2) a
def AddF (a b : List Ent) : List Ent := if (zsB a && zsB b) = true then chkF (nz (AddL a b)) else []
theorem AddL_asc {a : List Ent} (h : Asc lessB a) : ∀ b : List Ent, Asc lessB (AddL a b) := by
  intro b
  induction b generalizing a with
  | nil => exact h
  | cons x b ih => exact ih (insK_asc rowTot h x.1 x.2)
theorem AddL_wsum (b : List Ent) : ∀ (a : List Ent) (r : List Int), wsum (AddL a b) r = wsum a r + wsum b r := by
  induction b with
  | nil => intro a r; simp [AddL, wsum_nil]
  | cons x b ih => intro a r; show wsum (AddL (insK lessB a x.1 x.2) b) r = _; rw [ih, insK_wsum, wsum_cons]; omega
theorem NormL_asc (es : List Ent) : Asc lessB (NormL es) := AddL_asc List.Pairwise.nil es
theorem NormL_wsum (es : List Ent) (r : List Int) : wsum (NormL es) r = wsum es r := by
  have := AddL_wsum es [] r
  rw [wsum_nil] at this
  show wsum (AddL [] es) r = _
  omega
end Go.Proofs.YtifjenleoagefaaGreat

/- HELPER, no statement of the seat: when a list is a Z-set; parts of Z-sets. -/
namespace Go.Proofs.YtifjenleoagefaaGreat
set_option linter.unusedSimpArgs false
set_option linter.unusedVariables false

theorem asc_lt_ {z : List Ent} (h : Asc lessB z) {i j : Nat} (hi : i < z.length) (hj : j < z.length) (hij : i < j) : lessB z[i].1 z[j].1 = true := List.pairwise_iff_getElem.1 h i j hi hj hij
theorem zsB_mk {l : List Ent} {n : Nat} (h4 : l.length ≤ 400) (hs : ∀ e ∈ l, sumE e = true) (h0 : ∀ e ∈ l, e.2 ≠ 0) (hn : ∀ e ∈ l, e.1.length = n) (ha : Asc lessB l) : zsB l = true := by
  have h1 : sumsB l = true := allTo_iff.2 (fun k hk => by rw [nth_get hk]; exact hs _ (List.getElem_mem hk))
  have h2 : ordB l = true := allTo_iff.2 (fun k hk => by
    have hw : wid l = n := by rw [wid, nth_get (show 0 < l.length by omega)]; exact hn _ (List.getElem_mem _)
    simp only [stepB, nth_get hk, Bool.and_eq_true, Bool.or_eq_true, decide_eq_true_eq]
    refine ⟨h0 _ (List.getElem_mem hk), by rw [hw]; exact hn _ (List.getElem_mem hk), ?_⟩
    rcases Nat.eq_zero_or_pos k with rfl | hp
    · exact .inl rfl
    · right
      rw [nth_get (show k - 1 < l.length by omega)]
      exact asc_lt_ ha (by omega) hk (by omega))
  simp [zsB, h4, h1, h2]
theorem zsB_sumE {l : List Ent} (h : zsB l = true) : ∀ e ∈ l, sumE e = true := fun e he => by
  obtain ⟨j, hj, rfl⟩ := List.getElem_of_mem he
  have := zsB_get h hj
  simp [sumE, this.1, this.2.1]
theorem zsB_ne {l : List Ent} (h : zsB l = true) : ∀ e ∈ l, e.2 ≠ 0 := fun e he => by
  obtain ⟨j, hj, rfl⟩ := List.getElem_of_mem he
  exact (zsB_get h hj).2.2.1
theorem zsB_wid {l : List Ent} (h : zsB l = true) : ∀ e ∈ l, e.1.length = wid l := fun e he => by
  obtain ⟨j, hj, rfl⟩ := List.getElem_of_mem he
  exact (zsB_get h hj).2.2.2
theorem zsB_sub {l m : List Ent} (hs : l.Sublist m) (h : zsB m = true) : zsB l = true :=
  zsB_mk (n := wid m) (Nat.le_trans hs.length_le (zsB_len h)) (fun e he => zsB_sumE h e (hs.subset he)) (fun e he => zsB_ne h e (hs.subset he)) (fun e he => zsB_wid h e (hs.subset he)) (List.Pairwise.sublist hs (zsB_asc h))
theorem zsB_filter {l : List Ent} (p : Ent → Bool) (h : zsB l = true) : zsB (l.filter p) = true := zsB_sub List.filter_sublist h
theorem chkF_filter {l : List Ent} (p : Ent → Bool) (h : zsB l = true) : chkF (l.filter p) = l.filter p := by simp [chkF, zsB_filter p h]
theorem wid_row {l : List Ent} (h : zsB l = true) (hp : 0 < l.length) : 1 ≤ wid l ∧ wid l ≤ 6 := by
  have h1 := zsB_get h hp
  have := h1.1
  rw [← h1.2.2.2]
  simp only [rowB, decide_eq_true_eq] at this
  exact ⟨this.1, this.2.1⟩
theorem wid_zero {l : List Ent} (h : zsB l = true) : wid l = 0 ↔ l = [] := by
  constructor
  · intro hw
    rcases Nat.eq_zero_or_pos l.length with h0 | hp
    · exact List.eq_nil_of_length_eq_zero h0
    · have := (wid_row h hp).1; omega
  · rintro rfl; rfl
end Go.Proofs.YtifjenleoagefaaGreat

/- HELPER, no statement of the seat: what holds of Z-sets as lists; no program. -/
namespace Go.Proofs.YtifjenleoagefaaGreat
set_option linter.unusedSimpArgs false
set_option linter.unusedVariables false

/-! ### Negation -/
theorem negL_negL (z : List Ent) : negL (negL z) = z := by
  simp only [negL, List.map_map]
  have : ((fun e : Ent => (e.1, -e.2)) ∘ fun e : Ent => (e.1, -e.2)) = id := by funext ⟨r, x⟩; simp
  rw [this, List.map_id]
theorem wtB_neg {x : Int} (h : wtB x = true) : wtB (-x) = true := by
  simp only [wtB, inB, Bool.and_eq_true, decide_eq_true_eq] at h ⊢
  omega
theorem zsB_negL {z : List Ent} (h : zsB z = true) : zsB (negL z) = true := by
  refine zsB_mk (n := wid z) (by simpa [negL] using zsB_len h) (fun e he => ?_) (fun e he => ?_) (fun e he => ?_) ?_
  · obtain ⟨q, hq, rfl⟩ := List.mem_map.1 he
    have := zsB_sumE h q hq
    simp only [sumE, Bool.and_eq_true] at this ⊢
    exact ⟨this.1, wtB_neg this.2⟩
  · obtain ⟨q, hq, rfl⟩ := List.mem_map.1 he
    have := zsB_ne h q hq
    simp only
    omega
  · obtain ⟨q, hq, rfl⟩ := List.mem_map.1 he
    exact zsB_wid h q hq
  · unfold negL
    rw [Asc, List.pairwise_map]
    exact zsB_asc h
theorem NegF_of {z : List Ent} (h : zsB z = true) : NegF z = negL z := by simp [NegF, h]
theorem NegF_no {z : List Ent} (h : zsB z = false) : NegF z = [] := by simp [NegF, h]
theorem NegF_NegF {z : List Ent} (h : zsB z = true) : NegF (NegF z) = z := by
  rw [NegF_of h, NegF_of (zsB_negL h), negL_negL]
theorem zsB_NegF {z : List Ent} (h : zsB z = true) : zsB (NegF z) = true := by rw [NegF_of h]; exact zsB_negL h
theorem totW_negL (z : List Ent) : totW (negL z) = -totW z := by
  induction z with
  | nil => rfl
  | cons e z ih =>
    have h1 : totW (negL (e :: z)) = -e.2 + totW (negL z) := by simp [totW, negL]
    have h2 : totW (e :: z) = e.2 + totW z := by simp [totW]
    rw [h1, h2, ih]; omega
theorem TotF_NegF {z : List Ent} (h : zsB z = true) : TotF (NegF z) = -TotF z := by
  simp only [TotF, zsB_NegF h, h, if_true]
  rw [NegF_of h, totW_negL]
theorem zsB_wts {z : List Ent} (h : zsB z = true) : ∀ e ∈ z, -1000000 ≤ e.2 ∧ e.2 ≤ 1000000 := fun e he => by
  obtain ⟨j, hj, rfl⟩ := List.getElem_of_mem he
  exact zsB_wt h hj
theorem TotF_bd (z : List Ent) : -400000000 ≤ TotF z ∧ TotF z ≤ 400000000 := by
  unfold TotF
  split
  · rename_i h
    have := totW_bd (zsB_wts h) z.length
    rw [List.take_length] at this
    have := zsB_len h
    omega
  · omega
theorem rows_big {z : List Ent} {n : Nat} (h : rowsIn z n) (hn : n ≤ 4194304) : rowsIn z 4194304 := fun e he => by have := h e he; omega

/-! ### Sums -/
theorem zsB_chk' (l : List Ent) : zsB (chkF l) = true := by
  unfold chkF
  split
  · assumption
  · rfl
theorem nz_asc {l : List Ent} (h : Asc lessB l) : Asc lessB (nz l) := List.Pairwise.sublist List.filter_sublist h
theorem nz_add_comm {a b : List Ent} (ha : Asc lessB a) (hb : Asc lessB b) : nz (AddL a b) = nz (AddL b a) :=
  nz_ext rowTot (AddL_asc ha b) (AddL_asc hb a) (fun r => by rw [AddL_wsum, AddL_wsum]; omega)
theorem AddF_comm (a b : List Ent) : AddF a b = AddF b a := by
  unfold AddF
  by_cases h : (zsB a && zsB b) = true
  · have h' : (zsB b && zsB a) = true := by rw [Bool.and_comm]; exact h
    rw [if_pos h, if_pos h']
    simp only [Bool.and_eq_true] at h
    rw [nz_add_comm (zsB_asc h.1) (zsB_asc h.2)]
  · have h' : ¬ (zsB b && zsB a) = true := by rw [Bool.and_comm]; exact h
    rw [if_neg h, if_neg h']
theorem AddF_nil {a : List Ent} (h : zsB a = true) : AddF a [] = a := by
  have h0 : zsB ([] : List Ent) = true := rfl
  simp only [AddF, h, h0, Bool.and_self, if_true, AddL, List.foldl_nil]
  rw [zsB_nz h]
  simp [chkF, h]
theorem wsum_negL (z : List Ent) (r : List Int) : wsum (negL z) r = -wsum z r := by
  induction z with
  | nil => simp [negL, wsum_nil]
  | cons e z ih =>
    have : negL (e :: z) = (e.1, -e.2) :: negL z := rfl
    rw [this, wsum_cons, wsum_cons, ih]
    by_cases h : e.1 = r <;> simp [h] <;> omega
theorem nz_zero {l : List Ent} (ha : Asc lessB l) (h : ∀ r, wsum l r = 0) : nz l = [] := by
  have := nz_ext rowTot (l := l) (m := []) ha List.Pairwise.nil (fun r => by rw [h r, wsum_nil])
  rw [this]; rfl
theorem AddF_NegF {a : List Ent} (h : zsB a = true) : AddF a (NegF a) = [] := by
  have h0 : (zsB a && zsB (NegF a)) = true := by rw [h, zsB_NegF h]; rfl
  simp only [AddF]
  rw [if_pos h0, nz_zero (AddL_asc (zsB_asc h) _) (fun r => by rw [AddL_wsum, NegF_of h, wsum_negL]; omega)]
  rfl
theorem AddF_len' (a b : List Ent) : (AddF a b).length ≤ 400 := by
  unfold AddF
  split
  · unfold chkF
    split
    · rename_i h; exact zsB_len h
    · simp
  · simp
theorem AddF_row' (a b : List Ent) : rowsIn (AddF a b) 6 := by
  unfold AddF
  split
  · unfold chkF
    split
    · rename_i h; exact zsB_row h
    · intro e he; cases he
  · intro e he; cases he
end Go.Proofs.YtifjenleoagefaaGreat

/- HELPER, no statement of the seat: sets of rows, weights of rows, parts of Z-sets; no program. -/
namespace Go.Proofs.YtifjenleoagefaaGreat
set_option linter.unusedSimpArgs false
set_option linter.unusedVariables false

theorem wOf_mem {l : List Ent} (h : Asc lessB l) {e : Ent} (he : e ∈ l) : wOf l e.1 = e.2 := by
  obtain ⟨j, hj, rfl⟩ := List.getElem_of_mem he
  refine wOf_hit (fun x hx => ?_) hj rfl
  rw [List.mem_take_iff_getElem] at hx
  obtain ⟨i, hi, rfl⟩ := hx
  have hij : i < j := by omega
  exact rowTot.ne (asc_lt_ h (by omega) hj hij)
theorem wOf_not {l : List Ent} {r : List Int} (h : ∀ e ∈ l, e.1 ≠ r) : wOf l r = 0 := wOf_none (fun e he => h e (List.mem_of_mem_take he))
theorem asc_key {l : List Ent} (h : Asc lessB l) {x y : Ent} (hx : x ∈ l) (hy : y ∈ l) (e : x.1 = y.1) : x = y := by
  obtain ⟨i, hi, rfl⟩ := List.getElem_of_mem hx
  obtain ⟨j, hj, rfl⟩ := List.getElem_of_mem hy
  rcases Nat.lt_trichotomy i j with h1 | h1 | h1
  · exact absurd e (rowTot.ne (asc_lt_ h hi hj h1))
  · subst h1; rfl
  · exact absurd e.symm (rowTot.ne (asc_lt_ h hj hi h1))
theorem mem_disL {z : List Ent} {e : Ent} : e ∈ disL z ↔ ∃ q ∈ z, 0 < q.2 ∧ e = (q.1, 1) := by
  unfold disL
  rw [List.mem_map]
  constructor
  · rintro ⟨q, hq, rfl⟩
    have := List.mem_filter.1 hq
    exact ⟨q, this.1, by simpa using this.2, rfl⟩
  · rintro ⟨q, hq, h0, rfl⟩
    exact ⟨q, List.mem_filter.2 ⟨hq, by simpa using h0⟩, rfl⟩
theorem disL_asc {z : List Ent} (h : Asc lessB z) : Asc lessB (disL z) := by
  unfold disL
  rw [Asc, List.pairwise_map]
  exact List.Pairwise.sublist List.filter_sublist h
theorem zsB_disL {z : List Ent} (h : zsB z = true) : zsB (disL z) = true := by
  refine zsB_mk (n := wid z) ?_ (fun e he => ?_) (fun e he => ?_) (fun e he => ?_) (disL_asc (zsB_asc h))
  · unfold disL
    rw [List.length_map]
    exact Nat.le_trans (List.length_filter_le _ _) (zsB_len h)
  · obtain ⟨q, hq, -, rfl⟩ := mem_disL.1 he
    have := zsB_sumE h q hq
    simp only [sumE, Bool.and_eq_true] at this ⊢
    exact ⟨this.1, rfl⟩
  · obtain ⟨q, hq, -, rfl⟩ := mem_disL.1 he
    simp
  · obtain ⟨q, hq, -, rfl⟩ := mem_disL.1 he
    exact zsB_wid h q hq
theorem DisF_is {z : List Ent} (h : zsB z = true) : DisF z = disL z := by simp [DisF, h]
theorem DisF_no {z : List Ent} (h : zsB z = false) : DisF z = [] := by simp [DisF, h]
theorem zsB_DisF {z : List Ent} (h : zsB z = true) : zsB (DisF z) = true := by rw [DisF_is h]; exact zsB_disL h
theorem WeightF_dis_pos {z : List Ent} (h : zsB z = true) {k : Nat} (hk : k < z.length) (hp : 0 < z[k].2) : WeightF (DisF z) z[k].1 = 1 := by
  have hd := zsB_DisF h
  simp only [WeightF, hd, if_true]
  rw [DisF_is h]
  exact wOf_mem (e := (z[k].1, 1)) (disL_asc (zsB_asc h)) (mem_disL.2 ⟨z[k], List.getElem_mem hk, hp, rfl⟩)
theorem WeightF_dis_neg {z : List Ent} (h : zsB z = true) {k : Nat} (hk : k < z.length) (hp : ¬ 0 < z[k].2) : WeightF (DisF z) z[k].1 = 0 := by
  have hd := zsB_DisF h
  simp only [WeightF, hd, if_true]
  rw [DisF_is h]
  refine wOf_not fun e he hr => ?_
  obtain ⟨q, hq, h0, rfl⟩ := mem_disL.1 he
  have := asc_key (zsB_asc h) hq (List.getElem_mem hk) hr
  subst this
  exact hp h0
theorem oneB_iff {z : List Ent} : oneB z = true ↔ ∀ e ∈ z, e.2 = 1 := by
  unfold oneB
  rw [allTo_iff]
  constructor
  · intro h e he
    obtain ⟨j, hj, rfl⟩ := List.getElem_of_mem he
    have := h j hj
    rw [nth_get hj] at this
    simpa using this
  · intro h k hk
    rw [nth_get hk]
    simpa using h _ (List.getElem_mem hk)
theorem disL_one (z : List Ent) : ∀ e ∈ disL z, e.2 = 1 := fun e he => by
  obtain ⟨q, _, _, rfl⟩ := mem_disL.1 he
  rfl
theorem setB_DisF {z : List Ent} (h : zsB z = true) : setB (DisF z) = true := by
  simp only [setB, zsB_DisF h, Bool.true_and]
  rw [DisF_is h]
  exact oneB_iff.2 (disL_one z)
theorem disL_self {z : List Ent} (h : ∀ e ∈ z, e.2 = 1) : disL z = z := by
  unfold disL
  rw [List.filter_eq_self.2 (fun e he => by rw [h e he]; decide)]
  have : z.map (fun e => (e.1, (1 : Int))) = z.map id := List.map_congr_left (fun e he => by
    obtain ⟨r, x⟩ := e
    have := h _ he
    simp only at this
    subst this
    rfl)
  rw [this, List.map_id]
theorem DisF_DisF {z : List Ent} (h : zsB z = true) : DisF (DisF z) = DisF z := by
  rw [DisF_is (zsB_DisF h), DisF_is h]
  exact disL_self (disL_one z)
theorem setB_eq {z : List Ent} (h : zsB z = true) : setB z = decide (DisF z = z) := by
  simp only [setB, h, Bool.true_and]
  rw [DisF_is h, Bool.eq_iff_iff, oneB_iff, decide_eq_true_eq]
  constructor
  · exact disL_self
  · intro e x hx
    rw [← e] at hx
    exact disL_one z x hx
theorem totW_one {l : List Ent} (h : ∀ e ∈ l, e.2 = 1) : totW l = l.length := by
  induction l with
  | nil => rfl
  | cons e l ih =>
    have h1 : totW (e :: l) = e.2 + totW l := by simp [totW]
    rw [h1, h e (by simp), ih (fun x hx => h x (by simp [hx])), List.length_cons]
    push_cast
    omega
theorem TotF_DisF {z : List Ent} (h : zsB z = true) : TotF (DisF z) = ((DisF z).length : Int) := by
  simp only [TotF, zsB_DisF h, if_true]
  rw [DisF_is h]
  exact totW_one (disL_one z)

/-! ### Sums of lists -/
theorem nz_norm_z {z : List Ent} (h : zsB z = true) : nz (NormL z) = z := by
  have := nz_ext rowTot (NormL_asc z) (zsB_asc h) (fun r => NormL_wsum z r)
  rw [this, zsB_nz h]
theorem zsB_sums {z : List Ent} (h : zsB z = true) : sumsB z = true := by
  simp only [zsB, Bool.and_eq_true] at h
  exact h.2.1
theorem NormF_self {z : List Ent} (h : zsB z = true) : NormF z = z := by
  have h4 := zsB_len h
  simp only [NormF, zsB_sums h, h4, decide_true, Bool.and_self, if_true]
  rw [nz_norm_z h]
  simp [chkF, h]
theorem zsB_NormF (l : List Ent) : zsB (NormF l) = true := by
  unfold NormF
  split
  · exact zsB_chk' _
  · rfl
theorem sumsB_iff {l : List Ent} : sumsB l = true ↔ ∀ e ∈ l, sumE e = true := by
  unfold sumsB
  rw [allTo_iff]
  constructor
  · intro h e he
    obtain ⟨j, hj, rfl⟩ := List.getElem_of_mem he
    have := h j hj
    rwa [nth_get hj] at this
  · intro h k hk
    rw [nth_get hk]
    exact h _ (List.getElem_mem hk)
theorem NormF_perm {l m : List Ent} (h : l.Perm m) : NormF l = NormF m := by
  have h1 : sumsB l = sumsB m := by
    rw [Bool.eq_iff_iff, sumsB_iff, sumsB_iff]
    exact ⟨fun g e he => g e (h.mem_iff.2 he), fun g e he => g e (h.mem_iff.1 he)⟩
  have h2 : nz (NormL l) = nz (NormL m) := nz_ext rowTot (NormL_asc l) (NormL_asc m) (fun r => by rw [NormL_wsum, NormL_wsum, wsum_perm h])
  unfold NormF
  rw [h1, h.length_eq, h2]
theorem wsum_at {l : List Ent} (h : Asc lessB l) {e : Ent} (he : e ∈ l) : wsum l e.1 = e.2 := by
  induction l with
  | nil => cases he
  | cons x l ih =>
    obtain ⟨h1, h2⟩ := List.pairwise_cons.1 h
    rw [wsum_cons]
    rcases List.mem_cons.1 he with rfl | he
    · rw [if_pos rfl, wsum_zero (fun y hy e2 => rowTot.ne (h1 y hy) e2.symm)]; omega
    · rw [if_neg (rowTot.ne (h1 e he)), ih h2 he]; omega
/-- An entry of a sum has the sum of the weights of its row. -/
theorem NormF_wt {l : List Ent} {e : Ent} (he : e ∈ NormF l) : wsum l e.1 = e.2 := by
  unfold NormF at he
  split at he
  · unfold chkF at he
    split at he
    · have h1 : Asc lessB (nz (NormL l)) := nz_asc (NormL_asc l)
      have h2 := NormL_wsum l e.1
      rw [← h2, ← nz_wsum]
      exact wsum_at h1 he
    · cases he
  · cases he
end Go.Proofs.YtifjenleoagefaaGreat
