/- HELPER, no statement of the seat: the order of updates, and what a trace is; no program. -/
import Derived.Test.YthefakiobpijiaaZbx
import Derived.Test.YthefakiobpijiaaUph
namespace Go.Proofs.Ythefakiobpijiaa
open Go.RowKit Go.Sort
set_option linter.unusedSimpArgs false
set_option linter.unusedVariables false


abbrev KeyU := List Int × (Int × Int)
def cmpKU (x y : KeyU) : Int := orV (cmpL x.1 y.1) (cmpT x.2.1 x.2.2 y.2.1 y.2.2)
theorem ltU_cmp (x y : KeyU) : ltU x y = decide (cmpKU x y < 0) := rfl
theorem cmpI_eq0 {a b : Int} : cmpI a b = 0 ↔ a = b := cmpI_zero a b
theorem orV_anti {a b c d : Int} (h1 : c = -a) (h2 : d = -b) : orV c d = -orV a b := by unfold orV; split <;> split <;> omega
theorem cmpKU_anti (x y : KeyU) : cmpKU y x = -cmpKU x y := orV_anti (cmpL_anti _ _) (orV_anti (cmpI_anti _ _) (cmpI_anti _ _))
theorem orV_zero {a b : Int} : orV a b = 0 ↔ a = 0 ∧ b = 0 := by unfold orV; split <;> omega
theorem cmpKU_zero {x y : KeyU} : cmpKU x y = 0 ↔ x = y := by
  obtain ⟨a, b, c⟩ := x
  obtain ⟨d, e, g⟩ := y
  simp only [cmpKU, cmpT, orV_zero, cmpL_zero, cmpI_eq0, Prod.mk.injEq]
theorem cmpI_trans {a b c : Int} (h1 : cmpI a b < 0) (h2 : cmpI b c < 0) : cmpI a c < 0 := by
  unfold cmpI at *
  (repeat' split at h1) <;> (repeat' split at h2) <;> (repeat' split) <;> omega
theorem orV_lt {a b : Int} : orV a b < 0 ↔ a < 0 ∨ (a = 0 ∧ b < 0) := by unfold orV; split <;> omega
theorem cmpT_trans {x y u v p q : Int} (h1 : cmpT x y u v < 0) (h2 : cmpT u v p q < 0) : cmpT x y p q < 0 := by
  unfold cmpT at *
  rw [orV_lt] at *
  rcases h1 with h1 | ⟨h1, h3⟩ <;> rcases h2 with h2 | ⟨h2, h4⟩
  · exact .inl (cmpI_trans h1 h2)
  · rw [cmpI_eq0] at h2; subst h2; exact .inl h1
  · rw [cmpI_eq0] at h1; subst h1; exact .inl h2
  · rw [cmpI_eq0] at h1 h2; subst h1; subst h2; exact .inr ⟨by rw [cmpI_eq0], cmpI_trans h3 h4⟩
theorem updTot : TotLt ltU where
  irrefl a := by rw [ltU_cmp, cmpKU_zero.2 rfl]; rfl
  trans a b c h1 h2 := by
    rw [ltU_cmp, decide_eq_true_eq] at *
    unfold cmpKU at *
    rw [orV_lt] at *
    rcases h1 with h1 | ⟨h1, h3⟩ <;> rcases h2 with h2 | ⟨h2, h4⟩
    · exact .inl (cmpL_trans _ _ _ h1 h2)
    · rw [cmpL_zero] at h2; rw [← h2]; exact .inl h1
    · rw [cmpL_zero] at h1; rw [h1]; exact .inl h2
    · rw [cmpL_zero] at h1 h2; rw [h1, h2]; exact .inr ⟨cmpL_zero.2 rfl, cmpT_trans h3 h4⟩
  tri a b h1 h2 := by
    rw [ltU_cmp] at *
    simp only [decide_eq_false_iff_not] at h1 h2
    have := cmpKU_anti a b
    exact cmpKU_zero.1 (by omega)
theorem rows_of_ltU {x y : KeyU} (h : ltU x y = true) : lessB y.1 x.1 = false := by
  rw [ltU_cmp, decide_eq_true_eq] at h
  unfold cmpKU at h
  rw [orV_lt] at h
  have := cmpL_anti x.1 y.1
  rw [lessB_not]
  omega
theorem asc_of_adjU {es : List Upd} (h : ∀ m (h : m + 1 < es.length), ltU es[m].1 es[m + 1].1 = true) : Asc ltU es := by
  induction es with
  | nil => exact List.Pairwise.nil
  | cons x l ih =>
    refine List.pairwise_cons.2 ⟨fun y hy => ?_, ih (fun m hm => by have := h (m + 1) (by simpa using hm); simpa using this)⟩
    have hl : Asc ltU l := ih (fun m hm => by have := h (m + 1) (by simpa using hm); simpa using this)
    cases l with
    | nil => cases hy
    | cons z l =>
      have h0 := h 0 (by simp)
      simp only [List.getElem_cons_zero, List.getElem_cons_succ] at h0
      rcases List.mem_cons.1 hy with rfl | hy
      · exact h0
      · exact updTot.trans _ _ _ h0 ((List.pairwise_cons.1 hl).1 y hy)
theorem trB_parts {es : List Upd} (h : trB es = true) : es.length ≤ 400 ∧ sumsU es = true ∧ ordU es = true := by
  simp only [trB, Bool.and_eq_true, decide_eq_true_eq] at h
  exact ⟨h.1, h.2.1, h.2.2⟩
theorem trB_asc {es : List Upd} (h : trB es = true) : Asc ltU es := by
  refine asc_of_adjU fun m hm => ?_
  have := allTo_iff.1 (trB_parts h).2.2 (m + 1) hm
  simp only [stepU, Bool.and_eq_true, Bool.or_eq_true, decide_eq_true_eq] at this
  have h3 := this.2.2
  rw [nthU_get hm, Nat.add_sub_cancel, nthU_get (show m < es.length by omega)] at h3
  simpa using h3
theorem trB_sum {es : List Upd} (h : trB es = true) : ∀ e ∈ es, sumU e = true := fun e he => by
  obtain ⟨j, hj, rfl⟩ := List.getElem_of_mem he
  have := allTo_iff.1 (trB_parts h).2.1 j hj
  simpa only [nthU_get hj] using this
theorem sumU_parts {e : Upd} (h : sumU e = true) : rowB e.1.1 = true ∧ (-1000000 ≤ e.2 ∧ e.2 ≤ 1000000) ∧ vtB e.1.2.1 e.1.2.2 = true := by
  simp only [sumU, sumE, Bool.and_eq_true] at h
  refine ⟨h.1.1, ?_, h.2⟩
  have := h.1.2
  simpa [wtB, inB] using this
theorem trB_ne {es : List Upd} (h : trB es = true) : ∀ e ∈ es, e.2 ≠ 0 := fun e he => by
  obtain ⟨j, hj, rfl⟩ := List.getElem_of_mem he
  have := allTo_iff.1 (trB_parts h).2.2 j hj
  simp only [stepU, Bool.and_eq_true, decide_eq_true_eq, nthU_get hj] at this
  exact this.1
theorem trB_wid {es : List Upd} (h : trB es = true) : ∀ e ∈ es, e.1.1.length = widU es := fun e he => by
  obtain ⟨j, hj, rfl⟩ := List.getElem_of_mem he
  have := allTo_iff.1 (trB_parts h).2.2 j hj
  simp only [stepU, Bool.and_eq_true, decide_eq_true_eq, nthU_get hj] at this
  exact this.2.1
theorem trB_mk {l : List Upd} {n : Nat} (h4 : l.length ≤ 400) (hs : ∀ e ∈ l, sumU e = true) (h0 : ∀ e ∈ l, e.2 ≠ 0) (hn : ∀ e ∈ l, e.1.1.length = n) (ha : Asc ltU l) : trB l = true := by
  have h1 : sumsU l = true := allTo_iff.2 (fun k hk => by rw [nthU_get hk]; exact hs _ (List.getElem_mem hk))
  have h2 : ordU l = true := allTo_iff.2 (fun k hk => by
    have hw : widU l = n := by rw [widU, nthU_get (show 0 < l.length by omega)]; exact hn _ (List.getElem_mem _)
    simp only [stepU, nthU_get hk, Bool.and_eq_true, Bool.or_eq_true, decide_eq_true_eq]
    refine ⟨h0 _ (List.getElem_mem hk), by rw [hw]; exact hn _ (List.getElem_mem hk), ?_⟩
    rcases Nat.eq_zero_or_pos k with rfl | hp
    · exact .inl rfl
    · right
      rw [nthU_get (show k - 1 < l.length by omega)]
      exact List.pairwise_iff_getElem.1 ha (k - 1) k (by omega) hk (by omega))
  simp [trB, h4, h1, h2]
theorem trB_sub {l m : List Upd} (hs : l.Sublist m) (h : trB m = true) : trB l = true :=
  trB_mk (n := widU m) (Nat.le_trans hs.length_le (trB_parts h).1) (fun e he => trB_sum h e (hs.subset he)) (fun e he => trB_ne h e (hs.subset he)) (fun e he => trB_wid h e (hs.subset he)) (List.Pairwise.sublist hs (trB_asc h))
theorem trB_row {es : List Upd} (h : trB es = true) : rowsU es 6 := fun e he => row_len (sumU_parts (trB_sum h e he)).1

/-! ### What has come up to a time -/
def entU (u : Upd) : Ent := (u.1.1, u.2)
def entsTo (x y : Int) (tr : List Upd) : List Ent := (tr.filter (fun u => leB u.1.2.1 u.1.2.2 x y)).map entU
def AsOfF (tr : List Upd) (x y : Int) : List Ent := if (trB tr && vtB x y) = true then chkF (nz (NormL (entsTo x y tr))) else []
theorem entsTo_step {tr : List Upd} {x y : Int} {k : Nat} (h : k < tr.length) : entsTo x y (tr.take (k + 1)) = entsTo x y (tr.take k) ++ if leB tr[k].1.2.1 tr[k].1.2.2 x y = true then [entU tr[k]] else [] := by
  unfold entsTo
  rw [List.take_succ_eq_append_getElem h, List.filter_append, List.map_append]
  congr 1
  by_cases hp : leB tr[k].1.2.1 tr[k].1.2.2 x y = true <;> simp [hp]
theorem entsTo_len (tr : List Upd) (x y : Int) : (entsTo x y tr).length ≤ tr.length := by
  unfold entsTo
  rw [List.length_map]
  exact List.length_filter_le _ _
theorem entsTo_mem {tr : List Upd} {x y : Int} {e : Ent} (h : e ∈ entsTo x y tr) : ∃ u ∈ tr, e = entU u := by
  obtain ⟨u, hu, rfl⟩ := List.mem_map.1 h
  exact ⟨u, (List.mem_filter.1 hu).1, rfl⟩
theorem entsTo_rows {tr : List Upd} {x y : Int} {n : Nat} (h : rowsU tr n) : rowsIn (entsTo x y tr) n := fun e he => by
  obtain ⟨u, hu, rfl⟩ := entsTo_mem he
  exact h u hu
theorem entsTo_up {tr : List Upd} (x y : Int) (h : trB tr = true) : Up lessB (entsTo x y tr) := by
  unfold entsTo
  rw [Up, List.pairwise_map]
  exact (List.Pairwise.sublist List.filter_sublist (trB_asc h)).imp (fun h => rows_of_ltU h)
theorem entsTo_w {tr : List Upd} {x y : Int} (h : trB tr = true) : ∀ e ∈ entsTo x y tr, -1000000 ≤ e.2 ∧ e.2 ≤ 1000000 := fun e he => by
  obtain ⟨u, hu, rfl⟩ := entsTo_mem he
  exact (sumU_parts (trB_sum h u hu)).2.1
theorem AsOfF_len (tr : List Upd) (x y : Int) : (AsOfF tr x y).length ≤ 400 := by
  unfold AsOfF
  split
  · unfold chkF; split
    · rename_i h; exact zsB_len h
    · simp
  · simp
theorem AsOfF_row (tr : List Upd) (x y : Int) : rowsIn (AsOfF tr x y) 6 := by
  unfold AsOfF
  split
  · unfold chkF; split
    · rename_i h; exact zsB_row h
    · intro e he; cases he
  · intro e he; cases he
end Go.Proofs.Ythefakiobpijiaa
