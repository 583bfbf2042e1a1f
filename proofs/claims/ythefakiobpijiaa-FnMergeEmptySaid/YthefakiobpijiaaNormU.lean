/- HELPER, no statement of the seat: the program's Consolidate. -/
import Derived.Test.YthefakiobpijiaaSru
import Derived.Test.YthefakiobpijiaaBlu
namespace Go.Proofs.Ythefakiobpijiaa
open Go.RowKit Go.Sort
set_option linter.unusedSimpArgs false
set_option linter.unusedVariables false


/-! ### Sums of updates -/
def AddLU (a b : List Upd) : List Upd := b.foldl (fun z e => insK ltU z e.1 e.2) a
def NormLU (es : List Upd) : List Upd := AddLU [] es
def ConsF (es : List Upd) : List Upd := if (decide (es.length ≤ 400) && sumsU es) = true then chkT (nz (NormLU es)) else []
theorem AddLU_asc {a : List Upd} (h : Asc ltU a) : ∀ b : List Upd, Asc ltU (AddLU a b) := by
  intro b
  induction b generalizing a with
  | nil => exact h
  | cons x b ih => exact ih (insK_asc updTot h x.1 x.2)
theorem AddLU_wsum (b : List Upd) : ∀ (a : List Upd) (r : KeyU), wsum (AddLU a b) r = wsum a r + wsum b r := by
  induction b with
  | nil => intro a r; simp [AddLU, wsum_nil]
  | cons x b ih => intro a r; show wsum (AddLU (insK ltU a x.1 x.2) b) r = _; rw [ih, insK_wsum, wsum_cons]; omega
theorem AddLU_length (b : List Upd) : ∀ a : List Upd, (AddLU a b).length ≤ a.length + b.length := by
  induction b with
  | nil => intro a; simp [AddLU]
  | cons x b ih =>
    intro a
    have h1 := ih (insK ltU a x.1 x.2)
    have h2 := insK_length (lt := ltU) a x.1 x.2
    show (AddLU (insK ltU a x.1 x.2) b).length ≤ _
    simp only [List.length_cons]
    omega
theorem AddLU_all {p : KeyU → Prop} (b : List Upd) : ∀ a : List Upd, (∀ e ∈ a, p e.1) → (∀ e ∈ b, p e.1) → ∀ e ∈ AddLU a b, p e.1 := by
  induction b with
  | nil => intro a ha _; exact ha
  | cons x b ih =>
    intro a ha hb
    refine ih (insK ltU a x.1 x.2) (fun e he => ?_) (fun e he => hb e (by simp [he]))
    rcases insK_key he with h1 | ⟨q, hq, h1⟩
    · rw [h1]; exact hb x (by simp)
    · rw [h1]; exact ha q hq
theorem NormLU_asc (es : List Upd) : Asc ltU (NormLU es) := AddLU_asc List.Pairwise.nil es
theorem NormLU_wsum (es : List Upd) (r : KeyU) : wsum (NormLU es) r = wsum es r := by
  have := AddLU_wsum es [] r
  rw [wsum_nil] at this
  show wsum (AddLU [] es) r = _
  omega
theorem chkT_len (es : List Upd) : (chkT es).length ≤ 400 := by
  unfold chkT
  split
  · rename_i h; exact (trB_parts h).1
  · simp
theorem chkT_row (es : List Upd) : rowsU (chkT es) 6 := by
  unfold chkT
  split
  · rename_i h; exact trB_row h
  · intro e he; cases he
theorem ConsF_len (es : List Upd) : (ConsF es).length ≤ 400 := by
  unfold ConsF
  split
  · exact chkT_len _
  · simp
theorem ConsF_row (es : List Upd) : rowsU (ConsF es) 6 := by
  unfold ConsF
  split
  · exact chkT_row _
  · intro e he; cases he

theorem upds_src {w : World} {A : Option Addr} {es : List Upd} (h : UpdsAt w A es) : ∃ css : List (List Value), RdL UpdR w css es ∧ (A = none → es.length = 0) ∧ (∀ a, A = some a → ∀ j u, css.flatten[j]? = some u → w.cell? (a.add j) = some u) ∧ ∀ u ∈ css.flatten, u.oneCell' = true := by
  rcases Nat.eq_zero_or_pos es.length with h0 | hp
  · obtain rfl := List.eq_nil_of_length_eq_zero h0
    exact ⟨[], RdL.nil, fun _ => rfl, fun a _ j u hu => by simp at hu, fun u hu => by simp at hu⟩
  · obtain ⟨b, off, rfl, hlt, hc⟩ := h hp
    let q := fun i : Fin es.length => Classical.choose (hc i.1 i.2)
    have hq := fun i : Fin es.length => Classical.choose_spec (hc i.1 i.2)
    have hlen : ((List.finRange es.length).map q).length = es.length := by simp
    have hget : ∀ i (hi : i < es.length), ((List.finRange es.length).map q)[i]'(by rw [hlen]; exact hi) = q ⟨i, hi⟩ := fun i hi => by simp
    have hel : ∀ cs ∈ (List.finRange es.length).map q, cs.length = 4 := fun cs hcs => by
      obtain ⟨i, _, rfl⟩ := List.mem_map.1 hcs
      exact (hq i).1
    refine ⟨(List.finRange es.length).map q, ⟨hlen, fun j h1 h2 => by rw [hget j h2]; exact (hq ⟨j, h2⟩).2.2⟩, fun e => (by cases e), fun a e j u hu => ?_, fun u hu => ?_⟩
    · injection e with e
      subst e
      have hj : j < ((List.finRange es.length).map q).flatten.length := by
        rcases Nat.lt_or_ge j ((List.finRange es.length).map q).flatten.length with hj | hj
        · exact hj
        · rw [List.getElem?_eq_none hj] at hu; cases hu
      rw [flat_len hel, hlen] at hj
      have hq2 : j / 4 < es.length := by omega
      have hfl := flat_get hel (j / 4) (by rw [hlen]; exact hq2) (j % 4) (Nat.mod_lt _ (by omega))
      rw [show j / 4 * 4 + j % 4 = j by omega, hget _ hq2] at hfl
      have hcell := (hq ⟨j / 4, hq2⟩).2.1 (j % 4) (Nat.mod_lt _ (by omega))
      have ha : (⟨b, off, none⟩ : Addr).add j = ⟨b, off + j, none⟩ := by unfold Addr.add; by_cases h0 : j = 0 <;> simp [h0]
      simp only at hcell
      rw [ha, show off + j = off + j / 4 * 4 + j % 4 by omega, hcell, ← hu, hfl]
    · obtain ⟨cs, hcs, hu⟩ := List.mem_flatten.1 hu
      obtain ⟨i, _, rfl⟩ := List.mem_map.1 hcs
      obtain ⟨RA, rc, he, _⟩ := (hq i).2.2.form
      have : q i = [.slice RA es[i.1].1.1.length rc, .int .i64 es[i.1].1.2.1, .int .i64 es[i.1].1.2.2, .int .i64 es[i.1].2] := he
      rw [this] at hu
      exact upd_ones u hu

theorem nz_normU {zs es : List Upd} (hp : zs.Perm es) (hu : Up ltU zs) : nz (sumM [] zs) = nz (NormLU es) :=
  nz_ext updTot (sumM_asc updTot zs [] List.Pairwise.nil hu (fun _ _ _ h => by cases h)) (NormLU_asc es) (fun r => by rw [sumM_wsum, wsum_nil, NormLU_wsum, wsum_perm hp]; omega)
theorem NormLU_length (es : List Upd) : (NormLU es).length ≤ es.length := by
  have := AddLU_length es []
  show (AddLU [] es).length ≤ es.length
  simpa using this
theorem NormLU_rows {es : List Upd} {n : Nat} (h : rowsU es n) : rowsU (NormLU es) n := AddLU_all (p := fun r : KeyU => r.1.length ≤ n) es [] (fun e he => by cases he) h
theorem sumsU_mem {es : List Upd} (h : sumsU es = true) : ∀ e ∈ es, sumU e = true := fun e he => by
  obtain ⟨j, hj, rfl⟩ := List.getElem_of_mem he
  have := allTo_iff.1 h j hj
  simpa only [nthU_get hj] using this
theorem sums_wtsU {es : List Upd} (h : sumsU es = true) : wIn es 1000000 := fun e he => (sumU_parts (sumsU_mem h e he)).2.1
theorem sums_rowsU {es : List Upd} (h : sumsU es = true) : rowsU es 6 := fun e he => row_len (sumU_parts (sumsU_mem h e he)).1

end Go.Proofs.Ythefakiobpijiaa
