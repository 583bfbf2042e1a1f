/- HELPER, no statement of the seat: several texts in one file. -/
import Derived.Test.YtjikdlldochhcabSre
import Derived.Test.YtjikdlldochhcabAddI
import Derived.Test.YtjikdlldochhcabAddZ
import Derived.Test.YtjikdlldochhcabZbx
/- HELPER, no statement of the seat: the program's Normalize. -/
namespace Go.Proofs.Ytjikdlldochhcab
open Go.RowKit Go.Sort
set_option linter.unusedSimpArgs false
set_option linter.unusedVariables false


theorem ents_src {w : World} {A : Option Addr} {es : List Ent} (h : EntsAt w A es) : ∃ css : List (List Value), RdL EntR w css es ∧ (A = none → es.length = 0) ∧ (∀ a, A = some a → ∀ j u, css.flatten[j]? = some u → w.cell? (a.add j) = some u) ∧ ∀ u ∈ css.flatten, u.oneCell' = true := by
  rcases Nat.eq_zero_or_pos es.length with h0 | hp
  · obtain rfl := List.eq_nil_of_length_eq_zero h0
    exact ⟨[], RdL.nil, fun _ => rfl, fun a _ j u hu => by simp at hu, fun u hu => by simp at hu⟩
  · obtain ⟨b, off, rfl, hlt, hc⟩ := h hp
    let q := fun i : Fin es.length => Classical.choose (hc i.1 i.2)
    have hq := fun i : Fin es.length => Classical.choose_spec (hc i.1 i.2)
    have hlen : ((List.finRange es.length).map q).length = es.length := by simp
    have hget : ∀ i (hi : i < es.length), ((List.finRange es.length).map q)[i]'(by rw [hlen]; exact hi) = q ⟨i, hi⟩ := fun i hi => by simp
    have hel : ∀ cs ∈ (List.finRange es.length).map q, cs.length = 2 := fun cs hcs => by
      obtain ⟨i, _, rfl⟩ := List.mem_map.1 hcs
      exact (hq i).1
    refine ⟨(List.finRange es.length).map q, ⟨hlen, fun j h1 h2 => by rw [hget j h2]; exact (hq ⟨j, h2⟩).2.2⟩, fun e => (by cases e), fun a e j u hu => ?_, fun u hu => ?_⟩
    · injection e with e
      subst e
      have hj : j < ((List.finRange es.length).map q).flatten.length := by
        rcases Nat.lt_or_ge j ((List.finRange es.length).map q).flatten.length with hj | hj
        · exact hj
        · rw [List.getElem?_eq_none hj] at hu; cases hu
      rw [flat_len hel, hlen] at hj
      have hq2 : j / 2 < es.length := by omega
      have hfl := flat_get hel (j / 2) (by rw [hlen]; exact hq2) (j % 2) (Nat.mod_lt _ (by omega))
      rw [show j / 2 * 2 + j % 2 = j by omega, hget _ hq2] at hfl
      have hcell := (hq ⟨j / 2, hq2⟩).2.1 (j % 2) (Nat.mod_lt _ (by omega))
      have ha : (⟨b, off, none⟩ : Addr).add j = ⟨b, off + j, none⟩ := by unfold Addr.add; by_cases h0 : j = 0 <;> simp [h0]
      simp only at hcell
      rw [ha, show off + j = off + j / 2 * 2 + j % 2 by omega, hcell, ← hu, hfl]
    · obtain ⟨cs, hcs, hu⟩ := List.mem_flatten.1 hu
      obtain ⟨i, _, rfl⟩ := List.mem_map.1 hcs
      obtain ⟨RA, rc, he, _⟩ := (hq i).2.2.form
      have : q i = [.slice RA es[i.1].1.length rc, .int .i64 es[i.1].2] := he
      rw [this] at hu
      exact ent_ones u hu

theorem nz_norm {zs es : List Ent} (hp : zs.Perm es) (hu : Up lessB zs) : nz (sumM [] zs) = nz (NormL es) :=
  nz_ext rowTot (sumM_asc rowTot zs [] List.Pairwise.nil hu (fun _ _ _ h => by cases h)) (NormL_asc es) (fun r => by rw [sumM_wsum, wsum_nil, NormL_wsum, wsum_perm hp]; omega)
theorem NormL_length (es : List Ent) : (NormL es).length ≤ es.length := by
  have := AddL_length [] es
  show (AddL [] es).length ≤ es.length
  simpa using this
theorem NormL_rows {es : List Ent} {n : Nat} (h : rowsIn es n) : rowsIn (NormL es) n := AddL_rows (a := []) (fun e he => by cases he) h
theorem sums_wts {es : List Ent} (h : sumsB es = true) : wIn es 1000000 := fun e he => by
  obtain ⟨j, hj, rfl⟩ := List.getElem_of_mem he
  have := allTo_iff.1 h j hj
  simp only [sumE, Bool.and_eq_true, nth_get hj] at this
  have := this.2
  simpa [wtB, inB] using this
theorem sums_rows {es : List Ent} (h : sumsB es = true) : rowsIn es 6 := fun e he => by
  obtain ⟨j, hj, rfl⟩ := List.getElem_of_mem he
  have := allTo_iff.1 h j hj
  simp only [sumE, Bool.and_eq_true, nth_get hj] at this
  exact row_len this.1

end Go.Proofs.Ytjikdlldochhcab

/- HELPER, no statement of the seat: the model's Normalize. -/
namespace Go.Proofs.Ytjikdlldochhcab
open Go.RowKit Go.Sort
set_option linter.unusedSimpArgs false
set_option linter.unusedVariables false


theorem sums_wts_s {es : List Ent} (h : sumsB es = true) : wts es 1000000 := fun e he => by
  obtain ⟨j, hj, rfl⟩ := List.getElem_of_mem he
  have := allTo_iff.1 h j hj
  simp only [sumE, Bool.and_eq_true, nth_get hj] at this
  have := this.2
  simpa [wtB, inB] using this
theorem sums_rows_s {es : List Ent} (h : sumsB es = true) : rowsIn es 6 := fun e he => by
  obtain ⟨j, hj, rfl⟩ := List.getElem_of_mem he
  have := allTo_iff.1 h j hj
  simp only [sumE, Bool.and_eq_true, nth_get hj] at this
  exact row_len this.1

end Go.Proofs.Ytjikdlldochhcab

/- HELPER, no statement of the seat: MapColumns of both sides. -/
namespace Go.Proofs.Ytjikdlldochhcab
open Go.RowKit Go.Sort
set_option linter.unusedSimpArgs false
set_option linter.unusedVariables false


def mapE (cols : List Int) (e : Ent) : Ent := (projL e.1 cols, e.2)
def MapF (z : List Ent) (cols : List Int) : List Ent := if (zsB z && colB cols (wid z)) = true then NormF (z.map (mapE cols)) else []
theorem MapF_len (z : List Ent) (cols : List Int) : (MapF z cols).length ≤ 400 := by
  unfold MapF
  split
  · exact NormF_len _
  · simp
theorem MapF_row (z : List Ent) (cols : List Int) : rowsIn (MapF z cols) 6 := by
  unfold MapF
  split
  · exact NormF_row _
  · intro e he; cases he
theorem rowB_proj {xs cols : List Int} (h : rowB xs = true) (hc : colB cols xs.length = true) : rowB (projL xs cols) = true := by
  obtain ⟨h1, h2, h3⟩ := col_in hc
  simp only [rowB, decide_eq_true_eq] at h ⊢
  refine ⟨by rw [projL_length]; exact h3, by rw [projL_length]; exact h2, fun x hx => ?_⟩
  obtain ⟨c, hcm, rfl⟩ := List.mem_map.1 hx
  have := h1 c hcm
  have hl : c.toNat < xs.length := by omega
  rw [show xs.getD c.toNat 0 = xs[c.toNat] by simp [hl]]
  exact h.2.2 _ (List.getElem_mem hl)
theorem sums_map {z : List Ent} {cols : List Int} (h : zsB z = true) (hc : colB cols (wid z) = true) : sumsB (z.map (mapE cols)) = true := allTo_iff.2 (fun k hk => by
  have hk' : k < z.length := by simpa using hk
  rw [nth_get hk, List.getElem_map]
  have h1 := zsB_get h hk'
  simp only [sumE, mapE, Bool.and_eq_true]
  exact ⟨rowB_proj h1.1 (by rw [h1.2.2.2]; exact hc), h1.2.1⟩)
theorem MapF_eq {z : List Ent} {cols : List Int} (h : zsB z = true) (hc : colB cols (wid z) = true) : MapF z cols = chkF (nz (AddL [] (z.map (mapE cols)))) := by
  have h4 := zsB_len h
  simp only [MapF, h, hc, Bool.and_self, if_true, NormF, sums_map h hc, List.length_map, h4, decide_true]
  rfl
theorem MapF_no {z : List Ent} {cols : List Int} (h : colB cols (wid z) = false) : MapF z cols = [] := by simp [MapF, h]
theorem colB_zero (cols : List Int) : colB cols 0 = false := by
  simp only [colB, decide_eq_false_iff_not]
  rintro ⟨h1, _, h⟩
  obtain ⟨x, hx⟩ : ∃ x, x ∈ cols := ⟨cols[0], List.getElem_mem _⟩
  have := h x hx
  omega
theorem map_rows {z : List Ent} {cols : List Int} (hc : cols.length ≤ 6) : rowsIn (z.map (mapE cols)) 6 := fun e he => by
  obtain ⟨q, _, rfl⟩ := List.mem_map.1 he
  simp only [mapE, projL_length]
  exact hc

theorem widthOf_sM (A : Option Addr) (c : Nat) (z : List Ent) (w : World) (hx : EntsAt w A z) (hp : 0 < z.length) (hr : rowsIn z 4194304) :
    Calls Try.prog 43 #[.slice A z.length c] w fun e w' => e = .returned (.int .i64 (wid z)) ∧ Below w.heap.size w w' := by
  obtain ⟨b, off, RA, rc, rfl, hbl, hc0, -, -, -⟩ := hx.get 0 hp
  simp only [Nat.zero_mul, Nat.add_zero] at hc0
  have hp' : (0 : Int) < z.length := by omega
  have HW := Lib.hid (wid_get hp)
  go_enter Try.func43, Try.ntmps43
  go_wp2
  go_ret
  exact ⟨ret_int (by rw [HW.out]), Below.refl _ _⟩


end Go.Proofs.Ytjikdlldochhcab
