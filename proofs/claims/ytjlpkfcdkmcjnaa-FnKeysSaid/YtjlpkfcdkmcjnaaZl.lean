/- HELPER, no statement of the seat: what holds of Z-sets as lists; no program. -/
import Derived.Test.YtjlpkfcdkmcjnaaZmk
namespace Go.Proofs.Ytjlpkfcdkmcjnaa
set_option linter.unusedSimpArgs false
set_option linter.unusedVariables false

/-! ### Negation -/
theorem negL_negL (z : List Ent) : negL (negL z) = z := by
  simp only [negL, List.map_map]
  have : ((fun e : Ent => (e.1, -e.2)) ∘ fun e : Ent => (e.1, -e.2)) = id := by funext ⟨r, x⟩; simp
  rw [this, List.map_id]
theorem wtB_neg {x : Int} (h : wtB x = true) : wtB (-x) = true := by
  simp only [wtB, inB, Bool.and_eq_true, decide_eq_true_eq] at h ⊢
  omega
theorem zsB_negL {z : List Ent} (h : zsB z = true) : zsB (negL z) = true := by
  refine zsB_mk (n := wid z) (by simpa [negL] using zsB_len h) (fun e he => ?_) (fun e he => ?_) (fun e he => ?_) ?_
  · obtain ⟨q, hq, rfl⟩ := List.mem_map.1 he
    have := zsB_sumE h q hq
    simp only [sumE, Bool.and_eq_true] at this ⊢
    exact ⟨this.1, wtB_neg this.2⟩
  · obtain ⟨q, hq, rfl⟩ := List.mem_map.1 he
    have := zsB_ne h q hq
    simp only
    omega
  · obtain ⟨q, hq, rfl⟩ := List.mem_map.1 he
    exact zsB_wid h q hq
  · unfold negL
    rw [Asc, List.pairwise_map]
    exact zsB_asc h
theorem NegF_of {z : List Ent} (h : zsB z = true) : NegF z = negL z := by simp [NegF, h]
theorem NegF_no {z : List Ent} (h : zsB z = false) : NegF z = [] := by simp [NegF, h]
theorem NegF_NegF {z : List Ent} (h : zsB z = true) : NegF (NegF z) = z := by
  rw [NegF_of h, NegF_of (zsB_negL h), negL_negL]
theorem zsB_NegF {z : List Ent} (h : zsB z = true) : zsB (NegF z) = true := by rw [NegF_of h]; exact zsB_negL h
theorem totW_negL (z : List Ent) : totW (negL z) = -totW z := by
  induction z with
  | nil => rfl
  | cons e z ih =>
    have h1 : totW (negL (e :: z)) = -e.2 + totW (negL z) := by simp [totW, negL]
    have h2 : totW (e :: z) = e.2 + totW z := by simp [totW]
    rw [h1, h2, ih]; omega
theorem TotF_NegF {z : List Ent} (h : zsB z = true) : TotF (NegF z) = -TotF z := by
  simp only [TotF, zsB_NegF h, h, if_true]
  rw [NegF_of h, totW_negL]
theorem zsB_wts {z : List Ent} (h : zsB z = true) : ∀ e ∈ z, -1000000 ≤ e.2 ∧ e.2 ≤ 1000000 := fun e he => by
  obtain ⟨j, hj, rfl⟩ := List.getElem_of_mem he
  exact zsB_wt h hj
theorem TotF_bd (z : List Ent) : -400000000 ≤ TotF z ∧ TotF z ≤ 400000000 := by
  unfold TotF
  split
  · rename_i h
    have := totW_bd (zsB_wts h) z.length
    rw [List.take_length] at this
    have := zsB_len h
    omega
  · omega
theorem rows_big {z : List Ent} {n : Nat} (h : rowsIn z n) (hn : n ≤ 4194304) : rowsIn z 4194304 := fun e he => by have := h e he; omega

/-! ### Sums -/
theorem zsB_chk' (l : List Ent) : zsB (chkF l) = true := by
  unfold chkF
  split
  · assumption
  · rfl
theorem nz_asc {l : List Ent} (h : Asc lessB l) : Asc lessB (nz l) := List.Pairwise.sublist List.filter_sublist h
theorem nz_add_comm {a b : List Ent} (ha : Asc lessB a) (hb : Asc lessB b) : nz (AddL a b) = nz (AddL b a) :=
  nz_ext rowTot (AddL_asc ha b) (AddL_asc hb a) (fun r => by rw [AddL_wsum, AddL_wsum]; omega)
theorem AddF_comm (a b : List Ent) : AddF a b = AddF b a := by
  unfold AddF
  by_cases h : (zsB a && zsB b) = true
  · have h' : (zsB b && zsB a) = true := by rw [Bool.and_comm]; exact h
    rw [if_pos h, if_pos h']
    simp only [Bool.and_eq_true] at h
    rw [nz_add_comm (zsB_asc h.1) (zsB_asc h.2)]
  · have h' : ¬ (zsB b && zsB a) = true := by rw [Bool.and_comm]; exact h
    rw [if_neg h, if_neg h']
theorem AddF_nil {a : List Ent} (h : zsB a = true) : AddF a [] = a := by
  have h0 : zsB ([] : List Ent) = true := rfl
  simp only [AddF, h, h0, Bool.and_self, if_true, AddL, List.foldl_nil]
  rw [zsB_nz h]
  simp [chkF, h]
theorem wsum_negL (z : List Ent) (r : List Int) : wsum (negL z) r = -wsum z r := by
  induction z with
  | nil => simp [negL, wsum_nil]
  | cons e z ih =>
    have : negL (e :: z) = (e.1, -e.2) :: negL z := rfl
    rw [this, wsum_cons, wsum_cons, ih]
    by_cases h : e.1 = r <;> simp [h] <;> omega
theorem nz_zero {l : List Ent} (ha : Asc lessB l) (h : ∀ r, wsum l r = 0) : nz l = [] := by
  have := nz_ext rowTot (l := l) (m := []) ha List.Pairwise.nil (fun r => by rw [h r, wsum_nil])
  rw [this]; rfl
theorem AddF_NegF {a : List Ent} (h : zsB a = true) : AddF a (NegF a) = [] := by
  have h0 : (zsB a && zsB (NegF a)) = true := by rw [h, zsB_NegF h]; rfl
  simp only [AddF]
  rw [if_pos h0, nz_zero (AddL_asc (zsB_asc h) _) (fun r => by rw [AddL_wsum, NegF_of h, wsum_negL]; omega)]
  rfl
theorem AddF_len' (a b : List Ent) : (AddF a b).length ≤ 400 := by
  unfold AddF
  split
  · unfold chkF
    split
    · rename_i h; exact zsB_len h
    · simp
  · simp
theorem AddF_row' (a b : List Ent) : rowsIn (AddF a b) 6 := by
  unfold AddF
  split
  · unfold chkF
    split
    · rename_i h; exact zsB_row h
    · intro e he; cases he
  · intro e he; cases he
end Go.Proofs.Ytjlpkfcdkmcjnaa
