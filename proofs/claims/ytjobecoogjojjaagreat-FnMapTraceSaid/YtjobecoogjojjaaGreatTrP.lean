/- HELPER, no statement of the seat: projections of small traces; no program. -/
import Derived.Test.YtjobecoogjojjaaGreatTrs
import Derived.Test.YtjobecoogjojjaaGreatMapU
namespace Go.Proofs.YtjobecoogjojjaaGreat
set_option linter.unusedSimpArgs false
set_option linter.unusedVariables false

theorem MapFU_nil (cols : List Int) : MapFU [] cols = [] := MapFU_no (colB_zero cols)
theorem MapFU_bad {n k : Nat} {b : Int} {z : List Upd} (h : SmT n k b z) {cols : List Int} (hc : colB cols n = false) : MapFU z cols = [] := by
  rcases Nat.eq_zero_or_pos z.length with h0 | hp
  · rw [List.eq_nil_of_length_eq_zero h0, MapFU_nil]
  · exact MapFU_no (by rw [widU_of h.wd hp]; exact hc)
theorem trB_MapFU (z : List Upd) (cols : List Int) : trB (MapFU z cols) = true := by
  unfold MapFU
  split
  · exact trB_ConsF _
  · rfl
theorem mapU_SmT {n k : Nat} {b : Int} {z : List Upd} (h : SmT n k b z) {cols : List Int} (hc : colB cols n = true) (hb : 0 ≤ b) (hk : k ≤ 400) (hw : b * k ≤ 1000000) :
    SmT cols.length k (b * k) (nz (NormLU (z.map (mapU cols)))) ∧ MapFU z cols = nz (NormLU (z.map (mapU cols))) := by
  have hs : ∀ e ∈ z.map (mapU cols), sumU e = true := fun e he => by
    obtain ⟨u, hu, rfl⟩ := List.mem_map.1 he
    have h1 := trB_sum h.tr u hu
    simp only [sumU, sumE, mapU, Bool.and_eq_true] at h1 ⊢
    exact ⟨⟨rowB_proj h1.1.1 (by rw [h.wd u hu]; exact hc), h1.1.2⟩, h1.2⟩
  have hl : (z.map (mapU cols)).length ≤ k := by simpa using h.len
  have hwz : ∀ e ∈ z.map (mapU cols), -b ≤ e.2 ∧ e.2 ≤ b := fun e he => by
    obtain ⟨u, hu, rfl⟩ := List.mem_map.1 he
    exact h.wt u hu
  have hwd : ∀ e ∈ z.map (mapU cols), e.1.1.length = cols.length := fun e he => by
    obtain ⟨u, hu, rfl⟩ := List.mem_map.1 he
    simp [mapU, projL_length]
  refine ⟨cons_SmT hs hl hwz hwd hb hk hw, ?_⟩
  rcases Nat.eq_zero_or_pos z.length with h0 | hp
  · rw [List.eq_nil_of_length_eq_zero h0, MapFU_nil]; rfl
  · have hc' : colB cols (widU z) = true := by rw [widU_of h.wd hp]; exact hc
    rw [MapFU, h.tr, hc']
    simp only [Bool.and_self, if_true]
    exact ConsF_SmT hs hl hwz hwd hb hk hw
theorem asOf_map {n : Nat} {z : List Upd} (h : SmT n 20 9 z) (cols : List Int) (x y : Int) : AsOfF (MapFU z cols) x y = MapF (AsOfF z x y) cols := by
  have hs := asOf_Sm' h (by decide) (by decide) (by decide) x y
  cases hc : colB cols n
  · rw [MapFU_bad h hc, AsOfF_nil, MapF_bad hs hc]
  · cases ht : vtB x y
    · rw [AsOfF_bad ht, AsOfF_bad ht, MapF_no (colB_zero cols)]
    · obtain ⟨h1, h2⟩ := mapU_SmT h hc (by decide) (by decide) (by decide)
      have hm := map_Sm hs (by decide) (by decide) (by decide) hc
      rw [MapF_Sm hs (by decide) (by decide) (by decide) hc, h2]
      refine zs_ext (asOf_Sm' h1 (by decide) (by decide) (by decide) x y).zs hm.zs (fun r => ?_)
      rw [asOf_lin h1 (by decide) (by decide) (by decide) ht, nz_wsum, AddL_wsum, wsum_nil, lin_nz, lin_NormLU]
      have e1 : lin (fun q : KeyU => upTo x y q && decide (q.1 = r)) (z.map (mapU cols)) = lin (fun q : KeyU => upTo x y q && decide (projL q.1 cols = r)) z :=
        lin_map (fun q : KeyU => ((projL q.1 cols, q.2) : KeyU)) (fun q : KeyU => upTo x y q && decide (q.1 = r)) z
      have e2 : wsum ((AsOfF z x y).map (mapE cols)) r = lin (fun q => decide (projL q cols = r)) (AsOfF z x y) :=
        lin_map (fun q : List Int => projL q cols) (fun q => decide (q = r)) (AsOfF z x y)
      rw [e1, e2, AsOfF_Sm h (by decide) (by decide) (by decide) ht, lin_nz, lin_NormL, lin_entsTo]
      omega
end Go.Proofs.YtjobecoogjojjaaGreat
