/- HELPER, no statement of the seat: compacted small traces; no program. -/
import Derived.Test.YtjobecoogjojjaaGreatTrs
import Derived.Test.YtjobecoogjojjaaGreatCpt
import Derived.Test.YtjobecoogjojjaaGreatDrs
namespace Go.Proofs.YtjobecoogjojjaaGreat
set_option linter.unusedSimpArgs false
set_option linter.unusedVariables false

theorem trB_CptF (z : List Upd) (fr : List Tm) : trB (CptF z fr) = true := by
  unfold CptF
  split
  · exact trB_ConsF _
  · rfl
theorem adv_SmT {n k : Nat} {b : Int} {z : List Upd} {fr : List Tm} (h : SmT n k b z) (hf : frB fr = true) (hb : 0 ≤ b) (hk : k ≤ 400) (hw : b * k ≤ 1000000) :
    SmT n k (b * k) (nz (NormLU (z.map (advU fr)))) ∧ CptF z fr = nz (NormLU (z.map (advU fr))) := by
  have hs := sumsU_iff.1 (adv_sums h.tr hf)
  have hl : (z.map (advU fr)).length ≤ k := by simpa using h.len
  have hwz : ∀ e ∈ z.map (advU fr), -b ≤ e.2 ∧ e.2 ≤ b := fun e he => by
    obtain ⟨u, hu, rfl⟩ := List.mem_map.1 he
    exact h.wt u hu
  have hwd : ∀ e ∈ z.map (advU fr), e.1.1.length = n := fun e he => by
    obtain ⟨u, hu, rfl⟩ := List.mem_map.1 he
    exact h.wd u hu
  refine ⟨cons_SmT hs hl hwz hwd hb hk hw, ?_⟩
  rw [CptF, h.tr, hf]
  simp only [Bool.and_self, if_true]
  exact ConsF_SmT hs hl hwz hwd hb hk hw
theorem CptF_le (z : List Upd) (fr : List Tm) : (CptF z fr).length ≤ z.length := by
  unfold CptF
  split
  · unfold ConsF
    split
    · have := consL_le (z.map (advU fr))
      simpa using this
    · simp
  · simp
theorem asOf_cpt {n : Nat} {z : List Upd} (h : SmT n 20 9 z) {fr : List Tm} {x y : Int} (hc : fcB fr x y = true) : AsOfF (CptF z fr) x y = AsOfF z x y := by
  simp only [fcB, Bool.and_eq_true] at hc
  obtain ⟨⟨hf, ht⟩, hcv⟩ := hc
  obtain ⟨h1, h2⟩ := adv_SmT h hf (by decide) (by decide) (by decide)
  rw [h2]
  refine zs_ext (asOf_Sm' h1 (by decide) (by decide) (by decide) x y).zs (asOf_Sm' h (by decide) (by decide) (by decide) x y).zs (fun r => ?_)
  rw [asOf_lin h1 (by decide) (by decide) (by decide) ht, asOf_lin h (by decide) (by decide) (by decide) ht, lin_nz, lin_NormLU]
  have e1 : lin (fun q : KeyU => upTo x y q && decide (q.1 = r)) (z.map (advU fr)) = lin (fun q : KeyU => upTo x y (q.1, advT q.2 fr) && decide (q.1 = r)) z :=
    lin_map (fun q : KeyU => ((q.1, advT q.2 fr) : KeyU)) (fun q : KeyU => upTo x y q && decide (q.1 = r)) z
  rw [e1]
  refine lin_congr fun e _ => ?_
  simp only [upTo]
  rw [advT_same hcv]
theorem cpt_twice (z : List Upd) {fr : List Tm} (hf : frB fr = true) : CptF (CptF z fr) fr = CptF z fr := by
  have hkey : ∀ e ∈ CptF z fr, advU fr e = e := fun e he => by
    have : ∃ q : KeyU, e.1 = (q.1, advT q.2 fr) := by
      unfold CptF at he
      split at he
      · unfold ConsF at he
        split at he
        · unfold chkT at he
          split at he
          · obtain ⟨q, hq, e2⟩ := NormLU_key (List.mem_filter.1 he).1
            obtain ⟨u, _, rfl⟩ := List.mem_map.1 hq
            exact ⟨u.1, e2⟩
          · cases he
        · cases he
      · cases he
    obtain ⟨q, e2⟩ := this
    obtain ⟨k, x⟩ := e
    simp only at e2
    subst e2
    simp only [advU, advT_twice]
  have hmap : (CptF z fr).map (advU fr) = CptF z fr := by
    conv => rhs; rw [← List.map_id (CptF z fr)]
    exact List.map_congr_left fun e he => hkey e he
  have h1 : CptF (CptF z fr) fr = ConsF ((CptF z fr).map (advU fr)) := by rw [CptF, trB_CptF, hf]; rfl
  rw [h1, hmap, ConsF_self (trB_CptF z fr)]
end Go.Proofs.YtjobecoogjojjaaGreat
