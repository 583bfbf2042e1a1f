/- HELPER, no statement of the seat: the pairs of a certificate are the closure; no program. -/
import Derived.Test.YtifjenleoagefaaGreatCtm
namespace Go.Proofs.YtifjenleoagefaaGreat
open Go.RowKit Go.Sort
set_option linter.unusedSimpArgs false
set_option linter.unusedVariables false

theorem less2_iff (a b c d : Int) : lessB [a, b] [c, d] = true ↔ a < c ∨ a = c ∧ b < d := by
  simp only [lessB, cmpL, cmpI]
  by_cases h1 : a < c
  · simp [h1]
  · by_cases h2 : c < a
    · have : a ≠ c := by omega
      simp [h1, h2, this]
    · obtain rfl : a = c := by omega
      by_cases h3 : b < d
      · simp [h3]
      · by_cases h4 : d < b
        · have : b ≠ d := by omega
          simp [h3, h4, this]
        · obtain rfl : b = d := by omega
          simp
def two2 (e : Ent) : Ent := ([gi e.1 0, gi e.1 1], e.2)
theorem map_cer {r : List Nat} (hr : OkR r) : (entT (distT r)).map two2 = prs (closR r) := by
  have ha := entT_asc (distT r)
  refine ones_ext ?_ (prs_asc _) ?_ (prs_ones _) (fun x => ?_)
  · unfold Asc at ha ⊢
    rw [List.pairwise_map]
    refine (List.Pairwise.and_mem.1 ha).imp (fun {e f} h => ?_)
    obtain ⟨he, hf, h⟩ := h
    obtain ⟨x, y, _, _, _, rfl⟩ := mem_entT.1 he
    obtain ⟨u, v, _, _, _, rfl⟩ := mem_entT.1 hf
    rw [less3_iff] at h
    show lessB [(x : Int), (y : Int)] [(u : Int), (v : Int)] = true
    rw [less2_iff]
    rcases h with h | ⟨h1, h | ⟨h2, h3⟩⟩
    · exact .inl h
    · exact .inr ⟨h1, h⟩
    · have e1 : x = u := by omega
      have e2 : y = v := by omega
      subst e1; subst e2
      omega
  · intro e he
    obtain ⟨f, hf, rfl⟩ := List.mem_map.1 he
    exact entT_ones _ f hf
  · rw [cer_pairs hr, List.mem_map]
    constructor
    · rintro ⟨f, hf, e⟩
      refine ⟨f, hf, ?_⟩
      rw [← e]
      exact Prod.ext rfl (entT_ones _ f hf)
    · rintro ⟨f, hf, e⟩
      refine ⟨f, hf, ?_⟩
      rw [e]
      exact Prod.ext rfl (entT_ones _ f hf)
end Go.Proofs.YtifjenleoagefaaGreat
