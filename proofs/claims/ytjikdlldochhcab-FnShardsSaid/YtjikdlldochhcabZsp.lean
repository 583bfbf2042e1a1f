/- HELPER, no statement of the seat: one element of a list of its own put in the place of another; lists of Z-sets that grow. -/
import Derived.Test.YtjikdlldochhcabZsm
namespace Go.Proofs.Ytjikdlldochhcab
open Go.RowKit Go.Sort
set_option linter.unusedSimpArgs false
set_option linter.unusedVariables false

section
variable {α : Type} {O : Ow α} {R : Rd α} {sz : Nat} {E : TypeId} {w w' : World} {S : Fp} {c : Nat} {xs : List α} {css : List (List Value)} {F : Nat → Fp}
/-- Another element has been put in the place of element j; what the others lead to is as it was. -/
theorem SlF.swap2 (ok : OOk O R sz) {g : Nat} (h : SlF O sz E w S (some ⟨g, 0, none⟩) c xs css F) {j : Nat} (hj : j < xs.length) {x' : α} {cs' : List Value} {T U : Fp}
    (hrow : w'.ownsRow 0 E sz (.slice (some ⟨g, 0, none⟩) xs.length c) xs.length (css.set j cs').flatten) (hl : cs'.length = sz) (hx : O w' T cs' x')
    (hoth : ∀ i, i ≠ j → ∀ k, F i k → w'.heap[k]? = w.heap[k]?) (hT1 : ∀ k, T k → U k ∧ k ≠ g) (hT2 : ∀ i, i ≠ j → ∀ k, F i k → ¬ T k)
    (hU : ∀ k, S k → U k) (hUl : ∀ k, U k → k < w'.heap.size) :
    SlF O sz E w' U (some ⟨g, 0, none⟩) c (xs.set j x') (css.set j cs') (fun i => if i = j then T else F i) := by
  have hcl := h.clen
  refine ⟨hUl, fun k hk => hU k (h.top k hk), ?_, by simp [hcl], ?_, ?_, ?_, ?_⟩
  · rw [List.length_set]; exact hrow
  · intro cs hc
    rcases List.mem_or_eq_of_mem_set hc with hc | rfl
    · exact h.elen cs hc
    · exact hl
  · intro i k hk
    by_cases e : i = j
    · rw [if_pos e] at hk
      exact ⟨(hT1 k hk).1, fun e2 => by simp [blk] at e2; exact (hT1 k hk).2 e2.symm⟩
    · rw [if_neg e] at hk
      exact ⟨hU k (h.sub i k hk).1, (h.sub i k hk).2⟩
  · intro i m k hi hm
    by_cases ei : i = j <;> by_cases em : m = j
    · omega
    · rw [if_pos ei] at hi; rw [if_neg em] at hm; exact absurd hi (hT2 m em k hm)
    · rw [if_neg ei] at hi; rw [if_pos em] at hm; exact absurd hm (hT2 i ei k hi)
    · rw [if_neg ei] at hi; rw [if_neg em] at hm; exact h.apart i m k hi hm
  · intro i h1 h2
    by_cases e : i = j
    · subst e
      rw [if_pos rfl]
      simpa using hx
    · rw [if_neg e, List.getElem_set_ne (fun h => e h.symm), List.getElem_set_ne (fun h => e h.symm)]
      exact ok.loc (h.elt i (by simpa using h1) (by simpa using h2)) (hoth i e)
end
/-- The outer row after the header of element j has been stored. -/
theorem ZssF.stored {w : World} {S : Fp} {g c : Nat} {zs : List Zs} {css : List (List Value)} {F : Nat → Fp} (h : SlF ZlO 1 31 w S (some ⟨g, 0, none⟩) c zs css F) {w1 : World} (hw : w1.heap[g]? = w.heap[g]?) {j : Nat} (hj : j < zs.length) (v : Value) :
    (w1.setCell ⟨g, j, none⟩ v).ownsRow 0 31 1 (.slice (some ⟨g, 0, none⟩) zs.length c) zs.length (css.set j [v]).flatten := by
  have hj' : j < css.length := by rw [h.clen]; exact hj
  have h0 : w1.ownsRow 0 31 1 (.slice (some ⟨g, 0, none⟩) zs.length c) zs.length css.flatten := ownsRow_loc h.row (fun k hk => by
    have : k = g := by simpa [blk] using hk.symm
    rw [this]; exact hw)
  have h1 := (World.ownsRow.stored h0 (j * 1 + 0) v).1
  rw [flat_set v h.elen j hj' 0 (by omega)] at h1
  have h2 : (css[j]).set 0 v = [v] := by
    have := h.elen _ (List.getElem_mem hj')
    match hq : css[j], this with
    | [u], _ => rfl
  rw [h2] at h1
  simpa using h1
theorem zl_srcs {w : World} {A : Option Addr} {n c : Nat} {E : TypeId} : ∀ a, some (⟨w.heap.size, 0, none⟩ : Addr) = some a → ∀ j u, [Value.slice A n c][j]? = some u → (w.alloc (.cells #[.slice A n c] E)).cell? (a.add j) = some u := by
  intro a e j u hu
  injection e with e
  subst e
  match j, hu with
  | 0, hu => simp at hu; subst hu; simp [Addr.add]
theorem zl_ones {A : Option Addr} {n c : Nat} : ∀ u ∈ [Value.slice A n c], u.oneCell' = true := by
  intro u hu
  simp at hu
  subst hu
  rfl
end Go.Proofs.Ytjikdlldochhcab
