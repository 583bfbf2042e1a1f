/- HELPER, no statement of the seat: the model's sum into a sorted list of entries. -/
import Derived.Test.YthefakiobpijiaaZbx
namespace Go.Proofs.Ythefakiobpijiaa
open Go.RowKit Go.Sort
set_option linter.unusedSimpArgs false
set_option linter.unusedVariables false

/-- An element more, in the middle, in a new block. -/
theorem SlF.splice {α : Type} {O : Ow α} {R : Rd α} {sz : Nat} {E : TypeId} {w : World} {S T U : Fp} {A A' : Option Addr} {c c' k : Nat} {xs : List α} {css : List (List Value)} {F : Nat → Fp} (ok : OOk O R sz) (h : SlF O sz E w S A c xs css F) (hk : k ≤ xs.length)
    {cs : List Value} {x : α} (hx : O w T cs x) (hd : ∀ q, T q → ¬ S q) (hrow : w.ownsRow 0 E sz (.slice A' (xs.length + 1) c') (xs.length + 1) ((css.take k).flatten ++ cs ++ (css.drop k).flatten))
    (hA : ∀ q, blk A' = some q → ¬ S q ∧ ¬ T q) (hU : ∀ q, S q ∨ T q ∨ blk A' = some q → U q) (hUl : ∀ q, U q → q < w.heap.size) :
    SlF O sz E w U A' c' (xs.take k ++ x :: xs.drop k) (css.take k ++ cs :: css.drop k) (fun j => if j < k then F j else if j = k then T else F (j - 1)) := by
  have hcl := h.clen
  have hl : (xs.take k ++ x :: xs.drop k).length = xs.length + 1 := by simp; omega
  refine ⟨hUl, fun q hq => hU q (.inr (.inr hq)), ?_, by simp [hcl], ?_, ?_, ?_, ?_⟩
  · rw [hl]
    have e : (css.take k ++ cs :: css.drop k).flatten = (css.take k).flatten ++ cs ++ (css.drop k).flatten := by simp
    rw [e]
    exact hrow
  · intro d hd'
    rcases List.mem_append.1 hd' with hd' | hd'
    · exact h.elen d (List.mem_of_mem_take hd')
    · rcases List.mem_cons.1 hd' with rfl | hd'
      · exact ok.len hx
      · exact h.elen d (List.mem_of_mem_drop hd')
  · intro j q hq
    by_cases h1 : j < k
    · rw [if_pos h1] at hq
      have := (h.sub j q hq).1
      exact ⟨hU q (.inl this), fun e => (hA q e).1 this⟩
    · rw [if_neg h1] at hq
      by_cases h2 : j = k
      · rw [if_pos h2] at hq
        exact ⟨hU q (.inr (.inl hq)), fun e => (hA q e).2 hq⟩
      · rw [if_neg h2] at hq
        have := (h.sub _ q hq).1
        exact ⟨hU q (.inl this), fun e => (hA q e).1 this⟩
  · intro i j q hi hj
    have dis : ∀ m, F m q → ¬ T q := fun m hm ht => hd q ht (h.sub m q hm).1
    by_cases i1 : i < k <;> by_cases j1 : j < k
    · rw [if_pos i1] at hi; rw [if_pos j1] at hj; exact h.apart i j q hi hj
    · rw [if_pos i1] at hi
      rw [if_neg j1] at hj
      by_cases j2 : j = k
      · rw [if_pos j2] at hj; exact absurd hj (dis i hi)
      · rw [if_neg j2] at hj; have := h.apart i (j - 1) q hi hj; omega
    · rw [if_pos j1] at hj
      rw [if_neg i1] at hi
      by_cases i2 : i = k
      · rw [if_pos i2] at hi; exact absurd hi (dis j hj)
      · rw [if_neg i2] at hi; have := h.apart (i - 1) j q hi hj; omega
    · rw [if_neg i1] at hi
      rw [if_neg j1] at hj
      by_cases i2 : i = k <;> by_cases j2 : j = k
      · omega
      · rw [if_pos i2] at hi; rw [if_neg j2] at hj; exact absurd hi (dis _ hj)
      · rw [if_neg i2] at hi; rw [if_pos j2] at hj; exact absurd hj (dis _ hi)
      · rw [if_neg i2] at hi; rw [if_neg j2] at hj; have := h.apart _ _ q hi hj; omega
  · intro j g1 g2
    by_cases h1 : j < k
    · rw [if_pos h1, List.getElem_append_left (by simp; omega), List.getElem_append_left (by simp; omega)]
      simp only [List.getElem_take]
      exact h.elt j _ _
    · rw [if_neg h1]
      have e1 : (css.take k).length = k := by simp; omega
      have e2 : (xs.take k).length = k := by simp; omega
      by_cases h2 : j = k
      · subst h2
        rw [if_pos rfl, List.getElem_append_right (by omega), List.getElem_append_right (by omega)]
        simp only [e1, e2, Nat.sub_self, List.getElem_cons_zero]
        exact hx
      · rw [if_neg h2, List.getElem_append_right (by omega), List.getElem_append_right (by omega)]
        obtain ⟨m, rfl⟩ : ∃ m, j = k + 1 + m := ⟨j - (k + 1), by omega⟩
        have e3 : k + 1 + m - (css.take k).length = m + 1 := by omega
        have e4 : k + 1 + m - (xs.take k).length = m + 1 := by omega
        simp only [e3, e4, List.getElem_cons_succ, List.getElem_drop]
        have e5 : k + 1 + m - 1 = k + m := by omega
        rw [e5]
        exact h.elt (k + m) (by simp [hcl] at g1; omega) (by rw [hl] at g2; omega)

/-- The weights are far from the edge of the numbers. -/
def wts (z : List Ent) (b : Int) : Prop := ∀ e ∈ z, -b ≤ e.2 ∧ e.2 ≤ b
theorem wts.get {z : List Ent} {b : Int} (h : wts z b) {k : Nat} (hk : k < z.length) : -b ≤ z[k].2 ∧ z[k].2 ≤ b := h _ (List.getElem_mem hk)

theorem asc_lt {z : List Ent} (h : Asc lessB z) {i j : Nat} (hi : i < z.length) (hj : j < z.length) (hij : i < j) : lessB z[i].1 z[j].1 = true := List.pairwise_iff_getElem.1 h i j hi hj hij
theorem below_of {z : List Ent} (h : Asc lessB z) {r : List Int} {m : Nat} (hm : m < z.length) (hl : lessB z[m].1 r = true) : ∀ j (hj : j < z.length), j < m + 1 → lessB z[j].1 r = true := fun j hj hlt => by
  by_cases e : j = m
  · subst e; exact hl
  · exact rowTot.trans _ _ _ (asc_lt h hj hm (by omega)) hl
theorem above_of {z : List Ent} (h : Asc lessB z) {r : List Int} {m : Nat} (hm : m < z.length) (hl : lessB z[m].1 r = false) : ∀ j (hj : j < z.length), m ≤ j → lessB z[j].1 r = false := fun j hj hle => by
  by_cases e : j = m
  · subst e; exact hl
  · cases hc : lessB z[j].1 r with
    | false => rfl
    | true => have := rowTot.trans _ _ _ (asc_lt h hm hj (by omega)) hc; rw [hl] at this; cases this

/-- The blocks of S, and those that have come since w. -/
def plus (S : Fp) (w w' : World) : Fp := fun q => S q ∨ news w w' q
theorem flat_srcs {w : World} {E : TypeId} {sz c n k m : Nat} {g o : Nat} {css : List (List Value)} (he : ∀ cs ∈ css, cs.length = sz) (hr : w.ownsRow 0 E sz (.slice (some ⟨g, 0, none⟩) n c) n css.flatten) (hl : css.length = n) (ho : o = k * sz) :
    ∀ a, some (⟨g, o, none⟩ : Addr) = some a → ∀ j u, ((css.drop k).take m).flatten[j]? = some u → w.cell? (a.add j) = some u := by
  intro a e j u hu
  injection e with e
  subst e
  subst ho
  have ha : (⟨g, k * sz, none⟩ : Addr).add j = ⟨g, k * sz + j, none⟩ := by unfold Addr.add; by_cases h0 : j = 0 <;> simp [h0]
  rw [ha]
  have hkn : k ≤ css.length := by
    rcases Nat.lt_or_ge css.length k with h | h
    · rw [List.drop_eq_nil_of_le (by omega)] at hu; simp at hu
    · exact h
  have hsplit : css.flatten = (css.take k).flatten ++ (((css.drop k).take m).flatten ++ ((css.drop k).drop m).flatten) := by
    rw [← List.flatten_append, List.take_append_drop, ← List.flatten_append, List.take_append_drop]
  have hfl : (css.take k).flatten.length = k * sz := by
    rw [flat_len (sz := sz) (fun c hc => he c (List.mem_of_mem_take hc)), List.length_take, Nat.min_eq_left hkn]
  have hj : j < ((css.drop k).take m).flatten.length := by
    rcases Nat.lt_or_ge j ((css.drop k).take m).flatten.length with h | h
    · exact h
    · rw [List.getElem?_eq_none h] at hu; cases hu
  have hin : k * sz + j < n * sz := by
    have h1 := hr.1
    rw [hsplit] at h1
    simp only [List.length_append, hfl] at h1
    omega
  have := World.ownsRow.cellAt hr (k * sz + j) hin
  rw [this, hsplit, List.getElem?_append_right (by omega), hfl, Nat.add_sub_cancel_left, List.getElem?_append_left hj]
  exact hu
theorem flat_ones {w : World} {S : Fp} {A : Option Addr} {c : Nat} {es : List Ent} {css : List (List Value)} {F : Nat → Fp} (h : SlF EntO 2 260 w S A c es css F) : ∀ cs ∈ css, ∀ u ∈ cs, u.oneCell' = true := by
  intro cs hcs u hu
  obtain ⟨j, hj, rfl⟩ := List.getElem_of_mem hcs
  exact entO.one (h.elt j hj (by rw [← h.clen]; exact hj)) u hu
theorem flat_ones2 {w : World} {S : Fp} {A : Option Addr} {c : Nat} {es : List Ent} {css : List (List Value)} {F : Nat → Fp} (h : SlF EntO 2 260 w S A c es css F) (k m : Nat) : ∀ u ∈ ((css.drop k).take m).flatten, u.oneCell' = true := by
  intro u hu
  obtain ⟨cs, hcs, hu⟩ := List.mem_flatten.1 hu
  exact flat_ones h cs (List.mem_of_mem_drop (List.mem_of_mem_take hcs)) u hu

end Go.Proofs.Ythefakiobpijiaa
