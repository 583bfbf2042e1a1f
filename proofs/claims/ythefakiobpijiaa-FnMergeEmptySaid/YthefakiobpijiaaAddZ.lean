/- HELPER, no statement of the seat: the model's sums of Z-sets. -/
import Derived.Test.YthefakiobpijiaaAddE
namespace Go.Proofs.Ythefakiobpijiaa
open Go.RowKit Go.Sort
set_option linter.unusedSimpArgs false
set_option linter.unusedVariables false

theorem getD_lt {α : Type} {l : List α} {i : Nat} (d : α) (h : i < l.length) : l.getD i d = l[i] := by simp [h]
/-- The elements at the places of sel, in their order, in another block. -/
theorem SlF.pick {α : Type} {O : Ow α} {R : Rd α} {sz : Nat} {E : TypeId} {w : World} {S U : Fp} {A A' : Option Addr} {c c' : Nat} {xs : List α} {css : List (List Value)} {F : Nat → Fp} (ok : OOk O R sz) (h : SlF O sz E w S A c xs css F) (dx : α) (sel : List Nat) (hs : sel.Nodup) (hlt : ∀ j ∈ sel, j < xs.length)
    (hrow : w.ownsRow 0 E sz (.slice A' sel.length c') sel.length (sel.map fun j => css.getD j []).flatten) (hA : ∀ q, blk A' = some q → blk A = some q ∨ ¬ S q) (hU : ∀ q, S q ∨ blk A' = some q → U q) (hUl : ∀ q, U q → q < w.heap.size) :
    SlF O sz E w U A' c' (sel.map fun j => xs.getD j dx) (sel.map fun j => css.getD j []) (fun i => if i < sel.length then F (sel.getD i 0) else fun _ => False) := by
  have hcl := h.clen
  refine ⟨hUl, fun q hq => hU q (.inr hq), ?_, by simp, ?_, ?_, ?_, ?_⟩
  · rw [List.length_map]
    exact hrow
  · intro cs hcs
    obtain ⟨j, hj, rfl⟩ := List.mem_map.1 hcs
    have hj' := hlt j hj
    rw [getD_lt _  (by rw [hcl]; exact hj')]
    exact h.elen _ (List.getElem_mem _)
  · intro i q hq
    by_cases hi : i < sel.length
    · rw [if_pos hi] at hq
      have hs' := h.sub _ q hq
      refine ⟨hU q (.inl hs'.1), fun e => ?_⟩
      rcases hA q e with e' | e'
      · exact hs'.2 e'
      · exact e' hs'.1
    · rw [if_neg hi] at hq
      exact hq.elim
  · intro i j q hi hj
    by_cases hil : i < sel.length
    · by_cases hjl : j < sel.length
      · rw [if_pos hil] at hi
        rw [if_pos hjl] at hj
        have := h.apart _ _ q hi hj
        rw [getD_lt _  hil, getD_lt _  hjl] at this
        rcases Nat.lt_trichotomy i j with hl | hl | hl
        · exact absurd this (List.pairwise_iff_getElem.1 hs i j hil hjl hl)
        · exact hl
        · exact absurd this.symm (List.pairwise_iff_getElem.1 hs j i hjl hil hl)
      · rw [if_neg hjl] at hj; exact hj.elim
    · rw [if_neg hil] at hi; exact hi.elim
  · intro i g1 g2
    have hi : i < sel.length := by simpa using g1
    rw [if_pos hi, getD_lt _  hi]
    simp only [List.getElem_map]
    have hj := hlt sel[i] (List.getElem_mem hi)
    rw [getD_lt _  (by rw [hcl]; exact hj), getD_lt _  hj]
    exact h.elt _ _ _

/-- The places below k of what is not zero. -/
def nzTo (z : List Ent) (k : Nat) : List Nat := (List.range k).filter fun j => decide ((nth z j).2 ≠ 0)
theorem nzTo_step {z : List Ent} {k : Nat} (h : k < z.length) : nzTo z (k + 1) = nzTo z k ++ if z[k].2 ≠ 0 then [k] else [] := by
  unfold nzTo
  rw [List.range_succ, List.filter_append]
  congr 1
  by_cases e : z[k].2 = 0 <;> simp [nth_get h, e]
theorem nzTo_len (z : List Ent) (k : Nat) : (nzTo z k).length ≤ k := by
  have := List.length_filter_le (fun j => decide ((nth z j).2 ≠ 0)) (List.range k)
  simpa [nzTo] using this
theorem nzTo_lt {z : List Ent} {k j : Nat} (h : j ∈ nzTo z k) : j < k := by
  have := (List.mem_filter.1 h).1
  simpa using this
theorem nzTo_nodup (z : List Ent) (k : Nat) : (nzTo z k).Nodup := List.Pairwise.sublist List.filter_sublist List.nodup_range
theorem nzTo_nz (z : List Ent) : ∀ k, k ≤ z.length → (nzTo z k).map (fun j => z.getD j ([], 0)) = nz (z.take k) := by
  intro k
  induction k with
  | zero => intro _; rfl
  | succ k ih =>
    intro hk
    have hk' : k < z.length := by omega
    rw [nzTo_step hk', List.map_append, ih (by omega), List.take_succ_eq_append_getElem hk', nz, nz, List.filter_append]
    congr 1
    by_cases e : z[k].2 = 0 <;> simp [e, hk']

/-! ### The sums -/
theorem wts_ins {z : List Ent} {b x d : Int} (h : wts z b) (hd : -d ≤ x ∧ x ≤ d) (hd0 : 0 ≤ d) (hb0 : 0 ≤ b) (r : List Int) : wts (insK lessB z r x) (b + d) := by
  induction z with
  | nil =>
    intro e he
    simp [insK] at he
    subst he
    simp only
    omega
  | cons y l ih =>
    intro e he
    have hy := h y (by simp)
    have hl : wts l b := fun q hq => h q (by simp [hq])
    unfold insK at he
    split at he
    · rcases List.mem_cons.1 he with rfl | he
      · omega
      · exact ih hl e he
    · split at he
      · rcases List.mem_cons.1 he with rfl | he
        · simp only; omega
        · have := hl e he; omega
      · rcases List.mem_cons.1 he with rfl | he
        · simp only; omega
        · have := h e he; omega
theorem rows_ins {z : List Ent} {n : Nat} (h : rowsIn z n) {r : List Int} (hr : r.length ≤ n) (x : Int) : rowsIn (insK lessB z r x) n := by
  intro e he
  rcases insK_key he with h1 | ⟨q, hq, h1⟩
  · rw [h1]; exact hr
  · rw [h1]; exact h q hq
theorem insK_pos (z : List Ent) (r : List Int) (x : Int) : 0 < (insK lessB z r x).length := by
  cases z with
  | nil => simp [insK]
  | cons y l =>
    unfold insK
    split
    · simp
    · split <;> simp
theorem AddL_take {a b : List Ent} {k : Nat} (h : k < b.length) : AddL a (b.take (k + 1)) = insK lessB (AddL a (b.take k)) b[k].1 b[k].2 := by
  rw [List.take_succ_eq_append_getElem h, AddL, List.foldl_append]
  rfl
theorem some_of_pos {w : World} {S : Fp} {A : Option Addr} {c : Nat} {z : List Ent} (h : EntsOw w S A c z) (hp : 0 < z.length) : A ≠ none := by
  obtain ⟨css, F, h⟩ := h
  rcases h.form with ⟨_, _, rfl⟩ | ⟨g, e, _⟩
  · simp at hp
  · rw [e]; simp
theorem wts_zs {z : List Ent} (h : zsB z = true) : wts z 1000000 := fun e he => by
  obtain ⟨j, hj, rfl⟩ := List.getElem_of_mem he
  exact zsB_wt h hj

theorem wts_next {z : List Ent} {k : Nat} (h : wts z (1000000 + (k : Int) * 1000000 + 1000000)) : wts z (1000000 + ((k + 1 : Nat) : Int) * 1000000) := fun e he => by
  have := h e he
  push_cast
  constructor <;> omega
end Go.Proofs.Ythefakiobpijiaa
