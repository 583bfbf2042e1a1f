/- HELPER, no statement of the seat: what the differences of Z-sets that are alike add up to; no program. -/
import Derived.Test.YtjikdlldochhcacGreatTrL
import Derived.Test.YtjikdlldochhcacGreatTrs
import Derived.Test.YtjikdlldochhcacGreatAlk
namespace Go.Proofs.YtjikdlldochhcacGreat
set_option linter.unusedSimpArgs false
set_option linter.unusedVariables false

theorem NegF_Sm {n k : Nat} {b : Int} {z : List Ent} (h : Sm n k b z) : Sm n k b (NegF z) := by
  rw [NegF_of h.zs]
  refine ⟨zsB_negL h.zs, by simpa [negL] using h.len, fun e he => ?_, fun e he => ?_⟩
  · obtain ⟨q, hq, rfl⟩ := List.mem_map.1 he
    have := h.wt q hq
    simp only
    omega
  · obtain ⟨q, hq, rfl⟩ := List.mem_map.1 he
    exact h.wd q hq
theorem NegF_lin {z : List Ent} (h : zsB z = true) (r : List Int) : wsum (NegF z) r = - wsum z r := by
  rw [NegF_of h, wsum_negL]
theorem prevZ_Sm {zs : List Zs} {q : Nat} (h : ∀ z ∈ zs, Sm q 12 9 z) : ∀ k, Sm q 12 9 (prevZ zs k)
  | 0 => Sm.nil _ _ _
  | k + 1 => by
    show Sm q 12 9 (zs.getD k [])
    by_cases hk : k < zs.length
    · rw [List.getD_eq_getElem?_getD, List.getElem?_eq_getElem hk]; exact h _ (List.getElem_mem hk)
    · rw [List.getD_eq_getElem?_getD, List.getElem?_eq_none (by omega)]; exact Sm.nil _ _ _
theorem dfZ_Sm {zs : List Zs} {q : Nat} (h : ∀ z ∈ zs, Sm q 12 9 z) (k : Nat) : Sm q 24 18 (dfZ zs k) ∧ ∀ r, wsum (dfZ zs k) r = wsum (prevZ zs (k + 1)) r - wsum (prevZ zs k) r := by
  have h1 := prevZ_Sm h (k + 1)
  have h2 := NegF_Sm (prevZ_Sm h k)
  refine ⟨h1.add h2 (by omega) (by omega) (by omega) (by omega), fun r => ?_⟩
  have := h1.add_wsum h2 (by omega) (by omega) (by omega) (by omega) r
  rw [NegF_lin (prevZ_Sm h k).zs] at this
  exact this.trans (by omega)
theorem trTo_len24 {zs : List Zs} {q : Nat} (h : ∀ z ∈ zs, Sm q 12 9 z) : ∀ k, (trTo zs k).length ≤ k * 24
  | 0 => by simp [trTo_zero]
  | k + 1 => by
    have h1 := trTo_len24 h k
    have h2 := (dfZ_Sm h k).1.len
    rw [trTo_succ, List.length_append, List.length_map]
    omega
theorem trTo_lin {zs : List Zs} {q : Nat} (h : ∀ z ∈ zs, Sm q 12 9 z) (i : Nat) (y : Int) (hy : 0 ≤ y) (r : List Int) : ∀ k, lin (fun u : KeyU => upTo (i : Int) y u && decide (u.1 = r)) (trTo zs k) = if k ≤ i then wsum (prevZ zs k) r else wsum (prevZ zs (i + 1)) r
  | 0 => by rw [if_pos (Nat.zero_le _)]; rfl
  | k + 1 => by
    have ih := trTo_lin h i y hy r k
    have hd := (dfZ_Sm h k).2 r
    rw [trTo_succ, lin_append, ih]
    have e : lin (fun u : KeyU => upTo (i : Int) y u && decide (u.1 = r)) ((dfZ zs k).map (atE (k : Int))) = if k ≤ i then wsum (dfZ zs k) r else 0 := by
      refine (lin_map (fun x : List Int => ((x, ((k : Int), 0)) : KeyU)) (fun u : KeyU => upTo (i : Int) y u && decide (u.1 = r)) (dfZ zs k)).trans ?_
      by_cases hk : k ≤ i
      · rw [if_pos hk, wsum_lin]
        refine lin_congr (fun x _ => ?_)
        have : upTo (i : Int) y (x.1, ((k : Int), 0)) = true := by
          simp only [upTo, leB, Bool.and_eq_true, decide_eq_true_eq]
          omega
        rw [this, Bool.true_and]
      · rw [if_neg hk]
        refine lin_none (fun x _ => ?_)
        have : upTo (i : Int) y (x.1, ((k : Int), 0)) = false := by
          cases hq : upTo (i : Int) y (x.1, ((k : Int), 0)) with
          | false => rfl
          | true =>
            simp only [upTo, leB, Bool.and_eq_true, decide_eq_true_eq] at hq
            omega
        rw [this, Bool.false_and]
    rw [e]
    rcases Nat.lt_trichotomy k i with hlt | rfl | hgt
    · rw [if_pos (by omega), if_pos (by omega), if_pos (by omega), hd]; omega
    · rw [if_pos (Nat.le_refl _), if_pos (Nat.le_refl _), if_neg (by omega), hd]; omega
    · rw [if_neg (by omega), if_neg (by omega), if_neg (by omega)]; omega
theorem allZ_Sm {zs : List Zs} {q : Nat} (h : ∀ z ∈ zs, Sm q 12 9 z) : allZ zs = true := List.all_eq_true.2 (fun z hz => (h z hz).zs)
/-- Reading the differences restores the snapshots. -/
theorem TrF_asOf {zs : List Zs} (ha : alkB zs = true) (hl : zs.length ≤ 9) {i : Nat} (hi : i < zs.length) {y : Int} (hy0 : 0 ≤ y) (hy1 : y ≤ 99) : AsOfF (TrF zs) (i : Int) y = zs[i] := by
  obtain ⟨q, h⟩ := alkB_Sm ha
  have hz := allZ_Sm h
  have h100 : zs.length ≤ 100 := by omega
  have hlen := trTo_len24 h zs.length
  have hl216 : (trTo zs zs.length).length ≤ 216 := by omega
  have hs := fun e he => (trTo_sum (zs := zs) h100 e he).1
  have hmem : ∀ e ∈ trTo zs zs.length, (-18 ≤ e.2 ∧ e.2 ≤ 18) ∧ e.1.1.length = q := fun e he => by
    obtain ⟨j, _, he⟩ := List.mem_flatMap.1 he
    obtain ⟨u, hu, rfl⟩ := List.mem_map.1 he
    have hd := (dfZ_Sm h j).1
    exact ⟨hd.wt u hu, hd.wd u hu⟩
  have hsm := cons_SmT (n := q) (k := 216) (b := 18) hs hl216 (fun e he => (hmem e he).1) (fun e he => (hmem e he).2) (by omega) (by omega) (by omega)
  have hT : TrF zs = nz (NormLU (trTo zs zs.length)) := by
    rw [← TrF_cons h100 hz]
    exact ConsF_SmT (n := q) (k := 216) (b := 18) hs hl216 (fun e he => (hmem e he).1) (fun e he => (hmem e he).2) (by omega) (by omega) (by omega)
  rw [← hT] at hsm
  have hv : vtB (i : Int) y = true := by simp [vtB]; omega
  have hzi := h _ (List.getElem_mem hi)
  refine zs_ext (asOf_Sm' hsm (by omega) (by omega) (by omega) _ _).zs hzi.zs (fun r => ?_)
  rw [asOf_lin hsm (by omega) (by omega) (by omega) hv, hT, lin_nz, lin_NormLU, trTo_lin h i y hy0 r, if_neg (by omega)]
  show wsum (zs.getD i []) r = _
  rw [List.getD_eq_getElem?_getD, List.getElem?_eq_getElem hi, Option.getD_some]
end Go.Proofs.YtjikdlldochhcacGreat
