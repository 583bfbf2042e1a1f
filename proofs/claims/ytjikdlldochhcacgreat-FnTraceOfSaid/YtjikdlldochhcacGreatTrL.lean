/- HELPER, no statement of the seat: the updates between consecutive Z-sets; sums of updates with different keys. -/
import Derived.Test.YtjikdlldochhcacGreatConsS
import Derived.Test.YtjikdlldochhcacGreatGat
import Derived.Test.YtjikdlldochhcacGreatZbx
namespace Go.Proofs.YtjikdlldochhcacGreat
open Go.RowKit Go.Sort
set_option linter.unusedSimpArgs false
set_option linter.unusedVariables false

section
variable {κ : Type} [DecidableEq κ] {lt : κ → κ → Bool}
theorem insK_perm {l : List (κ × Int)} {r : κ} (w : Int) (h : ∀ x ∈ l, x.1 ≠ r) : (insK lt l r w).Perm ((r, w) :: l) := by
  induction l with
  | nil => exact List.Perm.refl _
  | cons x l ih =>
    have h0 : x.1 ≠ r := h x (by simp)
    unfold insK
    split
    · exact ((ih (fun y hy => h y (by simp [hy]))).cons x).trans (List.Perm.swap _ _ _)
    · first | exact List.Perm.refl _ | (rw [if_neg h0])
theorem foldK_perm : ∀ (b a : List (κ × Int)), (b.map (·.1)).Nodup → (∀ x ∈ a, ∀ y ∈ b, x.1 ≠ y.1) → (b.foldl (fun z e => insK lt z e.1 e.2) a).Perm (a ++ b)
  | [], a, _, _ => by simp
  | e :: b, a, hn, hd => by
    rw [List.map_cons, List.nodup_cons] at hn
    have h1 : (insK lt a e.1 e.2).Perm ((e.1, e.2) :: a) := insK_perm e.2 (fun x hx => hd x hx e (by simp))
    have h2 := foldK_perm b (insK lt a e.1 e.2) hn.2 (fun x hx y hy => by
      have hx' := h1.subset hx
      rcases List.mem_cons.1 hx' with rfl | hx'
      · intro he
        exact hn.1 (by rw [show e.1 = y.1 from he]; exact List.mem_map.2 ⟨y, hy, rfl⟩)
      · exact hd x hx' y (by simp [hy]))
    refine h2.trans ((h1.append_right b).trans ?_)
    exact (List.perm_middle (l₁ := a) (a := e) (l₂ := b)).symm
end
theorem NormLU_perm {l : List Upd} (h : (l.map (·.1)).Nodup) : (NormLU l).Perm l := by
  have := foldK_perm (lt := ltU) l [] h (fun x hx => by cases hx)
  simpa [NormLU, AddLU] using this

/-! ### The differences -/
def atE (n : Int) (e : Ent) : Upd := ((e.1, (n, 0)), e.2)
def prevZ (zs : List Zs) : Nat → Zs
  | 0 => []
  | k + 1 => zs.getD k []
def dfZ (zs : List Zs) (k : Nat) : Zs := AddF (zs.getD k []) (NegF (prevZ zs k))
def trTo (zs : List Zs) (k : Nat) : List Upd := (List.range k).flatMap fun i => (dfZ zs i).map (atE (i : Int))
theorem trTo_zero (zs : List Zs) : trTo zs 0 = [] := rfl
theorem trTo_succ (zs : List Zs) (k : Nat) : trTo zs (k + 1) = trTo zs k ++ (dfZ zs k).map (atE (k : Int)) := by
  simp [trTo, List.range_succ, List.flatMap_append]
theorem dfZ_zs (zs : List Zs) (k : Nat) : zsB (dfZ zs k) = true := AddF_zs _ _
theorem prevZ_zs {zs : List Zs} (h : allZ zs = true) : ∀ k, zsB (prevZ zs k) = true
  | 0 => rfl
  | k + 1 => by
    show zsB (zs.getD k []) = true
    by_cases hk : k < zs.length
    · rw [List.getD_eq_getElem?_getD, List.getElem?_eq_getElem hk]; exact allZ_get h hk
    · rw [List.getD_eq_getElem?_getD, List.getElem?_eq_none (by omega)]; rfl
theorem trTo_time (zs : List Zs) (k : Nat) : ∀ e ∈ trTo zs k, ∃ i : Nat, i < k ∧ e.1.2 = ((i : Int), 0) := by
  intro e he
  obtain ⟨i, hi, h⟩ := List.mem_flatMap.1 he
  obtain ⟨q, _, rfl⟩ := List.mem_map.1 h
  exact ⟨i, by simpa using hi, rfl⟩
theorem asc_nodup {z : List Ent} (h : Asc lessB z) : (z.map (·.1)).Nodup := by
  rw [List.Nodup, List.pairwise_map]
  exact List.Pairwise.imp (fun {a b} hab => rowTot.ne hab) h
theorem trTo_nodup (zs : List Zs) : ∀ k, ((trTo zs k).map (·.1)).Nodup
  | 0 => by simp [trTo_zero]
  | k + 1 => by
    rw [trTo_succ, List.map_append, List.nodup_append]
    refine ⟨trTo_nodup zs k, ?_, ?_⟩
    · rw [List.map_map]
      have h0 := asc_nodup (zsB_asc (dfZ_zs zs k))
      rw [List.Nodup, List.pairwise_map] at h0 ⊢
      exact List.Pairwise.imp (fun {a b} hab he => hab (by have := congrArg (fun q : KeyU => q.1) he; simpa [atE] using this)) h0
    · intro a ha b hb hab
      obtain ⟨e, he, rfl⟩ := List.mem_map.1 ha
      obtain ⟨f, hf, rfl⟩ := List.mem_map.1 hb
      obtain ⟨i, hi, h1⟩ := trTo_time zs k e he
      obtain ⟨q, _, rfl⟩ := List.mem_map.1 hf
      rw [hab] at h1
      simp only [atE, Prod.mk.injEq] at h1
      omega
theorem zsB_mem {z : List Ent} (h : zsB z = true) : ∀ e ∈ z, sumE e = true ∧ e.2 ≠ 0 := by
  exact fun e he => ⟨zsB_sumE h e he, zsB_ne h e he⟩
theorem trTo_sum {zs : List Zs} {k : Nat} (hk : k ≤ 100) : ∀ e ∈ trTo zs k, sumU e = true ∧ e.2 ≠ 0 := by
  intro e he
  obtain ⟨i, hi, h⟩ := List.mem_flatMap.1 he
  obtain ⟨q, hq, rfl⟩ := List.mem_map.1 h
  have h1 := zsB_mem (dfZ_zs zs i) q hq
  have hi' : i < k := by simpa using hi
  refine ⟨?_, h1.2⟩
  have h2 := h1.1
  simp only [sumE, sumU, atE, Bool.and_eq_true] at h2 ⊢
  refine ⟨h2, ?_⟩
  simp [vtB]
  omega
def TrF (zs : List Zs) : List Upd := if zs.length ≤ 100 ∧ allZ zs = true then chkT (nz (NormLU (trTo zs zs.length))) else []
theorem TrF_len (zs : List Zs) : (TrF zs).length ≤ 400 := by
  unfold TrF
  split
  · exact chkT_len _
  · simp
theorem TrF_row (zs : List Zs) : rowsU (TrF zs) 6 := by
  unfold TrF
  split
  · exact chkT_row _
  · intro e he; cases he
theorem TrF_no1 {zs : List Zs} (h : ¬ zs.length ≤ 100) : TrF zs = [] := by simp [TrF, h]
theorem TrF_no2 {zs : List Zs} (h : allZ zs = false) : TrF zs = [] := by simp [TrF, h]
theorem TrF_yes {zs : List Zs} (h : zs.length ≤ 100) (h2 : allZ zs = true) : TrF zs = chkT (nz (NormLU (trTo zs zs.length))) := by simp [TrF, h, h2]
theorem TrF_cons {zs : List Zs} (h : zs.length ≤ 100) (h2 : allZ zs = true) : ConsF (trTo zs zs.length) = TrF zs := by
  have hs : sumsU (trTo zs zs.length) = true := allTo_iff.2 (fun j hj => by rw [nthU_get hj]; exact (trTo_sum h _ (List.getElem_mem hj)).1)
  rw [TrF_yes h h2]
  by_cases h4 : (trTo zs zs.length).length ≤ 400
  · simp [ConsF, hs, h4]
  · have e1 : ConsF (trTo zs zs.length) = [] := by simp [ConsF, h4]
    have hp := NormLU_perm (trTo_nodup zs zs.length)
    have hz : nz (NormLU (trTo zs zs.length)) = NormLU (trTo zs zs.length) := List.filter_eq_self.2 (fun e he => by
      have := (trTo_sum h e (hp.subset he)).2
      simpa using this)
    rw [e1, hz]
    have hl := hp.length_eq
    have : trB (NormLU (trTo zs zs.length)) = false := by
      simp only [trB, Bool.and_eq_false_iff]
      left
      simp
      omega
    simp [chkT, this]
theorem trTo_len (zs : List Zs) : ∀ k, (trTo zs k).length ≤ k * 400
  | 0 => by simp [trTo_zero]
  | k + 1 => by
    have := trTo_len zs k
    have h2 := zsB_len (dfZ_zs zs k)
    rw [trTo_succ, List.length_append, List.length_map]
    omega
theorem trTo_rows (zs : List Zs) (k : Nat) : rowsU (trTo zs k) 6 := by
  intro e he
  obtain ⟨i, hi, h⟩ := List.mem_flatMap.1 he
  obtain ⟨q, hq, rfl⟩ := List.mem_map.1 h
  exact zsB_row (dfZ_zs zs i) q hq
theorem trTo_wt {zs : List Zs} {k : Nat} (hk : k ≤ 100) : wIn (trTo zs k) 1000000 := fun e he => (sumU_parts (trTo_sum hk e he).1).2.1
end Go.Proofs.YtjikdlldochhcacGreat
