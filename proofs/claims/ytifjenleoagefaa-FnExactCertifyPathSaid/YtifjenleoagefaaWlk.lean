/- HELPER, no statement of the seat: paths of a relation by their number of edges, and the table of distances; no program. -/
import Derived.Test.YtifjenleoagefaaDsl
namespace Go.Proofs.Ytifjenleoagefaa
open Go.RowKit Go.Sort
set_option linter.unusedSimpArgs false
set_option linter.unusedVariables false

theorem has_lt {r : List Nat} (hr : OkR r) {x y : Nat} (h : hasR r x y = true) : x < 20 ∧ y < 20 := by
  constructor
  · apply Decidable.byContradiction
    intro hn
    rw [hasR_out hr (by omega)] at h; cases h
  · apply Decidable.byContradiction
    intro hn
    rw [hr.big (by omega)] at h; cases h
/-- A path of n + 1 edges. -/
def wk (r : List Nat) : Nat → Nat → Nat → Prop
  | 0, x, y => hasR r x y = true
  | n + 1, x, z => ∃ y, wk r n x y ∧ hasR r y z = true
theorem wk_first {r : List Nat} : ∀ {n x z : Nat}, wk r (n + 1) x z ↔ ∃ y, hasR r x y = true ∧ wk r n y z
  | 0, x, z => by simp [wk]
  | n + 1, x, z => by
    constructor
    · rintro ⟨y, h, h2⟩
      obtain ⟨v, h3, h4⟩ := wk_first.1 h
      exact ⟨v, h3, y, h4, h2⟩
    · rintro ⟨v, h3, y, h4, h2⟩
      exact ⟨y, wk_first.2 ⟨v, h3, h4⟩, h2⟩
theorem wk_lt {r : List Nat} (hr : OkR r) : ∀ {n x y : Nat}, wk r n x y → x < 20 ∧ y < 20
  | 0, x, y, h => has_lt hr h
  | n + 1, x, z, h => by
    obtain ⟨y, h1, h2⟩ := h
    exact ⟨(wk_lt hr h1).1, (has_lt hr h2).2⟩
/-- The shortest path has i + 1 edges. -/
def shw (r : List Nat) (i x y : Nat) : Prop := wk r i x y ∧ ∀ j, j < i → ¬ wk r j x y
structure RdQ (r : List Nat) (i : Nat) (f l : List Nat) : Prop where
  seen : ∀ x y, hasR f x y = true ↔ ∃ j, j < i ∧ wk r j x y
  front : ∀ x y, hasR l x y = true ↔ shw r i x y
theorem RdQ.start (r : List Nat) : RdQ r 0 zeroR r := ⟨fun x y => by rw [zeroR_has]; simp, fun x y => by simp [shw, wk]⟩
theorem RdQ.next {r f l : List Nat} {i : Nat} (hr : OkR r) (h : RdInv f l) (q : RdQ r i f l) : RdQ r (i + 1) (orR f l) (nandR (thenR l r) (orR f l)) := by
  have hs : ∀ x y, hasR (orR f l) x y = true ↔ ∃ j, j < i + 1 ∧ wk r j x y := fun x y => by
    rw [orR_has h.okf h.okl, Bool.or_eq_true, q.seen, q.front]
    constructor
    · rintro (⟨j, hj, hw⟩ | hw)
      · exact ⟨j, by omega, hw⟩
      · exact ⟨i, by omega, hw.1⟩
    · rintro ⟨j, hj, hw⟩
      by_cases he : ∃ m, m < i ∧ wk r m x y
      · exact .inl he
      · have : j = i := by
          apply Decidable.byContradiction
          intro hne
          exact he ⟨j, by omega, hw⟩
        subst this
        exact .inr ⟨hw, fun m hm hw' => he ⟨m, hm, hw'⟩⟩
  refine ⟨hs, fun x z => ?_⟩
  rw [nandR_has (thenR_ok h.okl hr) (orR_ok h.okf h.okl), Bool.and_eq_true, thenR_has h.okl, Bool.not_eq_true']
  constructor
  · rintro ⟨⟨y, h1, h2⟩, h3⟩
    refine ⟨⟨y, ((q.front x y).1 h1).1, h2⟩, fun j hj hw => ?_⟩
    rw [(hs x z).2 ⟨j, hj, hw⟩] at h3; cases h3
  · rintro ⟨⟨y, h1, h2⟩, h3⟩
    refine ⟨⟨y, (q.front x y).2 ⟨h1, fun j hj hw => h3 (j + 1) (by omega) ⟨y, hw, h2⟩⟩, h2⟩, ?_⟩
    cases hc : hasR (orR f l) x z
    · rfl
    · obtain ⟨j, hj, hw⟩ := (hs x z).1 hc
      exact absurd hw (h3 j hj)
theorem rdsR_wk {r : List Nat} (hr : OkR r) : ∀ (n : Nat) (f l : List Nat) (i : Nat), RdInv f l → RdQ r i f l → ∀ k (hk : k < (rdsR r n f l).length) x y, hasR (rdsR r n f l)[k] x y = true ↔ shw r (i + k) x y
  | 0, f, l, i, _, _, k, hk, x, y => by simp [rdsR] at hk
  | n + 1, f, l, i, hI, q, k, hk, x, y => by
    by_cases hl : l = zeroR
    · have e : rdsR r (n + 1) f l = [] := by rw [rdsR, if_pos hl]
      rw [e] at hk; simp at hk
    · have e : rdsR r (n + 1) f l = l :: rdsR r n (orR f l) (nandR (thenR l r) (orR f l)) := by rw [rdsR, if_neg hl]
      have hg : ∀ (h2 : k < (l :: rdsR r n (orR f l) (nandR (thenR l r) (orR f l))).length), (rdsR r (n + 1) f l)[k] = (l :: rdsR r n (orR f l) (nandR (thenR l r) (orR f l)))[k] := fun h2 => by simp only [e]
      rw [hg (by rw [← e]; exact hk)]
      cases k with
      | zero => simpa using q.front x y
      | succ k =>
        have hk2 : k < (rdsR r n (orR f l) (nandR (thenR l r) (orR f l))).length := by rw [e] at hk; simpa using hk
        have := rdsR_wk hr n _ _ (i + 1) (hI.next hr) (q.next hr hI) k hk2 x y
        rw [List.getElem_cons_succ, this, show i + 1 + k = i + (k + 1) by omega]
theorem rds_wk {r : List Nat} (hr : OkR r) (k : Nat) (hk : k < (rds r).length) (x y : Nat) : hasR (rds r)[k] x y = true ↔ shw r k x y := by
  have := rdsR_wk hr 401 zeroR r 0 (RdInv.start hr) (RdQ.start r) k hk x y
  rwa [Nat.zero_add] at this
theorem wk_clos {r : List Nat} (hr : OkR r) : ∀ {n x y : Nat}, wk r n x y → hasR (closR r) x y = true
  | 0, x, y, h => closR_sub hr h
  | n + 1, x, z, ⟨y, h1, h2⟩ => closR_step hr (wk_clos hr h1) h2
theorem wk_rds {r : List Nat} (hr : OkR r) {n x y : Nat} (h : wk r n x y) : ∃ k, ∃ hk : k < (rds r).length, hasR (rds r)[k] x y = true := by
  obtain ⟨l, hl, h2⟩ := (closR_has hr x y).1 (wk_clos hr h)
  obtain ⟨k, hk, rfl⟩ := List.getElem_of_mem hl
  exact ⟨k, hk, h2⟩
theorem shw_rds {r : List Nat} (hr : OkR r) {i x y : Nat} : shw r i x y ↔ ∃ hk : i < (rds r).length, hasR (rds r)[i] x y = true := by
  constructor
  · intro h
    obtain ⟨k, hk, h2⟩ := wk_rds hr h.1
    have h3 := (rds_wk hr k hk x y).1 h2
    have : k = i := by
      rcases Nat.lt_trichotomy k i with hh | hh | hh
      · exact absurd h3.1 (h.2 k hh)
      · exact hh
      · exact absurd h.1 (h3.2 i hh)
    subst this
    exact ⟨hk, h2⟩
  · rintro ⟨hk, h⟩
    exact (rds_wk hr i hk x y).1 h
theorem wk_shw {r : List Nat} (hr : OkR r) {n x y : Nat} (h : wk r n x y) : ∃ k, k ≤ n ∧ shw r k x y := by
  obtain ⟨k, hk, h2⟩ := wk_rds hr h
  have h3 := (rds_wk hr k hk x y).1 h2
  refine ⟨k, ?_, h3⟩
  apply Decidable.byContradiction
  intro hn
  exact h3.2 n (by omega) h
theorem numR_at : ∀ (L : List (List Nat)) (n : Nat) (p : Nat × List Nat), p ∈ numR n L ↔ ∃ i, ∃ h : i < L.length, p = (n + i, L[i])
  | [], n, p => by simp [numR]
  | l :: L, n, p => by
    simp only [numR, List.mem_cons, numR_at L (n + 1) p]
    constructor
    · rintro (rfl | ⟨i, h, rfl⟩)
      · exact ⟨0, by simp, by simp⟩
      · exact ⟨i + 1, by simpa using h, by simp; omega⟩
    · rintro ⟨i, h, rfl⟩
      cases i with
      | zero => exact .inl (by simp)
      | succ i => exact .inr ⟨i, by simpa using h, by simp; omega⟩
/-- The table holds the numbers of edges of the shortest paths. -/
theorem dist_shw {r : List Nat} (hr : OkR r) {x y : Nat} (hx : x < 20) (hy : y < 20) (d : Nat) : getT (distT r) x y = ((d + 1 : Nat) : Int) ↔ shw r d x y := by
  rcases (tblN_get hx hy 1 (T := zeroT) zeroT_len zeroR_ok (rds_djs hr)).2 with ⟨p, hp, h1, h2⟩ | ⟨h1, h2⟩
  · obtain ⟨i, hi, rfl⟩ := (numR_at _ _ _).1 hp
    have hs := (rds_wk hr i hi x y).1 h1
    have e : getT (distT r) x y = ((1 + i : Nat) : Int) := h2
    rw [e]
    constructor
    · intro hd
      have : d = i := by omega
      rw [this]; exact hs
    · intro hd
      have : d = i := by
        rcases Nat.lt_trichotomy d i with hh | hh | hh
        · exact absurd hd.1 (hs.2 d hh)
        · exact hh
        · exact absurd hs.1 (hd.2 i hh)
      omega
  · have e : getT (distT r) x y = 0 := h2.trans (zeroT_get x y)
    rw [e]
    constructor
    · intro hd; omega
    · intro hd
      obtain ⟨hk, h3⟩ := (shw_rds hr).1 hd
      rw [h1 _ ((numR_at _ _ _).2 ⟨d, hk, rfl⟩)] at h3
      cases h3
theorem dist_form {r : List Nat} (hr : OkR r) {x y : Nat} (hx : x < 20) (hy : y < 20) : getT (distT r) x y = 0 ∨ ∃ d : Nat, d < 400 ∧ getT (distT r) x y = ((d + 1 : Nat) : Int) := by
  rcases (tblN_get hx hy 1 (T := zeroT) zeroT_len zeroR_ok (rds_djs hr)).2 with ⟨p, hp, h1, h2⟩ | ⟨h1, h2⟩
  · obtain ⟨i, hi, rfl⟩ := (numR_at _ _ _).1 hp
    have := rds_len hr
    exact .inr ⟨i, by omega, by have e : getT (distT r) x y = ((1 + i : Nat) : Int) := h2
                                rw [e]; omega⟩
  · exact .inl (h2.trans (zeroT_get x y))
/-- The first edge of a shortest path. -/
theorem dist_next {r : List Nat} (hr : OkR r) {x y : Nat} (hx : x < 20) (hy : y < 20) {d : Nat} (h : getT (distT r) x y = ((d + 2 : Nat) : Int)) : ∃ v, v < 20 ∧ hasR r x v = true ∧ getT (distT r) v y = ((d + 1 : Nat) : Int) := by
  have hs := (dist_shw hr hx hy (d + 1)).1 h
  obtain ⟨v, h1, h2⟩ := wk_first.1 hs.1
  have hv := (has_lt hr h1).2
  exact ⟨v, hv, h1, (dist_shw hr hv hy d).2 ⟨h2, fun j hj hw => hs.2 (j + 1) (by omega) (wk_first.2 ⟨v, h1, hw⟩)⟩⟩
/-- An edge behind a path. -/
theorem dist_tri {r : List Nat} (hr : OkR r) {x y z : Nat} (hx : x < 20) {d : Nat} (h : getT (distT r) x y = ((d + 1 : Nat) : Int)) (h2 : hasR r y z = true) : ∃ e : Nat, e ≤ d + 1 ∧ getT (distT r) x z = ((e + 1 : Nat) : Int) := by
  have hyz := has_lt hr h2
  have hs := (dist_shw hr hx hyz.1 d).1 h
  obtain ⟨e, he, h3⟩ := wk_shw hr (n := d + 1) ⟨y, hs.1, h2⟩
  exact ⟨e, he, (dist_shw hr hx hyz.2 e).2 h3⟩
end Go.Proofs.Ytifjenleoagefaa
