/- HELPER, no statement of the seat: shortest paths, the smallest vertex first, as lists; no program. -/
import Derived.Test.YtifjenleoagefaaWlk
namespace Go.Proofs.Ytifjenleoagefaa
open Go.RowKit Go.Sort
set_option linter.unusedSimpArgs false
set_option linter.unusedVariables false

/-- A vertex that is next on the way. -/
def isN (r : List Nat) (T : List Int) (y n x v : Nat) : Bool := hasR r x v && decide (getT T v y = (n : Int))
def nxt (r : List Nat) (T : List Int) (y n x : Nat) : Nat := ((List.range 20).find? (isN r T y n x)).getD x
theorem find_first {p : Nat → Bool} : ∀ {n v : Nat}, v < n → p v = true → ∃ u, u ≤ v ∧ p u = true ∧ (∀ j, j < u → p j = false) ∧ (List.range n).find? p = some u
  | 0, v, h, _ => by omega
  | n + 1, v, h, hp => by
    by_cases hc : ∃ j, j < n ∧ p j = true
    · obtain ⟨j, hj, hpj⟩ := hc
      obtain ⟨u, h1, h2, h3, h4⟩ := find_first hj hpj
      refine ⟨u, ?_, h2, h3, by rw [List.range_succ, List.find?_append, h4]; rfl⟩
      apply Decidable.byContradiction
      intro hn
      rw [h3 v (by omega)] at hp; cases hp
    · have hno : ∀ j, j < n → p j = false := fun j hj => by
        cases h : p j
        · rfl
        · exact absurd ⟨j, hj, h⟩ hc
      have e : v = n := by
        apply Decidable.byContradiction
        intro hne
        rw [hno v (by omega)] at hp; cases hp
      subst e
      refine ⟨v, Nat.le_refl _, hp, hno, ?_⟩
      rw [List.range_succ, List.find?_append, List.find?_eq_none.2 (fun j hj => by rw [hno j (by simpa using hj)]; simp)]
      simp [hp]
theorem nxt_ok {r : List Nat} {T : List Int} {y n x v : Nat} (hv : v < 20) (h : isN r T y n x v = true) : isN r T y n x (nxt r T y n x) = true ∧ nxt r T y n x < 20 ∧ ∀ j, j < nxt r T y n x → isN r T y n x j = false := by
  obtain ⟨u, h1, h2, h3, h4⟩ := find_first hv h
  have e : nxt r T y n x = u := by rw [nxt, h4]; rfl
  rw [e]
  exact ⟨h2, by omega, h3⟩
theorem nxt_eq {r : List Nat} {T : List Int} {y n x v : Nat} (hv : v < 20) (h : isN r T y n x v = true) (hno : ∀ j, j < v → isN r T y n x j = false) : nxt r T y n x = v := by
  obtain ⟨h1, h2, h3⟩ := nxt_ok hv h
  rcases Nat.lt_trichotomy (nxt r T y n x) v with hh | hh | hh
  · rw [hno _ hh] at h1; cases h1
  · exact hh
  · rw [h3 _ hh] at h; cases h
def posP (r : List Nat) (T : List Int) (y d x : Nat) : Nat → Nat
  | 0 => x
  | k + 1 => nxt r T y (d - k) (posP r T y d x k)
def walkP (r : List Nat) (T : List Int) (y d x k : Nat) : List Int := (List.range (k + 1)).map fun i => (posP r T y d x i : Int)
theorem walkP_zero (r : List Nat) (T : List Int) (y d x : Nat) : walkP r T y d x 0 = [(x : Int)] := rfl
theorem walkP_succ (r : List Nat) (T : List Int) (y d x k : Nat) : walkP r T y d x (k + 1) = walkP r T y d x k ++ [(posP r T y d x (k + 1) : Int)] := by
  unfold walkP
  rw [List.range_succ, List.map_append]; rfl
theorem walkP_len (r : List Nat) (T : List Int) (y d x k : Nat) : (walkP r T y d x k).length = k + 1 := by simp [walkP]
theorem walkP_last (r : List Nat) (T : List Int) (y d x k : Nat) : (walkP r T y d x k).getD k 0 = (posP r T y d x k : Int) := by
  simp [walkP, List.getD]
theorem posP_ok {r : List Nat} (hr : OkR r) {x y d : Nat} (hx : x < 20) (hy : y < 20) (h : getT (distT r) x y = ((d + 1 : Nat) : Int)) : ∀ k, k ≤ d → posP r (distT r) y d x k < 20 ∧ getT (distT r) (posP r (distT r) y d x k) y = ((d - k + 1 : Nat) : Int)
  | 0, _ => ⟨hx, h⟩
  | k + 1, hk => by
    obtain ⟨h1, h2⟩ := posP_ok hr hx hy h k (by omega)
    obtain ⟨v, hv, h3, h4⟩ := dist_next hr h1 hy (d := d - k - 1) (by rw [h2]; congr 1; omega)
    have hi : isN r (distT r) y (d - k) (posP r (distT r) y d x k) v = true := by
      rw [isN, h3, h4, show d - k - 1 + 1 = d - k by omega]; simp
    obtain ⟨h5, h6, _⟩ := nxt_ok hv hi
    refine ⟨h6, ?_⟩
    simp only [isN, Bool.and_eq_true, decide_eq_true_eq] at h5
    have := h5.2
    rw [show d - (k + 1) + 1 = d - k by omega]
    exact this
/-- The next vertex is the first one with an edge and a distance that is one less. -/
theorem posP_step {r : List Nat} (hr : OkR r) {x y d : Nat} (hx : x < 20) (hy : y < 20) (h : getT (distT r) x y = ((d + 1 : Nat) : Int)) {k : Nat} (hk : k < d) :
    isN r (distT r) y (d - k) (posP r (distT r) y d x k) (posP r (distT r) y d x (k + 1)) = true ∧ posP r (distT r) y d x (k + 1) < 20 ∧ ∀ j, j < posP r (distT r) y d x (k + 1) → isN r (distT r) y (d - k) (posP r (distT r) y d x k) j = false := by
  obtain ⟨h1, h2⟩ := posP_ok hr hx hy h k (by omega)
  obtain ⟨v, hv, h3, h4⟩ := dist_next hr h1 hy (d := d - k - 1) (by rw [h2]; congr 1; omega)
  have hi : isN r (distT r) y (d - k) (posP r (distT r) y d x k) v = true := by
    rw [isN, h3, h4, show d - k - 1 + 1 = d - k by omega]; simp
  exact nxt_ok hv hi
/-- The answer: the path and whether there is one. -/
def pathL (r : List Nat) (x y : Nat) : List Int := walkP r (distT r) y ((getT (distT r) x y).toNat - 1) x ((getT (distT r) x y).toNat - 1) ++ [(y : Int)]
def PthB (es : List Ent) (x y : Int) : Bool := edgB es && (inB x 0 19 && (inB y 0 19 && decide (getT (distT (relOf es)) x.toNat y.toNat ≠ 0)))
def PthF (es : List Ent) (x y : Int) : List Int := if PthB es x y = true then pathL (relOf es) x.toNat y.toNat else []
theorem dist_le {r : List Nat} (hr : OkR r) {x y : Nat} (hx : x < 20) (hy : y < 20) : 0 ≤ getT (distT r) x y ∧ getT (distT r) x y ≤ 400 := by
  rcases dist_form hr hx hy with h | ⟨d, hd, h⟩
  · rw [h]; omega
  · rw [h]; omega
end Go.Proofs.Ytifjenleoagefaa
