/- HELPER, no statement of the seat: several texts in one file. -/
import Derived.Test.YtifjenleoagefaaGreatZbx
import Derived.Test.YtifjenleoagefaaGreatZba
/- HELPER, no statement of the seat: comparisons of rows with their answer written out. -/
namespace Go.Proofs.YtifjenleoagefaaGreat
open Go.RowKit Go.Sort
set_option linter.unusedSimpArgs false
set_option linter.unusedVariables false

theorem less_snoc (xs : List Int) : lessB xs (xs ++ [0]) = true := by
  rw [lessB_iff]
  induction xs with
  | nil => decide
  | cons a xs ih =>
    rw [List.cons_append]
    unfold cmpL
    have : cmpI a a = 0 := (cmpI_zero a a).2 rfl
    rw [if_pos this]
    exact ih
theorem less_cases (x y : List Int) : (lessB x y = true ∧ lessB y x = false ∧ decide (x = y) = false) ∨ (lessB x y = false ∧ lessB y x = false ∧ decide (x = y) = true) ∨ (lessB x y = false ∧ lessB y x = true ∧ decide (x = y) = false) := by
  cases h1 : lessB x y with
  | true => exact .inl ⟨rfl, rowTot.asymm h1, by simp; exact rowTot.ne h1⟩
  | false =>
    cases h2 : lessB y x with
    | true => exact .inr (.inr ⟨rfl, rfl, by simp; exact fun e => rowTot.ne h2 e.symm⟩)
    | false => exact .inr (.inl ⟨rfl, rfl, by simp; exact rowTot.tri _ _ h1 h2⟩)
section
variable {A B : Option Addr} {c d : Nat} {x y : List Int} {w : World}
theorem eqI (r : Bool) (he : decide (x = y) = r) (hx : IntsAt w A x) (hy : IntsAt w B y) (hn : x.length ≤ 4194304) (hm : y.length ≤ 4194304) :
    Calls Tryz.prog 27 #[.slice A x.length c, .slice B y.length d] w fun e w' => e = .returned (.bool r) ∧ Below w.heap.size w w' := he ▸ equalInts_l A B c d x y w hx hy (by omega) (by omega)
end
end Go.Proofs.YtifjenleoagefaaGreat
