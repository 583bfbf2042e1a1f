/- HELPER, no statement of the seat: the generators of rows that may be invalid, of two rows, of lists of entries. -/
import Derived.Test.YtkonhjdfcfljpaaDrh
namespace Go.Proofs.Ytkonhjdfcfljpaa
open Go.RowKit Go.Sort
set_option linter.unusedSimpArgs false
set_option linter.unusedVariables false

theorem IntsOwn.keptG {w w' : World} {base g : Nat} {A : Option Addr} {c : Nat} {xs : List Int} (h : IntsOwn w base A c xs) (hg : w.grownBy w' (some g)) (hlt : g < base) : IntsOwn w' base A c xs := ownG h hg hlt
theorem IntsOwn.store {w : World} {base G c k : Nat} {xs : List Int} (h : IntsOwn w base (some ⟨G, 0, none⟩) c xs) (x : Int) : IntsOwn (w.setCell ⟨G, k, none⟩ (.int .i64 x)) base (some ⟨G, 0, none⟩) c (xs.set k x) := by
  have := (World.ownsRow.stored h k (.int .i64 x)).1
  rw [← List.map_set] at this
  simpa [IntsOwn] using this
def RowAny (w : World) (g : Nat) (A : Option Addr) (n c : Nat) (p : Int) (e : Ending) (w' : World) : Prop :=
  ∃ (xs : List Int) (A' : Option Addr) (c' : Nat) (q : Int), e = .returned (.slice A' xs.length c') ∧ xs.length ≤ 8 ∧ IntsOwn w' w.heap.size A' c' xs ∧ p ≤ q ∧ q ≤ p + 20 ∧ Rdr w' g A n c q ∧ w.grownBy w' (some g)
/-! ### Two rows -/
def TwoRows (w : World) (e : Ending) (w' : World) : Prop := ∃ (xs ys : List Int) (A1 A2 : Option Addr) (c1 c2 : Nat), e = .returned (.tuple #[.slice A1 xs.length c1, .slice A2 ys.length c2]) ∧ xs.length ≤ 10 ∧ ys.length ≤ 10 ∧ IntsAt w' A1 xs ∧ IntsAt w' A2 ys ∧ Below w.heap.size w w'
end Go.Proofs.Ytkonhjdfcfljpaa
