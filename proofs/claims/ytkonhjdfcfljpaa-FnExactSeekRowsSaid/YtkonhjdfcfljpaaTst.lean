/- HELPER, no statement of the seat: predicates as tests of rows. -/
import Derived.Test.YtkonhjdfcfljpaaZbx
import Derived.Test.YtkonhjdfcfljpaaPred
import Derived.Lib.QuietBelow
import Derived.Laws.EntriesVeiled
namespace Go.Proofs.Ytkonhjdfcfljpaa
open Go.RowKit Go.Sort
set_option linter.unusedSimpArgs false
set_option linter.unusedVariables false


def cmpP (k x v : Int) : Bool := if k = 1 then x == v else if k = 2 then decide (x < v) else if k = 3 then decide (v < x) else x != v
/-- The row r satisfies the predicate of the column m, the kind k and the value v. -/
def holdP (m : Nat) (k v : Int) (r : List Int) : Bool := cmpP k (r.getD m 0) v
theorem IntsAt.at {w : World} {A : Option Addr} {xs : List Int} (h : IntsAt w A xs) {m : Nat} (hm : m < xs.length) : ∃ b off, A = some ⟨b, off, none⟩ ∧ b < w.heap.size ∧ w.cell? ⟨b, off + m, none⟩ = some (.int .i64 xs[m]) := by
  obtain ⟨b, off, e, hlt, hc⟩ := h (by omega)
  exact ⟨b, off, e, hlt, by rw [hc m hm]; simp [hm]⟩
theorem getD_at {xs : List Int} {m : Nat} (h : m < xs.length) : xs.getD m 0 = xs[m] := by simp [h]

end Go.Proofs.Ytkonhjdfcfljpaa
