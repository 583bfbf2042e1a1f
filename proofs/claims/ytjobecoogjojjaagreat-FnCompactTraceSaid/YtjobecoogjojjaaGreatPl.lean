/- HELPER, no statement of the seat: contracts with their answer written out. -/
import Derived.Test.YtjobecoogjojjaaGreatEqZ
import Derived.Test.YtjobecoogjojjaaGreatZbx
import Derived.Test.YtjobecoogjojjaaGreatAddI
namespace Go.Proofs.YtjobecoogjojjaaGreat
open Go.RowKit Go.Sort
set_option linter.unusedSimpArgs false
set_option linter.unusedVariables false

section
variable {A : Option Addr} {c : Nat} {z : List Ent} {w : World}
theorem validZ (r : Bool) (he : zsB z = r) (hx : EntsAt w A z) (hn : z.length ≤ 4194304) (hr : rowsIn z 4194304) :
    Calls Tryz.prog 48 #[.slice A z.length c] w fun e w' => e = .returned (.bool r) ∧ Below w.heap.size w w' := he ▸ ValidZSet_i A c z w hx hn hr
theorem eqIL {B : Option Addr} {c d : Nat} {x y : List Int} (r : Bool) (L : Nat) (he : decide (x = y) = r) (hL : x.length = L) (hx : IntsAt w A x) (hy : IntsAt w B y) (hn : L ≤ 4194304) (hm : y.length ≤ 4194304) :
    Calls Tryz.prog 36 #[.slice A L c, .slice B y.length d] w fun e w' => e = .returned (.bool r) ∧ Below w.heap.size w w' := by
  subst hL
  exact he ▸ equalInts_l A B c d x y w hx hy (by omega) (by omega)
end
end Go.Proofs.YtjobecoogjojjaaGreat
