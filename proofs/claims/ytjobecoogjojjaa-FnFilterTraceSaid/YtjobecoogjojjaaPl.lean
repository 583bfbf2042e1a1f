/- HELPER, no statement of the seat: contracts with their answer written out. -/
import Derived.Test.YtjobecoogjojjaaEqZ
import Derived.Test.YtjobecoogjojjaaZbx
import Derived.Test.YtjobecoogjojjaaAddI
namespace Go.Proofs.Ytjobecoogjojjaa
open Go.RowKit Go.Sort
set_option linter.unusedSimpArgs false
set_option linter.unusedVariables false

section
variable {A : Option Addr} {c : Nat} {z : List Ent} {w : World}
theorem validZ (r : Bool) (he : zsB z = r) (hx : EntsAt w A z) (hn : z.length ≤ 4194304) (hr : rowsIn z 4194304) :
    Calls Try.prog 29 #[.slice A z.length c] w fun e w' => e = .returned (.bool r) ∧ Below w.heap.size w w' := he ▸ ValidZSet_i A c z w hx hn hr
theorem weightZ {B : Option Addr} {d : Nat} {r : List Int} (v : Int) (he : WeightF z r = v) (hx : EntsAt w A z) (hy : IntsAt w B r) (hn : z.length ≤ 4194304) (hr : rowsIn z 4194304) (hm : r.length ≤ 4194304) :
    Calls Try.prog 28 #[.slice A z.length c, .slice B r.length d] w fun e w' => e = .returned (.int .i64 v) ∧ Below w.heap.size w w' := he ▸ WeightOf_i A c z B d r w hx hy hn hr hm
theorem eqIL {B : Option Addr} {c d : Nat} {x y : List Int} (r : Bool) (L : Nat) (he : decide (x = y) = r) (hL : x.length = L) (hx : IntsAt w A x) (hy : IntsAt w B y) (hn : L ≤ 4194304) (hm : y.length ≤ 4194304) :
    Calls Try.prog 15 #[.slice A L c, .slice B y.length d] w fun e w' => e = .returned (.bool r) ∧ Below w.heap.size w w' := by
  subst hL
  exact he ▸ equalInts_l A B c d x y w hx hy (by omega) (by omega)
theorem issetZ (r : Bool) (he : setB z = r) (hx : EntsAt w A z) (hn : z.length ≤ 4194304) (hr : rowsIn z 4194304) :
    Calls Try.prog 114 #[.slice A z.length c] w fun e w' => e = .returned (.bool r) ∧ Below w.heap.size w w' := he ▸ IsSet_i A c z w hx hn hr
end
end Go.Proofs.Ytjobecoogjojjaa
