/- HELPER, no statement of the seat: several texts in one file. -/
import Derived.Test.YtifjenleoagefaaGreatEqZ
import Derived.Test.YtifjenleoagefaaGreatZbx
import Derived.Test.YtifjenleoagefaaGreatAddI
import Derived.Test.YtifjenleoagefaaGreatRt
import Derived.Test.YtifjenleoagefaaGreatCgd
import Derived.Test.YtifjenleoagefaaGreatEdg
/- HELPER, no statement of the seat: contracts with their answer written out. -/
namespace Go.Proofs.YtifjenleoagefaaGreat
open Go.RowKit Go.Sort
set_option linter.unusedSimpArgs false
set_option linter.unusedVariables false

section
variable {A : Option Addr} {c : Nat} {z : List Ent} {w : World}
theorem validZ (r : Bool) (he : zsB z = r) (hx : EntsAt w A z) (hn : z.length ≤ 4194304) (hr : rowsIn z 4194304) :
    Calls Tryz.prog 34 #[.slice A z.length c] w fun e w' => e = .returned (.bool r) ∧ Below w.heap.size w w' := he ▸ ValidZSet_i A c z w hx hn hr
theorem weightZ {B : Option Addr} {d : Nat} {r : List Int} (v : Int) (he : WeightF z r = v) (hx : EntsAt w A z) (hy : IntsAt w B r) (hn : z.length ≤ 4194304) (hr : rowsIn z 4194304) (hm : r.length ≤ 4194304) :
    Calls Tryz.prog 11 #[.slice A z.length c, .slice B r.length d] w fun e w' => e = .returned (.int .i64 v) ∧ Below w.heap.size w w' := he ▸ WeightOf_i A c z B d r w hx hy hn hr hm
theorem eqIL {B : Option Addr} {c d : Nat} {x y : List Int} (r : Bool) (L : Nat) (he : decide (x = y) = r) (hL : x.length = L) (hx : IntsAt w A x) (hy : IntsAt w B y) (hn : L ≤ 4194304) (hm : y.length ≤ 4194304) :
    Calls Tryz.prog 27 #[.slice A L c, .slice B y.length d] w fun e w' => e = .returned (.bool r) ∧ Below w.heap.size w w' := by
  subst hL
  exact he ▸ equalInts_l A B c d x y w hx hy (by omega) (by omega)
theorem issetZ (r : Bool) (he : setB z = r) (hx : EntsAt w A z) (hn : z.length ≤ 4194304) (hr : rowsIn z 4194304) :
    Calls Tryz.prog 32 #[.slice A z.length c] w fun e w' => e = .returned (.bool r) ∧ Below w.heap.size w w' := he ▸ IsSet_i A c z w hx hn hr
end
end Go.Proofs.YtifjenleoagefaaGreat

/- HELPER, no statement of the seat: contracts with the answer given, for laws on closures. -/
namespace Go.Proofs.YtifjenleoagefaaGreat
open Go.RowKit Go.Sort
set_option linter.unusedSimpArgs false
set_option linter.unusedVariables false

theorem trF_trB (z : List Ent) : TrF z = TrB z := by
  cases h : edgB z
  · simp [TrF, TrB, h]
  · rw [TrF_rel h, TrB, h, Bool.true_and]
theorem edgZ {A : Option Addr} {c : Nat} {z : List Ent} {w : World} (r : Bool) (he : edgB z = r) (hx : EntsAt w A z) (hn : z.length ≤ 4194304) (hr : rowsIn z 4194304) :
    Calls Tryz.prog 9 #[.slice A z.length c] w fun e w' => e = .returned (.bool r) ∧ Below w.heap.size w w' := he ▸ ValidEdges_i A c z w hx hn hr
theorem subE_of {a b : List Ent} (h : ∀ e ∈ a, WeightF b e.1 ≠ 0) : subE a b = true := List.all_eq_true.2 (fun e he => by simpa using h e he)
end Go.Proofs.YtifjenleoagefaaGreat
