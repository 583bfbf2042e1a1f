/- HELPER, no statement of the seat: contracts with their answer written out. -/
import Derived.Test.YtageodemjlgdcaaEqZ
import Derived.Test.YtageodemjlgdcaaZbx
import Derived.Test.YtageodemjlgdcaaAddI
namespace Go.Proofs.Ytageodemjlgdcaa
open Go.RowKit Go.Sort
set_option linter.unusedSimpArgs false
set_option linter.unusedVariables false

section
variable {A : Option Addr} {c : Nat} {z : List Ent} {w : World}
theorem validZ (r : Bool) (he : zsB z = r) (hx : EntsAt w A z) (hn : z.length ≤ 4194304) (hr : rowsIn z 4194304) :
    Calls Try.prog 64 #[.slice A z.length c] w fun e w' => e = .returned (.bool r) ∧ Below w.heap.size w w' := he ▸ ValidZSet_i A c z w hx hn hr
theorem weightZ {B : Option Addr} {d : Nat} {r : List Int} (v : Int) (he : WeightF z r = v) (hx : EntsAt w A z) (hy : IntsAt w B r) (hn : z.length ≤ 4194304) (hr : rowsIn z 4194304) (hm : r.length ≤ 4194304) :
    Calls Try.prog 59 #[.slice A z.length c, .slice B r.length d] w fun e w' => e = .returned (.int .i64 v) ∧ Below w.heap.size w w' := he ▸ WeightOf_i A c z B d r w hx hy hn hr hm
theorem eqIL {B : Option Addr} {c d : Nat} {x y : List Int} (r : Bool) (L : Nat) (he : decide (x = y) = r) (hL : x.length = L) (hx : IntsAt w A x) (hy : IntsAt w B y) (hn : L ≤ 4194304) (hm : y.length ≤ 4194304) :
    Calls Try.prog 51 #[.slice A L c, .slice B y.length d] w fun e w' => e = .returned (.bool r) ∧ Below w.heap.size w w' := by
  subst hL
  exact he ▸ equalInts_l A B c d x y w hx hy (by omega) (by omega)
theorem issetZ (r : Bool) (he : setB z = r) (hx : EntsAt w A z) (hn : z.length ≤ 4194304) (hr : rowsIn z 4194304) :
    Calls Try.prog 27 #[.slice A z.length c] w fun e w' => e = .returned (.bool r) ∧ Below w.heap.size w w' := he ▸ IsSet_i A c z w hx hn hr
end
set_option maxHeartbeats 400000 in
theorem minus_l (A : Option Addr) (c : Nat) (a : List Ent) (B : Option Addr) (d : Nat) (b : List Ent) (w : World) (hx : EntsAt w A a) (hy : EntsAt w B b) (hca : a.length ≤ c) (hcb : b.length ≤ d) (hn : a.length ≤ 4194304) (hr : rowsIn a 4194304) (hm : b.length ≤ 4194304) (hs : rowsIn b 4194304) :
    Calls Try.prog 39 #[.slice A a.length c, .slice B b.length d] w fun e w' => ∃ A' c', e = .returned (.slice A' (AddF a (NegF b)).length c') ∧ EntsOw w' (news w w') A' c' (AddF a (NegF b)) ∧ Below w.heap.size w w' := by
  go_enter Try.func39, Try.ntmps39
  go_wp2_with fail
  refine (Negate_i _ _ _ _ hy hm hs).mono ?_
  rintro e w1 ⟨A1, c1, rfl, o1, b1⟩
  go_wp2_with fail
  refine (Add_i _ _ _ _ _ _ _ (hx.below entR b1) (SlOw.at_ entO o1) hca (EntsOw.cap o1) hn hr (Nat.le_trans (NegF_len _) (by decide)) (rows_big (NegF_row _) (by decide))).mono ?_
  rintro e w2 ⟨A2, c2, rfl, o2, b2⟩
  have hs := b1.size
  go_wp2_with fail
  go_ret
  exact ⟨A2, c2, rfl, o2.mono (fun q hq => ⟨by have := hq.1; omega, hq.2⟩) (fun q hq => hq.2), btr b1 b2⟩
end Go.Proofs.Ytageodemjlgdcaa
