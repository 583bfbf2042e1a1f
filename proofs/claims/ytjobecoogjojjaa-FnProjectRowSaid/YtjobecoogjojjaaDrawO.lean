/- HELPER, no statement of the seat: the generator of a row and of columns. -/
import Derived.Test.YtjobecoogjojjaaDrawN
import Derived.Test.YtjobecoogjojjaaDrp
namespace Go.Proofs.Ytjobecoogjojjaa
open Go.RowKit Go.Sort
set_option linter.unusedSimpArgs false
set_option linter.unusedVariables false

def RowCols (w : World) (e : Ending) (w' : World) : Prop := ∃ (x y : List Int) (A1 A2 : Option Addr) (c1 c2 : Nat), e = .returned (.tuple #[.slice A1 x.length c1, .slice A2 y.length c2]) ∧ IntsAt w' A1 x ∧ IntsAt w' A2 y ∧ x.length ≤ 8 ∧ y.length ≤ 8 ∧ Below w.heap.size w w'
set_option maxRecDepth 100000 in
set_option maxHeartbeats 1600000 in
theorem DrawProjectRow_r (A : Option Addr) (n c : Nat) (w : World) (hb : BytesAt w w.heap.size A n) (hc : n ≤ c) (hn : n ≤ 1048576) :
    Calls Try.prog 12 #[.slice A n c] w (RowCols w) := by
  go_enter Try.func12, Try.ntmps12
  go_wp2_with fail
  refine (newReader_r _ _ _ _ hb hc hn).mono ?_
  rintro e w1 ⟨A1, m1, c1, rfl, r1, b1⟩
  clear hb
  go_wp2_with fail
  refine (anyRow_r _ _ _ _ _ _ r1 (by omega)).mono ?_
  rintro e w2 ⟨xs, A2, c2, q2, rfl, hxl, ho2, hq1, hq2, r2, g2⟩
  have hl1 := r1.1.lt
  have hB2 := gbelow b1 g2 (Nat.le_refl _)
  clear r1 b1 g2
  by_cases h1 : 1 < xs.length
  · have h1' : (1 : Int) < xs.length := by omega
    have hcon := someColumns_r w.heap.size A1 m1 c1 q2 xs.length w2 r2 (by omega) (by omega)
    go_wp2_with fail
    all_goals first | (exfalso; omega) | skip
    refine hcon.mono ?_
    rintro e w3 ⟨ys, A5, c5, q5, rfl, hyl, ho5, _, _, r5, g5⟩
    have ho3 := ho2.keptG g5 hl1
    have HB := Lib.hid (gbelow hB2 g5 (Nat.le_refl _))
    have HX := Lib.hid ho3.at_
    have HY := Lib.hid ho5
    clear hcon ho3 ho2 ho5 g5 r5 hB2
    go_wp2_with fail
    go_ret2
    exact ⟨xs, ys, A2, A5, c2, c5, rfl, HX.out, HY.out, hxl, hyl, HB.out⟩
  · have h1' : ¬ (1 : Int) < xs.length := by omega
    have hcon := someColumns_r w.heap.size A1 m1 c1 q2 1 w2 r2 (by omega) (by omega)
    rw [show ((1 : Nat) : Int) = 1 from rfl] at hcon
    go_wp2_with fail
    all_goals first | (exfalso; omega) | skip
    refine hcon.mono ?_
    rintro e w3 ⟨ys, A5, c5, q5, rfl, hyl, ho5, _, _, r5, g5⟩
    have ho3 := ho2.keptG g5 hl1
    have HB := Lib.hid (gbelow hB2 g5 (Nat.le_refl _))
    have HX := Lib.hid ho3.at_
    have HY := Lib.hid ho5
    clear hcon ho3 ho2 ho5 g5 r5 hB2
    go_wp2_with fail
    go_ret2
    exact ⟨xs, ys, A2, A5, c2, c5, rfl, HX.out, HY.out, hxl, hyl, HB.out⟩
end Go.Proofs.Ytjobecoogjojjaa
