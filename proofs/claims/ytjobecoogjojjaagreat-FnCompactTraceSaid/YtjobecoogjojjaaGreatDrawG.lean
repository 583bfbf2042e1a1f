/- HELPER, no statement of the seat: the generator of the arguments of CompactTrace. -/
import Derived.Test.YtjobecoogjojjaaGreatDrs
import Derived.Test.YtjobecoogjojjaaGreatDrawF
namespace Go.Proofs.YtjobecoogjojjaaGreat
open Go.RowKit Go.Sort
set_option linter.unusedSimpArgs false
set_option linter.unusedVariables false

/-! ### A trace with a frontier -/
def TFr (w : World) (e : Ending) (w' : World) : Prop := ∃ (z : List Upd) (fr : List Tm) (A1 A2 : Option Addr) (c1 c2 : Nat), e = .returned (.tuple #[.slice A1 z.length c1, .slice A2 fr.length c2]) ∧ TA w z A1 c1 w' ∧ TmOwn w' w.heap.size A2 c2 fr ∧ fr.length ≤ 5 ∧ Below w.heap.size w w'
set_option maxHeartbeats 1600000 in
theorem DrawCompactTrace_r (A : Option Addr) (n c : Nat) (w : World) (hb : BytesAt w w.heap.size A n) (hc : n ≤ c) (hn : n ≤ 1048576) :
    Calls Tryz.prog 16 #[.slice A n c] w (TFr w) := by
  go_enter Tryz.func16, Tryz.ntmps16
  go_wp2_with fail
  refine (newReader_r _ _ _ _ hb hc hn).mono ?_
  rintro e w1 ⟨A1, m1, c1, rfl, r1, b1⟩
  clear hb
  go_wp2_with fail
  refine (pick_r _ _ _ _ _ _ _ r1 (by omega) (by omega)).mono ?_
  rintro e w2 ⟨j, rfl, b0, j1, r2, g2⟩
  have hj1 := j1 (by omega)
  obtain ⟨k, rfl⟩ := Int.eq_ofNat_of_zero_le b0
  have hcon := anyTrace_r w.heap.size A1 m1 c1 _ (1 + k) w2 r2 (by omega) (by omega)
  rw [show ((1 + k : Nat) : Int) = 1 + (k : Int) by omega] at hcon
  have hB2 := gbelow b1 g2 (Nat.le_refl _)
  have hs2 := hB2.size
  have hlt2 := r2.1.lt
  clear j1 r1 r2 b1 g2
  go_wp2_with fail
  refine hcon.mono ?_
  rintro e w3 ⟨z, A3, c3, q3, rfl, hz, hq1, hq2, r3, g3⟩
  have hB3 := gbelow hB2 g3 (Nat.le_refl _)
  have hcon := anyFrontier_r w.heap.size A1 m1 c1 _ w3 r3 (by omega)
  have hs3 := hB3.size
  clear hB2 g3
  go_wp2_with fail
  refine hcon.mono ?_
  rintro e w5 ⟨xs, A5, c5, q5, rfl, ho5, hxl, hq5, hq6, r5, g5⟩
  have HR : Hid (TA w z A3 c3 w5 ∧ TmOwn w5 w.heap.size A5 c5 xs ∧ xs.length ≤ 5 ∧ Below w.heap.size w w5) := ⟨(hz.kept g5 hlt2).back hs2, ho5.mono hs3, hxl, gbelow hB3 g5 (Nat.le_refl _)⟩
  clear hxl ho5 r5 g5 hcon hz hB3
  go_wp2_with fail
  go_ret2
  exact ⟨z, xs, A3, A5, c3, c5, rfl, HR.out⟩

end Go.Proofs.YtjobecoogjojjaaGreat
