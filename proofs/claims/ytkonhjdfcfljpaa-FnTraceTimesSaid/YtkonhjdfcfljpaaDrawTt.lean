/- HELPER, no statement of the seat: the generator of the argument of TraceTimes. -/
import Derived.Test.YtkonhjdfcfljpaaDrs
import Derived.Test.YtkonhjdfcfljpaaDrawF
namespace Go.Proofs.Ytkonhjdfcfljpaa
open Go.RowKit Go.Sort
set_option linter.unusedSimpArgs false
set_option linter.unusedVariables false

def OneTr (w : World) (e : Ending) (w' : World) : Prop := ∃ (z : List Upd) (A1 : Option Addr) (c1 : Nat), e = .returned (.slice A1 z.length c1) ∧ TA w z A1 c1 w' ∧ Below w.heap.size w w'
set_option maxHeartbeats 1600000 in
theorem DrawTraceTimes_r (A : Option Addr) (n c : Nat) (w : World) (hb : BytesAt w w.heap.size A n) (hc : n ≤ c) (hn : n ≤ 1048576) :
    Calls Try.prog 33 #[.slice A n c] w (OneTr w) := by
  go_enter Try.func33, Try.ntmps33
  go_wp2_with fail
  refine (newReader_r _ _ _ _ hb hc hn).mono ?_
  rintro e w1 ⟨A1, m1, c1, rfl, r1, b1⟩
  clear hb
  go_wp2_with fail
  refine (pick_r _ _ _ _ _ _ _ r1 (by omega) (by omega)).mono ?_
  rintro e w2 ⟨j, rfl, b0, j1, r2, g2⟩
  have hj1 := j1 (by omega)
  obtain ⟨k, rfl⟩ := Int.eq_ofNat_of_zero_le b0
  have hcon := anyTrace_r w.heap.size A1 m1 c1 _ (1 + k) w2 r2 (by omega) (by omega)
  rw [show ((1 + k : Nat) : Int) = 1 + (k : Int) by omega] at hcon
  have hB2 := gbelow b1 g2 (Nat.le_refl _)
  have hs2 := hB2.size
  clear j1 r1 r2 b1 g2
  go_wp2_with fail
  refine hcon.mono ?_
  rintro e w3 ⟨z, A3, c3, q3, rfl, hz, hq1, hq2, r3, g3⟩
  have HR : Hid (TA w z A3 c3 w3 ∧ Below w.heap.size w w3) := ⟨hz.back hs2, gbelow hB2 g3 (Nat.le_refl _)⟩
  clear r3 g3 hcon hz hB2
  go_wp2_with fail
  go_ret
  exact ⟨z, A3, c3, rfl, HR.out⟩
end Go.Proofs.Ytkonhjdfcfljpaa
