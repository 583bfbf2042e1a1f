/- HELPER, no statement of the seat: the generator of Shards. -/
import Derived.Test.YtjikdlldochhcabDrawSh
import Derived.Test.YtjikdlldochhcabDrp
namespace Go.Proofs.Ytjikdlldochhcab
open Go.RowKit Go.Sort
set_option linter.unusedSimpArgs false
set_option linter.unusedVariables false

def ZShd (w : World) (e : Ending) (w' : World) : Prop := ∃ (z : List Ent) (x y : Int) (A1 : Option Addr) (c1 : Nat), e = .returned (.tuple #[.slice A1 z.length c1, .int .i64 x, .int .i64 y]) ∧ ZA w z A1 c1 w' ∧ -1 ≤ x ∧ x ≤ 200 ∧ 0 ≤ y ∧ y ≤ 9 ∧ Below w.heap.size w w'
set_option maxHeartbeats 1600000 in
theorem DrawShards_r (A : Option Addr) (n c : Nat) (w : World) (hb : BytesAt w w.heap.size A n) (hc : n ≤ c) (hn : n ≤ 1048576) :
    Calls Try.prog 28 #[.slice A n c] w (ZShd w) := by
  go_enter Try.func28, Try.ntmps28
  go_wp2_with fail
  refine (newReader_r _ _ _ _ hb hc hn).mono ?_
  rintro e w1 ⟨A1, m1, c1, rfl, r1, b1⟩
  clear hb
  go_wp2_with fail
  refine (pick_r _ _ _ _ _ _ _ r1 (by omega) (by omega)).mono ?_
  rintro e w2 ⟨j, rfl, b0, j1, r2, g2⟩
  have hj1 := j1 (by omega)
  obtain ⟨k, rfl⟩ := Int.eq_ofNat_of_zero_le b0
  have hcon := anyZSet_r w.heap.size A1 m1 c1 _ (1 + k) w2 r2 (by omega) (by omega)
  rw [show ((1 + k : Nat) : Int) = 1 + (k : Int) by omega] at hcon
  have hB2 := gbelow b1 g2 (Nat.le_refl _)
  have hs2 := hB2.size
  have hlt2 := r2.1.lt
  clear j1 r1 r2 b1 g2
  go_wp2_with fail
  refine hcon.mono ?_
  rintro e w3 ⟨z, A3, c3, q3, rfl, hz, hq1, hq2, r3, g3⟩
  have hB3 := gbelow hB2 g3 (Nat.le_refl _)
  have hcon := keyColumns_r w.heap.size A1 m1 c1 _ (1 + k) w3 r3 (by omega) (by omega)
  rw [show ((1 + k : Nat) : Int) = 1 + (k : Int) by omega] at hcon
  clear hB2 g3
  go_wp2_with fail
  refine hcon.mono ?_
  rintro e w5 ⟨x, q5, rfl, hx0, hx1, hq5, hq6, r5, g5⟩
  have hB5 := gbelow hB3 g5 (Nat.le_refl _)
  have hz5 := hz.kept g5 hlt2
  clear hcon hz hB3 g5 r3
  go_wp2_with fail
  refine (workersOf_r _ _ _ _ _ _ r5 (by omega)).mono ?_
  rintro e w6 ⟨y, rfl, hy0, hy1, r6, g6⟩
  have HR : Hid (ZA w z A3 c3 w6 ∧ Below w.heap.size w w6) := ⟨(hz5.kept g6 hlt2).back hs2, gbelow hB5 g6 (Nat.le_refl _)⟩
  clear r5 r6 g6 hz5 hB5
  go_wp2_with fail
  go_ret3
  exact ⟨z, x, y, A3, c3, rfl, HR.out.1, hx0, hx1, hy0, hy1, HR.out.2⟩
end Go.Proofs.Ytjikdlldochhcab
