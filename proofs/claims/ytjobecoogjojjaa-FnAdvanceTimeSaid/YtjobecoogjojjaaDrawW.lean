/- HELPER, no statement of the seat: the generators of the arguments of the laws on traces. -/
import Derived.Test.YtjobecoogjojjaaDrawS
namespace Go.Proofs.Ytjobecoogjojjaa
open Go.RowKit Go.Sort
set_option linter.unusedSimpArgs false
set_option linter.unusedVariables false

theorem TA.far {w w1 : World} {z : List Upd} {A : Option Addr} {c : Nat} (h : TA w z A c w1) {p : Addr} (hp : p.block < w.heap.size) (u : Value) : TA w z A c (w1.setCell p u) :=
  ⟨(SlOw.loc updO h.1 (fun k hk => Below.heap_setCell w1 p u k (by have := hk.1; omega))).mono (fun k hk => ⟨hk.1, by have := hk.2; simpa [World.setCell] using this⟩) (fun k hk => by have := hk.2; simpa [World.setCell] using this), h.2⟩
def TrTm (w : World) (e : Ending) (w' : World) : Prop := ∃ (z : List Upd) (A' : Option Addr) (c' : Nat) (x y : Int), e = .returned (.tuple #[.slice A' z.length c', .agg #[.int .i64 x, .int .i64 y]]) ∧ TA w z A' c' w' ∧ Below w.heap.size w w'
set_option maxRecDepth 100000 in
set_option maxHeartbeats 3200000 in
theorem DrawAsOf_r (A : Option Addr) (n c : Nat) (w : World) (hb : BytesAt w w.heap.size A n) (hc : n ≤ c) (hn : n ≤ 1048576) :
    Calls Try.prog 21 #[.slice A n c] w (TrTm w) := by
  have h0 : BytesAt (w.alloc (.cells #[.int .i64 0, .int .i64 0] 35)) (w.alloc (.cells #[.int .i64 0, .int .i64 0] 35)).heap.size A n := fun hp => by
    obtain ⟨b, off, e, h1, h2⟩ := (hb.below (bal (Below.refl _ _) (.cells #[.int .i64 0, .int .i64 0] 35)) (Nat.le_refl _)) hp
    exact ⟨b, off, e, by simp; omega, h2⟩
  have hk : Blk (w.alloc (.cells #[.int .i64 0, .int .i64 0] 35)) w.heap.size 35 #[.int .i64 0, .int .i64 0] := Blk.newAt rfl
  have hB0 : Below w.heap.size w (w.alloc (.cells #[.int .i64 0, .int .i64 0] 35)) := bal (Below.refl _ _) _
  have H0 := Lib.hid (And.intro h0 (And.intro hk hB0))
  clear h0 hk hB0 hb
  go_enter Try.func21, Try.ntmps21
  go_wp2_with fail
  refine (newReader_r _ _ _ _ H0.out.1 hc hn).mono ?_
  rintro e w1 ⟨A1, m1, c1, rfl, r1, b1⟩
  have r1 : Rdr w1 (w.heap.size + 1) A1 m1 c1 0 := by simpa using r1
  have H1 := Lib.hid (And.intro r1 (And.intro (H0.out.2.1.below b1) (btr H0.out.2.2 b1)))
  clear H0 b1 r1
  go_wp2_with fail
  refine (pick_r (w.heap.size + 1) _ _ _ _ _ _ H1.out.1 (by omega) (by omega)).mono ?_
  rintro e w2 ⟨j, rfl, b0, j1, r2, g2⟩
  have hj1 := j1 (by omega)
  obtain ⟨k, rfl⟩ := Int.eq_ofNat_of_zero_le b0
  have hs2 : w.heap.size + 1 < w2.heap.size := r2.1.lt
  have hcon := anyTrace_r (w.heap.size + 1) A1 m1 c1 _ (1 + k) w2 r2 (by omega) (by omega)
  rw [show ((1 + k : Nat) : Int) = 1 + (k : Int) by omega] at hcon
  have H2 := Lib.hid (And.intro (H1.out.2.1.kept g2 (by omega)) (gbelow H1.out.2.2 g2 (by omega)))
  clear H1 r2 g2 j1
  go_wp2_with fail
  refine hcon.mono ?_
  rintro e w3 ⟨z, A3, c3, q3, rfl, hz, hq1, hq2, r3, g3⟩
  have hs3 := g3.size
  have hcon2 := anyTime_r (w.heap.size + 1) A1 m1 c1 q3 w3 r3 (by omega)
  have H3 := Lib.hid (And.intro hz (And.intro (H2.out.1.kept g3 (by omega)) (gbelow H2.out.2 g3 (by omega))))
  clear hcon H2 hz g3 r3 hq1 hq2
  go_wp2_with fail
  refine hcon2.mono ?_
  rintro e w4 ⟨x, y, q4, rfl, hq3, hq4, r4, g4⟩
  have hs4 := g4.size
  have k4 := H3.out.2.1.kept g4 (by omega)
  have c4 := k4.cell
  have f4 := k4.frozen
  have H4 := Lib.hid (And.intro (H3.out.1.kept g4 (by omega)) (And.intro k4 (gbelow H3.out.2.2 g4 (by omega))))
  clear hcon2 H3 r4 g4 k4 hq3 hq4
  go_wp2_with fail
  have K := (H4.out.2.1.set_ 0 (.int .i64 x)).set_ 1 (.int .i64 y)
  have s0 := K.cell 0
  have s1 := K.cell 1
  simp at s0 s1
  exact bodyPost_ret (v := .tuple #[.slice A3 z.length c3, .agg #[.int .i64 x, .int .i64 y]]) (by simp [results, Try.results21, go_sem, s0, s1]) rfl
    ⟨z, A3, c3, x, y, rfl, ((H4.out.1.far (by simp; omega) _).far (by simp; omega) _).back (by omega), bset (bset H4.out.2.2 (by simp) _) (by simp) _⟩

/-! ### A time -/
def OneTm (w : World) (e : Ending) (w' : World) : Prop := ∃ x y : Int, e = .returned (.agg #[.int .i64 x, .int .i64 y]) ∧ Below w.heap.size w w'
set_option maxHeartbeats 1600000 in
theorem DrawValidTime_r (A : Option Addr) (n c : Nat) (w : World) (hb : BytesAt w w.heap.size A n) (hc : n ≤ c) (hn : n ≤ 1048576) :
    Calls Try.prog 33 #[.slice A n c] w (OneTm w) := by
  have h0 : BytesAt (w.alloc (.cells #[.int .i64 0, .int .i64 0] 35)) (w.alloc (.cells #[.int .i64 0, .int .i64 0] 35)).heap.size A n := fun hp => by
    obtain ⟨b, off, e, h1, h2⟩ := (hb.below (bal (Below.refl _ _) (.cells #[.int .i64 0, .int .i64 0] 35)) (Nat.le_refl _)) hp
    exact ⟨b, off, e, by simp; omega, h2⟩
  have hk : Blk (w.alloc (.cells #[.int .i64 0, .int .i64 0] 35)) w.heap.size 35 #[.int .i64 0, .int .i64 0] := Blk.newAt rfl
  have hB0 : Below w.heap.size w (w.alloc (.cells #[.int .i64 0, .int .i64 0] 35)) := bal (Below.refl _ _) _
  have H0 := Lib.hid (And.intro h0 (And.intro hk hB0))
  clear h0 hk hB0 hb
  go_enter Try.func33, Try.ntmps33
  go_wp2_with fail
  refine (newReader_r _ _ _ _ H0.out.1 hc hn).mono ?_
  rintro e w1 ⟨A1, m1, c1, rfl, r1, b1⟩
  have r1 : Rdr w1 (w.heap.size + 1) A1 m1 c1 0 := by simpa using r1
  have H1 := Lib.hid (And.intro r1 (And.intro (H0.out.2.1.below b1) (btr H0.out.2.2 b1)))
  clear H0 b1 r1
  go_wp2_with fail
  refine (anyTime_r (w.heap.size + 1) A1 m1 c1 _ _ H1.out.1 (by omega)).mono ?_
  rintro e w4 ⟨x, y, q4, rfl, hq3, hq4, r4, g4⟩
  have hs4 := g4.size
  have k4 := H1.out.2.1.kept g4 (by omega)
  have c4 := k4.cell
  have f4 := k4.frozen
  have H4 := Lib.hid (And.intro k4 (gbelow H1.out.2.2 g4 (by omega)))
  clear H1 r4 g4 k4 hq3 hq4
  go_wp2_with fail
  have K := (H4.out.1.set_ 0 (.int .i64 x)).set_ 1 (.int .i64 y)
  have s0 := K.cell 0
  have s1 := K.cell 1
  simp at s0 s1
  exact bodyPost_ret (v := .agg #[.int .i64 x, .int .i64 y]) (by simp [results, Try.results33, go_sem, s0, s1]) rfl
    ⟨x, y, rfl, bset (bset H4.out.2 (by simp) _) (by simp) _⟩
end Go.Proofs.Ytjobecoogjojjaa
