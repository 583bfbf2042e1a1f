/- HELPER, no statement of the seat: the generator of two frontiers. -/
import Derived.Test.YtkonhjdfcfljpaaDrawF
namespace Go.Proofs.Ytkonhjdfcfljpaa
open Go.RowKit Go.Sort
set_option linter.unusedSimpArgs false
set_option linter.unusedVariables false

/-! ### Two frontiers -/
def TwoF (w : World) (e : Ending) (w' : World) : Prop := ∃ (x y : List Tm) (A1 A2 : Option Addr) (c1 c2 : Nat), e = .returned (.tuple #[.slice A1 x.length c1, .slice A2 y.length c2]) ∧ TmOwn w' w.heap.size A1 c1 x ∧ TmOwn w' w.heap.size A2 c2 y ∧ x.length ≤ 5 ∧ y.length ≤ 5 ∧ Below w.heap.size w w'
set_option maxRecDepth 100000 in
set_option maxHeartbeats 3200000 in
theorem twoFrontiers_r (A : Option Addr) (n c : Nat) (w : World) (hb : BytesAt w w.heap.size A n) (hc : n ≤ c) (hn : n ≤ 1048576) :
    Calls Try.prog 105 #[.slice A n c] w (TwoF w) := by
  go_enter Try.func105, Try.ntmps105
  go_wp2_with fail
  refine (newReader_r _ _ _ _ hb hc hn).mono ?_
  rintro e w1 ⟨A1, m1, c1, rfl, r1, b1⟩
  clear hb
  have hlt := r1.1.lt
  go_wp2_with fail
  refine (anyFrontier_r w.heap.size A1 m1 c1 0 w1 r1 (by omega)).mono ?_
  rintro e w2 ⟨x, A2, c2, q, rfl, ho, hxl, q0, q1, r2, g2⟩
  have hB2 := gbelow b1 g2 (Nat.le_refl _)
  have hs2 := g2.size
  clear b1 g2 r1
  go_wp2_with fail
  refine (anyFrontier_r w.heap.size A1 m1 c1 q w2 r2 (by omega)).mono ?_
  rintro e w3 ⟨y, A3, c3, q3, rfl, ho3, hyl, q2, q4, r3, g3⟩
  have HX := Lib.hid (And.intro ((ho.keptG g3 hlt).mono (Nat.le_of_lt hlt)) (And.intro (ho3.mono (by omega : w.heap.size ≤ w2.heap.size)) (gbelow hB2 g3 (Nat.le_refl _))))
  clear ho ho3 hB2 g3 r2 r3
  go_wp2_with fail
  exact bodyPost_ret (v := .tuple #[.slice A2 x.length c2, .slice A3 y.length c3]) (by simp [results, Try.results105, go_sem]) rfl ⟨x, y, A2, A3, c2, c3, rfl, HX.out.1, HX.out.2.1, hxl, hyl, HX.out.2.2⟩
theorem DrawFrontierJoin_r (A : Option Addr) (n c : Nat) (w : World) (hb : BytesAt w w.heap.size A n) (hc : n ≤ c) (hn : n ≤ 1048576) :
    Calls Try.prog 51 #[.slice A n c] w (TwoF w) := by
  go_enter Try.func51, Try.ntmps51
  go_wp2_with fail
  refine (twoFrontiers_r _ _ _ _ hb hc hn).mono ?_
  rintro e w3 ⟨x, y, A2, A3, c2, c3, rfl, h⟩
  go_wp2_with fail
  exact bodyPost_ret (v := .tuple #[.slice A2 x.length c2, .slice A3 y.length c3]) (by simp [results, Try.results51, go_sem]) rfl ⟨x, y, A2, A3, c2, c3, rfl, h⟩
theorem DrawFrontierMeet_r (A : Option Addr) (n c : Nat) (w : World) (hb : BytesAt w w.heap.size A n) (hc : n ≤ c) (hn : n ≤ 1048576) :
    Calls Try.prog 53 #[.slice A n c] w (TwoF w) := by
  go_enter Try.func53, Try.ntmps53
  go_wp2_with fail
  refine (twoFrontiers_r _ _ _ _ hb hc hn).mono ?_
  rintro e w3 ⟨x, y, A2, A3, c2, c3, rfl, h⟩
  go_wp2_with fail
  exact bodyPost_ret (v := .tuple #[.slice A2 x.length c2, .slice A3 y.length c3]) (by simp [results, Try.results53, go_sem]) rfl ⟨x, y, A2, A3, c2, c3, rfl, h⟩
/-! ### A time -/
def OneTmH (w : World) (e : Ending) (w' : World) : Prop := ∃ x y : Int, e = .returned (.agg #[.int .i64 x, .int .i64 y]) ∧ Below w.heap.size w w'
set_option maxHeartbeats 1600000 in
theorem DrawVT_r (A : Option Addr) (n c : Nat) (w : World) (hb : BytesAt w w.heap.size A n) (hc : n ≤ c) (hn : n ≤ 1048576) :
    Calls Try.prog 46 #[.slice A n c] w (OneTmH w) := by
  have h0 : BytesAt (w.alloc (.cells #[.int .i64 0, .int .i64 0] 52)) (w.alloc (.cells #[.int .i64 0, .int .i64 0] 52)).heap.size A n := fun hp => by
    obtain ⟨b, off, e, h1, h2⟩ := (hb.below (bal (Below.refl _ _) (.cells #[.int .i64 0, .int .i64 0] 52)) (Nat.le_refl _)) hp
    exact ⟨b, off, e, by simp; omega, h2⟩
  have hk : Blk (w.alloc (.cells #[.int .i64 0, .int .i64 0] 52)) w.heap.size 52 #[.int .i64 0, .int .i64 0] := Blk.newAt rfl
  have hB0 : Below w.heap.size w (w.alloc (.cells #[.int .i64 0, .int .i64 0] 52)) := bal (Below.refl _ _) _
  have H0 := Lib.hid (And.intro h0 (And.intro hk hB0))
  clear h0 hk hB0 hb
  go_enter Try.func46, Try.ntmps46
  go_wp2_with fail
  refine (newReader_r _ _ _ _ H0.out.1 hc hn).mono ?_
  rintro e w1 ⟨A1, m1, c1, rfl, r1, b1⟩
  have r1 : Rdr w1 (w.heap.size + 1) A1 m1 c1 0 := by simpa using r1
  have H1 := Lib.hid (And.intro r1 (And.intro (H0.out.2.1.below b1) (btr H0.out.2.2 b1)))
  clear H0 b1 r1
  go_wp2_with fail
  refine (anyTime_r (w.heap.size + 1) A1 m1 c1 _ _ H1.out.1 (by omega)).mono ?_
  rintro e w4 ⟨x, y, q4, rfl, hq3, hq4, r4, g4⟩
  have hs4 := g4.size
  have k4 := H1.out.2.1.kept g4 (by omega)
  have c4 := k4.cell
  have f4 := k4.frozen
  have H4 := Lib.hid (And.intro k4 (gbelow H1.out.2.2 g4 (by omega)))
  clear H1 r4 g4 k4 hq3 hq4
  go_wp2_with fail
  have K := (H4.out.1.set_ 0 (.int .i64 x)).set_ 1 (.int .i64 y)
  have s0 := K.cell 0
  have s1 := K.cell 1
  simp at s0 s1
  exact bodyPost_ret (v := .agg #[.int .i64 x, .int .i64 y]) (by simp [results, Try.results46, go_sem, s0, s1]) rfl
    ⟨x, y, rfl, bset (bset H4.out.2 (by simp) _) (by simp) _⟩
end Go.Proofs.Ytkonhjdfcfljpaa
