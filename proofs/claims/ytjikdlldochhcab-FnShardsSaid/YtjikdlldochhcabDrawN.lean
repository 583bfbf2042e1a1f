/- HELPER, no statement of the seat: the generators of rows that may be invalid, of two rows, of lists of entries. -/
import Derived.Test.YtjikdlldochhcabDrh
namespace Go.Proofs.Ytjikdlldochhcab
open Go.RowKit Go.Sort
set_option linter.unusedSimpArgs false
set_option linter.unusedVariables false

theorem IntsOwn.keptG {w w' : World} {base g : Nat} {A : Option Addr} {c : Nat} {xs : List Int} (h : IntsOwn w base A c xs) (hg : w.grownBy w' (some g)) (hlt : g < base) : IntsOwn w' base A c xs := ownG h hg hlt
theorem IntsOwn.store {w : World} {base G c k : Nat} {xs : List Int} (h : IntsOwn w base (some ⟨G, 0, none⟩) c xs) (x : Int) : IntsOwn (w.setCell ⟨G, k, none⟩ (.int .i64 x)) base (some ⟨G, 0, none⟩) c (xs.set k x) := by
  have := (World.ownsRow.stored h k (.int .i64 x)).1
  rw [← List.map_set] at this
  simpa [IntsOwn] using this
def RowAny (w : World) (g : Nat) (A : Option Addr) (n c : Nat) (p : Int) (e : Ending) (w' : World) : Prop :=
  ∃ (xs : List Int) (A' : Option Addr) (c' : Nat) (q : Int), e = .returned (.slice A' xs.length c') ∧ xs.length ≤ 8 ∧ IntsOwn w' w.heap.size A' c' xs ∧ p ≤ q ∧ q ≤ p + 20 ∧ Rdr w' g A n c q ∧ w.grownBy w' (some g)
set_option maxHeartbeats 1600000 in
theorem anyRow_r (g : Nat) (A : Option Addr) (n c : Nat) (p : Int) (w : World) (hr : Rdr w g A n c p) (hp : p + 20 ≤ 1000000000) :
    Calls Try.prog 55 #[.pointer (some ⟨g, 0, none⟩)] w (RowAny w g A n c p) := by
  have hlt := hr.1.lt
  go_enter Try.func55, Try.ntmps55
  go_wp2_with fail
  refine (pick_r _ _ _ _ _ _ _ hr (by omega) (by omega)).mono ?_
  rintro e w1 ⟨k0, rfl, a0, a1, r1, g1⟩
  have ha1 := a1 (by omega)
  obtain ⟨k, rfl⟩ := Int.eq_ofNat_of_zero_le a0
  have hcon := randomRow_r g A n c (p + 1) (1 + k) w1 r1 (by omega) (by omega)
  rw [show ((1 + k : Nat) : Int) = 1 + (k : Int) by omega] at hcon
  have hs1 := g1.size
  have HG1 := Lib.hid g1
  clear a1 g1 hr r1
  go_wp2_with fail
  refine hcon.mono ?_
  rintro e w2 ⟨xs, A2, c2, rfl, hxl, ho2, r2, g2⟩
  have hx1 : 1 ≤ xs.length := by omega
  have hx2 : xs.length ≤ 4 := by omega
  have HG2 := Lib.hid (HG1.out.trans g2)
  have hq2 : p + 1 + ((1 + k : Nat) : Int) ≤ p + 6 := by omega
  have hq1 : p ≤ p + 1 + ((1 + k : Nat) : Int) := by omega
  generalize p + 1 + ((1 + k : Nat) : Int) = q at r2 hq1 hq2
  clear hcon hxl g2 HG1
  go_wp2_with fail
  refine (pick_r _ _ _ _ _ _ _ r2 (by omega) (by omega)).mono ?_
  rintro e w3 ⟨j, rfl, b0, b1, r3, g3⟩
  have ho3 := ho2.keptG g3 (by omega)
  have HG3 := Lib.hid (HG2.out.trans g3)
  have hs3 := HG3.out.size
  clear b1 g3 r2 ho2 HG2
  by_cases hj0 : j = 0
  · subst hj0
    have HR : Hid (RowAny w g A n c p (.returned (.slice (some ⟨w3.heap.size, 0, none⟩) 0 0)) (w3.alloc (.cells #[] 3))) :=
      ⟨[], _, 0, q + 1, rfl, by simp, World.ownsRow_lit (base := w.heap.size) (size := 1) (e := 3) w3 #[] 0 hs3 (by simp [maxLen]) (by simp), by omega, by omega, r3.alloc _, gal HG3.out _⟩
    clear ho3 r3 HG3
    go_wp2_with fail
    go_ret
    exact HR.out
  · have hj0' : (j == 0) = false := by rw [beq_eq_false_iff_ne]; exact hj0
    by_cases hj1 : j = 1
    · subst hj1
      have hcon := randomRow_r g A n c (q + 1) 7 w3 r3 (by omega) (by omega)
      clear r3 ho3 hj0
      go_wp2_with fail
      refine hcon.mono ?_
      rintro e w4 ⟨ys, A4, c4, rfl, hyl, ho4, r4, g4⟩
      have HR : Hid (RowAny w g A n c p (.returned (.slice A4 ys.length c4)) w4) :=
        ⟨ys, A4, c4, _, rfl, by omega, ho4.mono hs3, by omega, by omega, r4, HG3.out.trans g4⟩
      clear hyl ho4 r4 g4 hcon HG3
      go_wp2_with fail
      go_ret
      exact HR.out
    · have hj1' : (j == 1) = false := by rw [beq_eq_false_iff_ne]; exact hj1
      by_cases hj2 : j = 2
      · subst hj2
        obtain ⟨G, rfl, hGb, hGl⟩ : ∃ G, A2 = some ⟨G, 0, none⟩ ∧ w1.heap.size ≤ G ∧ G < w3.heap.size := by
          rcases ho3.form with ⟨_, h⟩ | h
          · rw [h] at hx1; simp at hx1
          · exact h
        clear hj0 hj1
        go_wp2_with fail
        refine (pick_r _ _ _ _ _ _ _ r3 (by omega) (by omega)).mono ?_
        rintro e w4 ⟨i0, rfl, d0, d1, r4, g4⟩
        have hd1 := d1 (by omega)
        obtain ⟨i, rfl⟩ := Int.eq_ofNat_of_zero_le d0
        have hi : i < xs.length := by omega
        have hB : Blk (w4.alloc (.cells #[.int .i64 10000, .int .i64 (-10000), .int .i64 (-9999), .int .i64 9999] 3)) w4.heap.size 3 (ints [10000, -10000, -9999, 9999]) := Blk.newAt rfl
        have hgl := r4.1.lt
        have ho4 := ho3.keptG g4 (by omega)
        clear d1 r3 ho3
        go_wp2_with fail
        refine (oneL_r g w4.heap.size A n c _ [10000, -10000, -9999, 9999] _ (r4.alloc _) (by omega) hB (by omega) (by decide) (by decide)).mono ?_
        rintro e w5 ⟨x, rfl, hx, r5, g5⟩
        have ho5 := (ho4.below (bal (Below.refl _ _) (.cells #[.int .i64 10000, .int .i64 (-10000), .int .i64 (-9999), .int .i64 9999] 3))).keptG g5 (by omega)
        have hc5 : w5.cell? ⟨G, i, none⟩ = some (.int .i64 xs[i]) := by
          obtain ⟨b, off, e1, e2, e3⟩ := ho5.at_ (by omega)
          injection e1 with e1
          injection e1 with e1 e4
          subst e1
          subst e4
          have := e3 i hi
          simpa [hi] using this
        have hf5 := World.ownsRow.frozenAt ho5 i
        have hi1 : (0 : Int) ≤ i := by omega
        have hi2 : (i : Int) < xs.length := by omega
        have HR : Hid (RowAny w g A n c p (.returned (.slice (some ⟨G, 0, none⟩) xs.length c2)) (w5.setCell ⟨G, i, none⟩ (.int .i64 x))) :=
          ⟨xs.set i x, _, c2, _, by rw [List.length_set], by rw [List.length_set]; omega, (ho5.store x).mono (by omega), by omega, by omega, r5.far (by simp; omega) _, gset ((HG3.out.trans g4).trans ((World.grownBy_alloc _ _ _).trans g5)) (by simp; omega) _⟩
        clear hB hx r4 r5 g4 g5 ho4 ho5 HG3
        go_wp2_with fail
        go_ret
        exact HR.out
      · have hj2' : (j == 2) = false := by rw [beq_eq_false_iff_ne]; exact hj2
        have HR : Hid (RowAny w g A n c p (.returned (.slice A2 xs.length c2)) w3) :=
          ⟨xs, A2, c2, q + 1, rfl, by omega, ho3.mono hs1, by omega, by omega, r3, HG3.out⟩
        clear r3 ho3 hj0 hj1 hj2 HG3
        go_wp2_with fail
        go_ret
        exact HR.out

/-! ### Two rows -/
def TwoRows (w : World) (e : Ending) (w' : World) : Prop := ∃ (xs ys : List Int) (A1 A2 : Option Addr) (c1 c2 : Nat), e = .returned (.tuple #[.slice A1 xs.length c1, .slice A2 ys.length c2]) ∧ xs.length ≤ 10 ∧ ys.length ≤ 10 ∧ IntsAt w' A1 xs ∧ IntsAt w' A2 ys ∧ Below w.heap.size w w'
end Go.Proofs.Ytjikdlldochhcab
