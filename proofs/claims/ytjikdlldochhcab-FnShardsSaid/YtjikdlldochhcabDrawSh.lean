/- HELPER, no statement of the seat: the generators of rows, Z-sets and lists of Z-sets with a number of workers. -/
import Derived.Test.YtjikdlldochhcabDrawN
import Derived.Test.YtjikdlldochhcabDrp
namespace Go.Proofs.Ytjikdlldochhcab
open Go.RowKit Go.Sort
set_option linter.unusedSimpArgs false
set_option linter.unusedVariables false

def WrkR (w : World) (g : Nat) (A : Option Addr) (n c : Nat) (p : Int) (e : Ending) (w' : World) : Prop :=
  ∃ x : Int, e = .returned (.int .i64 x) ∧ 0 ≤ x ∧ x ≤ 9 ∧ Rdr w' g A n c (p + 1) ∧ w.grownBy w' (some g)
set_option maxHeartbeats 1600000 in
theorem workersOf_r (g : Nat) (A : Option Addr) (n c : Nat) (p : Int) (w : World) (hr : Rdr w g A n c p) (hp : p + 20 ≤ 1000000000) :
    Calls Try.prog 57 #[.pointer (some ⟨g, 0, none⟩)] w (WrkR w g A n c p) := by
  have hB : Blk (w.alloc (.cells #[.int .i64 1, .int .i64 2, .int .i64 3, .int .i64 4, .int .i64 8, .int .i64 0, .int .i64 9] 3)) w.heap.size 3 (ints [1, 2, 3, 4, 8, 0, 9]) := Blk.newAt rfl
  have hlt := hr.1.lt
  go_enter Try.func57, Try.ntmps57
  go_wp2_with fail
  refine (oneL_r g w.heap.size A n c _ [1, 2, 3, 4, 8, 0, 9] _ (hr.alloc _) (by omega) hB (by omega) (by simp) (by simp)).mono ?_
  rintro e w3 ⟨z, rfl, hzm, r3, g3⟩
  have hz : 0 ≤ z ∧ z ≤ 9 := by simp at hzm; omega
  have H3 : Hid (Rdr w3 g A n c (p + 1) ∧ w.grownBy w3 (some g)) := ⟨r3, (World.grownBy_alloc _ _ _).trans g3⟩
  clear hB r3 g3 hzm hr
  go_wp2_with fail
  go_ret
  exact ⟨z, rfl, hz.1, hz.2, H3.out.1, H3.out.2⟩
theorem IntsOwn.len_cap {w : World} {base : Nat} {A : Option Addr} {c : Nat} {xs : List Int} (h : IntsOwn w base A c xs) : xs.length ≤ c ∧ c ≤ maxLen := by
  rcases ownsRow_form h with ⟨_, h1, h0⟩ | ⟨g, _, _, _, h1, h2⟩
  · rw [h1, h0]; exact ⟨Nat.le_refl _, by simp [maxLen]⟩
  · exact ⟨h1, h2⟩
def RowKW (w : World) (e : Ending) (w' : World) : Prop := ∃ (xs : List Int) (k n : Int) (A1 : Option Addr) (c1 : Nat), e = .returned (.tuple #[.slice A1 xs.length c1, .int .i64 k, .int .i64 n]) ∧ xs.length ≤ 8 ∧ IntsAt w' A1 xs ∧ xs.length ≤ c1 ∧ c1 ≤ maxLen ∧ -1 ≤ k ∧ k ≤ 20 ∧ 0 ≤ n ∧ n ≤ 9 ∧ Below w.heap.size w w'
set_option maxHeartbeats 1600000 in
theorem DrawShardOf_r (A : Option Addr) (n c : Nat) (w : World) (hb : BytesAt w w.heap.size A n) (hc : n ≤ c) (hn : n ≤ 1048576) :
    Calls Try.prog 27 #[.slice A n c] w (RowKW w) := by
  go_enter Try.func27, Try.ntmps27
  go_wp2_with fail
  refine (newReader_r _ _ _ _ hb hc hn).mono ?_
  rintro e w1 ⟨A1, m1, c1, rfl, r1, b1⟩
  clear hb
  go_wp2_with fail
  refine (anyRow_r _ _ _ _ _ _ r1 (by omega)).mono ?_
  rintro e w2 ⟨xs, A2, c2, q2, rfl, hxl, ho2, hq1, hq2, r2, g2⟩
  have hl1 := r1.1.lt
  have hB2 := gbelow b1 g2 (Nat.le_refl _)
  clear r1 b1 g2
  have hcon := pick_r w.heap.size A1 m1 c1 q2 ((xs.length : Int) + 2) w2 r2 (by omega) (by omega)
  go_wp2_with fail
  refine hcon.mono ?_
  rintro e w3 ⟨j, rfl, a0, a1, r3, g3⟩
  have ha1 := a1 (by omega)
  have hB3 := gbelow hB2 g3 (Nat.le_refl _)
  have ho3 := ho2.keptG g3 hl1
  clear hcon a1 r2 g3 hB2 ho2
  go_wp2_with fail
  refine (pick_r _ _ _ _ _ _ _ r3 (by omega) (by omega)).mono ?_
  rintro e w4 ⟨i, rfl, d0, d1, r4, g4⟩
  have hd1 := d1 (by omega)
  have hB4 := gbelow hB3 g4 (Nat.le_refl _)
  have ho4 := ho3.keptG g4 hl1
  clear d1 r3 g4 hB3 ho3
  go_wp2_with fail
  refine (workersOf_r _ _ _ _ _ _ r4 (by omega)).mono ?_
  rintro e w5 ⟨x, rfl, x0, x1, r5, g5⟩
  have hlc := ho4.len_cap
  have HR : Hid (IntsAt w5 A2 xs ∧ Below w.heap.size w w5) := ⟨(ho4.keptG g5 hl1).at_, gbelow hB4 g5 (Nat.le_refl _)⟩
  clear r4 r5 g5 hB4 ho4
  go_wp2_with fail
  go_ret3
  exact ⟨xs, j - i, x, A2, c2, rfl, hxl, HR.out.1, hlc.1, hlc.2, by omega, by omega, x0, x1, HR.out.2⟩
end Go.Proofs.Ytjikdlldochhcab
