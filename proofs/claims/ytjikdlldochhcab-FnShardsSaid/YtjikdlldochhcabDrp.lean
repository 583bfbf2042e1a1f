/- HELPER, no statement of the seat: several texts in one file. -/
import Derived.Test.YtjikdlldochhcabDrh
/- HELPER, no statement of the seat: the generators of lists of entries, of a Z-set with a key. -/
namespace Go.Proofs.Ytjikdlldochhcab
open Go.RowKit Go.Sort
set_option linter.unusedSimpArgs false
set_option linter.unusedVariables false

theorem ZA.ofPlus {w w0 w1 w2 : World} {z : List Ent} {A : Option Addr} {c : Nat} (h : EntsOw w2 (plus (news w0 w1) w1 w2) A c z) (h0 : w.heap.size ≤ w0.heap.size) (h1 : w0.heap.size ≤ w1.heap.size) (h2 : w1.heap.size ≤ w2.heap.size) (hl : z.length ≤ 40) (hr : rowsIn z 10) (hw : wts z 4000000) : ZA w z A c w2 :=
  ⟨h.mono (fun k hk => by
    rcases hk with hk | hk
    · exact ⟨Nat.le_trans h0 hk.1, Nat.lt_of_lt_of_le hk.2 h2⟩
    · exact ⟨Nat.le_trans (Nat.le_trans h0 h1) hk.1, hk.2⟩) (fun k hk => hk.2), hl, hr, hw⟩
/-! ### A Z-set with a key -/
def ZKey (w : World) (e : Ending) (w' : World) : Prop := ∃ (z : List Ent) (key : List Int) (A1 A2 : Option Addr) (c1 c2 : Nat), e = .returned (.tuple #[.slice A1 z.length c1, .slice A2 key.length c2]) ∧ ZA w z A1 c1 w' ∧ IntsAt w' A2 key ∧ key.length ≤ 8 ∧ Below w.heap.size w w'
end Go.Proofs.Ytjikdlldochhcab

/- HELPER, no statement of the seat: the generators of predicates, and of a Z-set with a predicate. -/
namespace Go.Proofs.Ytjikdlldochhcab
open Go.RowKit Go.Sort
set_option linter.unusedSimpArgs false
set_option linter.unusedVariables false

def PredR (w : World) (g : Nat) (A : Option Addr) (n c : Nat) (p t : Int) (e : Ending) (w' : World) : Prop :=
  ∃ x y v q : Int, e = .returned (.agg #[.int .i64 x, .int .i64 y, .int .i64 v]) ∧ p ≤ q ∧ q ≤ p + t ∧ Rdr w' g A n c q ∧ w.grownBy w' (some g)

/-- A list literal of two numbers. -/
theorem blk2 (w : World) (a b : Int) : Blk (w.alloc (.cells #[.int .i64 a, .int .i64 b] 3)) w.heap.size 3 (ints [a, b]) := Blk.newAt rfl

/-! ### The arguments of Filter -/
def ZPred (w : World) (e : Ending) (w' : World) : Prop := ∃ (z : List Ent) (A' : Option Addr) (c' : Nat) (x y v : Int), e = .returned (.tuple #[.slice A' z.length c', .agg #[.int .i64 x, .int .i64 y, .int .i64 v]]) ∧ ZA w z A' c' w' ∧ Below w.heap.size w w'
theorem ZA.far {w w1 : World} {z : List Ent} {A : Option Addr} {c : Nat} (h : ZA w z A c w1) {p : Addr} (hp : p.block < w.heap.size) (u : Value) : ZA w z A c (w1.setCell p u) :=
  ⟨(SlOw.loc entO h.1 (fun k hk => Below.heap_setCell w1 p u k (by have := hk.1; omega))).mono (fun k hk => ⟨hk.1, by have := hk.2; simpa [World.setCell] using this⟩) (fun k hk => by have := hk.2; simpa [World.setCell] using this), h.2⟩
end Go.Proofs.Ytjikdlldochhcab

/- HELPER, no statement of the seat: the generators of columns and of keys, and of a Z-set with them. -/
namespace Go.Proofs.Ytjikdlldochhcab
open Go.RowKit Go.Sort
set_option linter.unusedSimpArgs false
set_option linter.unusedVariables false

def ColsR (w : World) (g : Nat) (A : Option Addr) (n c : Nat) (p : Int) (e : Ending) (w' : World) : Prop :=
  ∃ (cols : List Int) (A' : Option Addr) (c' : Nat) (q : Int), e = .returned (.slice A' cols.length c') ∧ cols.length ≤ 8 ∧ IntsAt w' A' cols ∧ p ≤ q ∧ q ≤ p + 10 ∧ Rdr w' g A n c q ∧ w.grownBy w' (some g)
/-! ### A Z-set with columns -/
def ZCols (w : World) (e : Ending) (w' : World) : Prop := ∃ (z : List Ent) (cols : List Int) (A1 A2 : Option Addr) (c1 c2 : Nat), e = .returned (.tuple #[.slice A1 z.length c1, .slice A2 cols.length c2]) ∧ ZA w z A1 c1 w' ∧ IntsAt w' A2 cols ∧ cols.length ≤ 8 ∧ Below w.heap.size w w'
/-! ### Keys -/
def KeyR (w : World) (g : Nat) (A : Option Addr) (n c : Nat) (p : Int) (e : Ending) (w' : World) : Prop :=
  ∃ (x q : Int), e = .returned (.int .i64 x) ∧ -1 ≤ x ∧ x ≤ 200 ∧ p ≤ q ∧ q ≤ p + 10 ∧ Rdr w' g A n c q ∧ w.grownBy w' (some g)
set_option maxHeartbeats 1600000 in
theorem keyColumns_r (g : Nat) (A : Option Addr) (n c : Nat) (p : Int) (m : Nat) (w : World) (hr : Rdr w g A n c p) (hp : p + 20 ≤ 1000000000) (hm : m ≤ 100) :
    Calls Try.prog 59 #[.pointer (some ⟨g, 0, none⟩), .int .i64 (m : Int)] w (KeyR w g A n c p) := by
  go_enter Try.func59, Try.ntmps59
  go_wp2_with fail
  refine (pick_r _ _ _ _ _ _ _ hr (by omega) (by omega)).mono ?_
  rintro e w1 ⟨q, rfl, q0, q1, r1, g1⟩
  have H1 := Lib.hid (And.intro r1 g1)
  clear hr r1 g1 q1
  by_cases z0 : q = 0
  · subst z0
    have hB := blk2 w1 (-1) 4
    go_wp2_with fail
    refine (oneL_r g w1.heap.size A n c _ [-1, 4] _ (H1.out.1.alloc _) (by omega) hB (by have := H1.out.1.1.lt; omega) (by simp) (by simp)).mono ?_
    rintro e w3 ⟨z, rfl, hzm, r3, g3⟩
    have hz : -1 ≤ z ∧ z ≤ 4 := by simp at hzm; omega
    have H3 : Hid (Rdr w3 g A n c (p + 1 + 1) ∧ w.grownBy w3 (some g)) := ⟨r3, H1.out.2.trans ((World.grownBy_alloc _ _ _).trans g3)⟩
    clear H1 hB r3 g3 hzm
    go_wp2_with fail
    go_ret
    exact ⟨z, p + 1 + 1, rfl, by omega, by omega, by omega, by omega, H3.out.1, H3.out.2⟩
  · have n0 : (q == 0) = false := by rw [beq_eq_false_iff_ne]; exact z0
    go_wp2_with fail
    refine (pick_r _ _ _ _ _ _ _ H1.out.1 (by omega) (by omega)).mono ?_
    rintro e w3 ⟨z, rfl, h0, h1, r3, g3⟩
    have hz := h1 (by omega)
    have H3 : Hid (Rdr w3 g A n c (p + 1 + 1) ∧ w.grownBy w3 (some g)) := ⟨r3, H1.out.2.trans g3⟩
    clear H1 r3 g3 h1
    go_wp2_with fail
    go_ret
    exact ⟨z, p + 1 + 1, rfl, by omega, by omega, by omega, by omega, H3.out.1, H3.out.2⟩
def ZInt (w : World) (e : Ending) (w' : World) : Prop := ∃ (z : List Ent) (x : Int) (A1 : Option Addr) (c1 : Nat), e = .returned (.tuple #[.slice A1 z.length c1, .int .i64 x]) ∧ ZA w z A1 c1 w' ∧ -1 ≤ x ∧ x ≤ 200 ∧ Below w.heap.size w w'
end Go.Proofs.Ytjikdlldochhcab
