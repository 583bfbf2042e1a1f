/- HELPER, no statement of the seat: several texts in one file. -/
import Derived.Test.YtjobecoogjojjaaGreatDrh
/- HELPER, no statement of the seat: the generators of lists of entries, of a Z-set with a key. -/
namespace Go.Proofs.YtjobecoogjojjaaGreat
open Go.RowKit Go.Sort
set_option linter.unusedSimpArgs false
set_option linter.unusedVariables false

theorem ZA.ofPlus {w w0 w1 w2 : World} {z : List Ent} {A : Option Addr} {c : Nat} (h : EntsOw w2 (plus (news w0 w1) w1 w2) A c z) (h0 : w.heap.size ≤ w0.heap.size) (h1 : w0.heap.size ≤ w1.heap.size) (h2 : w1.heap.size ≤ w2.heap.size) (hl : z.length ≤ 40) (hr : rowsIn z 10) (hw : wts z 4000000) : ZA w z A c w2 :=
  ⟨h.mono (fun k hk => by
    rcases hk with hk | hk
    · exact ⟨Nat.le_trans h0 hk.1, Nat.lt_of_lt_of_le hk.2 h2⟩
    · exact ⟨Nat.le_trans (Nat.le_trans h0 h1) hk.1, hk.2⟩) (fun k hk => hk.2), hl, hr, hw⟩
/-! ### A Z-set with a key -/
def ZKey (w : World) (e : Ending) (w' : World) : Prop := ∃ (z : List Ent) (key : List Int) (A1 A2 : Option Addr) (c1 c2 : Nat), e = .returned (.tuple #[.slice A1 z.length c1, .slice A2 key.length c2]) ∧ ZA w z A1 c1 w' ∧ IntsAt w' A2 key ∧ key.length ≤ 8 ∧ Below w.heap.size w w'
end Go.Proofs.YtjobecoogjojjaaGreat

/- HELPER, no statement of the seat: the generators of predicates, and of a Z-set with a predicate. -/
namespace Go.Proofs.YtjobecoogjojjaaGreat
open Go.RowKit Go.Sort
set_option linter.unusedSimpArgs false
set_option linter.unusedVariables false

def PredR (w : World) (g : Nat) (A : Option Addr) (n c : Nat) (p t : Int) (e : Ending) (w' : World) : Prop :=
  ∃ x y v q : Int, e = .returned (.agg #[.int .i64 x, .int .i64 y, .int .i64 v]) ∧ p ≤ q ∧ q ≤ p + t ∧ Rdr w' g A n c q ∧ w.grownBy w' (some g)

/-- A list literal of two numbers. -/
theorem blk2 (w : World) (a b : Int) : Blk (w.alloc (.cells #[.int .i64 a, .int .i64 b] 3)) w.heap.size 3 (ints [a, b]) := Blk.newAt rfl

/-! ### The arguments of Filter -/
def ZPred (w : World) (e : Ending) (w' : World) : Prop := ∃ (z : List Ent) (A' : Option Addr) (c' : Nat) (x y v : Int), e = .returned (.tuple #[.slice A' z.length c', .agg #[.int .i64 x, .int .i64 y, .int .i64 v]]) ∧ ZA w z A' c' w' ∧ Below w.heap.size w w'
theorem ZA.far {w w1 : World} {z : List Ent} {A : Option Addr} {c : Nat} (h : ZA w z A c w1) {p : Addr} (hp : p.block < w.heap.size) (u : Value) : ZA w z A c (w1.setCell p u) :=
  ⟨(SlOw.loc entO h.1 (fun k hk => Below.heap_setCell w1 p u k (by have := hk.1; omega))).mono (fun k hk => ⟨hk.1, by have := hk.2; simpa [World.setCell] using this⟩) (fun k hk => by have := hk.2; simpa [World.setCell] using this), h.2⟩
end Go.Proofs.YtjobecoogjojjaaGreat

/- HELPER, no statement of the seat: the generators of columns and of keys, and of a Z-set with them. -/
namespace Go.Proofs.YtjobecoogjojjaaGreat
open Go.RowKit Go.Sort
set_option linter.unusedSimpArgs false
set_option linter.unusedVariables false

def ColsR (w : World) (g : Nat) (A : Option Addr) (n c : Nat) (p : Int) (e : Ending) (w' : World) : Prop :=
  ∃ (cols : List Int) (A' : Option Addr) (c' : Nat) (q : Int), e = .returned (.slice A' cols.length c') ∧ cols.length ≤ 8 ∧ IntsAt w' A' cols ∧ p ≤ q ∧ q ≤ p + 10 ∧ Rdr w' g A n c q ∧ w.grownBy w' (some g)
set_option maxRecDepth 100000 in
set_option maxHeartbeats 3200000 in
theorem someColumns_r (g : Nat) (A : Option Addr) (n c : Nat) (p : Int) (m : Nat) (w : World) (hr : Rdr w g A n c p) (hp : p + 20 ≤ 1000000000) (hm : m ≤ 100) :
    Calls Tryz.prog 33 #[.pointer (some ⟨g, 0, none⟩), .int .i64 (m : Int)] w (ColsR w g A n c p) := by
  obtain ⟨i0, hi, hz0, hz1, hz2⟩ := info_parts Tryz.infoInt
  have hlt := hr.1.lt
  have H0 : Hid (Rdr (w.alloc (.cells #[] 3)) g A n c p ∧ w.grownBy (w.alloc (.cells #[] 3)) (some g)) := ⟨hr.alloc _, World.grownBy_alloc _ _ _⟩
  have hw0 : (w.alloc (.cells #[] 3)).ownsRow w.heap.size 3 1 (.slice (some ⟨w.heap.size, 0, none⟩) 0 0) 0 ([].map (Value.int .i64)) := World.ownsRow_lit (base := w.heap.size) (size := 1) (e := 3) w #[] 0 (Nat.le_refl _) (by simp [maxLen]) (by simp)
  have HW0 := Lib.hid hw0
  clear hr hw0
  go_enter Tryz.func33, Tryz.ntmps33
  go_wp2_with fail
  refine (pick_r _ _ _ _ _ _ _ H0.out.1 (by omega) (by omega)).mono ?_
  rintro e w1 ⟨j, rfl, a0, a1, r1, g1⟩
  have ha1 := a1 (by omega)
  obtain ⟨t, rfl⟩ := Int.eq_ofNat_of_zero_le a0
  have ho1 := ownG HW0.out g1 hlt
  have hg1 := H0.out.2.trans g1
  have H1 : Hid (w1.ownsRow w.heap.size 3 1 (.slice (some ⟨w.heap.size, 0, none⟩) 0 0) 0 ([].map (Value.int .i64)) ∧ Rdr w1 g A n c (p + 1) ∧ w.grownBy w1 (some g)) := ⟨ho1, r1, hg1⟩
  clear ho1 hg1 H0 HW0 r1 g1 a1 a0
  go_wp2
  go_loopw [5, 6] (fun v i wr => ∃ (k r : Nat) (A' : Option Addr) (c' : Nat) (xs : List Int), k + r ≤ 3 ∧ xs.length = k ∧ i = .int .i64 (r : Nat) ∧ v = .slice A' k c' ∧ wr.ownsRow w.heap.size 3 1 (.slice A' k c') k (xs.map (Value.int .i64)) ∧ Rdr wr g A n c (p + 1 + k) ∧ w.grownBy wr (some g)) (fun _ i _ => (intOf i).toNat)
  case atStart => exact ⟨0, 1 + t, _, _, [], by omega, rfl, by go_num, rfl, H1.out.1, by simpa using H1.out.2.1, H1.out.2.2⟩
  case round =>
    obtain ⟨k, r, A', c', xs, hk, hxl, rfl, rfl, hown, hrd, hgr⟩ := hrel
    have HL := Lib.hid hxl
    clear hxl H1
    rcases Nat.eq_zero_or_pos r with h0 | hpos
    · have hr0 : ¬ (0 : Int) < (r : Int) := by omega
      have HG := Lib.hid hgr
      have HO := Lib.hid hown
      have hlr := hrd.1.lt
      clear hgr hown
      go_wp2_with fail
      refine (pick_r _ _ _ _ _ _ _ hrd (by omega) (by omega)).mono ?_
      rintro e w2 ⟨q, rfl, q0, q1, r2, g2⟩
      have hown2 := ownG HO.out g2 hlt
      have hg2 := HG.out.trans g2
      have H2 : Hid (w2.ownsRow w.heap.size 3 1 (.slice A' k c') k (xs.map (Value.int .i64)) ∧ Rdr w2 g A n c (p + 1 + k + 1) ∧ w.grownBy w2 (some g)) := ⟨hown2, r2, hg2⟩
      have hs2 := hg2.size
      clear HO HG hrd q1 g2 hown2 hg2 r2
      by_cases z0 : q = 0
      · subst z0
        have H3 : Hid (Rdr (w2.alloc (.cells #[] 3)) g A n c (p + 1 + k + 1) ∧ w.grownBy (w2.alloc (.cells #[] 3)) (some g)) := ⟨H2.out.2.1.alloc _, gal H2.out.2.2 _⟩
        clear H2
        go_wp2
        go_ret
        exact ⟨[], _, _, p + 1 + k + 1, rfl, by simp, (fun h => absurd h (by simp)), by omega, by omega, H3.out.1, H3.out.2⟩
      have n0 : (q == 0) = false := by rw [beq_eq_false_iff_ne]; exact z0
      by_cases z1 : q = 1
      · subst z1
        have hB := blk2 w2 (-1) (m : Int)
        go_wp2_with fail
        refine (oneL_r g w2.heap.size A n c _ [-1, (m : Int)] _ (H2.out.2.1.alloc _) (by omega) hB (by have := H2.out.2.1.1.lt; omega) (by simp) (by simp)).mono ?_
        rintro e w3 ⟨z, rfl, hzm, r3, g3⟩
        have g23 : w2.grownBy w3 (some g) := (World.grownBy_alloc _ _ _).trans g3
        have hown3 := ownG H2.out.1 g23 hlt
        have hg3 := H2.out.2.2.trans g23
        have hs3 : w.heap.size ≤ w3.heap.size := hg3.size
        clear H2 hB g3 g23 hzm
        go_wp2_with (at_builtin; refine wpList_append_src _ rfl _ _ 24 rfl w.heap.size 3 i0 (.int .i64 0) 1 8 Tryz.underlying24 hi hz0 hz1 hz2 rfl (by decide) _ _ _ rfl (hown3.alloc _) (some ⟨w3.heap.size, 0, none⟩) 1 1 [.int .i64 z] rfl rfl (fun h => by cases h) (intZ_srcs _) (intZ_ones _) (by unfold maxLen; omega) (by omega) (by simp; omega) ?_)
        intro v' w4 hown' hgrow hloc
        obtain ⟨A4, c4, rfl⟩ := own_slice hown'
        have hrow : ∀ q, (Value.slice A' k c').ownBlock = some q → w.heap.size ≤ q := fun q hq => (World.ownsRow.lt hown3 q hq).1
        have hg4 := gG (gal hg3 (.cells #[.int .i64 z] 3)) hgrow hrow
        have hr4 := (r3.alloc (.cells #[.int .i64 z] 3)).keptG hgrow (fun q hq => by have := hrow q hq; omega)
        have hL : (xs ++ [z]).length = k + 1 := by simp [HL.out]
        have HO : Hid (IntsOwn w4 w.heap.size A4 c4 (xs ++ [z])) := by
          have : w4.ownsRow w.heap.size 3 1 (.slice A4 (xs ++ [z]).length c4) (xs ++ [z]).length ((xs ++ [z]).map (Value.int .i64)) := by rw [hL]; simpa using hown'
          simpa [Hid, IntsOwn] using this
        have HR := Lib.hid (And.intro hr4 hg4)
        have HLL := Lib.hid hL
        clear hown' hgrow hloc hown3 hg3 hg4 hr4 r3 hrow hL
        go_wp2
        go_ret
        exact ⟨xs ++ [z], A4, c4, p + 1 + k + 1 + 1, by rw [HLL.out]; rfl, by rw [HLL.out]; omega, HO.out.at_, by omega, by omega, HR.out.1, HR.out.2⟩
      have n1 : (q == 1) = false := by rw [beq_eq_false_iff_ne]; exact z1
      have HO : Hid (IntsOwn w2 w.heap.size A' c' xs) := by
        have : w2.ownsRow w.heap.size 3 1 (.slice A' xs.length c') xs.length (xs.map (Value.int .i64)) := by rw [HL.out]; exact H2.out.1
        simpa [Hid, IntsOwn] using this
      have HB := Lib.hid H2.out.2
      clear H2
      go_wp2
      go_ret
      exact ⟨xs, A', c', p + 1 + k + 1, by rw [HL.out]; rfl, by rw [HL.out]; omega, HO.out.at_, by omega, by omega, HB.out.1, HB.out.2⟩
    · have hlt' : (0 : Int) < r := by omega
      have HG := Lib.hid hgr
      have HO := Lib.hid hown
      clear hgr hown
      go_wp2_with fail
      refine (pick_r _ _ _ _ _ _ _ hrd (by omega) (by omega)).mono ?_
      rintro e w2 ⟨q, rfl, q0, q1, r1, g1⟩
      have hown1 := ownG HO.out g1 hlt
      have hg1 := HG.out.trans g1
      have hs1 : w.heap.size ≤ w2.heap.size := hg1.size
      clear HO HG hrd q1 g1
      go_wp2_with (at_builtin; refine wpList_append_src _ rfl _ _ 24 rfl w.heap.size 3 i0 (.int .i64 0) 1 8 Tryz.underlying24 hi hz0 hz1 hz2 rfl (by decide) _ _ _ rfl (hown1.alloc _) (some ⟨w2.heap.size, 0, none⟩) 1 1 [.int .i64 q] rfl rfl (fun h => by cases h) (intZ_srcs _) (intZ_ones _) (by unfold maxLen; omega) (by omega) (by simp; omega) ?_)
      intro v' w3 hown' hgrow hloc
      obtain ⟨A3, c3, rfl⟩ := own_slice hown'
      have hrow : ∀ q, (Value.slice A' k c').ownBlock = some q → w.heap.size ≤ q := fun q hq => (World.ownsRow.lt hown1 q hq).1
      have hg3 := gG (gal hg1 (.cells #[.int .i64 q] 3)) hgrow hrow
      have hr3 := (r1.alloc (.cells #[.int .i64 q] 3)).keptG hgrow (fun q hq => by have := hrow q hq; omega)
      have HR : Hid (w3.ownsRow w.heap.size 3 1 (.slice A3 (k + 1) c3) (k + 1) ((xs ++ [q]).map (Value.int .i64)) ∧ Rdr w3 g A n c (p + 1 + ((k + 1 : Nat) : Int)) ∧ w.grownBy w3 (some g)) := by
        refine ⟨by simpa using hown', ?_, hg3⟩
        rw [show p + 1 + ((k + 1 : Nat) : Int) = p + 1 + k + 1 by omega]
        exact hr3
      clear hown' hgrow hloc hown1 hg1 hg3 hr3 r1 hrow
      go_wp2
      go_roundw
      case rel => exact ⟨k + 1, r - 1, A3, c3, xs ++ [q], by omega, by simp [HL.out], by go_num, rfl, HR.out⟩
      case measure => simp [intOf]; omega

/-! ### A Z-set with columns -/
def ZCols (w : World) (e : Ending) (w' : World) : Prop := ∃ (z : List Ent) (cols : List Int) (A1 A2 : Option Addr) (c1 c2 : Nat), e = .returned (.tuple #[.slice A1 z.length c1, .slice A2 cols.length c2]) ∧ ZA w z A1 c1 w' ∧ IntsAt w' A2 cols ∧ cols.length ≤ 8 ∧ Below w.heap.size w w'
/-! ### Keys -/
def KeyR (w : World) (g : Nat) (A : Option Addr) (n c : Nat) (p : Int) (e : Ending) (w' : World) : Prop :=
  ∃ (x q : Int), e = .returned (.int .i64 x) ∧ -1 ≤ x ∧ x ≤ 200 ∧ p ≤ q ∧ q ≤ p + 10 ∧ Rdr w' g A n c q ∧ w.grownBy w' (some g)
def ZInt (w : World) (e : Ending) (w' : World) : Prop := ∃ (z : List Ent) (x : Int) (A1 : Option Addr) (c1 : Nat), e = .returned (.tuple #[.slice A1 z.length c1, .int .i64 x]) ∧ ZA w z A1 c1 w' ∧ -1 ≤ x ∧ x ≤ 200 ∧ Below w.heap.size w w'
end Go.Proofs.YtjobecoogjojjaaGreat
