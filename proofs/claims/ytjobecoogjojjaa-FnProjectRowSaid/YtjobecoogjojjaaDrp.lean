/- HELPER, no statement of the seat: several texts in one file. -/
import Derived.Test.YtjobecoogjojjaaDrh
/- HELPER, no statement of the seat: the generators of lists of entries, of a Z-set with a key. -/
namespace Go.Proofs.Ytjobecoogjojjaa
open Go.RowKit Go.Sort
set_option linter.unusedSimpArgs false
set_option linter.unusedVariables false

theorem ZA.ofPlus {w w0 w1 w2 : World} {z : List Ent} {A : Option Addr} {c : Nat} (h : EntsOw w2 (plus (news w0 w1) w1 w2) A c z) (h0 : w.heap.size ≤ w0.heap.size) (h1 : w0.heap.size ≤ w1.heap.size) (h2 : w1.heap.size ≤ w2.heap.size) (hl : z.length ≤ 40) (hr : rowsIn z 10) (hw : wts z 4000000) : ZA w z A c w2 :=
  ⟨h.mono (fun k hk => by
    rcases hk with hk | hk
    · exact ⟨Nat.le_trans h0 hk.1, Nat.lt_of_lt_of_le hk.2 h2⟩
    · exact ⟨Nat.le_trans (Nat.le_trans h0 h1) hk.1, hk.2⟩) (fun k hk => hk.2), hl, hr, hw⟩
/-! ### A Z-set with a key -/
def ZKey (w : World) (e : Ending) (w' : World) : Prop := ∃ (z : List Ent) (key : List Int) (A1 A2 : Option Addr) (c1 c2 : Nat), e = .returned (.tuple #[.slice A1 z.length c1, .slice A2 key.length c2]) ∧ ZA w z A1 c1 w' ∧ IntsAt w' A2 key ∧ key.length ≤ 8 ∧ Below w.heap.size w w'
end Go.Proofs.Ytjobecoogjojjaa

/- HELPER, no statement of the seat: the generators of predicates, and of a Z-set with a predicate. -/
namespace Go.Proofs.Ytjobecoogjojjaa
open Go.RowKit Go.Sort
set_option linter.unusedSimpArgs false
set_option linter.unusedVariables false

def PredR (w : World) (g : Nat) (A : Option Addr) (n c : Nat) (p t : Int) (e : Ending) (w' : World) : Prop :=
  ∃ x y v q : Int, e = .returned (.agg #[.int .i64 x, .int .i64 y, .int .i64 v]) ∧ p ≤ q ∧ q ≤ p + t ∧ Rdr w' g A n c q ∧ w.grownBy w' (some g)

set_option maxHeartbeats 1600000 in
theorem randomPredicate_r (g : Nat) (A : Option Addr) (n c : Nat) (p : Int) (m : Nat) (w : World) (hr : Rdr w g A n c p) (hp : p + 3 ≤ 1000000000) (hm : m ≤ 100) :
    Calls Try.prog 153 #[.pointer (some ⟨g, 0, none⟩), .int .i64 (m : Int)] w (PredR w g A n c p 3) := by
  have h0 : Rdr (w.alloc (.cells #[.int .i64 0, .int .i64 0, .int .i64 0] 49)) g A n c p := hr.alloc _
  have hk0 : Blk (w.alloc (.cells #[.int .i64 0, .int .i64 0, .int .i64 0] 49)) w.heap.size 49 #[.int .i64 0, .int .i64 0, .int .i64 0] := Blk.newAt rfl
  have hg0 : w.grownBy (w.alloc (.cells #[.int .i64 0, .int .i64 0, .int .i64 0] 49)) (some g) := World.grownBy_alloc _ _ _
  have hlt := hr.1.lt
  have H0 := Lib.hid (And.intro h0 (And.intro hk0 hg0))
  clear h0 hk0 hg0 hr
  go_enter Try.func153, Try.ntmps153
  go_wp2_with fail
  refine (pick_r _ _ _ _ _ _ _ H0.out.1 (by omega) (by omega)).mono ?_
  rintro e w1 ⟨q1, rfl, a0, a1, r1, g1⟩
  have H1 := Lib.hid (And.intro r1 (And.intro (H0.out.2.1.kept g1 (by omega)) (H0.out.2.2.trans g1)))
  clear H0 r1 g1 a1
  go_wp2_with fail
  refine (pick_r _ _ _ _ _ _ _ H1.out.1 (by omega) (by omega)).mono ?_
  rintro e w2 ⟨q2, rfl, b0, b1, r2, g2⟩
  have hb1 := b1 (by omega)
  have H2 := Lib.hid (And.intro r2 (And.intro (H1.out.2.1.kept g2 (by omega)) (H1.out.2.2.trans g2)))
  clear H1 r2 g2 b1
  go_wp2_with fail
  refine (pick_r _ _ _ _ _ _ _ H2.out.1 (by omega) (by omega)).mono ?_
  rintro e w3 ⟨q3, rfl, d0, d1, r3, g3⟩
  have k3 := H2.out.2.1.kept g3 (by omega)
  have c3 := k3.cell
  have f3 := k3.frozen
  have H3 := Lib.hid (And.intro r3 (And.intro k3 (H2.out.2.2.trans g3)))
  clear H2 r3 g3 d1 k3
  go_wp2_with fail
  have K := ((H3.out.2.1.set_ 0 (.int .i64 q1)).set_ 1 (.int .i64 (1 + q2))).set_ 2 (.int .i64 q3)
  have s0 := K.cell 0
  have s1 := K.cell 1
  have s2 := K.cell 2
  simp at s0 s1 s2
  exact bodyPost_ret (v := .agg #[.int .i64 q1, .int .i64 (1 + q2), .int .i64 q3]) (by simp [results, Try.results153, go_sem, s0, s1, s2]) rfl
    ⟨q1, 1 + q2, q3, p + 1 + 1 + 1, rfl, by omega, by omega, ((H3.out.1.far (by simp; omega) _).far (by simp; omega) _).far (by simp; omega) _, gset (gset (gset H3.out.2.2 (by simp) _) (by simp) _) (by simp) _⟩

/-- A list literal of two numbers. -/
theorem blk2 (w : World) (a b : Int) : Blk (w.alloc (.cells #[.int .i64 a, .int .i64 b] 3)) w.heap.size 3 (ints [a, b]) := Blk.newAt rfl

set_option maxRecDepth 100000 in
set_option maxHeartbeats 3200000 in
theorem anyPredicate_r (g : Nat) (A : Option Addr) (n c : Nat) (p : Int) (m : Nat) (w : World) (hr : Rdr w g A n c p) (hp : p + 10 ≤ 1000000000) (hm : m ≤ 100) :
    Calls Try.prog 93 #[.pointer (some ⟨g, 0, none⟩), .int .i64 (m : Int)] w (PredR w g A n c p 5) := by
  have h0 : Rdr (w.alloc (.cells #[.int .i64 0, .int .i64 0, .int .i64 0] 49)) g A n c p := hr.alloc _
  have hk0 : Blk (w.alloc (.cells #[.int .i64 0, .int .i64 0, .int .i64 0] 49)) w.heap.size 49 #[.int .i64 0, .int .i64 0, .int .i64 0] := Blk.newAt rfl
  have hg0 : w.grownBy (w.alloc (.cells #[.int .i64 0, .int .i64 0, .int .i64 0] 49)) (some g) := World.grownBy_alloc _ _ _
  have hlt := hr.1.lt
  have H0 := Lib.hid (And.intro h0 (And.intro hk0 hg0))
  clear h0 hk0 hg0 hr
  go_enter Try.func93, Try.ntmps93
  go_wp2_with fail
  refine (randomPredicate_r g A n c p m _ H0.out.1 (by omega) hm).mono ?_
  rintro e w1 ⟨x, y, v, q1, rfl, a0, a1, r1, g1⟩
  have hs1 := (H0.out.2.2.trans g1).size
  have hs1' : w.heap.size + 1 ≤ w1.heap.size := by have := g1.size; simpa using this
  have hkw : Blk (w1.alloc (.cells #[.int .i64 x, .int .i64 y, .int .i64 v] 49)) w1.heap.size 49 #[.int .i64 x, .int .i64 y, .int .i64 v] :=
    Blk.newAt rfl
  have H1 := Lib.hid (And.intro r1 (And.intro (H0.out.2.1.kept g1 (by omega)) (H0.out.2.2.trans g1)))
  clear H0 r1 g1
  go_wp2_with fail
  have HK := Lib.hid hkw
  clear hkw
  have H2a : Hid (Rdr (w1.alloc (.cells #[.int .i64 x, .int .i64 y, .int .i64 v] 49)) g A n c q1 ∧ Blk (w1.alloc (.cells #[.int .i64 x, .int .i64 y, .int .i64 v] 49)) w.heap.size 49 #[.int .i64 0, .int .i64 0, .int .i64 0] ∧ w.grownBy (w1.alloc (.cells #[.int .i64 x, .int .i64 y, .int .i64 v] 49)) (some g)) :=
    ⟨H1.out.1.alloc _, H1.out.2.1.alloc _, gal H1.out.2.2 _⟩
  clear H1
  refine (pick_r _ _ _ _ _ _ _ H2a.out.1 (by omega) (by omega)).mono ?_
  rintro e w2 ⟨j, rfl, b0, b1, r2, g2⟩
  have hs2 : w1.heap.size + 1 ≤ w2.heap.size := by have := g2.size; simpa using this
  have kr2 := H2a.out.2.1.kept g2 (by omega)
  have kb2 := HK.out.kept g2 (by omega)
  have H2 := Lib.hid (And.intro r2 (And.intro kr2 (And.intro kb2 (H2a.out.2.2.trans g2))))
  clear H2a HK r2 g2 b1 kr2 kb2
  by_cases j0 : j = 0
  · subst j0
    have hB := blk2 w2 (-1) (m : Int)
    go_wp2_with fail
    refine (oneL_r g w2.heap.size A n c _ [-1, (m : Int)] _ (H2.out.1.alloc _) (by omega) hB (by omega) (by simp) (by simp)).mono ?_
    rintro e w3 ⟨z, rfl, hz, r3, g3⟩
    have g23 : w2.grownBy w3 (some g) := (World.grownBy_alloc _ _ _).trans g3
    have hs3 := g23.size
    have H3 := Lib.hid (And.intro r3 (And.intro (H2.out.2.1.kept g23 (by omega)) (And.intro (H2.out.2.2.1.kept g23 (by omega)) (H2.out.2.2.2.trans g23))))
    clear H2 hB r3 g3 g23 hz
    have kr := H3.out.2.1
    have kb := H3.out.2.2.1
    have cr := kr.cell
    have fr := kr.frozen
    have cb0 := kb.cell 0
    have cb1 := kb.cell 1
    have cb2 := kb.cell 2
    simp at cb0 cb1 cb2
    have fb := kb.frozen
    clear kr kb
    go_wp2_with fail
    have K := ((((H3.out.2.1.far (p := ⟨w1.heap.size, 0, none⟩) (by simp; omega) (.int .i64 z))).set_ 0 (.int .i64 z)).set_ 1 (.int .i64 y)).set_ 2 (.int .i64 v)
    have s0 := K.cell 0
    have s1 := K.cell 1
    have s2 := K.cell 2
    simp at s0 s1 s2
    exact bodyPost_ret (v := .agg #[.int .i64 z, .int .i64 y, .int .i64 v]) (by simp [results, Try.results93, go_sem, s0, s1, s2]) rfl
      ⟨z, y, v, q1 + 1 + 1, rfl, by omega, by omega, (((H3.out.1.far (by simp; omega) _).far (by simp; omega) _).far (by simp; omega) _).far (by simp; omega) _, gset (gset (gset (gset H3.out.2.2.2 (by simp; omega) _) (by simp) _) (by simp) _) (by simp) _⟩
  have h0 : (j == 0) = false := by rw [beq_eq_false_iff_ne]; exact j0
  by_cases j1 : j = 1
  · subst j1
    have hB := blk2 w2 0 5
    go_wp2_with fail
    refine (oneL_r g w2.heap.size A n c _ [0, 5] _ (H2.out.1.alloc _) (by omega) hB (by omega) (by simp) (by simp)).mono ?_
    rintro e w3 ⟨z, rfl, hz, r3, g3⟩
    have g23 : w2.grownBy w3 (some g) := (World.grownBy_alloc _ _ _).trans g3
    have hs3 := g23.size
    have H3 := Lib.hid (And.intro r3 (And.intro (H2.out.2.1.kept g23 (by omega)) (And.intro (H2.out.2.2.1.kept g23 (by omega)) (H2.out.2.2.2.trans g23))))
    clear H2 hB r3 g3 g23 hz
    have kr := H3.out.2.1
    have kb := H3.out.2.2.1
    have cr := kr.cell
    have fr := kr.frozen
    have cb0 := kb.cell 0
    have cb1 := kb.cell 1
    have cb2 := kb.cell 2
    simp at cb0 cb1 cb2
    have fb := kb.frozen
    clear kr kb
    go_wp2_with fail
    have K := ((((H3.out.2.1.far (p := ⟨w1.heap.size, 1, none⟩) (by simp; omega) (.int .i64 z))).set_ 0 (.int .i64 x)).set_ 1 (.int .i64 z)).set_ 2 (.int .i64 v)
    have s0 := K.cell 0
    have s1 := K.cell 1
    have s2 := K.cell 2
    simp at s0 s1 s2
    exact bodyPost_ret (v := .agg #[.int .i64 x, .int .i64 z, .int .i64 v]) (by simp [results, Try.results93, go_sem, s0, s1, s2]) rfl
      ⟨x, z, v, q1 + 1 + 1, rfl, by omega, by omega, (((H3.out.1.far (by simp; omega) _).far (by simp; omega) _).far (by simp; omega) _).far (by simp; omega) _, gset (gset (gset (gset H3.out.2.2.2 (by simp; omega) _) (by simp) _) (by simp) _) (by simp) _⟩
  have h1 : (j == 1) = false := by rw [beq_eq_false_iff_ne]; exact j1
  by_cases j2 : j = 2
  · subst j2
    have hB := blk2 w2 10000 (-10000)
    go_wp2_with fail
    refine (oneL_r g w2.heap.size A n c _ [10000, -10000] _ (H2.out.1.alloc _) (by omega) hB (by omega) (by simp) (by simp)).mono ?_
    rintro e w3 ⟨z, rfl, hz, r3, g3⟩
    have g23 : w2.grownBy w3 (some g) := (World.grownBy_alloc _ _ _).trans g3
    have hs3 := g23.size
    have H3 := Lib.hid (And.intro r3 (And.intro (H2.out.2.1.kept g23 (by omega)) (And.intro (H2.out.2.2.1.kept g23 (by omega)) (H2.out.2.2.2.trans g23))))
    clear H2 hB r3 g3 g23 hz
    have kr := H3.out.2.1
    have kb := H3.out.2.2.1
    have cr := kr.cell
    have fr := kr.frozen
    have cb0 := kb.cell 0
    have cb1 := kb.cell 1
    have cb2 := kb.cell 2
    simp at cb0 cb1 cb2
    have fb := kb.frozen
    clear kr kb
    go_wp2_with fail
    have K := ((((H3.out.2.1.far (p := ⟨w1.heap.size, 2, none⟩) (by simp; omega) (.int .i64 z))).set_ 0 (.int .i64 x)).set_ 1 (.int .i64 y)).set_ 2 (.int .i64 z)
    have s0 := K.cell 0
    have s1 := K.cell 1
    have s2 := K.cell 2
    simp at s0 s1 s2
    exact bodyPost_ret (v := .agg #[.int .i64 x, .int .i64 y, .int .i64 z]) (by simp [results, Try.results93, go_sem, s0, s1, s2]) rfl
      ⟨x, y, z, q1 + 1 + 1, rfl, by omega, by omega, (((H3.out.1.far (by simp; omega) _).far (by simp; omega) _).far (by simp; omega) _).far (by simp; omega) _, gset (gset (gset (gset H3.out.2.2.2 (by simp; omega) _) (by simp) _) (by simp) _) (by simp) _⟩
  have h2 : (j == 2) = false := by rw [beq_eq_false_iff_ne]; exact j2
  have H3 := H2
  have kr := H3.out.2.1
  have kb := H3.out.2.2.1
  have cr := kr.cell
  have fr := kr.frozen
  have cb0 := kb.cell 0
  have cb1 := kb.cell 1
  have cb2 := kb.cell 2
  simp at cb0 cb1 cb2
  have fb := kb.frozen
  clear kr kb
  go_wp2_with fail
  have K := (((H3.out.2.1).set_ 0 (.int .i64 x)).set_ 1 (.int .i64 y)).set_ 2 (.int .i64 v)
  have s0 := K.cell 0
  have s1 := K.cell 1
  have s2 := K.cell 2
  simp at s0 s1 s2
  exact bodyPost_ret (v := .agg #[.int .i64 x, .int .i64 y, .int .i64 v]) (by simp [results, Try.results93, go_sem, s0, s1, s2]) rfl
    ⟨x, y, v, q1 + 1, rfl, by omega, by omega, ((H3.out.1.far (by simp; omega) _).far (by simp; omega) _).far (by simp; omega) _, gset (gset (gset H3.out.2.2.2 (by simp) _) (by simp) _) (by simp) _⟩

/-! ### The arguments of Filter -/
def ZPred (w : World) (e : Ending) (w' : World) : Prop := ∃ (z : List Ent) (A' : Option Addr) (c' : Nat) (x y v : Int), e = .returned (.tuple #[.slice A' z.length c', .agg #[.int .i64 x, .int .i64 y, .int .i64 v]]) ∧ ZA w z A' c' w' ∧ Below w.heap.size w w'
theorem ZA.far {w w1 : World} {z : List Ent} {A : Option Addr} {c : Nat} (h : ZA w z A c w1) {p : Addr} (hp : p.block < w.heap.size) (u : Value) : ZA w z A c (w1.setCell p u) :=
  ⟨(SlOw.loc entO h.1 (fun k hk => Below.heap_setCell w1 p u k (by have := hk.1; omega))).mono (fun k hk => ⟨hk.1, by have := hk.2; simpa [World.setCell] using this⟩) (fun k hk => by have := hk.2; simpa [World.setCell] using this), h.2⟩
end Go.Proofs.Ytjobecoogjojjaa

/- HELPER, no statement of the seat: the generators of columns and of keys, and of a Z-set with them. -/
namespace Go.Proofs.Ytjobecoogjojjaa
open Go.RowKit Go.Sort
set_option linter.unusedSimpArgs false
set_option linter.unusedVariables false

def ColsR (w : World) (g : Nat) (A : Option Addr) (n c : Nat) (p : Int) (e : Ending) (w' : World) : Prop :=
  ∃ (cols : List Int) (A' : Option Addr) (c' : Nat) (q : Int), e = .returned (.slice A' cols.length c') ∧ cols.length ≤ 8 ∧ IntsAt w' A' cols ∧ p ≤ q ∧ q ≤ p + 10 ∧ Rdr w' g A n c q ∧ w.grownBy w' (some g)
set_option maxRecDepth 100000 in
set_option maxHeartbeats 3200000 in
theorem someColumns_r (g : Nat) (A : Option Addr) (n c : Nat) (p : Int) (m : Nat) (w : World) (hr : Rdr w g A n c p) (hp : p + 20 ≤ 1000000000) (hm : m ≤ 100) :
    Calls Try.prog 65 #[.pointer (some ⟨g, 0, none⟩), .int .i64 (m : Int)] w (ColsR w g A n c p) := by
  obtain ⟨i0, hi, hz0, hz1, hz2⟩ := info_parts Try.infoInt
  have hlt := hr.1.lt
  have H0 : Hid (Rdr (w.alloc (.cells #[] 3)) g A n c p ∧ w.grownBy (w.alloc (.cells #[] 3)) (some g)) := ⟨hr.alloc _, World.grownBy_alloc _ _ _⟩
  have hw0 : (w.alloc (.cells #[] 3)).ownsRow w.heap.size 3 1 (.slice (some ⟨w.heap.size, 0, none⟩) 0 0) 0 ([].map (Value.int .i64)) := World.ownsRow_lit (base := w.heap.size) (size := 1) (e := 3) w #[] 0 (Nat.le_refl _) (by simp [maxLen]) (by simp)
  have HW0 := Lib.hid hw0
  clear hr hw0
  go_enter Try.func65, Try.ntmps65
  go_wp2_with fail
  refine (pick_r _ _ _ _ _ _ _ H0.out.1 (by omega) (by omega)).mono ?_
  rintro e w1 ⟨j, rfl, a0, a1, r1, g1⟩
  have ha1 := a1 (by omega)
  obtain ⟨t, rfl⟩ := Int.eq_ofNat_of_zero_le a0
  have ho1 := ownG HW0.out g1 hlt
  have hg1 := H0.out.2.trans g1
  have H1 : Hid (w1.ownsRow w.heap.size 3 1 (.slice (some ⟨w.heap.size, 0, none⟩) 0 0) 0 ([].map (Value.int .i64)) ∧ Rdr w1 g A n c (p + 1) ∧ w.grownBy w1 (some g)) := ⟨ho1, r1, hg1⟩
  clear ho1 hg1 H0 HW0 r1 g1 a1 a0
  go_wp2
  go_loopw [5, 6] (fun v i wr => ∃ (k r : Nat) (A' : Option Addr) (c' : Nat) (xs : List Int), k + r ≤ 3 ∧ xs.length = k ∧ i = .int .i64 (r : Nat) ∧ v = .slice A' k c' ∧ wr.ownsRow w.heap.size 3 1 (.slice A' k c') k (xs.map (Value.int .i64)) ∧ Rdr wr g A n c (p + 1 + k) ∧ w.grownBy wr (some g)) (fun _ i _ => (intOf i).toNat)
  case atStart => exact ⟨0, 1 + t, _, _, [], by omega, rfl, by go_num, rfl, H1.out.1, by simpa using H1.out.2.1, H1.out.2.2⟩
  case round =>
    obtain ⟨k, r, A', c', xs, hk, hxl, rfl, rfl, hown, hrd, hgr⟩ := hrel
    have HL := Lib.hid hxl
    clear hxl H1
    rcases Nat.eq_zero_or_pos r with h0 | hpos
    · have hr0 : ¬ (0 : Int) < (r : Int) := by omega
      have HG := Lib.hid hgr
      have HO := Lib.hid hown
      have hlr := hrd.1.lt
      clear hgr hown
      go_wp2_with fail
      refine (pick_r _ _ _ _ _ _ _ hrd (by omega) (by omega)).mono ?_
      rintro e w2 ⟨q, rfl, q0, q1, r2, g2⟩
      have hown2 := ownG HO.out g2 hlt
      have hg2 := HG.out.trans g2
      have H2 : Hid (w2.ownsRow w.heap.size 3 1 (.slice A' k c') k (xs.map (Value.int .i64)) ∧ Rdr w2 g A n c (p + 1 + k + 1) ∧ w.grownBy w2 (some g)) := ⟨hown2, r2, hg2⟩
      have hs2 := hg2.size
      clear HO HG hrd q1 g2 hown2 hg2 r2
      by_cases z0 : q = 0
      · subst z0
        have H3 : Hid (Rdr (w2.alloc (.cells #[] 3)) g A n c (p + 1 + k + 1) ∧ w.grownBy (w2.alloc (.cells #[] 3)) (some g)) := ⟨H2.out.2.1.alloc _, gal H2.out.2.2 _⟩
        clear H2
        go_wp2
        go_ret
        exact ⟨[], _, _, p + 1 + k + 1, rfl, by simp, (fun h => absurd h (by simp)), by omega, by omega, H3.out.1, H3.out.2⟩
      have n0 : (q == 0) = false := by rw [beq_eq_false_iff_ne]; exact z0
      by_cases z1 : q = 1
      · subst z1
        have hB := blk2 w2 (-1) (m : Int)
        go_wp2_with fail
        refine (oneL_r g w2.heap.size A n c _ [-1, (m : Int)] _ (H2.out.2.1.alloc _) (by omega) hB (by have := H2.out.2.1.1.lt; omega) (by simp) (by simp)).mono ?_
        rintro e w3 ⟨z, rfl, hzm, r3, g3⟩
        have g23 : w2.grownBy w3 (some g) := (World.grownBy_alloc _ _ _).trans g3
        have hown3 := ownG H2.out.1 g23 hlt
        have hg3 := H2.out.2.2.trans g23
        have hs3 : w.heap.size ≤ w3.heap.size := hg3.size
        clear H2 hB g3 g23 hzm
        go_wp2_with (at_builtin; refine wpList_append_src _ rfl _ _ 23 rfl w.heap.size 3 i0 (.int .i64 0) 1 8 Try.underlying23 hi hz0 hz1 hz2 rfl (by decide) _ _ _ rfl (hown3.alloc _) (some ⟨w3.heap.size, 0, none⟩) 1 1 [.int .i64 z] rfl rfl (fun h => by cases h) (intZ_srcs _) (intZ_ones _) (by unfold maxLen; omega) (by omega) (by simp; omega) ?_)
        intro v' w4 hown' hgrow hloc
        obtain ⟨A4, c4, rfl⟩ := own_slice hown'
        have hrow : ∀ q, (Value.slice A' k c').ownBlock = some q → w.heap.size ≤ q := fun q hq => (World.ownsRow.lt hown3 q hq).1
        have hg4 := gG (gal hg3 (.cells #[.int .i64 z] 3)) hgrow hrow
        have hr4 := (r3.alloc (.cells #[.int .i64 z] 3)).keptG hgrow (fun q hq => by have := hrow q hq; omega)
        have hL : (xs ++ [z]).length = k + 1 := by simp [HL.out]
        have HO : Hid (IntsOwn w4 w.heap.size A4 c4 (xs ++ [z])) := by
          have : w4.ownsRow w.heap.size 3 1 (.slice A4 (xs ++ [z]).length c4) (xs ++ [z]).length ((xs ++ [z]).map (Value.int .i64)) := by rw [hL]; simpa using hown'
          simpa [Hid, IntsOwn] using this
        have HR := Lib.hid (And.intro hr4 hg4)
        have HLL := Lib.hid hL
        clear hown' hgrow hloc hown3 hg3 hg4 hr4 r3 hrow hL
        go_wp2
        go_ret
        exact ⟨xs ++ [z], A4, c4, p + 1 + k + 1 + 1, by rw [HLL.out]; rfl, by rw [HLL.out]; omega, HO.out.at_, by omega, by omega, HR.out.1, HR.out.2⟩
      have n1 : (q == 1) = false := by rw [beq_eq_false_iff_ne]; exact z1
      have HO : Hid (IntsOwn w2 w.heap.size A' c' xs) := by
        have : w2.ownsRow w.heap.size 3 1 (.slice A' xs.length c') xs.length (xs.map (Value.int .i64)) := by rw [HL.out]; exact H2.out.1
        simpa [Hid, IntsOwn] using this
      have HB := Lib.hid H2.out.2
      clear H2
      go_wp2
      go_ret
      exact ⟨xs, A', c', p + 1 + k + 1, by rw [HL.out]; rfl, by rw [HL.out]; omega, HO.out.at_, by omega, by omega, HB.out.1, HB.out.2⟩
    · have hlt' : (0 : Int) < r := by omega
      have HG := Lib.hid hgr
      have HO := Lib.hid hown
      clear hgr hown
      go_wp2_with fail
      refine (pick_r _ _ _ _ _ _ _ hrd (by omega) (by omega)).mono ?_
      rintro e w2 ⟨q, rfl, q0, q1, r1, g1⟩
      have hown1 := ownG HO.out g1 hlt
      have hg1 := HG.out.trans g1
      have hs1 : w.heap.size ≤ w2.heap.size := hg1.size
      clear HO HG hrd q1 g1
      go_wp2_with (at_builtin; refine wpList_append_src _ rfl _ _ 23 rfl w.heap.size 3 i0 (.int .i64 0) 1 8 Try.underlying23 hi hz0 hz1 hz2 rfl (by decide) _ _ _ rfl (hown1.alloc _) (some ⟨w2.heap.size, 0, none⟩) 1 1 [.int .i64 q] rfl rfl (fun h => by cases h) (intZ_srcs _) (intZ_ones _) (by unfold maxLen; omega) (by omega) (by simp; omega) ?_)
      intro v' w3 hown' hgrow hloc
      obtain ⟨A3, c3, rfl⟩ := own_slice hown'
      have hrow : ∀ q, (Value.slice A' k c').ownBlock = some q → w.heap.size ≤ q := fun q hq => (World.ownsRow.lt hown1 q hq).1
      have hg3 := gG (gal hg1 (.cells #[.int .i64 q] 3)) hgrow hrow
      have hr3 := (r1.alloc (.cells #[.int .i64 q] 3)).keptG hgrow (fun q hq => by have := hrow q hq; omega)
      have HR : Hid (w3.ownsRow w.heap.size 3 1 (.slice A3 (k + 1) c3) (k + 1) ((xs ++ [q]).map (Value.int .i64)) ∧ Rdr w3 g A n c (p + 1 + ((k + 1 : Nat) : Int)) ∧ w.grownBy w3 (some g)) := by
        refine ⟨by simpa using hown', ?_, hg3⟩
        rw [show p + 1 + ((k + 1 : Nat) : Int) = p + 1 + k + 1 by omega]
        exact hr3
      clear hown' hgrow hloc hown1 hg1 hg3 hr3 r1 hrow
      go_wp2
      go_roundw
      case rel => exact ⟨k + 1, r - 1, A3, c3, xs ++ [q], by omega, by simp [HL.out], by go_num, rfl, HR.out⟩
      case measure => simp [intOf]; omega

/-! ### A Z-set with columns -/
def ZCols (w : World) (e : Ending) (w' : World) : Prop := ∃ (z : List Ent) (cols : List Int) (A1 A2 : Option Addr) (c1 c2 : Nat), e = .returned (.tuple #[.slice A1 z.length c1, .slice A2 cols.length c2]) ∧ ZA w z A1 c1 w' ∧ IntsAt w' A2 cols ∧ cols.length ≤ 8 ∧ Below w.heap.size w w'
/-! ### Keys -/
def KeyR (w : World) (g : Nat) (A : Option Addr) (n c : Nat) (p : Int) (e : Ending) (w' : World) : Prop :=
  ∃ (x q : Int), e = .returned (.int .i64 x) ∧ -1 ≤ x ∧ x ≤ 200 ∧ p ≤ q ∧ q ≤ p + 10 ∧ Rdr w' g A n c q ∧ w.grownBy w' (some g)
def ZInt (w : World) (e : Ending) (w' : World) : Prop := ∃ (z : List Ent) (x : Int) (A1 : Option Addr) (c1 : Nat), e = .returned (.tuple #[.slice A1 z.length c1, .int .i64 x]) ∧ ZA w z A1 c1 w' ∧ -1 ≤ x ∧ x ≤ 200 ∧ Below w.heap.size w w'
end Go.Proofs.Ytjobecoogjojjaa
