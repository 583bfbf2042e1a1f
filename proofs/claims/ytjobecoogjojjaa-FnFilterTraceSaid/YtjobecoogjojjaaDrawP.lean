/- HELPER, no statement of the seat: the generators of predicates, and of a Z-set with a predicate. -/
import Derived.Test.YtjobecoogjojjaaDrh
namespace Go.Proofs.Ytjobecoogjojjaa
open Go.RowKit Go.Sort
set_option linter.unusedSimpArgs false
set_option linter.unusedVariables false

def PredR (w : World) (g : Nat) (A : Option Addr) (n c : Nat) (p t : Int) (e : Ending) (w' : World) : Prop :=
  ∃ x y v q : Int, e = .returned (.agg #[.int .i64 x, .int .i64 y, .int .i64 v]) ∧ p ≤ q ∧ q ≤ p + t ∧ Rdr w' g A n c q ∧ w.grownBy w' (some g)

set_option maxHeartbeats 1600000 in
theorem randomPredicate_r (g : Nat) (A : Option Addr) (n c : Nat) (p : Int) (m : Nat) (w : World) (hr : Rdr w g A n c p) (hp : p + 3 ≤ 1000000000) (hm : m ≤ 100) :
    Calls Try.prog 153 #[.pointer (some ⟨g, 0, none⟩), .int .i64 (m : Int)] w (PredR w g A n c p 3) := by
  have h0 : Rdr (w.alloc (.cells #[.int .i64 0, .int .i64 0, .int .i64 0] 49)) g A n c p := hr.alloc _
  have hk0 : Blk (w.alloc (.cells #[.int .i64 0, .int .i64 0, .int .i64 0] 49)) w.heap.size 49 #[.int .i64 0, .int .i64 0, .int .i64 0] := Blk.newAt rfl
  have hg0 : w.grownBy (w.alloc (.cells #[.int .i64 0, .int .i64 0, .int .i64 0] 49)) (some g) := World.grownBy_alloc _ _ _
  have hlt := hr.1.lt
  have H0 := Lib.hid (And.intro h0 (And.intro hk0 hg0))
  clear h0 hk0 hg0 hr
  go_enter Try.func153, Try.ntmps153
  go_wp2_with fail
  refine (pick_r _ _ _ _ _ _ _ H0.out.1 (by omega) (by omega)).mono ?_
  rintro e w1 ⟨q1, rfl, a0, a1, r1, g1⟩
  have H1 := Lib.hid (And.intro r1 (And.intro (H0.out.2.1.kept g1 (by omega)) (H0.out.2.2.trans g1)))
  clear H0 r1 g1 a1
  go_wp2_with fail
  refine (pick_r _ _ _ _ _ _ _ H1.out.1 (by omega) (by omega)).mono ?_
  rintro e w2 ⟨q2, rfl, b0, b1, r2, g2⟩
  have hb1 := b1 (by omega)
  have H2 := Lib.hid (And.intro r2 (And.intro (H1.out.2.1.kept g2 (by omega)) (H1.out.2.2.trans g2)))
  clear H1 r2 g2 b1
  go_wp2_with fail
  refine (pick_r _ _ _ _ _ _ _ H2.out.1 (by omega) (by omega)).mono ?_
  rintro e w3 ⟨q3, rfl, d0, d1, r3, g3⟩
  have k3 := H2.out.2.1.kept g3 (by omega)
  have c3 := k3.cell
  have f3 := k3.frozen
  have H3 := Lib.hid (And.intro r3 (And.intro k3 (H2.out.2.2.trans g3)))
  clear H2 r3 g3 d1 k3
  go_wp2_with fail
  have K := ((H3.out.2.1.set_ 0 (.int .i64 q1)).set_ 1 (.int .i64 (1 + q2))).set_ 2 (.int .i64 q3)
  have s0 := K.cell 0
  have s1 := K.cell 1
  have s2 := K.cell 2
  simp at s0 s1 s2
  exact bodyPost_ret (v := .agg #[.int .i64 q1, .int .i64 (1 + q2), .int .i64 q3]) (by simp [results, Try.results153, go_sem, s0, s1, s2]) rfl
    ⟨q1, 1 + q2, q3, p + 1 + 1 + 1, rfl, by omega, by omega, ((H3.out.1.far (by simp; omega) _).far (by simp; omega) _).far (by simp; omega) _, gset (gset (gset H3.out.2.2 (by simp) _) (by simp) _) (by simp) _⟩

/-- A list literal of two numbers. -/
theorem blk2 (w : World) (a b : Int) : Blk (w.alloc (.cells #[.int .i64 a, .int .i64 b] 3)) w.heap.size 3 (ints [a, b]) := Blk.newAt rfl

set_option maxRecDepth 100000 in
set_option maxHeartbeats 3200000 in
theorem anyPredicate_r (g : Nat) (A : Option Addr) (n c : Nat) (p : Int) (m : Nat) (w : World) (hr : Rdr w g A n c p) (hp : p + 10 ≤ 1000000000) (hm : m ≤ 100) :
    Calls Try.prog 93 #[.pointer (some ⟨g, 0, none⟩), .int .i64 (m : Int)] w (PredR w g A n c p 5) := by
  have h0 : Rdr (w.alloc (.cells #[.int .i64 0, .int .i64 0, .int .i64 0] 49)) g A n c p := hr.alloc _
  have hk0 : Blk (w.alloc (.cells #[.int .i64 0, .int .i64 0, .int .i64 0] 49)) w.heap.size 49 #[.int .i64 0, .int .i64 0, .int .i64 0] := Blk.newAt rfl
  have hg0 : w.grownBy (w.alloc (.cells #[.int .i64 0, .int .i64 0, .int .i64 0] 49)) (some g) := World.grownBy_alloc _ _ _
  have hlt := hr.1.lt
  have H0 := Lib.hid (And.intro h0 (And.intro hk0 hg0))
  clear h0 hk0 hg0 hr
  go_enter Try.func93, Try.ntmps93
  go_wp2_with fail
  refine (randomPredicate_r g A n c p m _ H0.out.1 (by omega) hm).mono ?_
  rintro e w1 ⟨x, y, v, q1, rfl, a0, a1, r1, g1⟩
  have hs1 := (H0.out.2.2.trans g1).size
  have hs1' : w.heap.size + 1 ≤ w1.heap.size := by have := g1.size; simpa using this
  have hkw : Blk (w1.alloc (.cells #[.int .i64 x, .int .i64 y, .int .i64 v] 49)) w1.heap.size 49 #[.int .i64 x, .int .i64 y, .int .i64 v] :=
    Blk.newAt rfl
  have H1 := Lib.hid (And.intro r1 (And.intro (H0.out.2.1.kept g1 (by omega)) (H0.out.2.2.trans g1)))
  clear H0 r1 g1
  go_wp2_with fail
  have HK := Lib.hid hkw
  clear hkw
  have H2a : Hid (Rdr (w1.alloc (.cells #[.int .i64 x, .int .i64 y, .int .i64 v] 49)) g A n c q1 ∧ Blk (w1.alloc (.cells #[.int .i64 x, .int .i64 y, .int .i64 v] 49)) w.heap.size 49 #[.int .i64 0, .int .i64 0, .int .i64 0] ∧ w.grownBy (w1.alloc (.cells #[.int .i64 x, .int .i64 y, .int .i64 v] 49)) (some g)) :=
    ⟨H1.out.1.alloc _, H1.out.2.1.alloc _, gal H1.out.2.2 _⟩
  clear H1
  refine (pick_r _ _ _ _ _ _ _ H2a.out.1 (by omega) (by omega)).mono ?_
  rintro e w2 ⟨j, rfl, b0, b1, r2, g2⟩
  have hs2 : w1.heap.size + 1 ≤ w2.heap.size := by have := g2.size; simpa using this
  have kr2 := H2a.out.2.1.kept g2 (by omega)
  have kb2 := HK.out.kept g2 (by omega)
  have H2 := Lib.hid (And.intro r2 (And.intro kr2 (And.intro kb2 (H2a.out.2.2.trans g2))))
  clear H2a HK r2 g2 b1 kr2 kb2
  by_cases j0 : j = 0
  · subst j0
    have hB := blk2 w2 (-1) (m : Int)
    go_wp2_with fail
    refine (oneL_r g w2.heap.size A n c _ [-1, (m : Int)] _ (H2.out.1.alloc _) (by omega) hB (by omega) (by simp) (by simp)).mono ?_
    rintro e w3 ⟨z, rfl, hz, r3, g3⟩
    have g23 : w2.grownBy w3 (some g) := (World.grownBy_alloc _ _ _).trans g3
    have hs3 := g23.size
    have H3 := Lib.hid (And.intro r3 (And.intro (H2.out.2.1.kept g23 (by omega)) (And.intro (H2.out.2.2.1.kept g23 (by omega)) (H2.out.2.2.2.trans g23))))
    clear H2 hB r3 g3 g23 hz
    have kr := H3.out.2.1
    have kb := H3.out.2.2.1
    have cr := kr.cell
    have fr := kr.frozen
    have cb0 := kb.cell 0
    have cb1 := kb.cell 1
    have cb2 := kb.cell 2
    simp at cb0 cb1 cb2
    have fb := kb.frozen
    clear kr kb
    go_wp2_with fail
    have K := ((((H3.out.2.1.far (p := ⟨w1.heap.size, 0, none⟩) (by simp; omega) (.int .i64 z))).set_ 0 (.int .i64 z)).set_ 1 (.int .i64 y)).set_ 2 (.int .i64 v)
    have s0 := K.cell 0
    have s1 := K.cell 1
    have s2 := K.cell 2
    simp at s0 s1 s2
    exact bodyPost_ret (v := .agg #[.int .i64 z, .int .i64 y, .int .i64 v]) (by simp [results, Try.results93, go_sem, s0, s1, s2]) rfl
      ⟨z, y, v, q1 + 1 + 1, rfl, by omega, by omega, (((H3.out.1.far (by simp; omega) _).far (by simp; omega) _).far (by simp; omega) _).far (by simp; omega) _, gset (gset (gset (gset H3.out.2.2.2 (by simp; omega) _) (by simp) _) (by simp) _) (by simp) _⟩
  have h0 : (j == 0) = false := by rw [beq_eq_false_iff_ne]; exact j0
  by_cases j1 : j = 1
  · subst j1
    have hB := blk2 w2 0 5
    go_wp2_with fail
    refine (oneL_r g w2.heap.size A n c _ [0, 5] _ (H2.out.1.alloc _) (by omega) hB (by omega) (by simp) (by simp)).mono ?_
    rintro e w3 ⟨z, rfl, hz, r3, g3⟩
    have g23 : w2.grownBy w3 (some g) := (World.grownBy_alloc _ _ _).trans g3
    have hs3 := g23.size
    have H3 := Lib.hid (And.intro r3 (And.intro (H2.out.2.1.kept g23 (by omega)) (And.intro (H2.out.2.2.1.kept g23 (by omega)) (H2.out.2.2.2.trans g23))))
    clear H2 hB r3 g3 g23 hz
    have kr := H3.out.2.1
    have kb := H3.out.2.2.1
    have cr := kr.cell
    have fr := kr.frozen
    have cb0 := kb.cell 0
    have cb1 := kb.cell 1
    have cb2 := kb.cell 2
    simp at cb0 cb1 cb2
    have fb := kb.frozen
    clear kr kb
    go_wp2_with fail
    have K := ((((H3.out.2.1.far (p := ⟨w1.heap.size, 1, none⟩) (by simp; omega) (.int .i64 z))).set_ 0 (.int .i64 x)).set_ 1 (.int .i64 z)).set_ 2 (.int .i64 v)
    have s0 := K.cell 0
    have s1 := K.cell 1
    have s2 := K.cell 2
    simp at s0 s1 s2
    exact bodyPost_ret (v := .agg #[.int .i64 x, .int .i64 z, .int .i64 v]) (by simp [results, Try.results93, go_sem, s0, s1, s2]) rfl
      ⟨x, z, v, q1 + 1 + 1, rfl, by omega, by omega, (((H3.out.1.far (by simp; omega) _).far (by simp; omega) _).far (by simp; omega) _).far (by simp; omega) _, gset (gset (gset (gset H3.out.2.2.2 (by simp; omega) _) (by simp) _) (by simp) _) (by simp) _⟩
  have h1 : (j == 1) = false := by rw [beq_eq_false_iff_ne]; exact j1
  by_cases j2 : j = 2
  · subst j2
    have hB := blk2 w2 10000 (-10000)
    go_wp2_with fail
    refine (oneL_r g w2.heap.size A n c _ [10000, -10000] _ (H2.out.1.alloc _) (by omega) hB (by omega) (by simp) (by simp)).mono ?_
    rintro e w3 ⟨z, rfl, hz, r3, g3⟩
    have g23 : w2.grownBy w3 (some g) := (World.grownBy_alloc _ _ _).trans g3
    have hs3 := g23.size
    have H3 := Lib.hid (And.intro r3 (And.intro (H2.out.2.1.kept g23 (by omega)) (And.intro (H2.out.2.2.1.kept g23 (by omega)) (H2.out.2.2.2.trans g23))))
    clear H2 hB r3 g3 g23 hz
    have kr := H3.out.2.1
    have kb := H3.out.2.2.1
    have cr := kr.cell
    have fr := kr.frozen
    have cb0 := kb.cell 0
    have cb1 := kb.cell 1
    have cb2 := kb.cell 2
    simp at cb0 cb1 cb2
    have fb := kb.frozen
    clear kr kb
    go_wp2_with fail
    have K := ((((H3.out.2.1.far (p := ⟨w1.heap.size, 2, none⟩) (by simp; omega) (.int .i64 z))).set_ 0 (.int .i64 x)).set_ 1 (.int .i64 y)).set_ 2 (.int .i64 z)
    have s0 := K.cell 0
    have s1 := K.cell 1
    have s2 := K.cell 2
    simp at s0 s1 s2
    exact bodyPost_ret (v := .agg #[.int .i64 x, .int .i64 y, .int .i64 z]) (by simp [results, Try.results93, go_sem, s0, s1, s2]) rfl
      ⟨x, y, z, q1 + 1 + 1, rfl, by omega, by omega, (((H3.out.1.far (by simp; omega) _).far (by simp; omega) _).far (by simp; omega) _).far (by simp; omega) _, gset (gset (gset (gset H3.out.2.2.2 (by simp; omega) _) (by simp) _) (by simp) _) (by simp) _⟩
  have h2 : (j == 2) = false := by rw [beq_eq_false_iff_ne]; exact j2
  have H3 := H2
  have kr := H3.out.2.1
  have kb := H3.out.2.2.1
  have cr := kr.cell
  have fr := kr.frozen
  have cb0 := kb.cell 0
  have cb1 := kb.cell 1
  have cb2 := kb.cell 2
  simp at cb0 cb1 cb2
  have fb := kb.frozen
  clear kr kb
  go_wp2_with fail
  have K := (((H3.out.2.1).set_ 0 (.int .i64 x)).set_ 1 (.int .i64 y)).set_ 2 (.int .i64 v)
  have s0 := K.cell 0
  have s1 := K.cell 1
  have s2 := K.cell 2
  simp at s0 s1 s2
  exact bodyPost_ret (v := .agg #[.int .i64 x, .int .i64 y, .int .i64 v]) (by simp [results, Try.results93, go_sem, s0, s1, s2]) rfl
    ⟨x, y, v, q1 + 1, rfl, by omega, by omega, ((H3.out.1.far (by simp; omega) _).far (by simp; omega) _).far (by simp; omega) _, gset (gset (gset H3.out.2.2.2 (by simp) _) (by simp) _) (by simp) _⟩

/-! ### The arguments of Filter -/
def ZPred (w : World) (e : Ending) (w' : World) : Prop := ∃ (z : List Ent) (A' : Option Addr) (c' : Nat) (x y v : Int), e = .returned (.tuple #[.slice A' z.length c', .agg #[.int .i64 x, .int .i64 y, .int .i64 v]]) ∧ ZA w z A' c' w' ∧ Below w.heap.size w w'
theorem ZA.far {w w1 : World} {z : List Ent} {A : Option Addr} {c : Nat} (h : ZA w z A c w1) {p : Addr} (hp : p.block < w.heap.size) (u : Value) : ZA w z A c (w1.setCell p u) :=
  ⟨(SlOw.loc entO h.1 (fun k hk => Below.heap_setCell w1 p u k (by have := hk.1; omega))).mono (fun k hk => ⟨hk.1, by have := hk.2; simpa [World.setCell] using this⟩) (fun k hk => by have := hk.2; simpa [World.setCell] using this), h.2⟩
end Go.Proofs.Ytjobecoogjojjaa
