/- HELPER, no statement of the seat: the reader made, and the generators of two times. -/
import Derived.Test.YtfndglpfhdphiaaDrawT
namespace Go.Proofs.Ytfndglpfhdphiaa
open Go.RowKit
set_option linter.unusedSimpArgs false
set_option linter.unusedVariables false

/-- A new reader. -/
def ReaderR (w : World) (g : Nat) (e : Ending) (w' : World) : Prop :=
  ∃ (A : Option Addr) (m c : Nat), e = .returned (.pointer (some ⟨g, 0, none⟩)) ∧ Rdr w' g A m c 0 ∧ Below w.heap.size w w'
set_option maxHeartbeats 800000 in
theorem newReader_r (A : Option Addr) (n c : Nat) (w : World) (hb : BytesAt w w.heap.size A n) (hc : n ≤ c) (hn : n ≤ 1048576) :
    Calls Try.prog 60 #[.slice A n c] w (ReaderR w w.heap.size) := by
  by_cases h : 2000 < n
  · have h' : (2000 : Int) < n := by omega
    have h2 : (2000 : Int) ≤ c := by omega
    have h3 : 2000 ≤ c := by omega
    obtain ⟨b, off, rfl, hlt, hcell⟩ := hb (by omega)
    have HC := Lib.hid hcell
    clear hcell hb
    have K : Blk (w.alloc (.cells #[.slice (some ⟨b, off, none⟩) 2000 c, .int .i64 0] 62)) w.heap.size 62 #[.slice (some ⟨b, off, none⟩) 2000 c, .int .i64 0] := Blk.newAt rfl
    have HK := Lib.hid K
    clear K
    go_enter Try.func60, Try.ntmps60
    go_wp2
    go_ret
    exact ⟨_, 2000, c, rfl, ⟨HK.out, (show BytesAt w w.heap.size (some ⟨b, off, none⟩) 2000 from fun _ => ⟨b, off, rfl, hlt, fun j hj => HC.out j (by omega)⟩).below (bal (Below.refl _ _) _) (Nat.le_refl _), by omega, by omega, by omega⟩, bal (Below.refl _ _) _⟩
  · have h' : (n : Int) ≤ 2000 := by omega
    have K : Blk (w.alloc (.cells #[.slice A n c, .int .i64 0] 62)) w.heap.size 62 #[.slice A n c, .int .i64 0] := Blk.newAt rfl
    have HK := Lib.hid K
    have HB := Lib.hid hb
    clear K hb
    go_enter Try.func60, Try.ntmps60
    go_wp2
    go_ret
    exact ⟨_, n, c, rfl, ⟨HK.out, HB.out.below (bal (Below.refl _ _) _) (Nat.le_refl _), by omega, by omega, by omega⟩, bal (Below.refl _ _) _⟩

def OneR (w : World) (g : Nat) (A : Option Addr) (n c : Nat) (p : Int) (e : Ending) (w' : World) : Prop := ∃ q : Int, e = .returned (.int .i64 q) ∧ Rdr w' g A n c (p + 1) ∧ w.grownBy w' (some g)
set_option maxHeartbeats 800000 in
theorem one_r (g b : Nat) (A : Option Addr) (n c : Nat) (p : Int) (x y z : Int) (w : World) (hr : Rdr w g A n c p) (hp : p + 1 ≤ 1000000000) (hk : Blk w b 3 #[.int .i64 x, .int .i64 y, .int .i64 z]) (hne : b ≠ g) :
    Calls Try.prog 71 #[.pointer (some ⟨g, 0, none⟩), .slice (some ⟨b, 0, none⟩) 3 3] w fun e w' =>
      OneR w g A n c p e w' := by
  have HK := Lib.hid hk
  clear hk
  go_enter Try.func71, Try.ntmps71
  go_wp2_with fail
  refine (pick_r _ _ _ _ _ _ _ hr hp (by omega)).mono ?_
  rintro e w1 ⟨q, rfl, q0, q1, r1, g1⟩
  have hq := q1 (by omega)
  have k1 := HK.out.kept g1 hne
  have H1 := Lib.hid (And.intro r1 g1)
  clear hr HK q1 r1 g1
  have hq3 : q = 0 ∨ q = 1 ∨ q = 2 := by omega
  rcases hq3 with rfl | rfl | rfl
  · have c1 : w1.cell? ⟨b, 0, none⟩ = some (.int .i64 x) := k1.cell 0
    clear k1 q0 hq
    go_wp2_with fail
    go_ret
    exact ⟨x, rfl, H1.out.1, H1.out.2⟩
  · have c1 : w1.cell? ⟨b, 1, none⟩ = some (.int .i64 y) := k1.cell 1
    clear k1 q0 hq
    go_wp2_with fail
    go_ret
    exact ⟨y, rfl, H1.out.1, H1.out.2⟩
  · have c1 : w1.cell? ⟨b, 2, none⟩ = some (.int .i64 z) := k1.cell 2
    clear k1 q0 hq
    go_wp2_with fail
    go_ret
    exact ⟨z, rfl, H1.out.1, H1.out.2⟩

set_option maxHeartbeats 2000000 in
theorem anyTime_r (g : Nat) (A : Option Addr) (n c : Nat) (p : Int) (w : World) (hr : Rdr w g A n c p) (hp : p + 4 ≤ 1000000000) :
    Calls Try.prog 65 #[.pointer (some ⟨g, 0, none⟩)] w (TimeR w g A n c p 4) := by
  have h0 : Rdr (w.alloc (.cells #[.int .i64 0, .int .i64 0] 24)) g A n c p := hr.alloc _
  have hk0 : Blk (w.alloc (.cells #[.int .i64 0, .int .i64 0] 24)) w.heap.size 24 #[.int .i64 0, .int .i64 0] := Blk.newAt rfl
  have hg0 : w.grownBy (w.alloc (.cells #[.int .i64 0, .int .i64 0] 24)) (some g) := World.grownBy_alloc _ _ _
  have hlt := hr.1.lt
  have H0 := Lib.hid (And.intro h0 (And.intro hk0 hg0))
  clear h0 hk0 hg0 hr
  go_enter Try.func65, Try.ntmps65
  go_wp2_with fail
  refine (randomTime_r _ _ _ _ _ _ H0.out.1 (by omega)).mono ?_
  rintro e w1 ⟨x, y, q, rfl, hq0, hq1, r1, g1⟩
  have hs1 : w.heap.size < w1.heap.size := by have := H0.out.2.1.lt; have := g1.size; omega
  have H1 : Hid (Rdr (w1.alloc (.cells #[.int .i64 x, .int .i64 y] 24)) g A n c q ∧ Blk (w1.alloc (.cells #[.int .i64 x, .int .i64 y] 24)) w.heap.size 24 #[.int .i64 0, .int .i64 0] ∧ Blk (w1.alloc (.cells #[.int .i64 x, .int .i64 y] 24)) w1.heap.size 24 #[.int .i64 x, .int .i64 y] ∧ w.grownBy (w1.alloc (.cells #[.int .i64 x, .int .i64 y] 24)) (some g)) :=
    ⟨r1.alloc _, (H0.out.2.1.kept g1 (by omega)).alloc _, Blk.newAt rfl, gal (H0.out.2.2.trans g1) _⟩
  clear H0 r1 g1
  go_wp2_with fail
  refine (pick_r _ _ _ _ _ _ _ H1.out.1 (by omega) (by omega)).mono ?_
  rintro e w2 ⟨q2, rfl, b0, b1, r2, g2⟩
  have hs2 : w1.heap.size < w2.heap.size := by have := H1.out.2.2.1.lt; have := g2.size; omega
  have H2 := Lib.hid (And.intro r2 (And.intro (H1.out.2.1.kept g2 (by omega)) (And.intro (H1.out.2.2.1.kept g2 (by omega)) (H1.out.2.2.2.trans g2))))
  clear H1 r2 g2 b1
  by_cases e0 : q2 = 0
  · subst e0
    have H3 : Hid (Blk (w2.alloc (.cells #[.int .i64 (-1), .int .i64 100, .int .i64 99] 3)) w2.heap.size 3 #[.int .i64 (-1), .int .i64 100, .int .i64 99]) := Blk.newAt rfl
    go_wp2_with fail
    refine (one_r _ w2.heap.size _ _ _ _ _ _ _ _ (H2.out.1.alloc _) (by omega) H3.out (by omega)).mono ?_
    rintro e w3 ⟨q3, rfl, r3, g3⟩
    have g3' : w2.grownBy w3 (some g) := (World.grownBy_alloc _ _ _).trans g3
    have k3 := H2.out.2.2.1.kept g3' (by omega)
    have m3 := H2.out.2.1.kept g3' (by omega)
    have c3 := (k3.set_ 0 (.int .i64 q3)).cell
    have f3 := k3.frozen
    have cc := k3.cell
    have k4 := k3.set_ 0 (.int .i64 q3)
    have m4 := m3.far (p := ⟨w1.heap.size, 0, none⟩) (by simp; omega) (.int .i64 q3)
    have d4 := m4.cell
    have u4 := m4.frozen
    have H4 : Hid (Rdr (w3.setCell ⟨w1.heap.size, 0, none⟩ (.int .i64 q3)) g A n c (q + 1 + 1) ∧ Blk (w3.setCell ⟨w1.heap.size, 0, none⟩ (.int .i64 q3)) w.heap.size 24 #[.int .i64 0, .int .i64 0] ∧ w.grownBy (w3.setCell ⟨w1.heap.size, 0, none⟩ (.int .i64 q3)) (some g)) :=
      ⟨r3.far (by simp; omega) _, m4, gset (H2.out.2.2.2.trans g3') (by simp; omega) _⟩
    clear H2 H3 r3 g3 g3' k3 m3 k4 m4
    go_wp2_with fail
    have s0 := (H4.out.2.1.set_ 0 (.int .i64 q3)).cell 0
    have s1 := ((H4.out.2.1.set_ 0 (.int .i64 q3)).set_ 1 (.int .i64 y)).cell 1
    have s2 := ((H4.out.2.1.set_ 0 (.int .i64 q3)).set_ 1 (.int .i64 y)).cell 0
    exact bodyPost_ret (v := .agg #[.int .i64 q3, .int .i64 y]) (by simp [results, Try.results65, go_sem, s0, s1, s2]) rfl
      ⟨q3, y, q + 1 + 1, rfl, by omega, by omega, (H4.out.1.far (by simp; omega) _).far (by simp; omega) _, gset (gset H4.out.2.2 (by simp) _) (by simp) _⟩
  · by_cases e1 : q2 = 1
    · subst e1
      have H3 : Hid (Blk (w2.alloc (.cells #[.int .i64 (-1), .int .i64 100, .int .i64 99] 3)) w2.heap.size 3 #[.int .i64 (-1), .int .i64 100, .int .i64 99]) := Blk.newAt rfl
      go_wp2_with fail
      refine (one_r _ w2.heap.size _ _ _ _ _ _ _ _ (H2.out.1.alloc _) (by omega) H3.out (by omega)).mono ?_
      rintro e w3 ⟨q3, rfl, r3, g3⟩
      have g3' : w2.grownBy w3 (some g) := (World.grownBy_alloc _ _ _).trans g3
      have k3 := H2.out.2.2.1.kept g3' (by omega)
      have m3 := H2.out.2.1.kept g3' (by omega)
      have c3 := (k3.set_ 1 (.int .i64 q3)).cell
      have f3 := k3.frozen
      have cc := k3.cell
      have k4 := k3.set_ 1 (.int .i64 q3)
      have m4 := m3.far (p := ⟨w1.heap.size, 1, none⟩) (by simp; omega) (.int .i64 q3)
      have d4 := m4.cell
      have u4 := m4.frozen
      have H4 : Hid (Rdr (w3.setCell ⟨w1.heap.size, 1, none⟩ (.int .i64 q3)) g A n c (q + 1 + 1) ∧ Blk (w3.setCell ⟨w1.heap.size, 1, none⟩ (.int .i64 q3)) w.heap.size 24 #[.int .i64 0, .int .i64 0] ∧ w.grownBy (w3.setCell ⟨w1.heap.size, 1, none⟩ (.int .i64 q3)) (some g)) :=
        ⟨r3.far (by simp; omega) _, m4, gset (H2.out.2.2.2.trans g3') (by simp; omega) _⟩
      clear H2 H3 r3 g3 g3' k3 m3 k4 m4
      go_wp2_with fail
      have s0 := (H4.out.2.1.set_ 0 (.int .i64 x)).cell 0
      have s1 := ((H4.out.2.1.set_ 0 (.int .i64 x)).set_ 1 (.int .i64 q3)).cell 1
      have s2 := ((H4.out.2.1.set_ 0 (.int .i64 x)).set_ 1 (.int .i64 q3)).cell 0
      exact bodyPost_ret (v := .agg #[.int .i64 x, .int .i64 q3]) (by simp [results, Try.results65, go_sem, s0, s1, s2]) rfl
        ⟨x, q3, q + 1 + 1, rfl, by omega, by omega, (H4.out.1.far (by simp; omega) _).far (by simp; omega) _, gset (gset H4.out.2.2 (by simp) _) (by simp) _⟩
    · have z0 : (q2 == 0) = false := by rw [beq_eq_false_iff_ne]; exact e0
      have z1 : (q2 == 1) = false := by rw [beq_eq_false_iff_ne]; exact e1
      have k3 := H2.out.2.2.1
      have m3 := H2.out.2.1
      have cc := k3.cell
      have d4 := m3.cell
      have u4 := m3.frozen
      clear k3 m3
      go_wp2_with fail
      have s0 := (H2.out.2.1.set_ 0 (.int .i64 x)).cell 0
      have s1 := ((H2.out.2.1.set_ 0 (.int .i64 x)).set_ 1 (.int .i64 y)).cell 1
      have s2 := ((H2.out.2.1.set_ 0 (.int .i64 x)).set_ 1 (.int .i64 y)).cell 0
      exact bodyPost_ret (v := .agg #[.int .i64 x, .int .i64 y]) (by simp [results, Try.results65, go_sem, s0, s1, s2]) rfl
        ⟨x, y, q + 1, rfl, by omega, by omega, (H2.out.1.far (by simp; omega) _).far (by simp; omega) _, gset (gset H2.out.2.2.2 (by simp) _) (by simp) _⟩
end Go.Proofs.Ytfndglpfhdphiaa
