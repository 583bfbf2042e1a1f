/- HELPER, no statement of the seat: the generators of the arguments of the laws on Z-sets. -/
import Derived.Test.YtjlpkfcdkmcjnaaDrawD
import Derived.Test.YtjlpkfcdkmcjnaaDrawB
namespace Go.Proofs.Ytjlpkfcdkmcjnaa
open Go.RowKit Go.Sort
set_option linter.unusedSimpArgs false
set_option linter.unusedVariables false

/-- A short list of entries, made since w. -/
def ZA (w : World) (z : List Ent) (A : Option Addr) (c : Nat) (w' : World) : Prop := EntsOw w' (news w w') A c z ∧ z.length ≤ 40 ∧ rowsIn z 10 ∧ wts z 4000000
theorem ZA.below {w w1 w2 : World} {z : List Ent} {A : Option Addr} {c : Nat} (h : ZA w z A c w1) (hb : Below w1.heap.size w1 w2) : ZA w z A c w2 :=
  ⟨(h.1.below entO hb).mono (fun k hk => ⟨hk.1, Nat.lt_of_lt_of_le hk.2 hb.size⟩) (fun k hk => hk.2), h.2⟩
theorem ZA.kept {w w1 w2 : World} {g : Nat} {z : List Ent} {A : Option Addr} {c : Nat} (h : ZA w z A c w1) (hg : w1.grownBy w2 (some g)) (hlt : g < w.heap.size) : ZA w z A c w2 :=
  ⟨(entsG h.1 hg (fun k hk => by have := hk.1; omega)).mono (fun k hk => ⟨hk.1, Nat.lt_of_lt_of_le hk.2 hg.size⟩) (fun k hk => hk.2), h.2⟩
theorem ZA.back {w w0 w1 : World} {z : List Ent} {A : Option Addr} {c : Nat} (h : ZA w0 z A c w1) (hs : w.heap.size ≤ w0.heap.size) : ZA w z A c w1 :=
  ⟨h.1.mono (fun k hk => ⟨Nat.le_trans hs hk.1, hk.2⟩) (fun k hk => hk.2), h.2⟩
def ZAny (w : World) (g : Nat) (A : Option Addr) (n c : Nat) (p t : Int) (e : Ending) (w' : World) : Prop :=
  ∃ (z : List Ent) (A' : Option Addr) (c' : Nat) (q : Int), e = .returned (.slice A' z.length c') ∧ ZA w z A' c' w' ∧ p ≤ q ∧ q ≤ p + t ∧ Rdr w' g A n c q ∧ w.grownBy w' (some g)
theorem gS2 {w w1 w2 : World} {g : Nat} {S : Fp} (h : w.grownBy w1 (some g)) (hg : GrownS w1 w2 (fun k => k = g ∨ S k)) (hS : ∀ k, S k → w.heap.size ≤ k) : w.grownBy w2 (some g) :=
  ⟨hg.os.trans h.os, hg.tape.trans h.tape, hg.output.trans h.output, Nat.le_trans h.size hg.size, fun k hk hn => (hg.block k (Nat.lt_of_lt_of_le hk h.size) (fun e => by
    rcases e with e | e
    · exact hn (by rw [e])
    · have := hS k e; omega)).trans (h.block k hk hn)⟩
set_option maxHeartbeats 1600000 in
theorem anyZSet_r (g : Nat) (A : Option Addr) (n c : Nat) (p : Int) (m : Nat) (w : World) (hr : Rdr w g A n c p) (hp : p + 300 ≤ 1000000000) (hm : m ≤ 7) :
    Calls Try.prog 60 #[.pointer (some ⟨g, 0, none⟩), .int .i64 (m : Int)] w (ZAny w g A n c p 210) := by
  have hlt := hr.1.lt
  have HR := Lib.hid hr
  clear hr
  go_enter Try.func60, Try.ntmps60
  go_wp2_with fail
  refine (randomZSet_r g A n c p m 8 w HR.out (by omega) hm (by omega)).mono ?_
  rintro e w1 ⟨z, A1, c1, q1, rfl, ho1, hl1, hr1, hw1, hq1, hq2, r1, g1⟩
  go_wp2_with fail
  refine (pick_r _ _ _ _ _ _ _ r1 (by omega) (by omega)).mono ?_
  rintro e w2 ⟨j, rfl, b0, b1, r2, g2⟩
  have ho2 := entsG ho1 g2 (fun k hk => by have := hk.1; omega)
  have hs1 := g1.size
  have hs2 := g2.size
  by_cases hj : j = 0
  · subst hj
    have hdam := damage_r (news w w1) g A n c (q1 + 1) A1 c1 z 20 w2 r2 ho2 (fun k hk => by have := hk.1; omega) (by omega) hl1 (by omega) hr1 hw1
    have HG := Lib.hid (g1.trans g2)
    clear b1 r1 r2 ho1 ho2 g1 g2 HR hr1 hw1
    go_wp2_with fail
    refine hdam.mono ?_
    rintro e w3 ⟨z3, A3, c3, q3, rfl, ho3, hl3, hr3, hw3, hq3, hq4, r3, g3⟩
    have hs3 := g3.size
    go_wp2_with fail
    go_ret
    refine ⟨z3, A3, c3, q3, rfl, ⟨ho3.mono (fun k hk => ?_) (fun k hk => hk.2), by omega, hr3, hw3⟩, by omega, by omega, r3, gS2 HG.out g3 (fun k hk => hk.1)⟩
    rcases hk with hk | hk
    · exact ⟨hk.1, by have := hk.2; omega⟩
    · exact ⟨by have := hk.1; omega, hk.2⟩
  · have hj' : (j == 0) = false := by rw [beq_eq_false_iff_ne]; exact hj
    have HZ : Hid (ZAny w g A n c p 210 (.returned (.slice A1 z.length c1)) w2) :=
      ⟨z, A1, c1, q1 + 1, rfl, ⟨ho2.mono (fun k hk => ⟨hk.1, by have := hk.2; omega⟩) (fun k hk => hk.2), by omega, fun e he => by have := hr1 e he; omega, hw1.mono' (by omega)⟩, by omega, by omega, r2, g1.trans g2⟩
    clear b1 r1 r2 ho1 ho2 g1 g2 HR hr1 hw1 hj
    go_wp2_with fail
    go_ret
    exact HZ.out

/-! ### The arguments of Negate -/
def OneZ (w : World) (e : Ending) (w' : World) : Prop := ∃ (z : List Ent) (A' : Option Addr) (c' : Nat), e = .returned (.slice A' z.length c') ∧ ZA w z A' c' w' ∧ Below w.heap.size w w'
set_option maxHeartbeats 1600000 in
theorem DrawNegate_r (A : Option Addr) (n c : Nat) (w : World) (hb : BytesAt w w.heap.size A n) (hc : n ≤ c) (hn : n ≤ 1048576) :
    Calls Try.prog 20 #[.slice A n c] w (OneZ w) := by
  go_enter Try.func20, Try.ntmps20
  go_wp2_with fail
  refine (newReader_r _ _ _ _ hb hc hn).mono ?_
  rintro e w1 ⟨A1, m1, c1, rfl, r1, b1⟩
  clear hb
  go_wp2_with fail
  refine (pick_r _ _ _ _ _ _ _ r1 (by omega) (by omega)).mono ?_
  rintro e w2 ⟨j, rfl, b0, j1, r2, g2⟩
  have hj1 := j1 (by omega)
  obtain ⟨k, rfl⟩ := Int.eq_ofNat_of_zero_le b0
  have hcon := anyZSet_r w.heap.size A1 m1 c1 _ (1 + k) w2 r2 (by omega) (by omega)
  rw [show ((1 + k : Nat) : Int) = 1 + (k : Int) by omega] at hcon
  have hB2 := gbelow b1 g2 (Nat.le_refl _)
  clear j1 r1 r2 b1 g2
  go_wp2_with fail
  refine hcon.mono ?_
  rintro e w3 ⟨z, A3, c3, q3, rfl, hz, -, -, r3, g3⟩
  have hs := hB2.size
  go_wp2_with fail
  go_ret
  exact ⟨z, A3, c3, rfl, hz.back hs, gbelow hB2 g3 (Nat.le_refl _)⟩
/-! ### The arguments of Add -/
def TwoZ (w : World) (e : Ending) (w' : World) : Prop := ∃ (z y : List Ent) (A1 A2 : Option Addr) (c1 c2 : Nat), e = .returned (.tuple #[.slice A1 z.length c1, .slice A2 y.length c2]) ∧ ZA w z A1 c1 w' ∧ ZA w y A2 c2 w' ∧ Below w.heap.size w w'
set_option maxHeartbeats 1600000 in
theorem DrawAdd_r (A : Option Addr) (n c : Nat) (w : World) (hb : BytesAt w w.heap.size A n) (hc : n ≤ c) (hn : n ≤ 1048576) :
    Calls Try.prog 27 #[.slice A n c] w (TwoZ w) := by
  go_enter Try.func27, Try.ntmps27
  go_wp2_with fail
  refine (newReader_r _ _ _ _ hb hc hn).mono ?_
  rintro e w1 ⟨A1, m1, c1, rfl, r1, b1⟩
  clear hb
  go_wp2_with fail
  refine (pick_r _ _ _ _ _ _ _ r1 (by omega) (by omega)).mono ?_
  rintro e w2 ⟨j, rfl, b0, j1, r2, g2⟩
  have hj1 := j1 (by omega)
  obtain ⟨k, rfl⟩ := Int.eq_ofNat_of_zero_le b0
  have hcon := anyZSet_r w.heap.size A1 m1 c1 _ (1 + k) w2 r2 (by omega) (by omega)
  rw [show ((1 + k : Nat) : Int) = 1 + (k : Int) by omega] at hcon
  have hB2 := gbelow b1 g2 (Nat.le_refl _)
  have hs2 := hB2.size
  have hlt2 := r2.1.lt
  clear j1 r1 r2 b1 g2
  go_wp2_with fail
  refine hcon.mono ?_
  rintro e w3 ⟨z, A3, c3, q3, rfl, hz, hq1, hq2, r3, g3⟩
  have hB3 := gbelow hB2 g3 (Nat.le_refl _)
  clear hcon hB2 g3
  go_wp2_with fail
  refine (pick_r _ _ _ _ _ _ _ r3 (by omega) (by omega)).mono ?_
  rintro e w4 ⟨j4, rfl, a0, a1, r4, g4⟩
  have hz4 := hz.kept g4 hlt2
  have hB4 := gbelow hB3 g4 (Nat.le_refl _)
  clear hz a1 g4 hB3 r3
  by_cases hj : j4 = 0
  · subst hj
    go_wp2_with fail
    refine (pick_r _ _ _ _ _ _ _ r4 (by omega) (by omega)).mono ?_
    rintro e w5 ⟨j5, rfl, a2, a3, r5, g5⟩
    have ha3 := a3 (by omega)
    obtain ⟨k5, rfl⟩ := Int.eq_ofNat_of_zero_le a2
    have hcon := anyZSet_r w.heap.size A1 m1 c1 _ (1 + k5) w5 r5 (by omega) (by omega)
    rw [show ((1 + k5 : Nat) : Int) = 1 + (k5 : Int) by omega] at hcon
    have hz5 := hz4.kept g5 hlt2
    have hB5 := gbelow hB4 g5 (Nat.le_refl _)
    have hs5 := hB5.size
    have hl5 := r5.1.lt
    clear hz4 hB4 a3 r4 r5 g5
    go_wp2_with fail
    refine hcon.mono ?_
    rintro e w6 ⟨y, A6, c6, q6, rfl, hy, -, -, r6, g6⟩
    have hz6 := hz5.kept g6 hlt2
    go_wp2_with fail
    go_ret2
    exact ⟨z, y, A3, A6, c3, c6, rfl, hz6.back hs2, hy.back hs5, gbelow hB5 g6 (Nat.le_refl _)⟩
  · have hj' : (j4 == 0) = false := by rw [beq_eq_false_iff_ne]; exact hj
    have hcon := anyZSet_r w.heap.size A1 m1 c1 _ (1 + k) w4 r4 (by omega) (by omega)
    rw [show ((1 + k : Nat) : Int) = 1 + (k : Int) by omega] at hcon
    have hs4 := hB4.size
    clear hj r4
    go_wp2_with fail
    refine hcon.mono ?_
    rintro e w6 ⟨y, A6, c6, q6, rfl, hy, -, -, r6, g6⟩
    have hz6 := hz4.kept g6 hlt2
    go_wp2_with fail
    go_ret2
    exact ⟨z, y, A3, A6, c3, c6, rfl, hz6.back hs2, hy.back hs4, gbelow hB4 g6 (Nat.le_refl _)⟩
end Go.Proofs.Ytjlpkfcdkmcjnaa
