/- HELPER, no statement of the seat: the argument of MinimalTimes that a code stands for. -/
import Derived.Test.YtkonhjdfcfljpaaDrawF
import Derived.Test.YtkonhjdfcfljpaaDrawH
namespace Go.Proofs.Ytkonhjdfcfljpaa
open Go.RowKit Go.Sort
set_option linter.unusedSimpArgs false
set_option linter.unusedVariables false

def OneTs (w : World) (e : Ending) (w' : World) : Prop := ∃ (x : List Tm) (A1 : Option Addr) (c1 : Nat), e = .returned (.slice A1 x.length c1) ∧ TmOwn w' w.heap.size A1 c1 x ∧ x.length ≤ 10 ∧ Below w.heap.size w w'
set_option maxRecDepth 100000 in
set_option maxHeartbeats 3200000 in
theorem DrawMinimalTimes_r (A : Option Addr) (n c : Nat) (w : World) (hb : BytesAt w w.heap.size A n) (hc : n ≤ c) (hn : n ≤ 1048576) :
    Calls Try.prog 45 #[.slice A n c] w (OneTs w) := by
  obtain ⟨i0, hi, hz0, hz1, hz2⟩ := info_parts Try.infoTime
  go_enter Try.func45, Try.ntmps45
  go_wp2_with fail
  refine (newReader_r _ _ _ _ hb hc hn).mono ?_
  rintro e w1 ⟨A1, m1, c1, rfl, r1, b1⟩
  clear hb
  go_wp2_with fail
  refine (randomTimes_r w.heap.size A1 m1 c1 0 9 w1 r1 (by omega) (by omega)).mono ?_
  rintro e w2 ⟨z, A2, c2, q, rfl, ho, hl, q0, q1, r2, g2⟩
  have hlt : w.heap.size < w1.heap.size := r1.1.lt
  have hB2 := gbelow b1 g2 (Nat.le_refl _)
  have hs2 := g2.size
  clear b1 g2 r1
  go_wp2_with fail
  refine (pick_r _ _ _ _ _ _ _ r2 (by omega) (by omega)).mono ?_
  rintro e w3 ⟨j, rfl, a0, a1, r3, g3⟩
  have hs3 := g3.size
  have hB3 := gbelow hB2 g3 (Nat.le_refl _)
  have ho3 := (ho.keptG g3 hlt).mono (Nat.le_of_lt hlt)
  have hcap := ho3.cap
  clear ho hB2 g3 r2 r3 a1
  by_cases hj0 : j = 0
  · subst hj0
    go_wp2_with (at_builtin; refine wpList_append_src _ rfl _ _ 30 rfl w.heap.size 52 i0 (.agg #[.int .i64 0, .int .i64 0]) 2 16 Try.underlying30 hi hz0 hz1 hz2 rfl (by decide) _ _ _ rfl (World.ownsRow.alloc ho3 _) (some ⟨w3.heap.size, 0, none⟩) 1 1 [.int .i64 (-1), .int .i64 0] rfl rfl (fun h => by cases h) (tm_srcs _ _) (tm_ones _ _) (by unfold maxLen; omega) (by omega) (by simp; omega) ?_)
    intro v' w5 hown' hgrow hloc
    have hB5 := (bal hB3 (.cells #[.int .i64 (-1), .int .i64 0] 52)).grown hgrow (by simp; omega) (fun k hk => (World.ownsRow.lt ho3 k hk).1)
    obtain ⟨A5, c5, rfl, ho5⟩ := TmOwn.push hown'
    have hlz : (z ++ [((-1 : Int), (0 : Int))]).length = z.length + 1 := by simp
    have HRR := Lib.hid (And.intro ho5 hB5)
    clear hown' hgrow hloc ho5 hB5 ho3 hB3
    go_wp2
    go_ret
    exact ⟨z ++ [(-1, 0)], A5, c5, by rw [hlz]; rfl, HRR.out.1, by omega, HRR.out.2⟩
  · have e0 : (j == 0) = false := by rw [beq_eq_false_iff_ne]; exact hj0
    have HRR := Lib.hid (And.intro ho3 hB3)
    clear hj0 ho3 hB3
    go_wp2
    go_ret
    exact ⟨z, A2, c2, rfl, HRR.out.1, by omega, HRR.out.2⟩
end Go.Proofs.Ytkonhjdfcfljpaa
