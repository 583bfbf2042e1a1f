/- HELPER, no statement of the seat: the generators of lists of times and of frontiers. -/
import Derived.Test.YthefakiobpijiaaTms
import Derived.Test.YthefakiobpijiaaDrg
import Derived.Deep.RegionWith
namespace Go.Proofs.Ythefakiobpijiaa
open Go.RowKit Go.Sort
set_option linter.unusedSimpArgs false
set_option linter.unusedVariables false

/-- A short list of times, and the reader asked at most t times more. -/
def TmD (w : World) (g : Nat) (A : Option Addr) (n c : Nat) (p : Int) (t : Int) (m : Nat) (e : Ending) (w' : World) : Prop :=
  ∃ (z : List Tm) (A' : Option Addr) (c' : Nat) (q : Int), e = .returned (.slice A' z.length c') ∧ TmOwn w' w.heap.size A' c' z ∧ z.length ≤ m ∧ p ≤ q ∧ q ≤ p + t ∧ Rdr w' g A n c q ∧ w.grownBy w' (some g)
set_option maxRecDepth 100000 in
set_option maxHeartbeats 3200000 in
theorem randomTimes_r (g : Nat) (A : Option Addr) (n c : Nat) (p : Int) (t : Nat) (w : World) (hr : Rdr w g A n c p) (hp : p + 100 ≤ 1000000000) (ht : t ≤ 10) :
    Calls Try.prog 131 #[.pointer (some ⟨g, 0, none⟩), .int .i64 (t : Int)] w (TmD w g A n c p 50 t) := by
  obtain ⟨i0, hi, hz0, hz1, hz2⟩ := info_parts Try.infoTime
  have hlt := hr.1.lt
  have HM := Lib.hid (TmOwn.lit w)
  have H0 : Hid (Rdr (w.alloc (.cells #[] 117)) g A n c p ∧ w.grownBy (w.alloc (.cells #[] 117)) (some g)) := ⟨hr.alloc _, World.grownBy_alloc _ _ _⟩
  clear hr
  go_enter Try.func131, Try.ntmps131
  go_wp2_with fail
  refine (pick_r _ _ _ _ _ _ _ H0.out.1 (by omega) (by omega)).mono ?_
  rintro e w1 ⟨j0, rfl, a0, a1, r1, g1⟩
  have ha1 := a1 (by omega)
  obtain ⟨j1, rfl⟩ := Int.eq_ofNat_of_zero_le a0
  have hs0 : w.heap.size < w1.heap.size := by have := g1.size; simp at this; omega
  have H1 : Hid (TmOwn w1 w.heap.size (some ⟨w.heap.size, 0, none⟩) 0 [] ∧ w.grownBy w1 (some g) ∧ Rdr w1 g A n c (p + 1)) := ⟨HM.out.keptG g1 hlt, H0.out.2.trans g1, r1⟩
  clear HM H0 a1 r1 g1
  go_wp2_with fail
  go_loopw [5, 6] (fun v i wr => ∃ (k : Nat) (A' : Option Addr) (c' : Nat) (z : List Tm) (q : Int), i = .int .i64 (k : Nat) ∧ v = .slice A' z.length c' ∧ z.length + k ≤ t ∧ TmOwn wr w.heap.size A' c' z ∧ p ≤ q ∧ q + k * 2 ≤ p + 40 ∧ Rdr wr g A n c q ∧ w.grownBy wr (some g)) (fun _ i _ => (intOf i).toNat)
  case atStart => exact ⟨j1, _, 0, [], p + 1, rfl, rfl, by simp; omega, H1.out.1, by omega, by omega, H1.out.2.2, H1.out.2.1⟩
  case round =>
    obtain ⟨k, A', c', z, q, rfl, rfl, hzk, hown, hq0, hq1, hrd, hgr⟩ := hrel
    by_cases hk : 0 < k
    · have hk' : (0 : Int) < k := by omega
      have HG := Lib.hid hgr
      have HO := Lib.hid hown
      have hsr := hgr.size
      clear hgr hown
      go_wp2_with fail
      refine (randomTime_r _ _ _ _ _ _ hrd (by omega)).mono ?_
      rintro e w3 ⟨tx, ty, q3, rfl, hq3, hq4, r3, g3⟩
      have hs3 := g3.size
      have hown3 := HO.out.keptG g3 hlt
      have hg3 := HG.out.trans g3
      have hcap := hown3.cap
      clear HO HG g3 hrd
      go_wp2_with (at_builtin; refine wpList_append_src _ rfl _ _ 23 rfl w.heap.size 117 i0 (.agg #[.int .i64 0, .int .i64 0]) 2 16 Try.underlying23 hi hz0 hz1 hz2 rfl (by decide) _ _ _ rfl (World.ownsRow.alloc hown3 _) (some ⟨w3.heap.size, 0, none⟩) 1 1 [.int .i64 tx, .int .i64 ty] rfl rfl (fun h => by cases h) (tm_srcs _ _) (tm_ones _ _) (by unfold maxLen; omega) (by omega) (by simp; omega) ?_)
      intro v' w5 hown' hgrow hloc
      have hrow : ∀ q, (Value.slice A' z.length c').ownBlock = some q → w.heap.size ≤ q := fun q hq => (World.ownsRow.lt hown3 q hq).1
      have hg5 := gG (gal hg3 (.cells #[.int .i64 tx, .int .i64 ty] 117)) hgrow hrow
      have hr5 := (r3.alloc (.cells #[.int .i64 tx, .int .i64 ty] 117)).keptG hgrow (fun q hq => by have := hrow q hq; omega)
      obtain ⟨A5, c5, rfl, ho5⟩ := TmOwn.push hown'
      have hlz : (z ++ [(tx, ty)]).length = z.length + 1 := by simp
      have HRR := Lib.hid (And.intro ho5 (And.intro hr5 hg5))
      clear hown' hgrow hloc ho5 hg5 hr5 hrow hown3 hg3 r3
      go_wp2
      go_roundw
      case rel => exact ⟨k - 1, A5, c5, z ++ [(tx, ty)], q3, by go_num, by rw [hlz], by omega, HRR.out.1, by omega, by omega, HRR.out.2.1, HRR.out.2.2⟩
      case measure => simp [intOf]; omega
    · obtain rfl : k = 0 := by omega
      have HG := Lib.hid hgr
      clear hgr
      go_wp2
      go_ret
      exact ⟨z, A', c', q, rfl, hown, by omega, hq0, by omega, hrd, HG.out⟩

/-! ### The arguments of AdvanceTime -/
def TmFr (w : World) (e : Ending) (w' : World) : Prop := ∃ (x y : Int) (z : List Tm) (A' : Option Addr) (c' : Nat), e = .returned (.tuple #[.agg #[.int .i64 x, .int .i64 y], .slice A' z.length c']) ∧ TmOwn w' w.heap.size A' c' z ∧ z.length ≤ 5 ∧ Below w.heap.size w w'
end Go.Proofs.Ythefakiobpijiaa
