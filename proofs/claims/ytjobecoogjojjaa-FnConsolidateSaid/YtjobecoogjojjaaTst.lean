/- HELPER, no statement of the seat: predicates as tests of rows. -/
import Derived.Test.YtjobecoogjojjaaZbx
import Derived.Test.YtjobecoogjojjaaPred
import Derived.Lib.QuietBelow
import Derived.Laws.EntriesVeiled
namespace Go.Proofs.Ytjobecoogjojjaa
open Go.RowKit Go.Sort
set_option linter.unusedSimpArgs false
set_option linter.unusedVariables false


def cmpP (k x v : Int) : Bool := if k = 1 then x == v else if k = 2 then decide (x < v) else if k = 3 then decide (v < x) else x != v
/-- The row r satisfies the predicate of the column m, the kind k and the value v. -/
def holdP (m : Nat) (k v : Int) (r : List Int) : Bool := cmpP k (r.getD m 0) v
def cmpFn (k : Int) : Nat := if k = 1 then 177 else if k = 2 then 178 else if k = 3 then 179 else 180
theorem IntsAt.at {w : World} {A : Option Addr} {xs : List Int} (h : IntsAt w A xs) {m : Nat} (hm : m < xs.length) : ∃ b off, A = some ⟨b, off, none⟩ ∧ b < w.heap.size ∧ w.cell? ⟨b, off + m, none⟩ = some (.int .i64 xs[m]) := by
  obtain ⟨b, off, e, hlt, hc⟩ := h (by omega)
  exact ⟨b, off, e, hlt, by rw [hc m hm]; simp [hm]⟩
theorem getD_at {xs : List Int} {m : Nat} (h : m < xs.length) : xs.getD m 0 = xs[m] := by simp [h]

set_option maxHeartbeats 800000 in
theorem holds_s (m : Nat) (k v : Int) (RA : Option Addr) (rc : Nat) (xs : List Int) (w : World) (hx : IntsAt w RA xs) (hm : m < xs.length) (hl : xs.length ≤ 4194304) (h1 : 1 ≤ k) (h4 : k ≤ 4) :
    Calls Try.prog 99 #[.agg #[.int .i64 m, .int .i64 k, .int .i64 v], .slice RA xs.length rc] w fun e w' => e = .returned (.bool (holdP m k v xs)) ∧ Below w.heap.size w w' := by
  obtain ⟨b, off, rfl, hbl, hc⟩ := hx.at hm
  have HP : Hid (holdP m k v xs = cmpP k xs[m] v) := by simp only [Hid, holdP, getD_at hm]
  have q0 := ((bal (Below.refl _ _) (.cells #[.int .i64 m, .int .i64 k, .int .i64 v] 49)).cell (p := ⟨b, off + m, none⟩) hbl).trans hc
  have g0 : (0 : Int) ≤ m := by omega
  have g1 : (m : Int) < xs.length := by omega
  clear hc
  obtain rfl | rfl | rfl | rfl : k = 1 ∨ k = 2 ∨ k = 3 ∨ k = 4 := by omega
  all_goals
    go_enter Try.func99, Try.ntmps99
    go_wp2
    all_goals
      go_ret
      exact ⟨ret_bool (by rw [HP.out]; simp [cmpP]), bal (Below.refl _ _) _⟩

theorem cmp_c (k x v : Int) (w : World) (h1 : 1 ≤ k) (h4 : k ≤ 4) : Calls Try.prog (cmpFn k) #[.int .i64 x, .int .i64 v] w fun e w' => e = .returned (.bool (cmpP k x v)) ∧ Below w.heap.size w w' := by
  obtain rfl | rfl | rfl | rfl : k = 1 ∨ k = 2 ∨ k = 3 ∨ k = 4 := by omega
  · show Calls Try.prog 177 _ _ _
    go_enter Try.func177, Try.ntmps177
    go_wp2
    go_ret
    exact ⟨ret_bool (by simp [cmpP]), Below.refl _ _⟩
  · show Calls Try.prog 178 _ _ _
    go_enter Try.func178, Try.ntmps178
    go_wp2
    go_ret
    exact ⟨ret_bool (by simp [cmpP]), Below.refl _ _⟩
  · show Calls Try.prog 179 _ _ _
    go_enter Try.func179, Try.ntmps179
    go_wp2
    go_ret
    exact ⟨ret_bool (by simp [cmpP]), Below.refl _ _⟩
  · show Calls Try.prog 180 _ _ _
    go_enter Try.func180, Try.ntmps180
    go_wp2
    go_ret
    exact ⟨ret_bool (by simp [cmpP]), Below.refl _ _⟩
theorem comparisonOf_k (k : Int) (w : World) (h1 : 1 ≤ k) (h4 : k ≤ 4) : Calls Try.prog 154 #[.int .i64 k] w fun e w' => e = .returned (.func (.func (cmpFn k)) #[] #[]) ∧ w = w' := by
  obtain rfl | rfl | rfl | rfl : k = 1 ∨ k = 2 ∨ k = 3 ∨ k = 4 := by omega
  all_goals
    go_enter Try.func154, Try.ntmps154
    go_wp2
    go_ret
    exact ⟨rfl, rfl⟩

/-- The captured variables of a predicate's test. -/
structure TestAt (w : World) (B C : Nat) (m : Nat) (k v : Int) : Prop where
  p : Blk w B 49 #[.int .i64 m, .int .i64 k, .int .i64 v]
  f : Blk w C 157 #[.func (.func (cmpFn k)) #[] #[]]
theorem TestAt.below {w w' : World} {B C m : Nat} {k v : Int} (h : TestAt w B C m k v) (hb : Below w.heap.size w w') : TestAt w' B C m k v := ⟨h.p.below hb, h.f.below hb⟩
set_option maxHeartbeats 800000 in
theorem rowTest_i (m : Nat) (k v : Int) (w : World) (h1 : 1 ≤ k) (h4 : k ≤ 4) :
    Calls Try.prog 97 #[.agg #[.int .i64 m, .int .i64 k, .int .i64 v]] w fun e w' => ∃ B C, e = .returned (.func (.func 156) #[] #[.pointer (some ⟨C, 0, none⟩), .pointer (some ⟨B, 0, none⟩)]) ∧ TestAt w' B C m k v ∧ Below w.heap.size w w' := by
  have hcon := fun w => comparisonOf_k k w h1 h4
  generalize hF : cmpFn k = F at hcon
  go_enter Try.func97, Try.ntmps97
  go_wp2_with fail
  refine (hcon _).mono ?_
  rintro e w1 ⟨rfl, rfl⟩
  go_wp2
  go_ret
  refine ⟨_, _, rfl, ⟨(Blk.newAt rfl).alloc _, ?_⟩, bal (bal (Below.refl _ _) _) _⟩
  rw [hF]
  exact Blk.newAt (by simp)
set_option maxHeartbeats 1600000 in
theorem rowTest_c (B C m : Nat) (k v : Int) (RA : Option Addr) (rc : Nat) (xs : List Int) (w : World) (hT : TestAt w B C m k v) (hx : IntsAt w RA xs) (hm : m < xs.length) (hl : xs.length ≤ 4194304) (h1 : 1 ≤ k) (h4 : k ≤ 4) :
    Calls Try.prog 156 #[.slice RA xs.length rc, .pointer (some ⟨C, 0, none⟩), .pointer (some ⟨B, 0, none⟩)] w fun e w' => e = .returned (.bool (holdP m k v xs)) ∧ Below w.heap.size w w' := by
  obtain ⟨b, off, rfl, hbl, hc⟩ := hx.at hm
  have HP : Hid (holdP m k v xs = cmpP k xs[m] v) := by simp only [Hid, holdP, getD_at hm]
  have r0 := cgrow hc
  have r1 := cgrow (hT.f.cell 0)
  have r2 := cgrow (hT.p.cell 0)
  have r3 := cgrow (hT.p.cell 1)
  have r4 := cgrow (hT.p.cell 2)
  simp at r1 r2 r3 r4
  have g0 : (0 : Int) ≤ m := by omega
  have g1 : (m : Int) < xs.length := by omega
  clear hc hx hT
  obtain rfl | rfl | rfl | rfl : k = 1 ∨ k = 2 ∨ k = 3 ∨ k = 4 := by omega
  · have hcon : ∀ W, Calls Try.prog 177 #[.int .i64 xs[m], .int .i64 v] W fun e w' => e = .returned (.bool (cmpP 1 xs[m] v)) ∧ Below W.heap.size W w' := fun W => cmp_c 1 xs[m] v W (by omega) (by omega)
    simp [cmpFn] at r1
    generalize cmpP 1 xs[m] v = R at hcon HP
    go_enter Try.func156, Try.ntmps156
    go_wp2_with fail
    refine wp_region_quiet_below (by kernel_rfl) (by kernel_rfl) ?_
    repeat (go_big_quiet_step (exact Calls.regrown_of (hcon _)))
    refine wpQuiet_nil ?_
    intro wq hwq
    obtain ⟨⟨dq, osq⟩, rfl⟩ := hwq
    have hbq := below_regrown w dq osq
    generalize grow (redrawn w dq) osq = wz at hbq
    clear r0 r1 r2 r3 r4
    go_wp2
    go_ret
    exact ⟨ret_bool HP.out.symm, hbq⟩
  · have hcon : ∀ W, Calls Try.prog 178 #[.int .i64 xs[m], .int .i64 v] W fun e w' => e = .returned (.bool (cmpP 2 xs[m] v)) ∧ Below W.heap.size W w' := fun W => cmp_c 2 xs[m] v W (by omega) (by omega)
    simp [cmpFn] at r1
    generalize cmpP 2 xs[m] v = R at hcon HP
    go_enter Try.func156, Try.ntmps156
    go_wp2_with fail
    refine wp_region_quiet_below (by kernel_rfl) (by kernel_rfl) ?_
    repeat (go_big_quiet_step (exact Calls.regrown_of (hcon _)))
    refine wpQuiet_nil ?_
    intro wq hwq
    obtain ⟨⟨dq, osq⟩, rfl⟩ := hwq
    have hbq := below_regrown w dq osq
    generalize grow (redrawn w dq) osq = wz at hbq
    clear r0 r1 r2 r3 r4
    go_wp2
    go_ret
    exact ⟨ret_bool HP.out.symm, hbq⟩
  · have hcon : ∀ W, Calls Try.prog 179 #[.int .i64 xs[m], .int .i64 v] W fun e w' => e = .returned (.bool (cmpP 3 xs[m] v)) ∧ Below W.heap.size W w' := fun W => cmp_c 3 xs[m] v W (by omega) (by omega)
    simp [cmpFn] at r1
    generalize cmpP 3 xs[m] v = R at hcon HP
    go_enter Try.func156, Try.ntmps156
    go_wp2_with fail
    refine wp_region_quiet_below (by kernel_rfl) (by kernel_rfl) ?_
    repeat (go_big_quiet_step (exact Calls.regrown_of (hcon _)))
    refine wpQuiet_nil ?_
    intro wq hwq
    obtain ⟨⟨dq, osq⟩, rfl⟩ := hwq
    have hbq := below_regrown w dq osq
    generalize grow (redrawn w dq) osq = wz at hbq
    clear r0 r1 r2 r3 r4
    go_wp2
    go_ret
    exact ⟨ret_bool HP.out.symm, hbq⟩
  · have hcon : ∀ W, Calls Try.prog 180 #[.int .i64 xs[m], .int .i64 v] W fun e w' => e = .returned (.bool (cmpP 4 xs[m] v)) ∧ Below W.heap.size W w' := fun W => cmp_c 4 xs[m] v W (by omega) (by omega)
    simp [cmpFn] at r1
    generalize cmpP 4 xs[m] v = R at hcon HP
    go_enter Try.func156, Try.ntmps156
    go_wp2_with fail
    refine wp_region_quiet_below (by kernel_rfl) (by kernel_rfl) ?_
    repeat (go_big_quiet_step (exact Calls.regrown_of (hcon _)))
    refine wpQuiet_nil ?_
    intro wq hwq
    obtain ⟨⟨dq, osq⟩, rfl⟩ := hwq
    have hbq := below_regrown w dq osq
    generalize grow (redrawn w dq) osq = wz at hbq
    clear r0 r1 r2 r3 r4
    go_wp2
    go_ret
    exact ⟨ret_bool HP.out.symm, hbq⟩
end Go.Proofs.Ytjobecoogjojjaa
