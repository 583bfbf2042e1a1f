/- The law FnTimeOrder returns true at every code; no condition. -/
import Derived.Test.YtfndglpfhdphiaaTimeCmp
import Derived.Test.YtfndglpfhdphiaaDrawV
import Derived.Test.YtfndglpfhdphiaaDrawB
import Derived.Lib.QuietBelow
namespace Go.Proofs.Ytfndglpfhdphiaa
open Go.ChangeShapes Go.WideShapes Go.ChangeAt Go.RowKit Go.Sort
set_option linter.unusedVariables false
set_option linter.unusedSimpArgs false

theorem cgrow {w : World} {b o : Nat} {v : Value} (h : w.cell? ⟨b, o, none⟩ = some v) : ∀ d os, (grow (redrawn w d) os).cell? ⟨b, o, none⟩ = some v := fun d os => cell_regrown h d os
theorem TLE {x y u v : Int} {r : Bool} (h : leB x y u v = r) (w : World) : Calls Try.prog 16 #[.agg #[.int .i64 x, .int .i64 y], .agg #[.int .i64 u, .int .i64 v]] w fun e w' => e = .returned (.bool r) ∧ Below w.heap.size w w' := h ▸ TimeLe_i x y u v w
theorem TBF {x y u v : Int} {r : Bool} (h : bfB x y u v = r) (w : World) : Calls Try.prog 18 #[.agg #[.int .i64 x, .int .i64 y], .agg #[.int .i64 u, .int .i64 v]] w fun e w' => e = .returned (.bool r) ∧ Below w.heap.size w w' := h ▸ TimeBefore_i x y u v w
theorem TLS {x y u v : Int} {r : Bool} (h : leB x y u v = r) (w : World) : Calls Try.prog 17 #[.agg #[.int .i64 x, .int .i64 y], .agg #[.int .i64 u, .int .i64 v]] w fun e w' => e = .returned (.bool r) ∧ Below w.heap.size w w' := h ▸ TimeLe_s x y u v w

set_option maxHeartbeats 1000000 in
/-- The last statement, at two times. -/
theorem FnTimeOrder_walk (A : Option Addr) (n c : Nat) (w : World) (hc : n ≤ c) (hl : n ≤ maxLen) (hb : BytesAt w w.heap.size A n) :
    Calls Try.prog 3 #[.slice A n c] w fun e w' => e = .returned (.bool true) ∧ Below w.heap.size w w' := by
  unfold maxLen at hl
  by_cases hbig : 1048576 < n
  · have hb' : (1048576 : Int) < n := by omega
    go_enter Try.func3, Try.ntmps3
    go_wp2
    go_ret
    exact ⟨rfl, Below.refl _ _⟩
  have hb' : (n : Int) ≤ 1048576 := by omega
  have HB := Lib.hid hb
  clear hb hbig
  go_enter Try.func3, Try.ntmps3
  go_wp2_with fail
  refine (DrawTimeLessEqual_r _ _ _ _ HB.out hc (by omega)).mono ?_
  rintro e w1 ⟨x, y, u, v, rfl, b1⟩
  have la : leB x y x y = true := by simp [leB]
  have hx := Int.lt_trichotomy x u
  have hy := Int.lt_trichotomy y v
  rcases hx with hx | rfl | hx <;> rcases hy with hy | rfl | hy
  · have h0 : leB x y u v = true := by simp [leB] <;> omega
    have h2 : leB u v x y = false := by simp [leB] <;> omega
    have h3 : bfB x y u v = true := by simp [bfB] <;> omega
    have h4 : bfB u v x y = false := by simp [bfB] <;> omega
    have n0 : ¬ x = u := by omega
    have n0' : (x == u) = false := by rw [beq_eq_false_iff_ne]; exact n0
    have n1 : ¬ y = v := by omega
    have n1' : (y == v) = false := by rw [beq_eq_false_iff_ne]; exact n1
    have HA := Lib.hid (And.intro h0 (And.intro h2 (And.intro h3 (And.intro h4 la))))
    clear h0 h2 h3 h4 la
    go_wp2_with fail
    refine (TLE HA.out.1 _).mono ?_
    rintro e w2 ⟨rfl, b2⟩
    have hk := ((Blk.newAt (w := w1) (t := 24) (cs := #[.int .i64 x, .int .i64 y]) rfl).alloc (.cells #[.int .i64 u, .int .i64 v] 24)).below b2
    have hk1 := (Blk.newAt (w := w1.alloc (.cells #[.int .i64 x, .int .i64 y] 24)) (g := w1.heap.size + 1) (t := 24) (cs := #[.int .i64 u, .int .i64 v]) (by simp)).below b2
    have hB : Below w.heap.size w w2 := btr (bal (bal b1 _) _) b2
    have HK := Lib.hid (And.intro hk (And.intro hk1 hB))
    have c0 := hk.cell
    have c1 := hk1.cell
    clear hk hk1 hB b2
    go_wp2_with fail
    refine (TLS HA.out.1 _).mono ?_
    rintro e w3 ⟨rfl, b3⟩
    clear c0 c1
    have k0 := HK.out.1.below b3
    have k1 := HK.out.2.1.below b3
    have hB := btr HK.out.2.2 b3
    clear HK b3
    go_wp2_with fail
    have q0 := cgrow (k0.cell 0)
    have q1 := cgrow (k0.cell 1)
    have q2 := cgrow (k1.cell 0)
    have q3 := cgrow (k1.cell 1)
    refine wp_region_quiet_below (by kernel_rfl) (by kernel_rfl) ?_
    repeat (go_big_quiet_step (first | (go_at_call 16; exact Calls.regrown_of (TLE HA.out.2.2.2.2 _)) | (go_at_call 16; exact Calls.regrown_of (TLE HA.out.2.1 _)) | (go_at_call 16; exact Calls.regrown_of (TLE HA.out.1 _)) | (go_at_call 18; exact Calls.regrown_of (TBF HA.out.2.2.1 _)) | (go_at_call 18; exact Calls.regrown_of (TBF HA.out.2.2.2.1 _))))
    refine wpQuiet_nil ?_
    intro w4 hw4
    obtain ⟨⟨dq, osq⟩, rfl⟩ := hw4
    have hbq := btr hB (below_regrown w3 dq osq)
    generalize grow (redrawn w3 dq) osq = w5 at hbq
    clear q0 q1 q2 q3 k0 k1 hB
    go_wp2_with fail
    go_ret
    exact ⟨rfl, hbq⟩
  · have h0 : leB x y u y = true := by simp [leB] <;> omega
    have h2 : leB u y x y = false := by simp [leB] <;> omega
    have h3 : bfB x y u y = true := by simp [bfB] <;> omega
    have h4 : bfB u y x y = false := by simp [bfB] <;> omega
    have n0 : ¬ x = u := by omega
    have n0' : (x == u) = false := by rw [beq_eq_false_iff_ne]; exact n0
    have HA := Lib.hid (And.intro h0 (And.intro h2 (And.intro h3 (And.intro h4 la))))
    clear h0 h2 h3 h4 la
    go_wp2_with fail
    refine (TLE HA.out.1 _).mono ?_
    rintro e w2 ⟨rfl, b2⟩
    have hk := ((Blk.newAt (w := w1) (t := 24) (cs := #[.int .i64 x, .int .i64 y]) rfl).alloc (.cells #[.int .i64 u, .int .i64 y] 24)).below b2
    have hk1 := (Blk.newAt (w := w1.alloc (.cells #[.int .i64 x, .int .i64 y] 24)) (g := w1.heap.size + 1) (t := 24) (cs := #[.int .i64 u, .int .i64 y]) (by simp)).below b2
    have hB : Below w.heap.size w w2 := btr (bal (bal b1 _) _) b2
    have HK := Lib.hid (And.intro hk (And.intro hk1 hB))
    have c0 := hk.cell
    have c1 := hk1.cell
    clear hk hk1 hB b2
    go_wp2_with fail
    refine (TLS HA.out.1 _).mono ?_
    rintro e w3 ⟨rfl, b3⟩
    clear c0 c1
    have k0 := HK.out.1.below b3
    have k1 := HK.out.2.1.below b3
    have hB := btr HK.out.2.2 b3
    clear HK b3
    go_wp2_with fail
    have q0 := cgrow (k0.cell 0)
    have q1 := cgrow (k0.cell 1)
    have q2 := cgrow (k1.cell 0)
    have q3 := cgrow (k1.cell 1)
    refine wp_region_quiet_below (by kernel_rfl) (by kernel_rfl) ?_
    repeat (go_big_quiet_step (first | (go_at_call 16; exact Calls.regrown_of (TLE HA.out.2.2.2.2 _)) | (go_at_call 16; exact Calls.regrown_of (TLE HA.out.2.1 _)) | (go_at_call 16; exact Calls.regrown_of (TLE HA.out.1 _)) | (go_at_call 18; exact Calls.regrown_of (TBF HA.out.2.2.1 _)) | (go_at_call 18; exact Calls.regrown_of (TBF HA.out.2.2.2.1 _))))
    refine wpQuiet_nil ?_
    intro w4 hw4
    obtain ⟨⟨dq, osq⟩, rfl⟩ := hw4
    have hbq := btr hB (below_regrown w3 dq osq)
    generalize grow (redrawn w3 dq) osq = w5 at hbq
    clear q0 q1 q2 q3 k0 k1 hB
    go_wp2_with fail
    go_ret
    exact ⟨rfl, hbq⟩
  · have h0 : leB x y u v = false := by simp [leB] <;> omega
    have h2 : leB u v x y = false := by simp [leB] <;> omega
    have h3 : bfB x y u v = true := by simp [bfB] <;> omega
    have h4 : bfB u v x y = false := by simp [bfB] <;> omega
    have n0 : ¬ x = u := by omega
    have n0' : (x == u) = false := by rw [beq_eq_false_iff_ne]; exact n0
    have n1 : ¬ y = v := by omega
    have n1' : (y == v) = false := by rw [beq_eq_false_iff_ne]; exact n1
    have HA := Lib.hid (And.intro h0 (And.intro h2 (And.intro h3 (And.intro h4 la))))
    clear h0 h2 h3 h4 la
    go_wp2_with fail
    refine (TLE HA.out.1 _).mono ?_
    rintro e w2 ⟨rfl, b2⟩
    have hk := ((Blk.newAt (w := w1) (t := 24) (cs := #[.int .i64 x, .int .i64 y]) rfl).alloc (.cells #[.int .i64 u, .int .i64 v] 24)).below b2
    have hk1 := (Blk.newAt (w := w1.alloc (.cells #[.int .i64 x, .int .i64 y] 24)) (g := w1.heap.size + 1) (t := 24) (cs := #[.int .i64 u, .int .i64 v]) (by simp)).below b2
    have hB : Below w.heap.size w w2 := btr (bal (bal b1 _) _) b2
    have HK := Lib.hid (And.intro hk (And.intro hk1 hB))
    have c0 := hk.cell
    have c1 := hk1.cell
    clear hk hk1 hB b2
    go_wp2_with fail
    refine (TLS HA.out.1 _).mono ?_
    rintro e w3 ⟨rfl, b3⟩
    clear c0 c1
    have k0 := HK.out.1.below b3
    have k1 := HK.out.2.1.below b3
    have hB := btr HK.out.2.2 b3
    clear HK b3
    go_wp2_with fail
    have q0 := cgrow (k0.cell 0)
    have q1 := cgrow (k0.cell 1)
    have q2 := cgrow (k1.cell 0)
    have q3 := cgrow (k1.cell 1)
    refine wp_region_quiet_below (by kernel_rfl) (by kernel_rfl) ?_
    repeat (go_big_quiet_step (first | (go_at_call 16; exact Calls.regrown_of (TLE HA.out.2.2.2.2 _)) | (go_at_call 16; exact Calls.regrown_of (TLE HA.out.2.1 _)) | (go_at_call 16; exact Calls.regrown_of (TLE HA.out.1 _)) | (go_at_call 18; exact Calls.regrown_of (TBF HA.out.2.2.1 _)) | (go_at_call 18; exact Calls.regrown_of (TBF HA.out.2.2.2.1 _))))
    refine wpQuiet_nil ?_
    intro w4 hw4
    obtain ⟨⟨dq, osq⟩, rfl⟩ := hw4
    have hbq := btr hB (below_regrown w3 dq osq)
    generalize grow (redrawn w3 dq) osq = w5 at hbq
    clear q0 q1 q2 q3 k0 k1 hB
    go_wp2_with fail
    go_ret
    exact ⟨rfl, hbq⟩
  · have h0 : leB x y x v = true := by simp [leB] <;> omega
    have h2 : leB x v x y = false := by simp [leB] <;> omega
    have h3 : bfB x y x v = true := by simp [bfB] <;> omega
    have h4 : bfB x v x y = false := by simp [bfB] <;> omega
    have n1 : ¬ y = v := by omega
    have n1' : (y == v) = false := by rw [beq_eq_false_iff_ne]; exact n1
    have HA := Lib.hid (And.intro h0 (And.intro h2 (And.intro h3 (And.intro h4 la))))
    clear h0 h2 h3 h4 la
    go_wp2_with fail
    refine (TLE HA.out.1 _).mono ?_
    rintro e w2 ⟨rfl, b2⟩
    have hk := ((Blk.newAt (w := w1) (t := 24) (cs := #[.int .i64 x, .int .i64 y]) rfl).alloc (.cells #[.int .i64 x, .int .i64 v] 24)).below b2
    have hk1 := (Blk.newAt (w := w1.alloc (.cells #[.int .i64 x, .int .i64 y] 24)) (g := w1.heap.size + 1) (t := 24) (cs := #[.int .i64 x, .int .i64 v]) (by simp)).below b2
    have hB : Below w.heap.size w w2 := btr (bal (bal b1 _) _) b2
    have HK := Lib.hid (And.intro hk (And.intro hk1 hB))
    have c0 := hk.cell
    have c1 := hk1.cell
    clear hk hk1 hB b2
    go_wp2_with fail
    refine (TLS HA.out.1 _).mono ?_
    rintro e w3 ⟨rfl, b3⟩
    clear c0 c1
    have k0 := HK.out.1.below b3
    have k1 := HK.out.2.1.below b3
    have hB := btr HK.out.2.2 b3
    clear HK b3
    go_wp2_with fail
    have q0 := cgrow (k0.cell 0)
    have q1 := cgrow (k0.cell 1)
    have q2 := cgrow (k1.cell 0)
    have q3 := cgrow (k1.cell 1)
    refine wp_region_quiet_below (by kernel_rfl) (by kernel_rfl) ?_
    repeat (go_big_quiet_step (first | (go_at_call 16; exact Calls.regrown_of (TLE HA.out.2.2.2.2 _)) | (go_at_call 16; exact Calls.regrown_of (TLE HA.out.2.1 _)) | (go_at_call 16; exact Calls.regrown_of (TLE HA.out.1 _)) | (go_at_call 18; exact Calls.regrown_of (TBF HA.out.2.2.1 _)) | (go_at_call 18; exact Calls.regrown_of (TBF HA.out.2.2.2.1 _))))
    refine wpQuiet_nil ?_
    intro w4 hw4
    obtain ⟨⟨dq, osq⟩, rfl⟩ := hw4
    have hbq := btr hB (below_regrown w3 dq osq)
    generalize grow (redrawn w3 dq) osq = w5 at hbq
    clear q0 q1 q2 q3 k0 k1 hB
    go_wp2_with fail
    go_ret
    exact ⟨rfl, hbq⟩
  · have h0 : leB x y x y = true := by simp [leB] <;> omega
    have h2 : leB x y x y = true := by simp [leB] <;> omega
    have h3 : bfB x y x y = false := by simp [bfB] <;> omega
    have h4 : bfB x y x y = false := by simp [bfB] <;> omega
    have HA := Lib.hid (And.intro h0 (And.intro h2 (And.intro h3 (And.intro h4 la))))
    clear h0 h2 h3 h4 la
    go_wp2_with fail
    refine (TLE HA.out.1 _).mono ?_
    rintro e w2 ⟨rfl, b2⟩
    have hk := ((Blk.newAt (w := w1) (t := 24) (cs := #[.int .i64 x, .int .i64 y]) rfl).alloc (.cells #[.int .i64 x, .int .i64 y] 24)).below b2
    have hk1 := (Blk.newAt (w := w1.alloc (.cells #[.int .i64 x, .int .i64 y] 24)) (g := w1.heap.size + 1) (t := 24) (cs := #[.int .i64 x, .int .i64 y]) (by simp)).below b2
    have hB : Below w.heap.size w w2 := btr (bal (bal b1 _) _) b2
    have HK := Lib.hid (And.intro hk (And.intro hk1 hB))
    have c0 := hk.cell
    have c1 := hk1.cell
    clear hk hk1 hB b2
    go_wp2_with fail
    refine (TLS HA.out.1 _).mono ?_
    rintro e w3 ⟨rfl, b3⟩
    clear c0 c1
    have k0 := HK.out.1.below b3
    have k1 := HK.out.2.1.below b3
    have hB := btr HK.out.2.2 b3
    clear HK b3
    go_wp2_with fail
    have q0 := cgrow (k0.cell 0)
    have q1 := cgrow (k0.cell 1)
    have q2 := cgrow (k1.cell 0)
    have q3 := cgrow (k1.cell 1)
    refine wp_region_quiet_below (by kernel_rfl) (by kernel_rfl) ?_
    repeat (go_big_quiet_step (first | (go_at_call 16; exact Calls.regrown_of (TLE HA.out.2.2.2.2 _)) | (go_at_call 16; exact Calls.regrown_of (TLE HA.out.2.1 _)) | (go_at_call 16; exact Calls.regrown_of (TLE HA.out.1 _)) | (go_at_call 18; exact Calls.regrown_of (TBF HA.out.2.2.1 _)) | (go_at_call 18; exact Calls.regrown_of (TBF HA.out.2.2.2.1 _))))
    refine wpQuiet_nil ?_
    intro w4 hw4
    obtain ⟨⟨dq, osq⟩, rfl⟩ := hw4
    have hbq := btr hB (below_regrown w3 dq osq)
    generalize grow (redrawn w3 dq) osq = w5 at hbq
    clear q0 q1 q2 q3 k0 k1 hB
    go_wp2_with fail
    go_ret
    exact ⟨rfl, hbq⟩
  · have h0 : leB x y x v = false := by simp [leB] <;> omega
    have h2 : leB x v x y = true := by simp [leB] <;> omega
    have h3 : bfB x y x v = false := by simp [bfB] <;> omega
    have h4 : bfB x v x y = true := by simp [bfB] <;> omega
    have n1 : ¬ y = v := by omega
    have n1' : (y == v) = false := by rw [beq_eq_false_iff_ne]; exact n1
    have HA := Lib.hid (And.intro h0 (And.intro h2 (And.intro h3 (And.intro h4 la))))
    clear h0 h2 h3 h4 la
    go_wp2_with fail
    refine (TLE HA.out.1 _).mono ?_
    rintro e w2 ⟨rfl, b2⟩
    have hk := ((Blk.newAt (w := w1) (t := 24) (cs := #[.int .i64 x, .int .i64 y]) rfl).alloc (.cells #[.int .i64 x, .int .i64 v] 24)).below b2
    have hk1 := (Blk.newAt (w := w1.alloc (.cells #[.int .i64 x, .int .i64 y] 24)) (g := w1.heap.size + 1) (t := 24) (cs := #[.int .i64 x, .int .i64 v]) (by simp)).below b2
    have hB : Below w.heap.size w w2 := btr (bal (bal b1 _) _) b2
    have HK := Lib.hid (And.intro hk (And.intro hk1 hB))
    have c0 := hk.cell
    have c1 := hk1.cell
    clear hk hk1 hB b2
    go_wp2_with fail
    refine (TLS HA.out.1 _).mono ?_
    rintro e w3 ⟨rfl, b3⟩
    clear c0 c1
    have k0 := HK.out.1.below b3
    have k1 := HK.out.2.1.below b3
    have hB := btr HK.out.2.2 b3
    clear HK b3
    go_wp2_with fail
    have q0 := cgrow (k0.cell 0)
    have q1 := cgrow (k0.cell 1)
    have q2 := cgrow (k1.cell 0)
    have q3 := cgrow (k1.cell 1)
    refine wp_region_quiet_below (by kernel_rfl) (by kernel_rfl) ?_
    repeat (go_big_quiet_step (first | (go_at_call 16; exact Calls.regrown_of (TLE HA.out.2.2.2.2 _)) | (go_at_call 16; exact Calls.regrown_of (TLE HA.out.2.1 _)) | (go_at_call 16; exact Calls.regrown_of (TLE HA.out.1 _)) | (go_at_call 18; exact Calls.regrown_of (TBF HA.out.2.2.1 _)) | (go_at_call 18; exact Calls.regrown_of (TBF HA.out.2.2.2.1 _))))
    refine wpQuiet_nil ?_
    intro w4 hw4
    obtain ⟨⟨dq, osq⟩, rfl⟩ := hw4
    have hbq := btr hB (below_regrown w3 dq osq)
    generalize grow (redrawn w3 dq) osq = w5 at hbq
    clear q0 q1 q2 q3 k0 k1 hB
    go_wp2_with fail
    go_ret
    exact ⟨rfl, hbq⟩
  · have h0 : leB x y u v = false := by simp [leB] <;> omega
    have h2 : leB u v x y = false := by simp [leB] <;> omega
    have h3 : bfB x y u v = false := by simp [bfB] <;> omega
    have h4 : bfB u v x y = true := by simp [bfB] <;> omega
    have n0 : ¬ x = u := by omega
    have n0' : (x == u) = false := by rw [beq_eq_false_iff_ne]; exact n0
    have n1 : ¬ y = v := by omega
    have n1' : (y == v) = false := by rw [beq_eq_false_iff_ne]; exact n1
    have HA := Lib.hid (And.intro h0 (And.intro h2 (And.intro h3 (And.intro h4 la))))
    clear h0 h2 h3 h4 la
    go_wp2_with fail
    refine (TLE HA.out.1 _).mono ?_
    rintro e w2 ⟨rfl, b2⟩
    have hk := ((Blk.newAt (w := w1) (t := 24) (cs := #[.int .i64 x, .int .i64 y]) rfl).alloc (.cells #[.int .i64 u, .int .i64 v] 24)).below b2
    have hk1 := (Blk.newAt (w := w1.alloc (.cells #[.int .i64 x, .int .i64 y] 24)) (g := w1.heap.size + 1) (t := 24) (cs := #[.int .i64 u, .int .i64 v]) (by simp)).below b2
    have hB : Below w.heap.size w w2 := btr (bal (bal b1 _) _) b2
    have HK := Lib.hid (And.intro hk (And.intro hk1 hB))
    have c0 := hk.cell
    have c1 := hk1.cell
    clear hk hk1 hB b2
    go_wp2_with fail
    refine (TLS HA.out.1 _).mono ?_
    rintro e w3 ⟨rfl, b3⟩
    clear c0 c1
    have k0 := HK.out.1.below b3
    have k1 := HK.out.2.1.below b3
    have hB := btr HK.out.2.2 b3
    clear HK b3
    go_wp2_with fail
    have q0 := cgrow (k0.cell 0)
    have q1 := cgrow (k0.cell 1)
    have q2 := cgrow (k1.cell 0)
    have q3 := cgrow (k1.cell 1)
    refine wp_region_quiet_below (by kernel_rfl) (by kernel_rfl) ?_
    repeat (go_big_quiet_step (first | (go_at_call 16; exact Calls.regrown_of (TLE HA.out.2.2.2.2 _)) | (go_at_call 16; exact Calls.regrown_of (TLE HA.out.2.1 _)) | (go_at_call 16; exact Calls.regrown_of (TLE HA.out.1 _)) | (go_at_call 18; exact Calls.regrown_of (TBF HA.out.2.2.1 _)) | (go_at_call 18; exact Calls.regrown_of (TBF HA.out.2.2.2.1 _))))
    refine wpQuiet_nil ?_
    intro w4 hw4
    obtain ⟨⟨dq, osq⟩, rfl⟩ := hw4
    have hbq := btr hB (below_regrown w3 dq osq)
    generalize grow (redrawn w3 dq) osq = w5 at hbq
    clear q0 q1 q2 q3 k0 k1 hB
    go_wp2_with fail
    go_ret
    exact ⟨rfl, hbq⟩
  · have h0 : leB x y u y = false := by simp [leB] <;> omega
    have h2 : leB u y x y = true := by simp [leB] <;> omega
    have h3 : bfB x y u y = false := by simp [bfB] <;> omega
    have h4 : bfB u y x y = true := by simp [bfB] <;> omega
    have n0 : ¬ x = u := by omega
    have n0' : (x == u) = false := by rw [beq_eq_false_iff_ne]; exact n0
    have HA := Lib.hid (And.intro h0 (And.intro h2 (And.intro h3 (And.intro h4 la))))
    clear h0 h2 h3 h4 la
    go_wp2_with fail
    refine (TLE HA.out.1 _).mono ?_
    rintro e w2 ⟨rfl, b2⟩
    have hk := ((Blk.newAt (w := w1) (t := 24) (cs := #[.int .i64 x, .int .i64 y]) rfl).alloc (.cells #[.int .i64 u, .int .i64 y] 24)).below b2
    have hk1 := (Blk.newAt (w := w1.alloc (.cells #[.int .i64 x, .int .i64 y] 24)) (g := w1.heap.size + 1) (t := 24) (cs := #[.int .i64 u, .int .i64 y]) (by simp)).below b2
    have hB : Below w.heap.size w w2 := btr (bal (bal b1 _) _) b2
    have HK := Lib.hid (And.intro hk (And.intro hk1 hB))
    have c0 := hk.cell
    have c1 := hk1.cell
    clear hk hk1 hB b2
    go_wp2_with fail
    refine (TLS HA.out.1 _).mono ?_
    rintro e w3 ⟨rfl, b3⟩
    clear c0 c1
    have k0 := HK.out.1.below b3
    have k1 := HK.out.2.1.below b3
    have hB := btr HK.out.2.2 b3
    clear HK b3
    go_wp2_with fail
    have q0 := cgrow (k0.cell 0)
    have q1 := cgrow (k0.cell 1)
    have q2 := cgrow (k1.cell 0)
    have q3 := cgrow (k1.cell 1)
    refine wp_region_quiet_below (by kernel_rfl) (by kernel_rfl) ?_
    repeat (go_big_quiet_step (first | (go_at_call 16; exact Calls.regrown_of (TLE HA.out.2.2.2.2 _)) | (go_at_call 16; exact Calls.regrown_of (TLE HA.out.2.1 _)) | (go_at_call 16; exact Calls.regrown_of (TLE HA.out.1 _)) | (go_at_call 18; exact Calls.regrown_of (TBF HA.out.2.2.1 _)) | (go_at_call 18; exact Calls.regrown_of (TBF HA.out.2.2.2.1 _))))
    refine wpQuiet_nil ?_
    intro w4 hw4
    obtain ⟨⟨dq, osq⟩, rfl⟩ := hw4
    have hbq := btr hB (below_regrown w3 dq osq)
    generalize grow (redrawn w3 dq) osq = w5 at hbq
    clear q0 q1 q2 q3 k0 k1 hB
    go_wp2_with fail
    go_ret
    exact ⟨rfl, hbq⟩
  · have h0 : leB x y u v = false := by simp [leB] <;> omega
    have h2 : leB u v x y = true := by simp [leB] <;> omega
    have h3 : bfB x y u v = false := by simp [bfB] <;> omega
    have h4 : bfB u v x y = true := by simp [bfB] <;> omega
    have n0 : ¬ x = u := by omega
    have n0' : (x == u) = false := by rw [beq_eq_false_iff_ne]; exact n0
    have n1 : ¬ y = v := by omega
    have n1' : (y == v) = false := by rw [beq_eq_false_iff_ne]; exact n1
    have HA := Lib.hid (And.intro h0 (And.intro h2 (And.intro h3 (And.intro h4 la))))
    clear h0 h2 h3 h4 la
    go_wp2_with fail
    refine (TLE HA.out.1 _).mono ?_
    rintro e w2 ⟨rfl, b2⟩
    have hk := ((Blk.newAt (w := w1) (t := 24) (cs := #[.int .i64 x, .int .i64 y]) rfl).alloc (.cells #[.int .i64 u, .int .i64 v] 24)).below b2
    have hk1 := (Blk.newAt (w := w1.alloc (.cells #[.int .i64 x, .int .i64 y] 24)) (g := w1.heap.size + 1) (t := 24) (cs := #[.int .i64 u, .int .i64 v]) (by simp)).below b2
    have hB : Below w.heap.size w w2 := btr (bal (bal b1 _) _) b2
    have HK := Lib.hid (And.intro hk (And.intro hk1 hB))
    have c0 := hk.cell
    have c1 := hk1.cell
    clear hk hk1 hB b2
    go_wp2_with fail
    refine (TLS HA.out.1 _).mono ?_
    rintro e w3 ⟨rfl, b3⟩
    clear c0 c1
    have k0 := HK.out.1.below b3
    have k1 := HK.out.2.1.below b3
    have hB := btr HK.out.2.2 b3
    clear HK b3
    go_wp2_with fail
    have q0 := cgrow (k0.cell 0)
    have q1 := cgrow (k0.cell 1)
    have q2 := cgrow (k1.cell 0)
    have q3 := cgrow (k1.cell 1)
    refine wp_region_quiet_below (by kernel_rfl) (by kernel_rfl) ?_
    repeat (go_big_quiet_step (first | (go_at_call 16; exact Calls.regrown_of (TLE HA.out.2.2.2.2 _)) | (go_at_call 16; exact Calls.regrown_of (TLE HA.out.2.1 _)) | (go_at_call 16; exact Calls.regrown_of (TLE HA.out.1 _)) | (go_at_call 18; exact Calls.regrown_of (TBF HA.out.2.2.1 _)) | (go_at_call 18; exact Calls.regrown_of (TBF HA.out.2.2.2.1 _))))
    refine wpQuiet_nil ?_
    intro w4 hw4
    obtain ⟨⟨dq, osq⟩, rfl⟩ := hw4
    have hbq := btr hB (below_regrown w3 dq osq)
    generalize grow (redrawn w3 dq) osq = w5 at hbq
    clear q0 q1 q2 q3 k0 k1 hB
    go_wp2_with fail
    go_ret
    exact ⟨rfl, hbq⟩
namespace lawFnTimeOrder
theorem own : ownKnob Try.prog.godebug = none := by kernel_rfl
theorem laidOut : laidOutB Try.prog = true := by kernel_rfl
set_option maxRecDepth 100000 in
theorem lifted (os : Os) (started : os.Started) (H : Type) (enc : TypeId × Value → H) :
    ReturnsInHanded {} Try.checked os 3 .any (Rows.fnTimeOrderSpec.pre6 enc Try.prog Try.f3 Rows.fnTimeOrderRow.domain false) (Rows.fnTimeOrderSpec.post enc Try.prog Try.f3 false true false false) := by
  refine returnsInHanded_of_change (C := Try.checked) own started (by kernel_rfl) Try.func3
    (ChangeSpec.witness6 (enc := enc) (C := Try.checked) false ⟨#[], #[.slice none 0 0], []⟩ 8 (by kernel_rfl) (by kernel_rfl) (by kernel_rfl) (by kernel_rfl)) ?_
  intro W base args ds gs before hval0 hW hcnd _
  have hval : ∀ (j : Nat) t v, Try.f3.params[j]? = some t → args[j]? = some v → Value.okWide Try.prog W .any base t v := hval0
  have hW' := hW
  obtain ⟨p, q, hA0, hV, rfl, hfz, hnd⟩ := hW
  have hA : DataW.TrodAll enc Try.prog W 0 (fun _ => true) true Try.f3.params.toList args.toList ds p := hA0
  rw [Try.params3] at hA hval
  obtain ⟨v0, vs0, d0, ds0, p0, q0, hargs, rfl, rfl, h0, r0⟩ := trodAll_cons hA
  obtain ⟨rfl, rfl, rfl⟩ := trodAll_nil r0
  obtain rfl : args = #[v0] := by cases args; simp_all
  obtain ⟨rfl, rfl⟩ := trodVars_none hV
  have k0 := h0
  have lt0 : ∀ x ∈ p0, x.block < W.heap.size := by obtain ⟨m, hm⟩ := k0; exact DataW.trod_lt m _ _ _ hm
  obtain ⟨a0, len0, cap0, rfl⟩ := okWide_slice Try.underlying22 (hval 0 22 v0 rfl rfl)
  obtain ⟨l0, m0, w0⟩ := bytes_of Try.underlying22 Try.underlying5 (by kernel_rfl) h0
  clear hA0 hval0
  refine (FnTimeOrder_walk a0 len0 cap0 W l0 m0 w0).mono fun e W' ⟨he, bel⟩ => ?_
  subst he
  exact ⟨_, rfl, _, _, _, [], _, [], hW', trodAll_mk1 (shut_bool Try.underlying4 _), (trodAll_cons_mk (Below.trod laidOut (by kernel_rfl) (of_decide_eq_true (by kernel_rfl)) k0 bel lt0) trodAll_mk0), rfl, bel.frame _, fun h => by cases h⟩

theorem over : Rows.fnTimeOrderRow.holds Try.pinned (OpenSpec.ofChange Rows.fnTimeOrderSpec) :=
  OpenClaim.holds_of_wide 3 Try.f3 rfl rfl rfl rfl rfl rfl rfl ⟨rfl, rfl, rfl, rfl, rfl⟩ rfl rfl rfl rfl rfl (by kernel_rfl) Try.func3 (by kernel_rfl)
    (of_decide_eq_true (by kernel_rfl)) (by unfold Func.isWrapper; first | (rw [if_pos (by decide +kernel)]; kernel_rfl) | (rw [if_neg (by decide +kernel)]; exact ⟨rfl, rfl⟩))
    (fun os started H enc _ => lifted os started H enc)

/-- THE STATEMENT. -/
theorem proved : Rows.FnTimeOrderSaid := over
end lawFnTimeOrder
end Go.Proofs.Ytfndglpfhdphiaa
