/- The law FnTimeLattice returns true at every two codes; no condition. -/
import Derived.Test.YtfndglpfhdphiaaDrawV
import Derived.Test.YtfndglpfhdphiaaDrawB
import Derived.Lib.QuietBelow
namespace Go.Proofs.Ytfndglpfhdphiaa
open Go.ChangeShapes Go.WideShapes Go.ChangeAt Go.RowKit Go.Sort
set_option linter.unusedVariables false
set_option linter.unusedSimpArgs false

theorem cgrow {w : World} {b o : Nat} {v : Value} (h : w.cell? ⟨b, o, none⟩ = some v) : ∀ d os, (grow (redrawn w d) os).cell? ⟨b, o, none⟩ = some v := fun d os => cell_regrown h d os
theorem TLE {x y u v : Int} {r : Bool} (h : leB x y u v = r) (w : World) : Calls Try.prog 16 #[.agg #[.int .i64 x, .int .i64 y], .agg #[.int .i64 u, .int .i64 v]] w fun e w' => e = .returned (.bool r) ∧ Below w.heap.size w w' := h ▸ TimeLe_i x y u v w
theorem TJN {x y u v p q : Int} (h1 : max x u = p) (h2 : max y v = q) (w : World) : Calls Try.prog 20 #[.agg #[.int .i64 x, .int .i64 y], .agg #[.int .i64 u, .int .i64 v]] w fun e w' => e = .returned (.agg #[.int .i64 p, .int .i64 q]) ∧ Below w.heap.size w w' := h1 ▸ h2 ▸ TimeJoin_i x y u v w
theorem TMN {x y u v p q : Int} (h1 : min x u = p) (h2 : min y v = q) (w : World) : Calls Try.prog 21 #[.agg #[.int .i64 x, .int .i64 y], .agg #[.int .i64 u, .int .i64 v]] w fun e w' => e = .returned (.agg #[.int .i64 p, .int .i64 q]) ∧ Below w.heap.size w w' := h1 ▸ h2 ▸ TimeMeet_i x y u v w
theorem TJS {x y u v p q : Int} (h1 : max x u = p) (h2 : max y v = q) (w : World) : Calls Try.prog 22 #[.agg #[.int .i64 x, .int .i64 y], .agg #[.int .i64 u, .int .i64 v]] w fun e w' => e = .returned (.agg #[.int .i64 p, .int .i64 q]) ∧ Below w.heap.size w w' := h1 ▸ h2 ▸ TimeJoin_s x y u v w
theorem TMS {x y u v p q : Int} (h1 : min x u = p) (h2 : min y v = q) (w : World) : Calls Try.prog 23 #[.agg #[.int .i64 x, .int .i64 y], .agg #[.int .i64 u, .int .i64 v]] w fun e w' => e = .returned (.agg #[.int .i64 p, .int .i64 q]) ∧ Below w.heap.size w w' := h1 ▸ h2 ▸ TimeMeet_s x y u v w

def LatAll (w wB : World) (a0 g7 g8 c0 : Nat) (x y u v p q r s x2 y2 u2 v2 : Int) : Prop := Blk wB a0 24 #[.int .i64 x, .int .i64 y] ∧ Blk wB (a0 + 1) 24 #[.int .i64 u, .int .i64 v] ∧ Blk wB g7 24 #[.int .i64 p, .int .i64 q] ∧ Blk wB g8 24 #[.int .i64 r, .int .i64 s] ∧ Blk wB c0 24 #[.int .i64 x2, .int .i64 y2] ∧ Blk wB (c0 + 1) 24 #[.int .i64 u2, .int .i64 v2] ∧ Below w.heap.size w wB
theorem LatAll.below {w wB wC : World} {a0 g7 g8 c0 : Nat} {x y u v p q r s x2 y2 u2 v2 : Int} (h : LatAll w wB a0 g7 g8 c0 x y u v p q r s x2 y2 u2 v2) (hb : Below wB.heap.size wB wC) : LatAll w wC a0 g7 g8 c0 x y u v p q r s x2 y2 u2 v2 :=
  ⟨h.1.below hb, h.2.1.below hb, h.2.2.1.below hb, h.2.2.2.1.below hb, h.2.2.2.2.1.below hb, h.2.2.2.2.2.1.below hb, btr h.2.2.2.2.2.2 hb⟩
theorem max_min {a b m : Int} (h : min a b = m) : max a m = a := by omega
theorem min_max {a b m : Int} (h : max a b = m) : min a m = a := by omega
theorem le_join {x y u v p q a b : Int} {r1 r2 : Bool} (hp : max x u = p) (hq : max y v = q) (h1 : leB x y a b = r1) (h2 : leB u v a b = r2) : leB p q a b = (r1 && r2) := by
  subst h1 h2 hp hq; simp only [leB]; rw [← Bool.decide_and, decide_eq_decide]; omega
theorem le_meet {x y u v p q a b : Int} {r1 r2 : Bool} (hp : min x u = p) (hq : min y v = q) (h1 : leB a b x y = r1) (h2 : leB a b u v = r2) : leB a b p q = (r1 && r2) := by
  subst h1 h2 hp hq; simp only [leB]; rw [← Bool.decide_and, decide_eq_decide]; omega

def LatPre (w wB : World) (a0 g7 g8 : Nat) (x y u v p q r s : Int) : Prop := Blk wB a0 24 #[.int .i64 x, .int .i64 y] ∧ Blk wB (a0 + 1) 24 #[.int .i64 u, .int .i64 v] ∧ Blk wB g7 24 #[.int .i64 p, .int .i64 q] ∧ Blk wB g8 24 #[.int .i64 r, .int .i64 s] ∧ Below w.heap.size w wB
set_option maxHeartbeats 6000000 in
theorem FnTimeLattice_walk (A : Option Addr) (n c : Nat) (B : Option Addr) (m d : Nat) (w : World) (hc : n ≤ c) (hl : n ≤ maxLen) (hb : BytesAt w w.heap.size A n) (hd : m ≤ d) (hl2 : m ≤ maxLen) (hb2 : BytesAt w w.heap.size B m) :
    Calls Try.prog 4 #[.slice A n c, .slice B m d] w fun e w' => e = .returned (.bool true) ∧ Below w.heap.size w w' := by
  unfold maxLen at hl hl2
  by_cases hbig : 1048576 < n
  · have hb' : (1048576 : Int) < n := by omega
    go_enter Try.func4, Try.ntmps4
    go_wp2
    go_ret
    exact ⟨rfl, Below.refl _ _⟩
  by_cases hbig2 : 1048576 < m
  · have hb0 : (n : Int) ≤ 1048576 := by omega
    have hb' : (1048576 : Int) < m := by omega
    go_enter Try.func4, Try.ntmps4
    go_wp2
    go_ret
    exact ⟨rfl, Below.refl _ _⟩
  have hb' : (n : Int) ≤ 1048576 := by omega
  have hb2' : (m : Int) ≤ 1048576 := by omega
  have HB := Lib.hid (And.intro hb hb2)
  clear hb hb2 hbig hbig2
  go_enter Try.func4, Try.ntmps4
  go_wp2_with fail
  refine (DrawTimeJoin_r _ _ _ _ HB.out.1 hc (by omega)).mono ?_
  rintro e w1 ⟨x, y, u, v, rfl, b1⟩
  obtain ⟨p, hp⟩ : ∃ p, max x u = p := ⟨_, rfl⟩
  obtain ⟨q, hq⟩ : ∃ q, max y v = q := ⟨_, rfl⟩
  obtain ⟨r, hr⟩ : ∃ r, min x u = r := ⟨_, rfl⟩
  obtain ⟨s, hs⟩ : ∃ s, min y v = s := ⟨_, rfl⟩
  have HP := Lib.hid (And.intro hp (And.intro hq (And.intro hr hs)))
  clear hp hq hr hs
  go_wp2_with fail
  refine (TJN HP.out.1 HP.out.2.1 _).mono ?_
  rintro e w2 ⟨rfl, b2⟩
  have k0 := (((Blk.newAt (w := w1) (t := 24) (cs := #[.int .i64 x, .int .i64 y]) rfl).alloc (.cells #[.int .i64 u, .int .i64 v] 24)).below b2).alloc (.cells #[.int .i64 p, .int .i64 q] 24)
  have k1 := ((Blk.newAt (w := w1.alloc (.cells #[.int .i64 x, .int .i64 y] 24)) (g := w1.heap.size + 1) (t := 24) (cs := #[.int .i64 u, .int .i64 v]) (by simp)).below b2).alloc (.cells #[.int .i64 p, .int .i64 q] 24)
  have k2 := Blk.newAt (w := w2) (t := 24) (cs := #[.int .i64 p, .int .i64 q]) rfl
  have hB := bal (btr (bal (bal b1 _) _) b2) (.cells #[.int .i64 p, .int .i64 q] 24)
  have HK := Lib.hid (And.intro k0 (And.intro k1 (And.intro k2 hB)))
  have c0 := k0.cell
  have c1 := k1.cell
  clear k0 k1 k2 hB b2
  go_wp2_with fail
  refine (TMN HP.out.2.2.1 HP.out.2.2.2 _).mono ?_
  rintro e w3 ⟨rfl, b3⟩
  have HK2 : Hid (LatPre w (w3.alloc (.cells #[.int .i64 r, .int .i64 s] 24)) w1.heap.size w2.heap.size w3.heap.size x y u v p q r s) :=
    ⟨(HK.out.1.below b3).alloc _, (HK.out.2.1.below b3).alloc _, (HK.out.2.2.1.below b3).alloc _, Blk.newAt rfl, bal (btr HK.out.2.2.2 b3) _⟩
  clear HK c0 c1 b3
  go_wp2_with fail
  refine abs_world (fun wB => LatPre w wB w1.heap.size w2.heap.size w3.heap.size x y u v p q r s) HK2.out (fun wB hh => ?_)
  clear HK2
  obtain ⟨k0, k1, k2, k3, hB⟩ := hh
  have q00 := cgrow (k0.cell 0)
  have q01 := cgrow (k0.cell 1)
  have q10 := cgrow (k1.cell 0)
  have q11 := cgrow (k1.cell 1)
  have q20 := cgrow (k2.cell 0)
  have q21 := cgrow (k2.cell 1)
  have q30 := cgrow (k3.cell 0)
  have q31 := cgrow (k3.cell 1)
  refine wp_region_quiet_below (by kernel_rfl) (by kernel_rfl) ?_
  repeat (go_big_quiet_step (first | (go_at_call 22; exact Calls.regrown_of (TJS HP.out.1 HP.out.2.1 _)) | (go_at_call 23; exact Calls.regrown_of (TMS HP.out.2.2.1 HP.out.2.2.2 _))))
  refine wpQuiet_nil ?_
  intro w4 hw4
  obtain ⟨⟨dq, osq⟩, rfl⟩ := hw4
  have hbq := below_regrown wB dq osq
  have HL : Hid (LatPre w (grow (redrawn wB dq) osq) w1.heap.size w2.heap.size w3.heap.size x y u v p q r s) := ⟨k0.below hbq, k1.below hbq, k2.below hbq, k3.below hbq, btr hB hbq⟩
  generalize grow (redrawn wB dq) osq = w5 at HL
  clear q00 q01 q10 q11 q20 q21 q30 q31 k0 k1 k2 k3 hB hbq
  go_wp2_with fail
  refine (DrawTimeMeet_r _ _ _ _ (fun hn => by
    obtain ⟨b, off, e, h1, h2⟩ := (HB.out.2.below HL.out.2.2.2.2 (Nat.le_refl _)) hn
    exact ⟨b, off, e, Nat.lt_of_lt_of_le h1 HL.out.2.2.2.2.size, h2⟩) hd (by omega)).mono ?_
  rintro e w6 ⟨x2, y2, u2, v2, rfl, b6⟩
  have HA : Hid (LatAll w ((w6.alloc (.cells #[.int .i64 x2, .int .i64 y2] 24)).alloc (.cells #[.int .i64 u2, .int .i64 v2] 24)) w1.heap.size w2.heap.size w3.heap.size w6.heap.size x y u v p q r s x2 y2 u2 v2) :=
    ⟨((HL.out.1.below b6).alloc _).alloc _, ((HL.out.2.1.below b6).alloc _).alloc _, ((HL.out.2.2.1.below b6).alloc _).alloc _, ((HL.out.2.2.2.1.below b6).alloc _).alloc _, (Blk.newAt rfl).alloc _, Blk.newAt (by simp), bal (bal (btr HL.out.2.2.2.2 b6) _) _⟩
  have HF := Lib.hid (And.intro (max_min HP.out.2.2.1) (And.intro (max_min HP.out.2.2.2) (And.intro (min_max HP.out.1) (min_max HP.out.2.1))))
  clear HL b6 HB
  have k0 := HA.out.1.cell
  have k1 := HA.out.2.1.cell
  have k2 := HA.out.2.2.2.2.1.cell
  have k3 := HA.out.2.2.2.2.2.1.cell
  rcases h1 : leB x y x2 y2 with _ | _ <;> rcases h2 : leB u v x2 y2 with _ | _ <;> rcases h3 : leB u2 v2 x y with _ | _ <;> rcases h4 : leB u2 v2 u v with _ | _
  all_goals
    have HV := Lib.hid (And.intro (And.intro h1 h2) (And.intro h3 h4))
    have HJ := Lib.hid (And.intro (le_join HP.out.1 HP.out.2.1 h1 h2) (le_meet HP.out.2.2.1 HP.out.2.2.2 h3 h4))
    simp only [Bool.and_true, Bool.and_false, Bool.true_and, Bool.false_and] at HJ
    clear h1 h2 h3 h4
  · skip
    go_wp2_with fail
    refine (TLE HV.out.1.1 _).mono ?_
    rintro e wk ⟨rfl, bk⟩
    replace HA := Lib.hid (HA.out.below bk)
    replace k0 := HA.out.1.cell
    replace k1 := HA.out.2.1.cell
    replace k2 := HA.out.2.2.2.2.1.cell
    replace k3 := HA.out.2.2.2.2.2.1.cell
    clear bk
    go_wp2_with fail
    refine (TLE HV.out.2.1 _).mono ?_
    rintro e wk ⟨rfl, bk⟩
    replace HA := Lib.hid (HA.out.below bk)
    replace k0 := HA.out.1.cell
    replace k1 := HA.out.2.1.cell
    replace k2 := HA.out.2.2.2.2.1.cell
    replace k3 := HA.out.2.2.2.2.2.1.cell
    clear bk
    go_wp2_with fail
    have HA2 := Lib.hid HA.out
    clear k0 k1 k2 k3 HA
    have q00 := cgrow (HA2.out.1.cell 0)
    have q01 := cgrow (HA2.out.1.cell 1)
    have q20 := cgrow (HA2.out.2.2.1.cell 0)
    have q21 := cgrow (HA2.out.2.2.1.cell 1)
    have q30 := cgrow (HA2.out.2.2.2.1.cell 0)
    have q31 := cgrow (HA2.out.2.2.2.1.cell 1)
    have q40 := cgrow (HA2.out.2.2.2.2.1.cell 0)
    have q41 := cgrow (HA2.out.2.2.2.2.1.cell 1)
    have q50 := cgrow (HA2.out.2.2.2.2.2.1.cell 0)
    have q51 := cgrow (HA2.out.2.2.2.2.2.1.cell 1)
    refine wp_region_quiet_below (by kernel_rfl) (by kernel_rfl) ?_
    repeat (go_big_quiet_step (first | (go_at_call 16; exact Calls.regrown_of (TLE HJ.out.1 _)) | (go_at_call 16; exact Calls.regrown_of (TLE HJ.out.2 _)) | (go_at_call 20; exact Calls.regrown_of (TJN HF.out.1 HF.out.2.1 _)) | (go_at_call 21; exact Calls.regrown_of (TMN HF.out.2.2.1 HF.out.2.2.2 _))))
    refine wpQuiet_nil ?_
    intro w4 hw4
    obtain ⟨⟨dq, osq⟩, rfl⟩ := hw4
    have hbq := btr HA2.out.2.2.2.2.2.2 (below_regrown _ dq osq)
    generalize grow (redrawn _ dq) osq = w5 at hbq
    clear q00 q01 q20 q21 q30 q31 q40 q41 q50 q51
    go_wp2_with fail
    go_ret
    exact ⟨rfl, hbq⟩
  · skip
    go_wp2_with fail
    refine (TLE HV.out.1.1 _).mono ?_
    rintro e wk ⟨rfl, bk⟩
    replace HA := Lib.hid (HA.out.below bk)
    replace k0 := HA.out.1.cell
    replace k1 := HA.out.2.1.cell
    replace k2 := HA.out.2.2.2.2.1.cell
    replace k3 := HA.out.2.2.2.2.2.1.cell
    clear bk
    go_wp2_with fail
    refine (TLE HV.out.2.1 _).mono ?_
    rintro e wk ⟨rfl, bk⟩
    replace HA := Lib.hid (HA.out.below bk)
    replace k0 := HA.out.1.cell
    replace k1 := HA.out.2.1.cell
    replace k2 := HA.out.2.2.2.2.1.cell
    replace k3 := HA.out.2.2.2.2.2.1.cell
    clear bk
    go_wp2_with fail
    have HA2 := Lib.hid HA.out
    clear k0 k1 k2 k3 HA
    have q00 := cgrow (HA2.out.1.cell 0)
    have q01 := cgrow (HA2.out.1.cell 1)
    have q20 := cgrow (HA2.out.2.2.1.cell 0)
    have q21 := cgrow (HA2.out.2.2.1.cell 1)
    have q30 := cgrow (HA2.out.2.2.2.1.cell 0)
    have q31 := cgrow (HA2.out.2.2.2.1.cell 1)
    have q40 := cgrow (HA2.out.2.2.2.2.1.cell 0)
    have q41 := cgrow (HA2.out.2.2.2.2.1.cell 1)
    have q50 := cgrow (HA2.out.2.2.2.2.2.1.cell 0)
    have q51 := cgrow (HA2.out.2.2.2.2.2.1.cell 1)
    refine wp_region_quiet_below (by kernel_rfl) (by kernel_rfl) ?_
    repeat (go_big_quiet_step (first | (go_at_call 16; exact Calls.regrown_of (TLE HJ.out.1 _)) | (go_at_call 16; exact Calls.regrown_of (TLE HJ.out.2 _)) | (go_at_call 20; exact Calls.regrown_of (TJN HF.out.1 HF.out.2.1 _)) | (go_at_call 21; exact Calls.regrown_of (TMN HF.out.2.2.1 HF.out.2.2.2 _))))
    refine wpQuiet_nil ?_
    intro w4 hw4
    obtain ⟨⟨dq, osq⟩, rfl⟩ := hw4
    have hbq := btr HA2.out.2.2.2.2.2.2 (below_regrown _ dq osq)
    generalize grow (redrawn _ dq) osq = w5 at hbq
    clear q00 q01 q20 q21 q30 q31 q40 q41 q50 q51
    go_wp2_with fail
    go_ret
    exact ⟨rfl, hbq⟩
  · skip
    go_wp2_with fail
    refine (TLE HV.out.1.1 _).mono ?_
    rintro e wk ⟨rfl, bk⟩
    replace HA := Lib.hid (HA.out.below bk)
    replace k0 := HA.out.1.cell
    replace k1 := HA.out.2.1.cell
    replace k2 := HA.out.2.2.2.2.1.cell
    replace k3 := HA.out.2.2.2.2.2.1.cell
    clear bk
    go_wp2_with fail
    refine (TLE HV.out.2.1 _).mono ?_
    rintro e wk ⟨rfl, bk⟩
    replace HA := Lib.hid (HA.out.below bk)
    replace k0 := HA.out.1.cell
    replace k1 := HA.out.2.1.cell
    replace k2 := HA.out.2.2.2.2.1.cell
    replace k3 := HA.out.2.2.2.2.2.1.cell
    clear bk
    go_wp2_with fail
    refine (TLE HV.out.2.2 _).mono ?_
    rintro e wk ⟨rfl, bk⟩
    replace HA := Lib.hid (HA.out.below bk)
    replace k0 := HA.out.1.cell
    replace k1 := HA.out.2.1.cell
    replace k2 := HA.out.2.2.2.2.1.cell
    replace k3 := HA.out.2.2.2.2.2.1.cell
    clear bk
    go_wp2_with fail
    have HA2 := Lib.hid HA.out
    clear k0 k1 k2 k3 HA
    have q00 := cgrow (HA2.out.1.cell 0)
    have q01 := cgrow (HA2.out.1.cell 1)
    have q20 := cgrow (HA2.out.2.2.1.cell 0)
    have q21 := cgrow (HA2.out.2.2.1.cell 1)
    have q30 := cgrow (HA2.out.2.2.2.1.cell 0)
    have q31 := cgrow (HA2.out.2.2.2.1.cell 1)
    have q40 := cgrow (HA2.out.2.2.2.2.1.cell 0)
    have q41 := cgrow (HA2.out.2.2.2.2.1.cell 1)
    have q50 := cgrow (HA2.out.2.2.2.2.2.1.cell 0)
    have q51 := cgrow (HA2.out.2.2.2.2.2.1.cell 1)
    refine wp_region_quiet_below (by kernel_rfl) (by kernel_rfl) ?_
    repeat (go_big_quiet_step (first | (go_at_call 16; exact Calls.regrown_of (TLE HJ.out.1 _)) | (go_at_call 16; exact Calls.regrown_of (TLE HJ.out.2 _)) | (go_at_call 20; exact Calls.regrown_of (TJN HF.out.1 HF.out.2.1 _)) | (go_at_call 21; exact Calls.regrown_of (TMN HF.out.2.2.1 HF.out.2.2.2 _))))
    refine wpQuiet_nil ?_
    intro w4 hw4
    obtain ⟨⟨dq, osq⟩, rfl⟩ := hw4
    have hbq := btr HA2.out.2.2.2.2.2.2 (below_regrown _ dq osq)
    generalize grow (redrawn _ dq) osq = w5 at hbq
    clear q00 q01 q20 q21 q30 q31 q40 q41 q50 q51
    go_wp2_with fail
    go_ret
    exact ⟨rfl, hbq⟩
  · skip
    go_wp2_with fail
    refine (TLE HV.out.1.1 _).mono ?_
    rintro e wk ⟨rfl, bk⟩
    replace HA := Lib.hid (HA.out.below bk)
    replace k0 := HA.out.1.cell
    replace k1 := HA.out.2.1.cell
    replace k2 := HA.out.2.2.2.2.1.cell
    replace k3 := HA.out.2.2.2.2.2.1.cell
    clear bk
    go_wp2_with fail
    refine (TLE HV.out.2.1 _).mono ?_
    rintro e wk ⟨rfl, bk⟩
    replace HA := Lib.hid (HA.out.below bk)
    replace k0 := HA.out.1.cell
    replace k1 := HA.out.2.1.cell
    replace k2 := HA.out.2.2.2.2.1.cell
    replace k3 := HA.out.2.2.2.2.2.1.cell
    clear bk
    go_wp2_with fail
    refine (TLE HV.out.2.2 _).mono ?_
    rintro e wk ⟨rfl, bk⟩
    replace HA := Lib.hid (HA.out.below bk)
    replace k0 := HA.out.1.cell
    replace k1 := HA.out.2.1.cell
    replace k2 := HA.out.2.2.2.2.1.cell
    replace k3 := HA.out.2.2.2.2.2.1.cell
    clear bk
    go_wp2_with fail
    have HA2 := Lib.hid HA.out
    clear k0 k1 k2 k3 HA
    have q00 := cgrow (HA2.out.1.cell 0)
    have q01 := cgrow (HA2.out.1.cell 1)
    have q20 := cgrow (HA2.out.2.2.1.cell 0)
    have q21 := cgrow (HA2.out.2.2.1.cell 1)
    have q30 := cgrow (HA2.out.2.2.2.1.cell 0)
    have q31 := cgrow (HA2.out.2.2.2.1.cell 1)
    have q40 := cgrow (HA2.out.2.2.2.2.1.cell 0)
    have q41 := cgrow (HA2.out.2.2.2.2.1.cell 1)
    have q50 := cgrow (HA2.out.2.2.2.2.2.1.cell 0)
    have q51 := cgrow (HA2.out.2.2.2.2.2.1.cell 1)
    refine wp_region_quiet_below (by kernel_rfl) (by kernel_rfl) ?_
    repeat (go_big_quiet_step (first | (go_at_call 16; exact Calls.regrown_of (TLE HJ.out.1 _)) | (go_at_call 16; exact Calls.regrown_of (TLE HJ.out.2 _)) | (go_at_call 20; exact Calls.regrown_of (TJN HF.out.1 HF.out.2.1 _)) | (go_at_call 21; exact Calls.regrown_of (TMN HF.out.2.2.1 HF.out.2.2.2 _))))
    refine wpQuiet_nil ?_
    intro w4 hw4
    obtain ⟨⟨dq, osq⟩, rfl⟩ := hw4
    have hbq := btr HA2.out.2.2.2.2.2.2 (below_regrown _ dq osq)
    generalize grow (redrawn _ dq) osq = w5 at hbq
    clear q00 q01 q20 q21 q30 q31 q40 q41 q50 q51
    go_wp2_with fail
    go_ret
    exact ⟨rfl, hbq⟩
  · skip
    go_wp2_with fail
    refine (TLE HV.out.1.1 _).mono ?_
    rintro e wk ⟨rfl, bk⟩
    replace HA := Lib.hid (HA.out.below bk)
    replace k0 := HA.out.1.cell
    replace k1 := HA.out.2.1.cell
    replace k2 := HA.out.2.2.2.2.1.cell
    replace k3 := HA.out.2.2.2.2.2.1.cell
    clear bk
    go_wp2_with fail
    refine (TLE HV.out.2.1 _).mono ?_
    rintro e wk ⟨rfl, bk⟩
    replace HA := Lib.hid (HA.out.below bk)
    replace k0 := HA.out.1.cell
    replace k1 := HA.out.2.1.cell
    replace k2 := HA.out.2.2.2.2.1.cell
    replace k3 := HA.out.2.2.2.2.2.1.cell
    clear bk
    go_wp2_with fail
    have HA2 := Lib.hid HA.out
    clear k0 k1 k2 k3 HA
    have q00 := cgrow (HA2.out.1.cell 0)
    have q01 := cgrow (HA2.out.1.cell 1)
    have q20 := cgrow (HA2.out.2.2.1.cell 0)
    have q21 := cgrow (HA2.out.2.2.1.cell 1)
    have q30 := cgrow (HA2.out.2.2.2.1.cell 0)
    have q31 := cgrow (HA2.out.2.2.2.1.cell 1)
    have q40 := cgrow (HA2.out.2.2.2.2.1.cell 0)
    have q41 := cgrow (HA2.out.2.2.2.2.1.cell 1)
    have q50 := cgrow (HA2.out.2.2.2.2.2.1.cell 0)
    have q51 := cgrow (HA2.out.2.2.2.2.2.1.cell 1)
    refine wp_region_quiet_below (by kernel_rfl) (by kernel_rfl) ?_
    repeat (go_big_quiet_step (first | (go_at_call 16; exact Calls.regrown_of (TLE HJ.out.1 _)) | (go_at_call 16; exact Calls.regrown_of (TLE HJ.out.2 _)) | (go_at_call 20; exact Calls.regrown_of (TJN HF.out.1 HF.out.2.1 _)) | (go_at_call 21; exact Calls.regrown_of (TMN HF.out.2.2.1 HF.out.2.2.2 _))))
    refine wpQuiet_nil ?_
    intro w4 hw4
    obtain ⟨⟨dq, osq⟩, rfl⟩ := hw4
    have hbq := btr HA2.out.2.2.2.2.2.2 (below_regrown _ dq osq)
    generalize grow (redrawn _ dq) osq = w5 at hbq
    clear q00 q01 q20 q21 q30 q31 q40 q41 q50 q51
    go_wp2_with fail
    go_ret
    exact ⟨rfl, hbq⟩
  · skip
    go_wp2_with fail
    refine (TLE HV.out.1.1 _).mono ?_
    rintro e wk ⟨rfl, bk⟩
    replace HA := Lib.hid (HA.out.below bk)
    replace k0 := HA.out.1.cell
    replace k1 := HA.out.2.1.cell
    replace k2 := HA.out.2.2.2.2.1.cell
    replace k3 := HA.out.2.2.2.2.2.1.cell
    clear bk
    go_wp2_with fail
    refine (TLE HV.out.2.1 _).mono ?_
    rintro e wk ⟨rfl, bk⟩
    replace HA := Lib.hid (HA.out.below bk)
    replace k0 := HA.out.1.cell
    replace k1 := HA.out.2.1.cell
    replace k2 := HA.out.2.2.2.2.1.cell
    replace k3 := HA.out.2.2.2.2.2.1.cell
    clear bk
    go_wp2_with fail
    have HA2 := Lib.hid HA.out
    clear k0 k1 k2 k3 HA
    have q00 := cgrow (HA2.out.1.cell 0)
    have q01 := cgrow (HA2.out.1.cell 1)
    have q20 := cgrow (HA2.out.2.2.1.cell 0)
    have q21 := cgrow (HA2.out.2.2.1.cell 1)
    have q30 := cgrow (HA2.out.2.2.2.1.cell 0)
    have q31 := cgrow (HA2.out.2.2.2.1.cell 1)
    have q40 := cgrow (HA2.out.2.2.2.2.1.cell 0)
    have q41 := cgrow (HA2.out.2.2.2.2.1.cell 1)
    have q50 := cgrow (HA2.out.2.2.2.2.2.1.cell 0)
    have q51 := cgrow (HA2.out.2.2.2.2.2.1.cell 1)
    refine wp_region_quiet_below (by kernel_rfl) (by kernel_rfl) ?_
    repeat (go_big_quiet_step (first | (go_at_call 16; exact Calls.regrown_of (TLE HJ.out.1 _)) | (go_at_call 16; exact Calls.regrown_of (TLE HJ.out.2 _)) | (go_at_call 20; exact Calls.regrown_of (TJN HF.out.1 HF.out.2.1 _)) | (go_at_call 21; exact Calls.regrown_of (TMN HF.out.2.2.1 HF.out.2.2.2 _))))
    refine wpQuiet_nil ?_
    intro w4 hw4
    obtain ⟨⟨dq, osq⟩, rfl⟩ := hw4
    have hbq := btr HA2.out.2.2.2.2.2.2 (below_regrown _ dq osq)
    generalize grow (redrawn _ dq) osq = w5 at hbq
    clear q00 q01 q20 q21 q30 q31 q40 q41 q50 q51
    go_wp2_with fail
    go_ret
    exact ⟨rfl, hbq⟩
  · skip
    go_wp2_with fail
    refine (TLE HV.out.1.1 _).mono ?_
    rintro e wk ⟨rfl, bk⟩
    replace HA := Lib.hid (HA.out.below bk)
    replace k0 := HA.out.1.cell
    replace k1 := HA.out.2.1.cell
    replace k2 := HA.out.2.2.2.2.1.cell
    replace k3 := HA.out.2.2.2.2.2.1.cell
    clear bk
    go_wp2_with fail
    refine (TLE HV.out.2.1 _).mono ?_
    rintro e wk ⟨rfl, bk⟩
    replace HA := Lib.hid (HA.out.below bk)
    replace k0 := HA.out.1.cell
    replace k1 := HA.out.2.1.cell
    replace k2 := HA.out.2.2.2.2.1.cell
    replace k3 := HA.out.2.2.2.2.2.1.cell
    clear bk
    go_wp2_with fail
    refine (TLE HV.out.2.2 _).mono ?_
    rintro e wk ⟨rfl, bk⟩
    replace HA := Lib.hid (HA.out.below bk)
    replace k0 := HA.out.1.cell
    replace k1 := HA.out.2.1.cell
    replace k2 := HA.out.2.2.2.2.1.cell
    replace k3 := HA.out.2.2.2.2.2.1.cell
    clear bk
    go_wp2_with fail
    have HA2 := Lib.hid HA.out
    clear k0 k1 k2 k3 HA
    have q00 := cgrow (HA2.out.1.cell 0)
    have q01 := cgrow (HA2.out.1.cell 1)
    have q20 := cgrow (HA2.out.2.2.1.cell 0)
    have q21 := cgrow (HA2.out.2.2.1.cell 1)
    have q30 := cgrow (HA2.out.2.2.2.1.cell 0)
    have q31 := cgrow (HA2.out.2.2.2.1.cell 1)
    have q40 := cgrow (HA2.out.2.2.2.2.1.cell 0)
    have q41 := cgrow (HA2.out.2.2.2.2.1.cell 1)
    have q50 := cgrow (HA2.out.2.2.2.2.2.1.cell 0)
    have q51 := cgrow (HA2.out.2.2.2.2.2.1.cell 1)
    refine wp_region_quiet_below (by kernel_rfl) (by kernel_rfl) ?_
    repeat (go_big_quiet_step (first | (go_at_call 16; exact Calls.regrown_of (TLE HJ.out.1 _)) | (go_at_call 16; exact Calls.regrown_of (TLE HJ.out.2 _)) | (go_at_call 20; exact Calls.regrown_of (TJN HF.out.1 HF.out.2.1 _)) | (go_at_call 21; exact Calls.regrown_of (TMN HF.out.2.2.1 HF.out.2.2.2 _))))
    refine wpQuiet_nil ?_
    intro w4 hw4
    obtain ⟨⟨dq, osq⟩, rfl⟩ := hw4
    have hbq := btr HA2.out.2.2.2.2.2.2 (below_regrown _ dq osq)
    generalize grow (redrawn _ dq) osq = w5 at hbq
    clear q00 q01 q20 q21 q30 q31 q40 q41 q50 q51
    go_wp2_with fail
    go_ret
    exact ⟨rfl, hbq⟩
  · skip
    go_wp2_with fail
    refine (TLE HV.out.1.1 _).mono ?_
    rintro e wk ⟨rfl, bk⟩
    replace HA := Lib.hid (HA.out.below bk)
    replace k0 := HA.out.1.cell
    replace k1 := HA.out.2.1.cell
    replace k2 := HA.out.2.2.2.2.1.cell
    replace k3 := HA.out.2.2.2.2.2.1.cell
    clear bk
    go_wp2_with fail
    refine (TLE HV.out.2.1 _).mono ?_
    rintro e wk ⟨rfl, bk⟩
    replace HA := Lib.hid (HA.out.below bk)
    replace k0 := HA.out.1.cell
    replace k1 := HA.out.2.1.cell
    replace k2 := HA.out.2.2.2.2.1.cell
    replace k3 := HA.out.2.2.2.2.2.1.cell
    clear bk
    go_wp2_with fail
    refine (TLE HV.out.2.2 _).mono ?_
    rintro e wk ⟨rfl, bk⟩
    replace HA := Lib.hid (HA.out.below bk)
    replace k0 := HA.out.1.cell
    replace k1 := HA.out.2.1.cell
    replace k2 := HA.out.2.2.2.2.1.cell
    replace k3 := HA.out.2.2.2.2.2.1.cell
    clear bk
    go_wp2_with fail
    have HA2 := Lib.hid HA.out
    clear k0 k1 k2 k3 HA
    have q00 := cgrow (HA2.out.1.cell 0)
    have q01 := cgrow (HA2.out.1.cell 1)
    have q20 := cgrow (HA2.out.2.2.1.cell 0)
    have q21 := cgrow (HA2.out.2.2.1.cell 1)
    have q30 := cgrow (HA2.out.2.2.2.1.cell 0)
    have q31 := cgrow (HA2.out.2.2.2.1.cell 1)
    have q40 := cgrow (HA2.out.2.2.2.2.1.cell 0)
    have q41 := cgrow (HA2.out.2.2.2.2.1.cell 1)
    have q50 := cgrow (HA2.out.2.2.2.2.2.1.cell 0)
    have q51 := cgrow (HA2.out.2.2.2.2.2.1.cell 1)
    refine wp_region_quiet_below (by kernel_rfl) (by kernel_rfl) ?_
    repeat (go_big_quiet_step (first | (go_at_call 16; exact Calls.regrown_of (TLE HJ.out.1 _)) | (go_at_call 16; exact Calls.regrown_of (TLE HJ.out.2 _)) | (go_at_call 20; exact Calls.regrown_of (TJN HF.out.1 HF.out.2.1 _)) | (go_at_call 21; exact Calls.regrown_of (TMN HF.out.2.2.1 HF.out.2.2.2 _))))
    refine wpQuiet_nil ?_
    intro w4 hw4
    obtain ⟨⟨dq, osq⟩, rfl⟩ := hw4
    have hbq := btr HA2.out.2.2.2.2.2.2 (below_regrown _ dq osq)
    generalize grow (redrawn _ dq) osq = w5 at hbq
    clear q00 q01 q20 q21 q30 q31 q40 q41 q50 q51
    go_wp2_with fail
    go_ret
    exact ⟨rfl, hbq⟩
  · skip
    go_wp2_with fail
    refine (TLE HV.out.1.1 _).mono ?_
    rintro e wk ⟨rfl, bk⟩
    replace HA := Lib.hid (HA.out.below bk)
    replace k0 := HA.out.1.cell
    replace k1 := HA.out.2.1.cell
    replace k2 := HA.out.2.2.2.2.1.cell
    replace k3 := HA.out.2.2.2.2.2.1.cell
    clear bk
    go_wp2_with fail
    refine (TLE HV.out.1.2 _).mono ?_
    rintro e wk ⟨rfl, bk⟩
    replace HA := Lib.hid (HA.out.below bk)
    replace k0 := HA.out.1.cell
    replace k1 := HA.out.2.1.cell
    replace k2 := HA.out.2.2.2.2.1.cell
    replace k3 := HA.out.2.2.2.2.2.1.cell
    clear bk
    go_wp2_with fail
    refine (TLE HV.out.2.1 _).mono ?_
    rintro e wk ⟨rfl, bk⟩
    replace HA := Lib.hid (HA.out.below bk)
    replace k0 := HA.out.1.cell
    replace k1 := HA.out.2.1.cell
    replace k2 := HA.out.2.2.2.2.1.cell
    replace k3 := HA.out.2.2.2.2.2.1.cell
    clear bk
    go_wp2_with fail
    have HA2 := Lib.hid HA.out
    clear k0 k1 k2 k3 HA
    have q00 := cgrow (HA2.out.1.cell 0)
    have q01 := cgrow (HA2.out.1.cell 1)
    have q20 := cgrow (HA2.out.2.2.1.cell 0)
    have q21 := cgrow (HA2.out.2.2.1.cell 1)
    have q30 := cgrow (HA2.out.2.2.2.1.cell 0)
    have q31 := cgrow (HA2.out.2.2.2.1.cell 1)
    have q40 := cgrow (HA2.out.2.2.2.2.1.cell 0)
    have q41 := cgrow (HA2.out.2.2.2.2.1.cell 1)
    have q50 := cgrow (HA2.out.2.2.2.2.2.1.cell 0)
    have q51 := cgrow (HA2.out.2.2.2.2.2.1.cell 1)
    refine wp_region_quiet_below (by kernel_rfl) (by kernel_rfl) ?_
    repeat (go_big_quiet_step (first | (go_at_call 16; exact Calls.regrown_of (TLE HJ.out.1 _)) | (go_at_call 16; exact Calls.regrown_of (TLE HJ.out.2 _)) | (go_at_call 20; exact Calls.regrown_of (TJN HF.out.1 HF.out.2.1 _)) | (go_at_call 21; exact Calls.regrown_of (TMN HF.out.2.2.1 HF.out.2.2.2 _))))
    refine wpQuiet_nil ?_
    intro w4 hw4
    obtain ⟨⟨dq, osq⟩, rfl⟩ := hw4
    have hbq := btr HA2.out.2.2.2.2.2.2 (below_regrown _ dq osq)
    generalize grow (redrawn _ dq) osq = w5 at hbq
    clear q00 q01 q20 q21 q30 q31 q40 q41 q50 q51
    go_wp2_with fail
    go_ret
    exact ⟨rfl, hbq⟩
  · skip
    go_wp2_with fail
    refine (TLE HV.out.1.1 _).mono ?_
    rintro e wk ⟨rfl, bk⟩
    replace HA := Lib.hid (HA.out.below bk)
    replace k0 := HA.out.1.cell
    replace k1 := HA.out.2.1.cell
    replace k2 := HA.out.2.2.2.2.1.cell
    replace k3 := HA.out.2.2.2.2.2.1.cell
    clear bk
    go_wp2_with fail
    refine (TLE HV.out.1.2 _).mono ?_
    rintro e wk ⟨rfl, bk⟩
    replace HA := Lib.hid (HA.out.below bk)
    replace k0 := HA.out.1.cell
    replace k1 := HA.out.2.1.cell
    replace k2 := HA.out.2.2.2.2.1.cell
    replace k3 := HA.out.2.2.2.2.2.1.cell
    clear bk
    go_wp2_with fail
    refine (TLE HV.out.2.1 _).mono ?_
    rintro e wk ⟨rfl, bk⟩
    replace HA := Lib.hid (HA.out.below bk)
    replace k0 := HA.out.1.cell
    replace k1 := HA.out.2.1.cell
    replace k2 := HA.out.2.2.2.2.1.cell
    replace k3 := HA.out.2.2.2.2.2.1.cell
    clear bk
    go_wp2_with fail
    have HA2 := Lib.hid HA.out
    clear k0 k1 k2 k3 HA
    have q00 := cgrow (HA2.out.1.cell 0)
    have q01 := cgrow (HA2.out.1.cell 1)
    have q20 := cgrow (HA2.out.2.2.1.cell 0)
    have q21 := cgrow (HA2.out.2.2.1.cell 1)
    have q30 := cgrow (HA2.out.2.2.2.1.cell 0)
    have q31 := cgrow (HA2.out.2.2.2.1.cell 1)
    have q40 := cgrow (HA2.out.2.2.2.2.1.cell 0)
    have q41 := cgrow (HA2.out.2.2.2.2.1.cell 1)
    have q50 := cgrow (HA2.out.2.2.2.2.2.1.cell 0)
    have q51 := cgrow (HA2.out.2.2.2.2.2.1.cell 1)
    refine wp_region_quiet_below (by kernel_rfl) (by kernel_rfl) ?_
    repeat (go_big_quiet_step (first | (go_at_call 16; exact Calls.regrown_of (TLE HJ.out.1 _)) | (go_at_call 16; exact Calls.regrown_of (TLE HJ.out.2 _)) | (go_at_call 20; exact Calls.regrown_of (TJN HF.out.1 HF.out.2.1 _)) | (go_at_call 21; exact Calls.regrown_of (TMN HF.out.2.2.1 HF.out.2.2.2 _))))
    refine wpQuiet_nil ?_
    intro w4 hw4
    obtain ⟨⟨dq, osq⟩, rfl⟩ := hw4
    have hbq := btr HA2.out.2.2.2.2.2.2 (below_regrown _ dq osq)
    generalize grow (redrawn _ dq) osq = w5 at hbq
    clear q00 q01 q20 q21 q30 q31 q40 q41 q50 q51
    go_wp2_with fail
    go_ret
    exact ⟨rfl, hbq⟩
  · skip
    go_wp2_with fail
    refine (TLE HV.out.1.1 _).mono ?_
    rintro e wk ⟨rfl, bk⟩
    replace HA := Lib.hid (HA.out.below bk)
    replace k0 := HA.out.1.cell
    replace k1 := HA.out.2.1.cell
    replace k2 := HA.out.2.2.2.2.1.cell
    replace k3 := HA.out.2.2.2.2.2.1.cell
    clear bk
    go_wp2_with fail
    refine (TLE HV.out.1.2 _).mono ?_
    rintro e wk ⟨rfl, bk⟩
    replace HA := Lib.hid (HA.out.below bk)
    replace k0 := HA.out.1.cell
    replace k1 := HA.out.2.1.cell
    replace k2 := HA.out.2.2.2.2.1.cell
    replace k3 := HA.out.2.2.2.2.2.1.cell
    clear bk
    go_wp2_with fail
    refine (TLE HV.out.2.1 _).mono ?_
    rintro e wk ⟨rfl, bk⟩
    replace HA := Lib.hid (HA.out.below bk)
    replace k0 := HA.out.1.cell
    replace k1 := HA.out.2.1.cell
    replace k2 := HA.out.2.2.2.2.1.cell
    replace k3 := HA.out.2.2.2.2.2.1.cell
    clear bk
    go_wp2_with fail
    refine (TLE HV.out.2.2 _).mono ?_
    rintro e wk ⟨rfl, bk⟩
    replace HA := Lib.hid (HA.out.below bk)
    replace k0 := HA.out.1.cell
    replace k1 := HA.out.2.1.cell
    replace k2 := HA.out.2.2.2.2.1.cell
    replace k3 := HA.out.2.2.2.2.2.1.cell
    clear bk
    go_wp2_with fail
    have HA2 := Lib.hid HA.out
    clear k0 k1 k2 k3 HA
    have q00 := cgrow (HA2.out.1.cell 0)
    have q01 := cgrow (HA2.out.1.cell 1)
    have q20 := cgrow (HA2.out.2.2.1.cell 0)
    have q21 := cgrow (HA2.out.2.2.1.cell 1)
    have q30 := cgrow (HA2.out.2.2.2.1.cell 0)
    have q31 := cgrow (HA2.out.2.2.2.1.cell 1)
    have q40 := cgrow (HA2.out.2.2.2.2.1.cell 0)
    have q41 := cgrow (HA2.out.2.2.2.2.1.cell 1)
    have q50 := cgrow (HA2.out.2.2.2.2.2.1.cell 0)
    have q51 := cgrow (HA2.out.2.2.2.2.2.1.cell 1)
    refine wp_region_quiet_below (by kernel_rfl) (by kernel_rfl) ?_
    repeat (go_big_quiet_step (first | (go_at_call 16; exact Calls.regrown_of (TLE HJ.out.1 _)) | (go_at_call 16; exact Calls.regrown_of (TLE HJ.out.2 _)) | (go_at_call 20; exact Calls.regrown_of (TJN HF.out.1 HF.out.2.1 _)) | (go_at_call 21; exact Calls.regrown_of (TMN HF.out.2.2.1 HF.out.2.2.2 _))))
    refine wpQuiet_nil ?_
    intro w4 hw4
    obtain ⟨⟨dq, osq⟩, rfl⟩ := hw4
    have hbq := btr HA2.out.2.2.2.2.2.2 (below_regrown _ dq osq)
    generalize grow (redrawn _ dq) osq = w5 at hbq
    clear q00 q01 q20 q21 q30 q31 q40 q41 q50 q51
    go_wp2_with fail
    go_ret
    exact ⟨rfl, hbq⟩
  · skip
    go_wp2_with fail
    refine (TLE HV.out.1.1 _).mono ?_
    rintro e wk ⟨rfl, bk⟩
    replace HA := Lib.hid (HA.out.below bk)
    replace k0 := HA.out.1.cell
    replace k1 := HA.out.2.1.cell
    replace k2 := HA.out.2.2.2.2.1.cell
    replace k3 := HA.out.2.2.2.2.2.1.cell
    clear bk
    go_wp2_with fail
    refine (TLE HV.out.1.2 _).mono ?_
    rintro e wk ⟨rfl, bk⟩
    replace HA := Lib.hid (HA.out.below bk)
    replace k0 := HA.out.1.cell
    replace k1 := HA.out.2.1.cell
    replace k2 := HA.out.2.2.2.2.1.cell
    replace k3 := HA.out.2.2.2.2.2.1.cell
    clear bk
    go_wp2_with fail
    refine (TLE HV.out.2.1 _).mono ?_
    rintro e wk ⟨rfl, bk⟩
    replace HA := Lib.hid (HA.out.below bk)
    replace k0 := HA.out.1.cell
    replace k1 := HA.out.2.1.cell
    replace k2 := HA.out.2.2.2.2.1.cell
    replace k3 := HA.out.2.2.2.2.2.1.cell
    clear bk
    go_wp2_with fail
    refine (TLE HV.out.2.2 _).mono ?_
    rintro e wk ⟨rfl, bk⟩
    replace HA := Lib.hid (HA.out.below bk)
    replace k0 := HA.out.1.cell
    replace k1 := HA.out.2.1.cell
    replace k2 := HA.out.2.2.2.2.1.cell
    replace k3 := HA.out.2.2.2.2.2.1.cell
    clear bk
    go_wp2_with fail
    have HA2 := Lib.hid HA.out
    clear k0 k1 k2 k3 HA
    have q00 := cgrow (HA2.out.1.cell 0)
    have q01 := cgrow (HA2.out.1.cell 1)
    have q20 := cgrow (HA2.out.2.2.1.cell 0)
    have q21 := cgrow (HA2.out.2.2.1.cell 1)
    have q30 := cgrow (HA2.out.2.2.2.1.cell 0)
    have q31 := cgrow (HA2.out.2.2.2.1.cell 1)
    have q40 := cgrow (HA2.out.2.2.2.2.1.cell 0)
    have q41 := cgrow (HA2.out.2.2.2.2.1.cell 1)
    have q50 := cgrow (HA2.out.2.2.2.2.2.1.cell 0)
    have q51 := cgrow (HA2.out.2.2.2.2.2.1.cell 1)
    refine wp_region_quiet_below (by kernel_rfl) (by kernel_rfl) ?_
    repeat (go_big_quiet_step (first | (go_at_call 16; exact Calls.regrown_of (TLE HJ.out.1 _)) | (go_at_call 16; exact Calls.regrown_of (TLE HJ.out.2 _)) | (go_at_call 20; exact Calls.regrown_of (TJN HF.out.1 HF.out.2.1 _)) | (go_at_call 21; exact Calls.regrown_of (TMN HF.out.2.2.1 HF.out.2.2.2 _))))
    refine wpQuiet_nil ?_
    intro w4 hw4
    obtain ⟨⟨dq, osq⟩, rfl⟩ := hw4
    have hbq := btr HA2.out.2.2.2.2.2.2 (below_regrown _ dq osq)
    generalize grow (redrawn _ dq) osq = w5 at hbq
    clear q00 q01 q20 q21 q30 q31 q40 q41 q50 q51
    go_wp2_with fail
    go_ret
    exact ⟨rfl, hbq⟩
  · skip
    go_wp2_with fail
    refine (TLE HV.out.1.1 _).mono ?_
    rintro e wk ⟨rfl, bk⟩
    replace HA := Lib.hid (HA.out.below bk)
    replace k0 := HA.out.1.cell
    replace k1 := HA.out.2.1.cell
    replace k2 := HA.out.2.2.2.2.1.cell
    replace k3 := HA.out.2.2.2.2.2.1.cell
    clear bk
    go_wp2_with fail
    refine (TLE HV.out.1.2 _).mono ?_
    rintro e wk ⟨rfl, bk⟩
    replace HA := Lib.hid (HA.out.below bk)
    replace k0 := HA.out.1.cell
    replace k1 := HA.out.2.1.cell
    replace k2 := HA.out.2.2.2.2.1.cell
    replace k3 := HA.out.2.2.2.2.2.1.cell
    clear bk
    go_wp2_with fail
    refine (TLE HV.out.2.1 _).mono ?_
    rintro e wk ⟨rfl, bk⟩
    replace HA := Lib.hid (HA.out.below bk)
    replace k0 := HA.out.1.cell
    replace k1 := HA.out.2.1.cell
    replace k2 := HA.out.2.2.2.2.1.cell
    replace k3 := HA.out.2.2.2.2.2.1.cell
    clear bk
    go_wp2_with fail
    have HA2 := Lib.hid HA.out
    clear k0 k1 k2 k3 HA
    have q00 := cgrow (HA2.out.1.cell 0)
    have q01 := cgrow (HA2.out.1.cell 1)
    have q20 := cgrow (HA2.out.2.2.1.cell 0)
    have q21 := cgrow (HA2.out.2.2.1.cell 1)
    have q30 := cgrow (HA2.out.2.2.2.1.cell 0)
    have q31 := cgrow (HA2.out.2.2.2.1.cell 1)
    have q40 := cgrow (HA2.out.2.2.2.2.1.cell 0)
    have q41 := cgrow (HA2.out.2.2.2.2.1.cell 1)
    have q50 := cgrow (HA2.out.2.2.2.2.2.1.cell 0)
    have q51 := cgrow (HA2.out.2.2.2.2.2.1.cell 1)
    refine wp_region_quiet_below (by kernel_rfl) (by kernel_rfl) ?_
    repeat (go_big_quiet_step (first | (go_at_call 16; exact Calls.regrown_of (TLE HJ.out.1 _)) | (go_at_call 16; exact Calls.regrown_of (TLE HJ.out.2 _)) | (go_at_call 20; exact Calls.regrown_of (TJN HF.out.1 HF.out.2.1 _)) | (go_at_call 21; exact Calls.regrown_of (TMN HF.out.2.2.1 HF.out.2.2.2 _))))
    refine wpQuiet_nil ?_
    intro w4 hw4
    obtain ⟨⟨dq, osq⟩, rfl⟩ := hw4
    have hbq := btr HA2.out.2.2.2.2.2.2 (below_regrown _ dq osq)
    generalize grow (redrawn _ dq) osq = w5 at hbq
    clear q00 q01 q20 q21 q30 q31 q40 q41 q50 q51
    go_wp2_with fail
    go_ret
    exact ⟨rfl, hbq⟩
  · skip
    go_wp2_with fail
    refine (TLE HV.out.1.1 _).mono ?_
    rintro e wk ⟨rfl, bk⟩
    replace HA := Lib.hid (HA.out.below bk)
    replace k0 := HA.out.1.cell
    replace k1 := HA.out.2.1.cell
    replace k2 := HA.out.2.2.2.2.1.cell
    replace k3 := HA.out.2.2.2.2.2.1.cell
    clear bk
    go_wp2_with fail
    refine (TLE HV.out.1.2 _).mono ?_
    rintro e wk ⟨rfl, bk⟩
    replace HA := Lib.hid (HA.out.below bk)
    replace k0 := HA.out.1.cell
    replace k1 := HA.out.2.1.cell
    replace k2 := HA.out.2.2.2.2.1.cell
    replace k3 := HA.out.2.2.2.2.2.1.cell
    clear bk
    go_wp2_with fail
    refine (TLE HV.out.2.1 _).mono ?_
    rintro e wk ⟨rfl, bk⟩
    replace HA := Lib.hid (HA.out.below bk)
    replace k0 := HA.out.1.cell
    replace k1 := HA.out.2.1.cell
    replace k2 := HA.out.2.2.2.2.1.cell
    replace k3 := HA.out.2.2.2.2.2.1.cell
    clear bk
    go_wp2_with fail
    have HA2 := Lib.hid HA.out
    clear k0 k1 k2 k3 HA
    have q00 := cgrow (HA2.out.1.cell 0)
    have q01 := cgrow (HA2.out.1.cell 1)
    have q20 := cgrow (HA2.out.2.2.1.cell 0)
    have q21 := cgrow (HA2.out.2.2.1.cell 1)
    have q30 := cgrow (HA2.out.2.2.2.1.cell 0)
    have q31 := cgrow (HA2.out.2.2.2.1.cell 1)
    have q40 := cgrow (HA2.out.2.2.2.2.1.cell 0)
    have q41 := cgrow (HA2.out.2.2.2.2.1.cell 1)
    have q50 := cgrow (HA2.out.2.2.2.2.2.1.cell 0)
    have q51 := cgrow (HA2.out.2.2.2.2.2.1.cell 1)
    refine wp_region_quiet_below (by kernel_rfl) (by kernel_rfl) ?_
    repeat (go_big_quiet_step (first | (go_at_call 16; exact Calls.regrown_of (TLE HJ.out.1 _)) | (go_at_call 16; exact Calls.regrown_of (TLE HJ.out.2 _)) | (go_at_call 20; exact Calls.regrown_of (TJN HF.out.1 HF.out.2.1 _)) | (go_at_call 21; exact Calls.regrown_of (TMN HF.out.2.2.1 HF.out.2.2.2 _))))
    refine wpQuiet_nil ?_
    intro w4 hw4
    obtain ⟨⟨dq, osq⟩, rfl⟩ := hw4
    have hbq := btr HA2.out.2.2.2.2.2.2 (below_regrown _ dq osq)
    generalize grow (redrawn _ dq) osq = w5 at hbq
    clear q00 q01 q20 q21 q30 q31 q40 q41 q50 q51
    go_wp2_with fail
    go_ret
    exact ⟨rfl, hbq⟩
  · skip
    go_wp2_with fail
    refine (TLE HV.out.1.1 _).mono ?_
    rintro e wk ⟨rfl, bk⟩
    replace HA := Lib.hid (HA.out.below bk)
    replace k0 := HA.out.1.cell
    replace k1 := HA.out.2.1.cell
    replace k2 := HA.out.2.2.2.2.1.cell
    replace k3 := HA.out.2.2.2.2.2.1.cell
    clear bk
    go_wp2_with fail
    refine (TLE HV.out.1.2 _).mono ?_
    rintro e wk ⟨rfl, bk⟩
    replace HA := Lib.hid (HA.out.below bk)
    replace k0 := HA.out.1.cell
    replace k1 := HA.out.2.1.cell
    replace k2 := HA.out.2.2.2.2.1.cell
    replace k3 := HA.out.2.2.2.2.2.1.cell
    clear bk
    go_wp2_with fail
    refine (TLE HV.out.2.1 _).mono ?_
    rintro e wk ⟨rfl, bk⟩
    replace HA := Lib.hid (HA.out.below bk)
    replace k0 := HA.out.1.cell
    replace k1 := HA.out.2.1.cell
    replace k2 := HA.out.2.2.2.2.1.cell
    replace k3 := HA.out.2.2.2.2.2.1.cell
    clear bk
    go_wp2_with fail
    refine (TLE HV.out.2.2 _).mono ?_
    rintro e wk ⟨rfl, bk⟩
    replace HA := Lib.hid (HA.out.below bk)
    replace k0 := HA.out.1.cell
    replace k1 := HA.out.2.1.cell
    replace k2 := HA.out.2.2.2.2.1.cell
    replace k3 := HA.out.2.2.2.2.2.1.cell
    clear bk
    go_wp2_with fail
    have HA2 := Lib.hid HA.out
    clear k0 k1 k2 k3 HA
    have q00 := cgrow (HA2.out.1.cell 0)
    have q01 := cgrow (HA2.out.1.cell 1)
    have q20 := cgrow (HA2.out.2.2.1.cell 0)
    have q21 := cgrow (HA2.out.2.2.1.cell 1)
    have q30 := cgrow (HA2.out.2.2.2.1.cell 0)
    have q31 := cgrow (HA2.out.2.2.2.1.cell 1)
    have q40 := cgrow (HA2.out.2.2.2.2.1.cell 0)
    have q41 := cgrow (HA2.out.2.2.2.2.1.cell 1)
    have q50 := cgrow (HA2.out.2.2.2.2.2.1.cell 0)
    have q51 := cgrow (HA2.out.2.2.2.2.2.1.cell 1)
    refine wp_region_quiet_below (by kernel_rfl) (by kernel_rfl) ?_
    repeat (go_big_quiet_step (first | (go_at_call 16; exact Calls.regrown_of (TLE HJ.out.1 _)) | (go_at_call 16; exact Calls.regrown_of (TLE HJ.out.2 _)) | (go_at_call 20; exact Calls.regrown_of (TJN HF.out.1 HF.out.2.1 _)) | (go_at_call 21; exact Calls.regrown_of (TMN HF.out.2.2.1 HF.out.2.2.2 _))))
    refine wpQuiet_nil ?_
    intro w4 hw4
    obtain ⟨⟨dq, osq⟩, rfl⟩ := hw4
    have hbq := btr HA2.out.2.2.2.2.2.2 (below_regrown _ dq osq)
    generalize grow (redrawn _ dq) osq = w5 at hbq
    clear q00 q01 q20 q21 q30 q31 q40 q41 q50 q51
    go_wp2_with fail
    go_ret
    exact ⟨rfl, hbq⟩
  · skip
    go_wp2_with fail
    refine (TLE HV.out.1.1 _).mono ?_
    rintro e wk ⟨rfl, bk⟩
    replace HA := Lib.hid (HA.out.below bk)
    replace k0 := HA.out.1.cell
    replace k1 := HA.out.2.1.cell
    replace k2 := HA.out.2.2.2.2.1.cell
    replace k3 := HA.out.2.2.2.2.2.1.cell
    clear bk
    go_wp2_with fail
    refine (TLE HV.out.1.2 _).mono ?_
    rintro e wk ⟨rfl, bk⟩
    replace HA := Lib.hid (HA.out.below bk)
    replace k0 := HA.out.1.cell
    replace k1 := HA.out.2.1.cell
    replace k2 := HA.out.2.2.2.2.1.cell
    replace k3 := HA.out.2.2.2.2.2.1.cell
    clear bk
    go_wp2_with fail
    refine (TLE HV.out.2.1 _).mono ?_
    rintro e wk ⟨rfl, bk⟩
    replace HA := Lib.hid (HA.out.below bk)
    replace k0 := HA.out.1.cell
    replace k1 := HA.out.2.1.cell
    replace k2 := HA.out.2.2.2.2.1.cell
    replace k3 := HA.out.2.2.2.2.2.1.cell
    clear bk
    go_wp2_with fail
    refine (TLE HV.out.2.2 _).mono ?_
    rintro e wk ⟨rfl, bk⟩
    replace HA := Lib.hid (HA.out.below bk)
    replace k0 := HA.out.1.cell
    replace k1 := HA.out.2.1.cell
    replace k2 := HA.out.2.2.2.2.1.cell
    replace k3 := HA.out.2.2.2.2.2.1.cell
    clear bk
    go_wp2_with fail
    have HA2 := Lib.hid HA.out
    clear k0 k1 k2 k3 HA
    have q00 := cgrow (HA2.out.1.cell 0)
    have q01 := cgrow (HA2.out.1.cell 1)
    have q20 := cgrow (HA2.out.2.2.1.cell 0)
    have q21 := cgrow (HA2.out.2.2.1.cell 1)
    have q30 := cgrow (HA2.out.2.2.2.1.cell 0)
    have q31 := cgrow (HA2.out.2.2.2.1.cell 1)
    have q40 := cgrow (HA2.out.2.2.2.2.1.cell 0)
    have q41 := cgrow (HA2.out.2.2.2.2.1.cell 1)
    have q50 := cgrow (HA2.out.2.2.2.2.2.1.cell 0)
    have q51 := cgrow (HA2.out.2.2.2.2.2.1.cell 1)
    refine wp_region_quiet_below (by kernel_rfl) (by kernel_rfl) ?_
    repeat (go_big_quiet_step (first | (go_at_call 16; exact Calls.regrown_of (TLE HJ.out.1 _)) | (go_at_call 16; exact Calls.regrown_of (TLE HJ.out.2 _)) | (go_at_call 20; exact Calls.regrown_of (TJN HF.out.1 HF.out.2.1 _)) | (go_at_call 21; exact Calls.regrown_of (TMN HF.out.2.2.1 HF.out.2.2.2 _))))
    refine wpQuiet_nil ?_
    intro w4 hw4
    obtain ⟨⟨dq, osq⟩, rfl⟩ := hw4
    have hbq := btr HA2.out.2.2.2.2.2.2 (below_regrown _ dq osq)
    generalize grow (redrawn _ dq) osq = w5 at hbq
    clear q00 q01 q20 q21 q30 q31 q40 q41 q50 q51
    go_wp2_with fail
    go_ret
    exact ⟨rfl, hbq⟩
namespace lawFnTimeLattice
theorem own : ownKnob Try.prog.godebug = none := by kernel_rfl
theorem laidOut : laidOutB Try.prog = true := by kernel_rfl
set_option maxRecDepth 100000 in
theorem lifted (os : Os) (started : os.Started) (H : Type) (enc : TypeId × Value → H) :
    ReturnsInHanded {} Try.checked os 4 .any (Rows.fnTimeLatticeSpec.pre6 enc Try.prog Try.f4 Rows.fnTimeLatticeRow.domain false) (Rows.fnTimeLatticeSpec.post enc Try.prog Try.f4 false true false false) := by
  refine returnsInHanded_of_change (C := Try.checked) own started (by kernel_rfl) Try.func4
    (ChangeSpec.witness6 (enc := enc) (C := Try.checked) false ⟨#[], #[.slice none 0 0, .slice none 0 0], []⟩ 8 (by kernel_rfl) (by kernel_rfl) (by kernel_rfl) (by kernel_rfl)) ?_
  intro W base args ds gs before hval0 hW hcnd _
  have hval : ∀ (j : Nat) t v, Try.f4.params[j]? = some t → args[j]? = some v → Value.okWide Try.prog W .any base t v := hval0
  have hW' := hW
  obtain ⟨p, q, hA0, hV, rfl, hfz, hnd⟩ := hW
  have hA : DataW.TrodAll enc Try.prog W 0 (fun _ => true) true Try.f4.params.toList args.toList ds p := hA0
  rw [Try.params4] at hA hval
  obtain ⟨v0, vs0, d0, ds0, p0, q0, hargs, rfl, rfl, h0, r0⟩ := trodAll_cons hA
  obtain ⟨v1, vs1, d1, ds1, p1, q1, rfl, rfl, rfl, h1, r1⟩ := trodAll_cons r0
  obtain ⟨rfl, rfl, rfl⟩ := trodAll_nil r1
  obtain rfl : args = #[v0, v1] := by cases args; simp_all
  obtain ⟨rfl, rfl⟩ := trodVars_none hV
  have k0 := h0
  have lt0 : ∀ x ∈ p0, x.block < W.heap.size := by obtain ⟨m, hm⟩ := k0; exact DataW.trod_lt m _ _ _ hm
  obtain ⟨a0, len0, cap0, rfl⟩ := okWide_slice Try.underlying22 (hval 0 22 v0 rfl rfl)
  obtain ⟨l0, m0, w0⟩ := bytes_of Try.underlying22 Try.underlying5 (by kernel_rfl) h0
  have k1 := h1
  have lt1 : ∀ x ∈ p1, x.block < W.heap.size := by obtain ⟨m, hm⟩ := k1; exact DataW.trod_lt m _ _ _ hm
  obtain ⟨a1, len1, cap1, rfl⟩ := okWide_slice Try.underlying22 (hval 1 22 v1 rfl rfl)
  obtain ⟨l1, m1, w1⟩ := bytes_of Try.underlying22 Try.underlying5 (by kernel_rfl) h1
  clear hA0 hval0
  refine (FnTimeLattice_walk a0 len0 cap0 a1 len1 cap1 W l0 m0 w0 l1 m1 w1).mono fun e W' ⟨he, bel⟩ => ?_
  subst he
  exact ⟨_, rfl, _, _, _, [], _, [], hW', trodAll_mk1 (shut_bool Try.underlying4 _), (trodAll_cons_mk (Below.trod laidOut (by kernel_rfl) (of_decide_eq_true (by kernel_rfl)) k0 bel lt0) (trodAll_cons_mk (Below.trod laidOut (by kernel_rfl) (of_decide_eq_true (by kernel_rfl)) k1 bel lt1) trodAll_mk0)), rfl, bel.frame _, fun h => by cases h⟩

theorem over : Rows.fnTimeLatticeRow.holds Try.pinned (OpenSpec.ofChange Rows.fnTimeLatticeSpec) :=
  OpenClaim.holds_of_wide 4 Try.f4 rfl rfl rfl rfl rfl rfl rfl ⟨rfl, rfl, rfl, rfl, rfl⟩ rfl rfl rfl rfl rfl (by kernel_rfl) Try.func4 (by kernel_rfl)
    (of_decide_eq_true (by kernel_rfl)) (by unfold Func.isWrapper; first | (rw [if_pos (by decide +kernel)]; kernel_rfl) | (rw [if_neg (by decide +kernel)]; exact ⟨rfl, rfl⟩))
    (fun os started H enc _ => lifted os started H enc)

/-- THE STATEMENT. -/
theorem proved : Rows.FnTimeLatticeSaid := over
end lawFnTimeLattice
end Go.Proofs.Ytfndglpfhdphiaa
