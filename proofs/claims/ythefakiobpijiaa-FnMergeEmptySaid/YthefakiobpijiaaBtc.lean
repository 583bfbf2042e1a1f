/- HELPER, no statement of the seat: several texts in one file. -/
import Derived.Test.YthefakiobpijiaaBat
import Derived.Test.YthefakiobpijiaaTrW
import Derived.Test.YthefakiobpijiaaFrt
import Derived.Test.YthefakiobpijiaaGrf
/- HELPER, no statement of the seat: batches of the program: whether a batch is valid; the updates between two frontiers. -/
namespace Go.Proofs.Ythefakiobpijiaa
open Go.RowKit Go.Sort
set_option linter.unusedSimpArgs false
set_option linter.unusedVariables false

/-- The time lies between two frontiers. -/
def inBt (lo up : List Tm) (t : Tm) : Bool := cvB lo t.1 t.2 && !cvB up t.1 t.2
/-- The batch is valid. -/
def batB (b : Bt) : Bool := flB b.1 b.2.1 && (trB b.2.2 && b.2.2.all fun e => inBt b.1 b.2.1 e.1.2)
/-- A value that is a slice of n elements. -/
def SliN (n : Nat) (v : Value) (w : World) : Prop := ∃ A c, v = .slice A n c
theorem stable_sliN (n : Nat) : Stable (SliN n) := fun _ _ _ _ h => h
set_option maxHeartbeats 1600000 in
theorem hasTime_i (T : Value) (LA UA : Option Addr) (lc uc : Nat) (lo up : List Tm) (x y : Int) (w : World) (hT : T.oneCell' = true) (h1 : TimesAt w LA lo) (h2 : TimesAt w UA up) (n1 : lo.length ≤ 4194304) (n2 : up.length ≤ 4194304) (TA : Option Addr) (tn tc : Nat) (hTT : T = .slice TA tn tc) :
    Calls Try.prog 146 #[.agg #[T, .slice LA lo.length lc, .slice UA up.length uc], .agg #[.int .i64 x, .int .i64 y]] w fun e w' => e = .returned (.bool (inBt lo up (x, y))) ∧ Below w.heap.size w w' := by
  subst hTT
  have c1 := fun W (h : TimesAt W LA lo) => covers_i LA lc lo x y W h n1
  have c2 := fun W (h : TimesAt W UA up) => covers_i UA uc up x y W h n2
  have hB0 : Below w.heap.size w ((w.alloc (.cells #[.slice TA tn tc, .slice LA lo.length lc, .slice UA up.length uc] 100)).alloc (.cells #[.int .i64 x, .int .i64 y] 117)) := bal (bal (Below.refl _ _) _) _
  have kA : Blk ((w.alloc (.cells #[.slice TA tn tc, .slice LA lo.length lc, .slice UA up.length uc] 100)).alloc (.cells #[.int .i64 x, .int .i64 y] 117)) w.heap.size 100 #[.slice TA tn tc, .slice LA lo.length lc, .slice UA up.length uc] := (Blk.newAt rfl).alloc _
  have kB : Blk ((w.alloc (.cells #[.slice TA tn tc, .slice LA lo.length lc, .slice UA up.length uc] 100)).alloc (.cells #[.int .i64 x, .int .i64 y] 117)) (w.heap.size + 1) 117 #[.int .i64 x, .int .i64 y] := Blk.newAt (by simp)
  cases e1 : cvB lo x y
  · rw [e1] at c1
    have HF : Hid (inBt lo up (x, y) = false) := by simp [Hid, inBt, e1]
    clear e1 c2 kA kB
    go_enter Try.func146, Try.ntmps146
    go_wp2_with fail
    refine (c1 _ (h1.below hB0)).mono ?_
    rintro e w1 ⟨rfl, b1⟩
    have HB := Lib.hid (btr hB0 b1)
    clear hB0 b1 c1
    go_wp2
    go_ret
    exact ⟨ret_bool HF.out.symm, HB.out⟩
  · rw [e1] at c1
    have HF : Hid (inBt lo up (x, y) = !cvB up x y) := by simp [Hid, inBt, e1]
    clear e1
    go_enter Try.func146, Try.ntmps146
    go_wp2_with fail
    refine (c1 _ (h1.below hB0)).mono ?_
    rintro e w1 ⟨rfl, b1⟩
    have B1 := btr hB0 b1
    have p2 := (kA.below b1).cell 2
    have q0 := (kB.below b1).cell 0
    have q1 := (kB.below b1).cell 1
    simp at p2 q0 q1
    clear hB0 b1 c1 kA kB
    go_wp2_with fail
    refine (c2 _ (h2.below B1)).mono ?_
    rintro e w2 ⟨rfl, b2⟩
    have HB := Lib.hid (btr B1 b2)
    clear B1 b2 c2 p2 q0 q1
    go_wp2
    go_ret
    exact ⟨ret_bool (by rw [HF.out]), HB.out⟩
set_option maxHeartbeats 1600000 in
theorem with1_c (C : Nat) (TA LA UA : Option Addr) (tn tc lc uc : Nat) (lo up : List Tm) (u : Upd) (VA : Option Addr) (vn vc : Nat) (w : World) (h1 : TimesAt w LA lo) (h2 : TimesAt w UA up) (n1 : lo.length ≤ 4194304) (n2 : up.length ≤ 4194304)
    (hC : Blk w C 181 #[.func (.func 146) #[.agg #[.slice TA tn tc, .slice LA lo.length lc, .slice UA up.length uc]] #[]]) :
    Calls Try.prog 190 #[.agg #[.slice VA vn vc, .int .i64 u.1.2.1, .int .i64 u.1.2.2, .int .i64 u.2], .pointer (some ⟨C, 0, none⟩)] w fun e w' => e = .returned (.bool (!inBt lo up u.1.2)) ∧ Below w.heap.size w w' := by
  have hB0 : Below w.heap.size w (w.alloc (.cells #[.slice VA vn vc, .int .i64 u.1.2.1, .int .i64 u.1.2.2, .int .i64 u.2] 119)) := bal (Below.refl _ _) _
  have hcon := hasTime_i (.slice TA tn tc) LA UA lc uc lo up u.1.2.1 u.1.2.2 _ rfl (h1.below hB0) (h2.below hB0) n1 n2 TA tn tc rfl
  have c0 := hC.cell 0
  simp at c0
  have hl := hC.lt
  go_enter Try.func190, Try.ntmps190
  go_wp2_with fail
  refine hcon.mono ?_
  rintro e w1 ⟨rfl, b1⟩
  have HB := Lib.hid (btr hB0 b1)
  clear hcon hB0 b1
  go_wp2
  go_ret
  exact ⟨ret_bool (show (!inBt lo up (u.1.2.1, u.1.2.2)) = (!inBt lo up u.1.2) from rfl), HB.out⟩
set_option maxHeartbeats 1600000 in
theorem with_i (A : Option Addr) (c : Nat) (es : List Upd) (TA LA UA : Option Addr) (tn tc lc uc : Nat) (lo up : List Tm) (w : World) (hx : UpdsAt w A es) (hn : es.length ≤ 4194304) (h1 : TimesAt w LA lo) (h2 : TimesAt w UA up) (n1 : lo.length ≤ 4194304) (n2 : up.length ≤ 4194304) :
    Calls Try.prog 145 #[.slice A es.length c, .func (.func 146) #[.agg #[.slice TA tn tc, .slice LA lo.length lc, .slice UA up.length uc]] #[]] w fun e w' => ∃ A' c', e = .returned (.slice A' (es.filter (fun e => inBt lo up e.1.2)).length c') ∧ UpdsAt w' A' (es.filter (fun e => inBt lo up e.1.2)) ∧ Below w.heap.size w w' := by
  have hB0 : Below w.heap.size w (w.alloc (.cells #[.func (.func 146) #[.agg #[.slice TA tn tc, .slice LA lo.length lc, .slice UA up.length uc]] #[]] 181)) := bal (Below.refl _ _) _
  have kC : Blk (w.alloc (.cells #[.func (.func 146) #[.agg #[.slice TA tn tc, .slice LA lo.length lc, .slice UA up.length uc]] #[]] 181)) w.heap.size 181 #[.func (.func 146) #[.agg #[.slice TA tn tc, .slice LA lo.length lc, .slice UA up.length uc]] #[]] := Blk.newAt rfl
  have HCON : Hid (∀ W, Below (w.alloc (.cells #[.func (.func 146) #[.agg #[.slice TA tn tc, .slice LA lo.length lc, .slice UA up.length uc]] #[]] 181)).heap.size (w.alloc (.cells #[.func (.func 146) #[.agg #[.slice TA tn tc, .slice LA lo.length lc, .slice UA up.length uc]] #[]] 181)) W → ∀ (u : Upd) (VA : Option Addr) (vn vc : Nat), Calls Try.prog 190 #[.agg #[.slice VA vn vc, .int .i64 u.1.2.1, .int .i64 u.1.2.2, .int .i64 u.2], .pointer (some ⟨w.heap.size, 0, none⟩)] W fun e w' => e = .returned (.bool (!inBt lo up u.1.2)) ∧ Below W.heap.size W w') := fun W hW u VA vn vc =>
    with1_c w.heap.size TA LA UA tn tc lc uc lo up u VA vn vc W ((h1.below hB0).below hW) ((h2.below hB0).below hW) n1 n2 (kC.below hW)
  have hx0 := hx.below updR hB0
  go_enter Try.func145, Try.ntmps145
  go_wp2_with fail
  refine absI (fun W => W = w.alloc (.cells #[.func (.func 146) #[.agg #[.slice TA tn tc, .slice LA lo.length lc, .slice UA up.length uc]] #[]] 181)) rfl ?_
  intro W0 hW0
  rw [← hW0] at HCON hx0 hB0
  clear hW0 kC
  refine (cloneW_u A c es W0 hx0 hn).mono ?_
  rintro e w1 ⟨A1, c1, css, rfl, ho1, rd1, b1⟩
  have hdel := delW_u W0 w1 w.heap.size (inBt lo up) HCON W0.heap.size A1 c1 es css b1 (Nat.le_refl _) ho1 rd1 hn
  go_wp2_with fail
  refine hdel.mono ?_
  rintro e w2 ⟨A2, c2, rfl, hx2, b2⟩
  have HX := Lib.hid hx2
  have HB := Lib.hid (btr hB0 b2)
  clear hdel hx2 b2 ho1 rd1 b1
  go_wp2
  go_ret
  exact ⟨A2, c2, rfl, HX.out, HB.out⟩
set_option maxHeartbeats 1600000 in
theorem boundedOf_i (LA UA TA : Option Addr) (lc uc tc ln un tn : Nat) (w : World) :
    Calls Try.prog 70 #[.agg #[.slice LA ln lc, .slice UA un uc, .slice TA tn tc]] w fun e w' => e = .returned (.agg #[.slice TA tn tc, .slice LA ln lc, .slice UA un uc]) ∧ Below w.heap.size w w' := by
  go_enter Try.func70, Try.ntmps70
  go_wp2
  exact bodyPost_ret (v := .agg #[.slice TA tn tc, .slice LA ln lc, .slice UA un uc]) (by simp [results, Try.results70, go_sem]) rfl ⟨rfl, by repeat (first | exact Below.refl _ _ | refine bset ?_ (by simp) _ | refine bal ?_ _)⟩
set_option maxRecDepth 100000 in
set_option maxHeartbeats 3200000 in
theorem isValidB_i (LA UA TA : Option Addr) (lc uc tc : Nat) (lo up : List Tm) (us : List Upd) (w : World) (h1 : TimesAt w LA lo) (h2 : TimesAt w UA up) (h3 : UpdsAt w TA us) (n1 : lo.length ≤ 4194304) (n2 : up.length ≤ 4194304) (n3 : us.length ≤ 4194304) (r3 : rowsU us 4194304) :
    Calls Try.prog 78 #[.agg #[.slice TA us.length tc, .slice LA lo.length lc, .slice UA up.length uc]] w fun e w' => e = .returned (.bool (batB (lo, (up, us)))) ∧ Below w.heap.size w w' := by
  cases e1 : flB lo up
  · have HF : Hid (batB (lo, (up, us)) = false) := by simp [Hid, batB, e1]
    have E1 := Lib.hid e1
    clear e1
    go_enter Try.func78, Try.ntmps78
    go_wp2_with fail
    refine abs_world (fun W => Below w.heap.size w W ∧ Blk W w.heap.size 100 #[.slice TA us.length tc, .slice LA lo.length lc, .slice UA up.length uc]) ⟨bal (Below.refl _ _) _, Blk.newAt rfl⟩ ?_
    rintro W0 ⟨hB0, kA⟩
    have g1 := h1.below hB0
    have g2 := h2.below hB0
    have g3 := h3.below updR hB0
    have c1 := fun W (hW : Below W0.heap.size W0 W) => FrontierLessEqual_i LA lc lo UA uc up W (g1.below hW) n1 (g2.below hW) n2
    have c2 := fun W (hW : Below W0.heap.size W0 W) => ValidTrace_i TA tc us W (g3.below updR hW) n3 r3
    have c3 := fun W (hW : Below W0.heap.size W0 W) => with_i TA tc us TA LA UA us.length tc lc uc lo up W (g3.below updR hW) n3 (g1.below hW) (g2.below hW) n1 n2
    rw [E1.out] at c1
    clear g1 g2 g3 h1 h2 h3 E1 c3 c2
    refine wp_region_facts [[], [0], [], [2], List.range 4, List.range 5, List.range 6, List.range 7, List.range 8, List.range 9, List.range 10, List.range 11, List.range 12, List.range 11, [0, 1, 2, 3, 4, 5, 6, 7, 8, 9, 10, 13], List.range 15, List.range 16, List.range 11, [0, 1, 2, 3, 4, 5, 6, 7, 8, 9, 10, 17], [0, 1, 2, 3, 4, 5, 6, 7, 8, 9, 10, 17, 18], List.range 20, List.range 21]
      [fun v' _ => v' = .pointer (some ⟨w.heap.size, 1, none⟩), fun v' _ => v' = .slice LA lo.length lc, fun v' _ => v' = .pointer (some ⟨w.heap.size, 2, none⟩), fun v' _ => v' = .slice UA up.length uc, fun v' _ => v' = .bool false, fun v' _ => v' = .bool false, fun v' _ => v' = undef, fun v' _ => v' = undef, fun v' _ => v' = undef, fun v' _ => v' = .bool false, fun v' _ => v' = .bool false, fun v' _ => v' = undef, fun v' _ => v' = undef, fun v' _ => v' = undef, fun v' _ => v' = undef, fun v' _ => v' = undef, fun v' _ => v' = undef, fun v' _ => v' = undef, fun v' _ => v' = undef, fun v' _ => v' = undef, fun v' _ => v' = undef, fun v' _ => v' = .bool false]
      (by kernel_rfl) (by kernel_rfl) rfl ⟨stable_pure _, stable_pure _, stable_pure _, stable_pure _, stable_pure _, stable_pure _, stable_pure _, stable_pure _, stable_pure _, stable_pure _, stable_pure _, stable_pure _, stable_pure _, stable_pure _, stable_pure _, stable_pure _, stable_pure _, stable_pure _, stable_pure _, stable_pure _, stable_pure _, stable_pure _, trivial⟩ ?_
    refine wf_stepK [] [] (by kernel_rfl) (by kernel_rfl) (fun wf hb hf => ?_) (fun t0 => ?_)
    · refine ⟨?_⟩
      go_wp2
      exact ⟨rfl, .pointer (some ⟨w.heap.size, 1, none⟩), by kernel_rfl, Below.refl _ _, rfl⟩
    refine wf_stepK [0] [fun _ => t0 = .pointer (some ⟨w.heap.size, 1, none⟩)] (by kernel_rfl) (by kernel_rfl) (fun wf hb hf => ?_) (fun t1 => ?_)
    · obtain ⟨rfl, -⟩ := hf
      refine ⟨?_⟩
      have p0 := (kA.below hb).cell 1
      simp at p0
      go_wp2
      exact ⟨rfl, .slice LA lo.length lc, by kernel_rfl, Below.refl _ _, rfl⟩
    refine wf_stepK [] [] (by kernel_rfl) (by kernel_rfl) (fun wf hb hf => ?_) (fun t2 => ?_)
    · refine ⟨?_⟩
      go_wp2
      exact ⟨rfl, .pointer (some ⟨w.heap.size, 2, none⟩), by kernel_rfl, Below.refl _ _, rfl⟩
    refine wf_stepK [2] [fun _ => t2 = .pointer (some ⟨w.heap.size, 2, none⟩)] (by kernel_rfl) (by kernel_rfl) (fun wf hb hf => ?_) (fun t3 => ?_)
    · obtain ⟨rfl, -⟩ := hf
      refine ⟨?_⟩
      have p0 := (kA.below hb).cell 2
      simp at p0
      go_wp2
      exact ⟨rfl, .slice UA up.length uc, by kernel_rfl, Below.refl _ _, rfl⟩
    refine wf_stepK [1, 3] [fun _ => t1 = .slice LA lo.length lc, fun _ => t3 = .slice UA up.length uc] (by kernel_rfl) (by kernel_rfl) (fun wf hb hf => ?_) (fun t4 => ?_)
    · obtain ⟨rfl, rfl, -⟩ := hf
      refine ⟨?_⟩
      go_wp2_with (go_at_call 143; refine (c1 _ hb).mono ?_; rintro e w2 ⟨rfl, hb2⟩)
      exact ⟨rfl, .bool false, by kernel_rfl, hb2, rfl⟩
    refine wf_stepK [4] [fun _ => t4 = .bool false] (by kernel_rfl) (by kernel_rfl) (fun wf hb hf => ?_) (fun t5 => ?_)
    · obtain ⟨rfl, -⟩ := hf
      refine ⟨?_⟩
      go_wp2
      exact ⟨rfl, .bool false, by kernel_rfl, Below.refl _ _, rfl⟩
    refine wf_stepK [5] [fun _ => t5 = .bool false] (by kernel_rfl) (by kernel_rfl) (fun wf hb hf => ?_) (fun t6 => ?_)
    · obtain ⟨rfl, -⟩ := hf
      exact WfOp.no (by kernel_rfl) rfl
    refine wf_stepK [5, 6] [fun _ => t5 = .bool false, fun _ => t6 = undef] (by kernel_rfl) (by kernel_rfl) (fun wf hb hf => ?_) (fun t7 => ?_)
    · obtain ⟨rfl, rfl, -⟩ := hf
      exact WfOp.no (by kernel_rfl) rfl
    refine wf_stepK [5, 7] [fun _ => t5 = .bool false, fun _ => t7 = undef] (by kernel_rfl) (by kernel_rfl) (fun wf hb hf => ?_) (fun t8 => ?_)
    · obtain ⟨rfl, rfl, -⟩ := hf
      exact WfOp.no (by kernel_rfl) rfl
    refine wf_stepK [5, 8] [fun _ => t5 = .bool false, fun _ => t8 = undef] (by kernel_rfl) (by kernel_rfl) (fun wf hb hf => ?_) (fun t9 => ?_)
    · obtain ⟨rfl, rfl, -⟩ := hf
      refine ⟨?_⟩
      go_wp2
      exact ⟨rfl, .bool false, by kernel_rfl, Below.refl _ _, rfl⟩
    refine wf_stepK [9] [fun _ => t9 = .bool false] (by kernel_rfl) (by kernel_rfl) (fun wf hb hf => ?_) (fun t10 => ?_)
    · obtain ⟨rfl, -⟩ := hf
      refine ⟨?_⟩
      go_wp2
      exact ⟨rfl, .bool false, by kernel_rfl, Below.refl _ _, rfl⟩
    refine wf_stepK [10] [fun _ => t10 = .bool false] (by kernel_rfl) (by kernel_rfl) (fun wf hb hf => ?_) (fun t11 => ?_)
    · obtain ⟨rfl, -⟩ := hf
      exact WfOp.no (by kernel_rfl) rfl
    refine wf_stepK [10, 11] [fun _ => t10 = .bool false, fun _ => t11 = undef] (by kernel_rfl) (by kernel_rfl) (fun wf hb hf => ?_) (fun t12 => ?_)
    · obtain ⟨rfl, rfl, -⟩ := hf
      exact WfOp.no (by kernel_rfl) rfl
    refine wf_stepK [10] [fun _ => t10 = .bool false] (by kernel_rfl) (by kernel_rfl) (fun wf hb hf => ?_) (fun t13 => ?_)
    · obtain ⟨rfl, -⟩ := hf
      exact WfOp.no (by kernel_rfl) rfl
    refine wf_stepK [10, 13] [fun _ => t10 = .bool false, fun _ => t13 = undef] (by kernel_rfl) (by kernel_rfl) (fun wf hb hf => ?_) (fun t14 => ?_)
    · obtain ⟨rfl, rfl, -⟩ := hf
      exact WfOp.no (by kernel_rfl) rfl
    refine wf_stepK [10, 12, 14] [fun _ => t10 = .bool false, fun _ => t12 = undef, fun _ => t14 = undef] (by kernel_rfl) (by kernel_rfl) (fun wf hb hf => ?_) (fun t15 => ?_)
    · obtain ⟨rfl, rfl, rfl, -⟩ := hf
      exact WfOp.no (by kernel_rfl) rfl
    refine wf_stepK [10, 15] [fun _ => t10 = .bool false, fun _ => t15 = undef] (by kernel_rfl) (by kernel_rfl) (fun wf hb hf => ?_) (fun t16 => ?_)
    · obtain ⟨rfl, rfl, -⟩ := hf
      exact WfOp.no (by kernel_rfl) rfl
    refine wf_stepK [10] [fun _ => t10 = .bool false] (by kernel_rfl) (by kernel_rfl) (fun wf hb hf => ?_) (fun t17 => ?_)
    · obtain ⟨rfl, -⟩ := hf
      exact WfOp.no (by kernel_rfl) rfl
    refine wf_stepK [10, 17] [fun _ => t10 = .bool false, fun _ => t17 = undef] (by kernel_rfl) (by kernel_rfl) (fun wf hb hf => ?_) (fun t18 => ?_)
    · obtain ⟨rfl, rfl, -⟩ := hf
      exact WfOp.no (by kernel_rfl) rfl
    refine wf_stepK [10, 18] [fun _ => t10 = .bool false, fun _ => t18 = undef] (by kernel_rfl) (by kernel_rfl) (fun wf hb hf => ?_) (fun t19 => ?_)
    · obtain ⟨rfl, rfl, -⟩ := hf
      exact WfOp.no (by kernel_rfl) rfl
    refine wf_stepK [10, 16, 19] [fun _ => t10 = .bool false, fun _ => t16 = undef, fun _ => t19 = undef] (by kernel_rfl) (by kernel_rfl) (fun wf hb hf => ?_) (fun t20 => ?_)
    · obtain ⟨rfl, rfl, rfl, -⟩ := hf
      exact WfOp.no (by kernel_rfl) rfl
    refine wf_stepK [10, 20] [fun _ => t10 = .bool false, fun _ => t20 = undef] (by kernel_rfl) (by kernel_rfl) (fun wf hb hf => ?_) (fun t21 => ?_)
    · obtain ⟨rfl, rfl, -⟩ := hf
      refine ⟨?_⟩
      go_wp2
      exact ⟨rfl, .bool false, by kernel_rfl, Below.refl _ _, rfl⟩
    refine wf_doneK [21] [fun _ => t21 = .bool false] (by kernel_rfl) (by kernel_rfl) (fun w9 b9 hf => ?_)
    obtain ⟨rfl, -⟩ := hf
    show wpList _ _ _ [_] _ _
    refine wpList_frame (by simp [Act.put]; rfl) ?_
    have HBB := Lib.hid (btr hB0 b9)
    clear b9 kA c1 hB0
    go_wp2
    go_ret
    exact ⟨ret_bool HF.out.symm, HBB.out⟩
  have E1 := Lib.hid e1
  cases e2 : trB us
  · have HF : Hid (batB (lo, (up, us)) = false) := by simp [Hid, batB, e2]
    have E2 := Lib.hid e2
    clear e1 e2
    go_enter Try.func78, Try.ntmps78
    go_wp2_with fail
    refine abs_world (fun W => Below w.heap.size w W ∧ Blk W w.heap.size 100 #[.slice TA us.length tc, .slice LA lo.length lc, .slice UA up.length uc]) ⟨bal (Below.refl _ _) _, Blk.newAt rfl⟩ ?_
    rintro W0 ⟨hB0, kA⟩
    have g1 := h1.below hB0
    have g2 := h2.below hB0
    have g3 := h3.below updR hB0
    have c1 := fun W (hW : Below W0.heap.size W0 W) => FrontierLessEqual_i LA lc lo UA uc up W (g1.below hW) n1 (g2.below hW) n2
    have c2 := fun W (hW : Below W0.heap.size W0 W) => ValidTrace_i TA tc us W (g3.below updR hW) n3 r3
    have c3 := fun W (hW : Below W0.heap.size W0 W) => with_i TA tc us TA LA UA us.length tc lc uc lo up W (g3.below updR hW) n3 (g1.below hW) (g2.below hW) n1 n2
    rw [E1.out] at c1
    rw [E2.out] at c2
    clear g1 g2 g3 h1 h2 h3 E1 E2 c3
    refine wp_region_facts [[], [0], [], [2], List.range 4, List.range 5, List.range 6, List.range 7, List.range 8, List.range 9, List.range 10, List.range 11, List.range 12, List.range 11, [0, 1, 2, 3, 4, 5, 6, 7, 8, 9, 10, 13], List.range 15, List.range 16, List.range 11, [0, 1, 2, 3, 4, 5, 6, 7, 8, 9, 10, 17], [0, 1, 2, 3, 4, 5, 6, 7, 8, 9, 10, 17, 18], List.range 20, List.range 21]
      [fun v' _ => v' = .pointer (some ⟨w.heap.size, 1, none⟩), fun v' _ => v' = .slice LA lo.length lc, fun v' _ => v' = .pointer (some ⟨w.heap.size, 2, none⟩), fun v' _ => v' = .slice UA up.length uc, fun v' _ => v' = .bool true, fun v' _ => v' = .bool true, fun v' _ => v' = .pointer (some ⟨w.heap.size, 0, none⟩), fun v' _ => v' = .slice TA us.length tc, fun v' _ => v' = .bool false, fun v' _ => v' = .bool false, fun v' _ => v' = .bool false, fun v' _ => v' = undef, fun v' _ => v' = undef, fun v' _ => v' = undef, fun v' _ => v' = undef, fun v' _ => v' = undef, fun v' _ => v' = undef, fun v' _ => v' = undef, fun v' _ => v' = undef, fun v' _ => v' = undef, fun v' _ => v' = undef, fun v' _ => v' = .bool false]
      (by kernel_rfl) (by kernel_rfl) rfl ⟨stable_pure _, stable_pure _, stable_pure _, stable_pure _, stable_pure _, stable_pure _, stable_pure _, stable_pure _, stable_pure _, stable_pure _, stable_pure _, stable_pure _, stable_pure _, stable_pure _, stable_pure _, stable_pure _, stable_pure _, stable_pure _, stable_pure _, stable_pure _, stable_pure _, stable_pure _, trivial⟩ ?_
    refine wf_stepK [] [] (by kernel_rfl) (by kernel_rfl) (fun wf hb hf => ?_) (fun t0 => ?_)
    · refine ⟨?_⟩
      go_wp2
      exact ⟨rfl, .pointer (some ⟨w.heap.size, 1, none⟩), by kernel_rfl, Below.refl _ _, rfl⟩
    refine wf_stepK [0] [fun _ => t0 = .pointer (some ⟨w.heap.size, 1, none⟩)] (by kernel_rfl) (by kernel_rfl) (fun wf hb hf => ?_) (fun t1 => ?_)
    · obtain ⟨rfl, -⟩ := hf
      refine ⟨?_⟩
      have p0 := (kA.below hb).cell 1
      simp at p0
      go_wp2
      exact ⟨rfl, .slice LA lo.length lc, by kernel_rfl, Below.refl _ _, rfl⟩
    refine wf_stepK [] [] (by kernel_rfl) (by kernel_rfl) (fun wf hb hf => ?_) (fun t2 => ?_)
    · refine ⟨?_⟩
      go_wp2
      exact ⟨rfl, .pointer (some ⟨w.heap.size, 2, none⟩), by kernel_rfl, Below.refl _ _, rfl⟩
    refine wf_stepK [2] [fun _ => t2 = .pointer (some ⟨w.heap.size, 2, none⟩)] (by kernel_rfl) (by kernel_rfl) (fun wf hb hf => ?_) (fun t3 => ?_)
    · obtain ⟨rfl, -⟩ := hf
      refine ⟨?_⟩
      have p0 := (kA.below hb).cell 2
      simp at p0
      go_wp2
      exact ⟨rfl, .slice UA up.length uc, by kernel_rfl, Below.refl _ _, rfl⟩
    refine wf_stepK [1, 3] [fun _ => t1 = .slice LA lo.length lc, fun _ => t3 = .slice UA up.length uc] (by kernel_rfl) (by kernel_rfl) (fun wf hb hf => ?_) (fun t4 => ?_)
    · obtain ⟨rfl, rfl, -⟩ := hf
      refine ⟨?_⟩
      go_wp2_with (go_at_call 143; refine (c1 _ hb).mono ?_; rintro e w2 ⟨rfl, hb2⟩)
      exact ⟨rfl, .bool true, by kernel_rfl, hb2, rfl⟩
    refine wf_stepK [4] [fun _ => t4 = .bool true] (by kernel_rfl) (by kernel_rfl) (fun wf hb hf => ?_) (fun t5 => ?_)
    · obtain ⟨rfl, -⟩ := hf
      refine ⟨?_⟩
      go_wp2
      exact ⟨rfl, .bool true, by kernel_rfl, Below.refl _ _, rfl⟩
    refine wf_stepK [5] [fun _ => t5 = .bool true] (by kernel_rfl) (by kernel_rfl) (fun wf hb hf => ?_) (fun t6 => ?_)
    · obtain ⟨rfl, -⟩ := hf
      refine WfOp.yes (by kernel_rfl) ?_
      dsimp only
      go_wp2
      exact ⟨rfl, .pointer (some ⟨w.heap.size, 0, none⟩), by kernel_rfl, Below.refl _ _, rfl⟩
    refine wf_stepK [5, 6] [fun _ => t5 = .bool true, fun _ => t6 = .pointer (some ⟨w.heap.size, 0, none⟩)] (by kernel_rfl) (by kernel_rfl) (fun wf hb hf => ?_) (fun t7 => ?_)
    · obtain ⟨rfl, rfl, -⟩ := hf
      refine WfOp.yes (by kernel_rfl) ?_
      dsimp only
      have p0 := (kA.below hb).cell 0
      simp at p0
      go_wp2
      exact ⟨rfl, .slice TA us.length tc, by kernel_rfl, Below.refl _ _, rfl⟩
    refine wf_stepK [5, 7] [fun _ => t5 = .bool true, fun _ => t7 = .slice TA us.length tc] (by kernel_rfl) (by kernel_rfl) (fun wf hb hf => ?_) (fun t8 => ?_)
    · obtain ⟨rfl, rfl, -⟩ := hf
      refine WfOp.yes (by kernel_rfl) ?_
      dsimp only
      go_wp2_with (go_at_call 144; refine (c2 _ hb).mono ?_; rintro e w2 ⟨rfl, hb2⟩)
      exact ⟨rfl, .bool false, by kernel_rfl, hb2, rfl⟩
    refine wf_stepK [5, 8] [fun _ => t5 = .bool true, fun _ => t8 = .bool false] (by kernel_rfl) (by kernel_rfl) (fun wf hb hf => ?_) (fun t9 => ?_)
    · obtain ⟨rfl, rfl, -⟩ := hf
      refine ⟨?_⟩
      go_wp2
      exact ⟨rfl, .bool false, by kernel_rfl, Below.refl _ _, rfl⟩
    refine wf_stepK [9] [fun _ => t9 = .bool false] (by kernel_rfl) (by kernel_rfl) (fun wf hb hf => ?_) (fun t10 => ?_)
    · obtain ⟨rfl, -⟩ := hf
      refine ⟨?_⟩
      go_wp2
      exact ⟨rfl, .bool false, by kernel_rfl, Below.refl _ _, rfl⟩
    refine wf_stepK [10] [fun _ => t10 = .bool false] (by kernel_rfl) (by kernel_rfl) (fun wf hb hf => ?_) (fun t11 => ?_)
    · obtain ⟨rfl, -⟩ := hf
      exact WfOp.no (by kernel_rfl) rfl
    refine wf_stepK [10, 11] [fun _ => t10 = .bool false, fun _ => t11 = undef] (by kernel_rfl) (by kernel_rfl) (fun wf hb hf => ?_) (fun t12 => ?_)
    · obtain ⟨rfl, rfl, -⟩ := hf
      exact WfOp.no (by kernel_rfl) rfl
    refine wf_stepK [10] [fun _ => t10 = .bool false] (by kernel_rfl) (by kernel_rfl) (fun wf hb hf => ?_) (fun t13 => ?_)
    · obtain ⟨rfl, -⟩ := hf
      exact WfOp.no (by kernel_rfl) rfl
    refine wf_stepK [10, 13] [fun _ => t10 = .bool false, fun _ => t13 = undef] (by kernel_rfl) (by kernel_rfl) (fun wf hb hf => ?_) (fun t14 => ?_)
    · obtain ⟨rfl, rfl, -⟩ := hf
      exact WfOp.no (by kernel_rfl) rfl
    refine wf_stepK [10, 12, 14] [fun _ => t10 = .bool false, fun _ => t12 = undef, fun _ => t14 = undef] (by kernel_rfl) (by kernel_rfl) (fun wf hb hf => ?_) (fun t15 => ?_)
    · obtain ⟨rfl, rfl, rfl, -⟩ := hf
      exact WfOp.no (by kernel_rfl) rfl
    refine wf_stepK [10, 15] [fun _ => t10 = .bool false, fun _ => t15 = undef] (by kernel_rfl) (by kernel_rfl) (fun wf hb hf => ?_) (fun t16 => ?_)
    · obtain ⟨rfl, rfl, -⟩ := hf
      exact WfOp.no (by kernel_rfl) rfl
    refine wf_stepK [10] [fun _ => t10 = .bool false] (by kernel_rfl) (by kernel_rfl) (fun wf hb hf => ?_) (fun t17 => ?_)
    · obtain ⟨rfl, -⟩ := hf
      exact WfOp.no (by kernel_rfl) rfl
    refine wf_stepK [10, 17] [fun _ => t10 = .bool false, fun _ => t17 = undef] (by kernel_rfl) (by kernel_rfl) (fun wf hb hf => ?_) (fun t18 => ?_)
    · obtain ⟨rfl, rfl, -⟩ := hf
      exact WfOp.no (by kernel_rfl) rfl
    refine wf_stepK [10, 18] [fun _ => t10 = .bool false, fun _ => t18 = undef] (by kernel_rfl) (by kernel_rfl) (fun wf hb hf => ?_) (fun t19 => ?_)
    · obtain ⟨rfl, rfl, -⟩ := hf
      exact WfOp.no (by kernel_rfl) rfl
    refine wf_stepK [10, 16, 19] [fun _ => t10 = .bool false, fun _ => t16 = undef, fun _ => t19 = undef] (by kernel_rfl) (by kernel_rfl) (fun wf hb hf => ?_) (fun t20 => ?_)
    · obtain ⟨rfl, rfl, rfl, -⟩ := hf
      exact WfOp.no (by kernel_rfl) rfl
    refine wf_stepK [10, 20] [fun _ => t10 = .bool false, fun _ => t20 = undef] (by kernel_rfl) (by kernel_rfl) (fun wf hb hf => ?_) (fun t21 => ?_)
    · obtain ⟨rfl, rfl, -⟩ := hf
      refine ⟨?_⟩
      go_wp2
      exact ⟨rfl, .bool false, by kernel_rfl, Below.refl _ _, rfl⟩
    refine wf_doneK [21] [fun _ => t21 = .bool false] (by kernel_rfl) (by kernel_rfl) (fun w9 b9 hf => ?_)
    obtain ⟨rfl, -⟩ := hf
    show wpList _ _ _ [_] _ _
    refine wpList_frame (by simp [Act.put]; rfl) ?_
    have HBB := Lib.hid (btr hB0 b9)
    clear b9 kA c2 c1 hB0
    go_wp2
    go_ret
    exact ⟨ret_bool HF.out.symm, HBB.out⟩
  have E2 := Lib.hid e2
  cases e3 : us.all fun e => inBt lo up e.1.2
  · have HF : Hid (batB (lo, (up, us)) = false) := by simp only [Hid, batB, e3]; simp
    have HNW : Hid ((((us.filter (fun e => inBt lo up e.1.2)).length : Int) == (us.length : Int)) = false) := by
      simp only [Hid, beq_eq_false_iff_ne]
      intro h
      have h2 : (us.filter (fun e => inBt lo up e.1.2)).length = us.length := by omega
      have h3 := (List.length_filter_eq_length_iff.1 h2)
      have : (us.all fun e => inBt lo up e.1.2) = true := List.all_eq_true.2 h3
      rw [e3] at this
      cases this
    clear e1 e2 e3
    go_enter Try.func78, Try.ntmps78
    go_wp2_with fail
    refine abs_world (fun W => Below w.heap.size w W ∧ Blk W w.heap.size 100 #[.slice TA us.length tc, .slice LA lo.length lc, .slice UA up.length uc]) ⟨bal (Below.refl _ _) _, Blk.newAt rfl⟩ ?_
    rintro W0 ⟨hB0, kA⟩
    have g1 := h1.below hB0
    have g2 := h2.below hB0
    have g3 := h3.below updR hB0
    have c1 := fun W (hW : Below W0.heap.size W0 W) => FrontierLessEqual_i LA lc lo UA uc up W (g1.below hW) n1 (g2.below hW) n2
    have c2 := fun W (hW : Below W0.heap.size W0 W) => ValidTrace_i TA tc us W (g3.below updR hW) n3 r3
    have c3 := fun W (hW : Below W0.heap.size W0 W) => with_i TA tc us TA LA UA us.length tc lc uc lo up W (g3.below updR hW) n3 (g1.below hW) (g2.below hW) n1 n2
    rw [E1.out] at c1
    rw [E2.out] at c2
    generalize (us.filter (fun e => inBt lo up e.1.2)).length = nW at c3 HNW
    clear g1 g2 g3 h1 h2 h3 E1 E2
    refine wp_region_facts [[], [0], [], [2], List.range 4, List.range 5, List.range 6, List.range 7, List.range 8, List.range 9, List.range 10, List.range 11, List.range 12, List.range 11, [0, 1, 2, 3, 4, 5, 6, 7, 8, 9, 10, 13], List.range 15, List.range 16, List.range 11, [0, 1, 2, 3, 4, 5, 6, 7, 8, 9, 10, 17], [0, 1, 2, 3, 4, 5, 6, 7, 8, 9, 10, 17, 18], List.range 20, List.range 21]
      [fun v' _ => v' = .pointer (some ⟨w.heap.size, 1, none⟩), fun v' _ => v' = .slice LA lo.length lc, fun v' _ => v' = .pointer (some ⟨w.heap.size, 2, none⟩), fun v' _ => v' = .slice UA up.length uc, fun v' _ => v' = .bool true, fun v' _ => v' = .bool true, fun v' _ => v' = .pointer (some ⟨w.heap.size, 0, none⟩), fun v' _ => v' = .slice TA us.length tc, fun v' _ => v' = .bool true, fun v' _ => v' = .bool true, fun v' _ => v' = .bool true, fun v' _ => v' = .pointer (some ⟨w.heap.size, 0, none⟩), fun v' _ => v' = .slice TA us.length tc, fun v' _ => v' = .agg #[.slice TA us.length tc, .slice LA lo.length lc, .slice UA up.length uc], fun v' _ => v' = .func (.func 146) #[.agg #[.slice TA us.length tc, .slice LA lo.length lc, .slice UA up.length uc]] #[], SliN nW, fun v' _ => v' = .int .i64 ((nW : Nat)), fun v' _ => v' = .pointer (some ⟨w.heap.size, 0, none⟩), fun v' _ => v' = .slice TA us.length tc, fun v' _ => v' = .int .i64 ((us.length : Nat)), fun v' _ => v' = .bool false, fun v' _ => v' = .bool false]
      (by kernel_rfl) (by kernel_rfl) rfl ⟨stable_pure _, stable_pure _, stable_pure _, stable_pure _, stable_pure _, stable_pure _, stable_pure _, stable_pure _, stable_pure _, stable_pure _, stable_pure _, stable_pure _, stable_pure _, stable_pure _, stable_pure _, stable_sliN _, stable_pure _, stable_pure _, stable_pure _, stable_pure _, stable_pure _, stable_pure _, trivial⟩ ?_
    refine wf_stepK [] [] (by kernel_rfl) (by kernel_rfl) (fun wf hb hf => ?_) (fun t0 => ?_)
    · refine ⟨?_⟩
      go_wp2
      exact ⟨rfl, .pointer (some ⟨w.heap.size, 1, none⟩), by kernel_rfl, Below.refl _ _, rfl⟩
    refine wf_stepK [0] [fun _ => t0 = .pointer (some ⟨w.heap.size, 1, none⟩)] (by kernel_rfl) (by kernel_rfl) (fun wf hb hf => ?_) (fun t1 => ?_)
    · obtain ⟨rfl, -⟩ := hf
      refine ⟨?_⟩
      have p0 := (kA.below hb).cell 1
      simp at p0
      go_wp2
      exact ⟨rfl, .slice LA lo.length lc, by kernel_rfl, Below.refl _ _, rfl⟩
    refine wf_stepK [] [] (by kernel_rfl) (by kernel_rfl) (fun wf hb hf => ?_) (fun t2 => ?_)
    · refine ⟨?_⟩
      go_wp2
      exact ⟨rfl, .pointer (some ⟨w.heap.size, 2, none⟩), by kernel_rfl, Below.refl _ _, rfl⟩
    refine wf_stepK [2] [fun _ => t2 = .pointer (some ⟨w.heap.size, 2, none⟩)] (by kernel_rfl) (by kernel_rfl) (fun wf hb hf => ?_) (fun t3 => ?_)
    · obtain ⟨rfl, -⟩ := hf
      refine ⟨?_⟩
      have p0 := (kA.below hb).cell 2
      simp at p0
      go_wp2
      exact ⟨rfl, .slice UA up.length uc, by kernel_rfl, Below.refl _ _, rfl⟩
    refine wf_stepK [1, 3] [fun _ => t1 = .slice LA lo.length lc, fun _ => t3 = .slice UA up.length uc] (by kernel_rfl) (by kernel_rfl) (fun wf hb hf => ?_) (fun t4 => ?_)
    · obtain ⟨rfl, rfl, -⟩ := hf
      refine ⟨?_⟩
      go_wp2_with (go_at_call 143; refine (c1 _ hb).mono ?_; rintro e w2 ⟨rfl, hb2⟩)
      exact ⟨rfl, .bool true, by kernel_rfl, hb2, rfl⟩
    refine wf_stepK [4] [fun _ => t4 = .bool true] (by kernel_rfl) (by kernel_rfl) (fun wf hb hf => ?_) (fun t5 => ?_)
    · obtain ⟨rfl, -⟩ := hf
      refine ⟨?_⟩
      go_wp2
      exact ⟨rfl, .bool true, by kernel_rfl, Below.refl _ _, rfl⟩
    refine wf_stepK [5] [fun _ => t5 = .bool true] (by kernel_rfl) (by kernel_rfl) (fun wf hb hf => ?_) (fun t6 => ?_)
    · obtain ⟨rfl, -⟩ := hf
      refine WfOp.yes (by kernel_rfl) ?_
      dsimp only
      go_wp2
      exact ⟨rfl, .pointer (some ⟨w.heap.size, 0, none⟩), by kernel_rfl, Below.refl _ _, rfl⟩
    refine wf_stepK [5, 6] [fun _ => t5 = .bool true, fun _ => t6 = .pointer (some ⟨w.heap.size, 0, none⟩)] (by kernel_rfl) (by kernel_rfl) (fun wf hb hf => ?_) (fun t7 => ?_)
    · obtain ⟨rfl, rfl, -⟩ := hf
      refine WfOp.yes (by kernel_rfl) ?_
      dsimp only
      have p0 := (kA.below hb).cell 0
      simp at p0
      go_wp2
      exact ⟨rfl, .slice TA us.length tc, by kernel_rfl, Below.refl _ _, rfl⟩
    refine wf_stepK [5, 7] [fun _ => t5 = .bool true, fun _ => t7 = .slice TA us.length tc] (by kernel_rfl) (by kernel_rfl) (fun wf hb hf => ?_) (fun t8 => ?_)
    · obtain ⟨rfl, rfl, -⟩ := hf
      refine WfOp.yes (by kernel_rfl) ?_
      dsimp only
      go_wp2_with (go_at_call 144; refine (c2 _ hb).mono ?_; rintro e w2 ⟨rfl, hb2⟩)
      exact ⟨rfl, .bool true, by kernel_rfl, hb2, rfl⟩
    refine wf_stepK [5, 8] [fun _ => t5 = .bool true, fun _ => t8 = .bool true] (by kernel_rfl) (by kernel_rfl) (fun wf hb hf => ?_) (fun t9 => ?_)
    · obtain ⟨rfl, rfl, -⟩ := hf
      refine ⟨?_⟩
      go_wp2
      exact ⟨rfl, .bool true, by kernel_rfl, Below.refl _ _, rfl⟩
    refine wf_stepK [9] [fun _ => t9 = .bool true] (by kernel_rfl) (by kernel_rfl) (fun wf hb hf => ?_) (fun t10 => ?_)
    · obtain ⟨rfl, -⟩ := hf
      refine ⟨?_⟩
      go_wp2
      exact ⟨rfl, .bool true, by kernel_rfl, Below.refl _ _, rfl⟩
    refine wf_stepK [10] [fun _ => t10 = .bool true] (by kernel_rfl) (by kernel_rfl) (fun wf hb hf => ?_) (fun t11 => ?_)
    · obtain ⟨rfl, -⟩ := hf
      refine WfOp.yes (by kernel_rfl) ?_
      dsimp only
      go_wp2
      exact ⟨rfl, .pointer (some ⟨w.heap.size, 0, none⟩), by kernel_rfl, Below.refl _ _, rfl⟩
    refine wf_stepK [10, 11] [fun _ => t10 = .bool true, fun _ => t11 = .pointer (some ⟨w.heap.size, 0, none⟩)] (by kernel_rfl) (by kernel_rfl) (fun wf hb hf => ?_) (fun t12 => ?_)
    · obtain ⟨rfl, rfl, -⟩ := hf
      refine WfOp.yes (by kernel_rfl) ?_
      dsimp only
      have p0 := (kA.below hb).cell 0
      simp at p0
      go_wp2
      exact ⟨rfl, .slice TA us.length tc, by kernel_rfl, Below.refl _ _, rfl⟩
    refine wf_stepK [10] [fun _ => t10 = .bool true] (by kernel_rfl) (by kernel_rfl) (fun wf hb hf => ?_) (fun t13 => ?_)
    · obtain ⟨rfl, -⟩ := hf
      refine WfOp.yes (by kernel_rfl) ?_
      dsimp only
      have p0 := (kA.below hb).cell 0
      have p1 := (kA.below hb).cell 1
      have p2 := (kA.below hb).cell 2
      simp at p0 p1 p2
      go_wp2
      exact ⟨rfl, .agg #[.slice TA us.length tc, .slice LA lo.length lc, .slice UA up.length uc], by kernel_rfl, Below.refl _ _, rfl⟩
    refine wf_stepK [10, 13] [fun _ => t10 = .bool true, fun _ => t13 = .agg #[.slice TA us.length tc, .slice LA lo.length lc, .slice UA up.length uc]] (by kernel_rfl) (by kernel_rfl) (fun wf hb hf => ?_) (fun t14 => ?_)
    · obtain ⟨rfl, rfl, -⟩ := hf
      refine WfOp.yes (by kernel_rfl) ?_
      dsimp only
      go_wp2
      exact ⟨rfl, .func (.func 146) #[.agg #[.slice TA us.length tc, .slice LA lo.length lc, .slice UA up.length uc]] #[], by kernel_rfl, Below.refl _ _, rfl⟩
    refine wf_stepK [10, 12, 14] [fun _ => t10 = .bool true, fun _ => t12 = .slice TA us.length tc, fun _ => t14 = .func (.func 146) #[.agg #[.slice TA us.length tc, .slice LA lo.length lc, .slice UA up.length uc]] #[]] (by kernel_rfl) (by kernel_rfl) (fun wf hb hf => ?_) (fun t15 => ?_)
    · obtain ⟨rfl, rfl, rfl, -⟩ := hf
      refine WfOp.yes (by kernel_rfl) ?_
      dsimp only
      go_wp2_with (go_at_call 145; refine (c3 _ hb).mono ?_; rintro e w2 ⟨A', c', rfl, -, hb2⟩)
      exact ⟨rfl, .slice A' nW c', by kernel_rfl, hb2, A', c', rfl⟩
    refine wf_stepK [10, 15] [fun _ => t10 = .bool true, SliN nW t15] (by kernel_rfl) (by kernel_rfl) (fun wf hb hf => ?_) (fun t16 => ?_)
    · obtain ⟨rfl, ⟨AW, cW, rfl⟩, -⟩ := hf
      refine WfOp.yes (by kernel_rfl) ?_
      dsimp only
      go_wp2
      exact ⟨rfl, .int .i64 ((nW : Nat)), by kernel_rfl, Below.refl _ _, rfl⟩
    refine wf_stepK [10] [fun _ => t10 = .bool true] (by kernel_rfl) (by kernel_rfl) (fun wf hb hf => ?_) (fun t17 => ?_)
    · obtain ⟨rfl, -⟩ := hf
      refine WfOp.yes (by kernel_rfl) ?_
      dsimp only
      go_wp2
      exact ⟨rfl, .pointer (some ⟨w.heap.size, 0, none⟩), by kernel_rfl, Below.refl _ _, rfl⟩
    refine wf_stepK [10, 17] [fun _ => t10 = .bool true, fun _ => t17 = .pointer (some ⟨w.heap.size, 0, none⟩)] (by kernel_rfl) (by kernel_rfl) (fun wf hb hf => ?_) (fun t18 => ?_)
    · obtain ⟨rfl, rfl, -⟩ := hf
      refine WfOp.yes (by kernel_rfl) ?_
      dsimp only
      have p0 := (kA.below hb).cell 0
      simp at p0
      go_wp2
      exact ⟨rfl, .slice TA us.length tc, by kernel_rfl, Below.refl _ _, rfl⟩
    refine wf_stepK [10, 18] [fun _ => t10 = .bool true, fun _ => t18 = .slice TA us.length tc] (by kernel_rfl) (by kernel_rfl) (fun wf hb hf => ?_) (fun t19 => ?_)
    · obtain ⟨rfl, rfl, -⟩ := hf
      refine WfOp.yes (by kernel_rfl) ?_
      dsimp only
      go_wp2
      exact ⟨rfl, .int .i64 ((us.length : Nat)), by kernel_rfl, Below.refl _ _, rfl⟩
    refine wf_stepK [10, 16, 19] [fun _ => t10 = .bool true, fun _ => t16 = .int .i64 ((nW : Nat)), fun _ => t19 = .int .i64 ((us.length : Nat))] (by kernel_rfl) (by kernel_rfl) (fun wf hb hf => ?_) (fun t20 => ?_)
    · obtain ⟨rfl, rfl, rfl, -⟩ := hf
      refine WfOp.yes (by kernel_rfl) ?_
      dsimp only
      have hk0 : ((nW : Int) == (us.length : Int)) = false := HNW.out
      go_wp2
      exact ⟨rfl, .bool false, by kernel_rfl, Below.refl _ _, rfl⟩
    refine wf_stepK [10, 20] [fun _ => t10 = .bool true, fun _ => t20 = .bool false] (by kernel_rfl) (by kernel_rfl) (fun wf hb hf => ?_) (fun t21 => ?_)
    · obtain ⟨rfl, rfl, -⟩ := hf
      refine ⟨?_⟩
      go_wp2
      exact ⟨rfl, .bool false, by kernel_rfl, Below.refl _ _, rfl⟩
    refine wf_doneK [21] [fun _ => t21 = .bool false] (by kernel_rfl) (by kernel_rfl) (fun w9 b9 hf => ?_)
    obtain ⟨rfl, -⟩ := hf
    show wpList _ _ _ [_] _ _
    refine wpList_frame (by simp [Act.put]; rfl) ?_
    have HBB := Lib.hid (btr hB0 b9)
    clear b9 kA c3 c2 c1 hB0
    go_wp2
    go_ret
    exact ⟨ret_bool HF.out.symm, HBB.out⟩
  · have HF : Hid (batB (lo, (up, us)) = true) := by simp only [Hid, batB, e1, e2, e3]; rfl
    have HNW : Hid ((((us.filter (fun e => inBt lo up e.1.2)).length : Int) == (us.length : Int)) = true) := by
      have h2 : us.filter (fun e => inBt lo up e.1.2) = us := List.filter_eq_self.2 (fun x hx => List.all_eq_true.1 e3 x hx)
      simp only [Hid, h2]
      simp
    clear e1 e2 e3
    go_enter Try.func78, Try.ntmps78
    go_wp2_with fail
    refine abs_world (fun W => Below w.heap.size w W ∧ Blk W w.heap.size 100 #[.slice TA us.length tc, .slice LA lo.length lc, .slice UA up.length uc]) ⟨bal (Below.refl _ _) _, Blk.newAt rfl⟩ ?_
    rintro W0 ⟨hB0, kA⟩
    have g1 := h1.below hB0
    have g2 := h2.below hB0
    have g3 := h3.below updR hB0
    have c1 := fun W (hW : Below W0.heap.size W0 W) => FrontierLessEqual_i LA lc lo UA uc up W (g1.below hW) n1 (g2.below hW) n2
    have c2 := fun W (hW : Below W0.heap.size W0 W) => ValidTrace_i TA tc us W (g3.below updR hW) n3 r3
    have c3 := fun W (hW : Below W0.heap.size W0 W) => with_i TA tc us TA LA UA us.length tc lc uc lo up W (g3.below updR hW) n3 (g1.below hW) (g2.below hW) n1 n2
    rw [E1.out] at c1
    rw [E2.out] at c2
    generalize (us.filter (fun e => inBt lo up e.1.2)).length = nW at c3 HNW
    clear g1 g2 g3 h1 h2 h3 E1 E2
    refine wp_region_facts [[], [0], [], [2], List.range 4, List.range 5, List.range 6, List.range 7, List.range 8, List.range 9, List.range 10, List.range 11, List.range 12, List.range 11, [0, 1, 2, 3, 4, 5, 6, 7, 8, 9, 10, 13], List.range 15, List.range 16, List.range 11, [0, 1, 2, 3, 4, 5, 6, 7, 8, 9, 10, 17], [0, 1, 2, 3, 4, 5, 6, 7, 8, 9, 10, 17, 18], List.range 20, List.range 21]
      [fun v' _ => v' = .pointer (some ⟨w.heap.size, 1, none⟩), fun v' _ => v' = .slice LA lo.length lc, fun v' _ => v' = .pointer (some ⟨w.heap.size, 2, none⟩), fun v' _ => v' = .slice UA up.length uc, fun v' _ => v' = .bool true, fun v' _ => v' = .bool true, fun v' _ => v' = .pointer (some ⟨w.heap.size, 0, none⟩), fun v' _ => v' = .slice TA us.length tc, fun v' _ => v' = .bool true, fun v' _ => v' = .bool true, fun v' _ => v' = .bool true, fun v' _ => v' = .pointer (some ⟨w.heap.size, 0, none⟩), fun v' _ => v' = .slice TA us.length tc, fun v' _ => v' = .agg #[.slice TA us.length tc, .slice LA lo.length lc, .slice UA up.length uc], fun v' _ => v' = .func (.func 146) #[.agg #[.slice TA us.length tc, .slice LA lo.length lc, .slice UA up.length uc]] #[], SliN nW, fun v' _ => v' = .int .i64 ((nW : Nat)), fun v' _ => v' = .pointer (some ⟨w.heap.size, 0, none⟩), fun v' _ => v' = .slice TA us.length tc, fun v' _ => v' = .int .i64 ((us.length : Nat)), fun v' _ => v' = .bool true, fun v' _ => v' = .bool true]
      (by kernel_rfl) (by kernel_rfl) rfl ⟨stable_pure _, stable_pure _, stable_pure _, stable_pure _, stable_pure _, stable_pure _, stable_pure _, stable_pure _, stable_pure _, stable_pure _, stable_pure _, stable_pure _, stable_pure _, stable_pure _, stable_pure _, stable_sliN _, stable_pure _, stable_pure _, stable_pure _, stable_pure _, stable_pure _, stable_pure _, trivial⟩ ?_
    refine wf_stepK [] [] (by kernel_rfl) (by kernel_rfl) (fun wf hb hf => ?_) (fun t0 => ?_)
    · refine ⟨?_⟩
      go_wp2
      exact ⟨rfl, .pointer (some ⟨w.heap.size, 1, none⟩), by kernel_rfl, Below.refl _ _, rfl⟩
    refine wf_stepK [0] [fun _ => t0 = .pointer (some ⟨w.heap.size, 1, none⟩)] (by kernel_rfl) (by kernel_rfl) (fun wf hb hf => ?_) (fun t1 => ?_)
    · obtain ⟨rfl, -⟩ := hf
      refine ⟨?_⟩
      have p0 := (kA.below hb).cell 1
      simp at p0
      go_wp2
      exact ⟨rfl, .slice LA lo.length lc, by kernel_rfl, Below.refl _ _, rfl⟩
    refine wf_stepK [] [] (by kernel_rfl) (by kernel_rfl) (fun wf hb hf => ?_) (fun t2 => ?_)
    · refine ⟨?_⟩
      go_wp2
      exact ⟨rfl, .pointer (some ⟨w.heap.size, 2, none⟩), by kernel_rfl, Below.refl _ _, rfl⟩
    refine wf_stepK [2] [fun _ => t2 = .pointer (some ⟨w.heap.size, 2, none⟩)] (by kernel_rfl) (by kernel_rfl) (fun wf hb hf => ?_) (fun t3 => ?_)
    · obtain ⟨rfl, -⟩ := hf
      refine ⟨?_⟩
      have p0 := (kA.below hb).cell 2
      simp at p0
      go_wp2
      exact ⟨rfl, .slice UA up.length uc, by kernel_rfl, Below.refl _ _, rfl⟩
    refine wf_stepK [1, 3] [fun _ => t1 = .slice LA lo.length lc, fun _ => t3 = .slice UA up.length uc] (by kernel_rfl) (by kernel_rfl) (fun wf hb hf => ?_) (fun t4 => ?_)
    · obtain ⟨rfl, rfl, -⟩ := hf
      refine ⟨?_⟩
      go_wp2_with (go_at_call 143; refine (c1 _ hb).mono ?_; rintro e w2 ⟨rfl, hb2⟩)
      exact ⟨rfl, .bool true, by kernel_rfl, hb2, rfl⟩
    refine wf_stepK [4] [fun _ => t4 = .bool true] (by kernel_rfl) (by kernel_rfl) (fun wf hb hf => ?_) (fun t5 => ?_)
    · obtain ⟨rfl, -⟩ := hf
      refine ⟨?_⟩
      go_wp2
      exact ⟨rfl, .bool true, by kernel_rfl, Below.refl _ _, rfl⟩
    refine wf_stepK [5] [fun _ => t5 = .bool true] (by kernel_rfl) (by kernel_rfl) (fun wf hb hf => ?_) (fun t6 => ?_)
    · obtain ⟨rfl, -⟩ := hf
      refine WfOp.yes (by kernel_rfl) ?_
      dsimp only
      go_wp2
      exact ⟨rfl, .pointer (some ⟨w.heap.size, 0, none⟩), by kernel_rfl, Below.refl _ _, rfl⟩
    refine wf_stepK [5, 6] [fun _ => t5 = .bool true, fun _ => t6 = .pointer (some ⟨w.heap.size, 0, none⟩)] (by kernel_rfl) (by kernel_rfl) (fun wf hb hf => ?_) (fun t7 => ?_)
    · obtain ⟨rfl, rfl, -⟩ := hf
      refine WfOp.yes (by kernel_rfl) ?_
      dsimp only
      have p0 := (kA.below hb).cell 0
      simp at p0
      go_wp2
      exact ⟨rfl, .slice TA us.length tc, by kernel_rfl, Below.refl _ _, rfl⟩
    refine wf_stepK [5, 7] [fun _ => t5 = .bool true, fun _ => t7 = .slice TA us.length tc] (by kernel_rfl) (by kernel_rfl) (fun wf hb hf => ?_) (fun t8 => ?_)
    · obtain ⟨rfl, rfl, -⟩ := hf
      refine WfOp.yes (by kernel_rfl) ?_
      dsimp only
      go_wp2_with (go_at_call 144; refine (c2 _ hb).mono ?_; rintro e w2 ⟨rfl, hb2⟩)
      exact ⟨rfl, .bool true, by kernel_rfl, hb2, rfl⟩
    refine wf_stepK [5, 8] [fun _ => t5 = .bool true, fun _ => t8 = .bool true] (by kernel_rfl) (by kernel_rfl) (fun wf hb hf => ?_) (fun t9 => ?_)
    · obtain ⟨rfl, rfl, -⟩ := hf
      refine ⟨?_⟩
      go_wp2
      exact ⟨rfl, .bool true, by kernel_rfl, Below.refl _ _, rfl⟩
    refine wf_stepK [9] [fun _ => t9 = .bool true] (by kernel_rfl) (by kernel_rfl) (fun wf hb hf => ?_) (fun t10 => ?_)
    · obtain ⟨rfl, -⟩ := hf
      refine ⟨?_⟩
      go_wp2
      exact ⟨rfl, .bool true, by kernel_rfl, Below.refl _ _, rfl⟩
    refine wf_stepK [10] [fun _ => t10 = .bool true] (by kernel_rfl) (by kernel_rfl) (fun wf hb hf => ?_) (fun t11 => ?_)
    · obtain ⟨rfl, -⟩ := hf
      refine WfOp.yes (by kernel_rfl) ?_
      dsimp only
      go_wp2
      exact ⟨rfl, .pointer (some ⟨w.heap.size, 0, none⟩), by kernel_rfl, Below.refl _ _, rfl⟩
    refine wf_stepK [10, 11] [fun _ => t10 = .bool true, fun _ => t11 = .pointer (some ⟨w.heap.size, 0, none⟩)] (by kernel_rfl) (by kernel_rfl) (fun wf hb hf => ?_) (fun t12 => ?_)
    · obtain ⟨rfl, rfl, -⟩ := hf
      refine WfOp.yes (by kernel_rfl) ?_
      dsimp only
      have p0 := (kA.below hb).cell 0
      simp at p0
      go_wp2
      exact ⟨rfl, .slice TA us.length tc, by kernel_rfl, Below.refl _ _, rfl⟩
    refine wf_stepK [10] [fun _ => t10 = .bool true] (by kernel_rfl) (by kernel_rfl) (fun wf hb hf => ?_) (fun t13 => ?_)
    · obtain ⟨rfl, -⟩ := hf
      refine WfOp.yes (by kernel_rfl) ?_
      dsimp only
      have p0 := (kA.below hb).cell 0
      have p1 := (kA.below hb).cell 1
      have p2 := (kA.below hb).cell 2
      simp at p0 p1 p2
      go_wp2
      exact ⟨rfl, .agg #[.slice TA us.length tc, .slice LA lo.length lc, .slice UA up.length uc], by kernel_rfl, Below.refl _ _, rfl⟩
    refine wf_stepK [10, 13] [fun _ => t10 = .bool true, fun _ => t13 = .agg #[.slice TA us.length tc, .slice LA lo.length lc, .slice UA up.length uc]] (by kernel_rfl) (by kernel_rfl) (fun wf hb hf => ?_) (fun t14 => ?_)
    · obtain ⟨rfl, rfl, -⟩ := hf
      refine WfOp.yes (by kernel_rfl) ?_
      dsimp only
      go_wp2
      exact ⟨rfl, .func (.func 146) #[.agg #[.slice TA us.length tc, .slice LA lo.length lc, .slice UA up.length uc]] #[], by kernel_rfl, Below.refl _ _, rfl⟩
    refine wf_stepK [10, 12, 14] [fun _ => t10 = .bool true, fun _ => t12 = .slice TA us.length tc, fun _ => t14 = .func (.func 146) #[.agg #[.slice TA us.length tc, .slice LA lo.length lc, .slice UA up.length uc]] #[]] (by kernel_rfl) (by kernel_rfl) (fun wf hb hf => ?_) (fun t15 => ?_)
    · obtain ⟨rfl, rfl, rfl, -⟩ := hf
      refine WfOp.yes (by kernel_rfl) ?_
      dsimp only
      go_wp2_with (go_at_call 145; refine (c3 _ hb).mono ?_; rintro e w2 ⟨A', c', rfl, -, hb2⟩)
      exact ⟨rfl, .slice A' nW c', by kernel_rfl, hb2, A', c', rfl⟩
    refine wf_stepK [10, 15] [fun _ => t10 = .bool true, SliN nW t15] (by kernel_rfl) (by kernel_rfl) (fun wf hb hf => ?_) (fun t16 => ?_)
    · obtain ⟨rfl, ⟨AW, cW, rfl⟩, -⟩ := hf
      refine WfOp.yes (by kernel_rfl) ?_
      dsimp only
      go_wp2
      exact ⟨rfl, .int .i64 ((nW : Nat)), by kernel_rfl, Below.refl _ _, rfl⟩
    refine wf_stepK [10] [fun _ => t10 = .bool true] (by kernel_rfl) (by kernel_rfl) (fun wf hb hf => ?_) (fun t17 => ?_)
    · obtain ⟨rfl, -⟩ := hf
      refine WfOp.yes (by kernel_rfl) ?_
      dsimp only
      go_wp2
      exact ⟨rfl, .pointer (some ⟨w.heap.size, 0, none⟩), by kernel_rfl, Below.refl _ _, rfl⟩
    refine wf_stepK [10, 17] [fun _ => t10 = .bool true, fun _ => t17 = .pointer (some ⟨w.heap.size, 0, none⟩)] (by kernel_rfl) (by kernel_rfl) (fun wf hb hf => ?_) (fun t18 => ?_)
    · obtain ⟨rfl, rfl, -⟩ := hf
      refine WfOp.yes (by kernel_rfl) ?_
      dsimp only
      have p0 := (kA.below hb).cell 0
      simp at p0
      go_wp2
      exact ⟨rfl, .slice TA us.length tc, by kernel_rfl, Below.refl _ _, rfl⟩
    refine wf_stepK [10, 18] [fun _ => t10 = .bool true, fun _ => t18 = .slice TA us.length tc] (by kernel_rfl) (by kernel_rfl) (fun wf hb hf => ?_) (fun t19 => ?_)
    · obtain ⟨rfl, rfl, -⟩ := hf
      refine WfOp.yes (by kernel_rfl) ?_
      dsimp only
      go_wp2
      exact ⟨rfl, .int .i64 ((us.length : Nat)), by kernel_rfl, Below.refl _ _, rfl⟩
    refine wf_stepK [10, 16, 19] [fun _ => t10 = .bool true, fun _ => t16 = .int .i64 ((nW : Nat)), fun _ => t19 = .int .i64 ((us.length : Nat))] (by kernel_rfl) (by kernel_rfl) (fun wf hb hf => ?_) (fun t20 => ?_)
    · obtain ⟨rfl, rfl, rfl, -⟩ := hf
      refine WfOp.yes (by kernel_rfl) ?_
      dsimp only
      have hk0 : ((nW : Int) == (us.length : Int)) = true := HNW.out
      go_wp2
      exact ⟨rfl, .bool true, by kernel_rfl, Below.refl _ _, rfl⟩
    refine wf_stepK [10, 20] [fun _ => t10 = .bool true, fun _ => t20 = .bool true] (by kernel_rfl) (by kernel_rfl) (fun wf hb hf => ?_) (fun t21 => ?_)
    · obtain ⟨rfl, rfl, -⟩ := hf
      refine ⟨?_⟩
      go_wp2
      exact ⟨rfl, .bool true, by kernel_rfl, Below.refl _ _, rfl⟩
    refine wf_doneK [21] [fun _ => t21 = .bool true] (by kernel_rfl) (by kernel_rfl) (fun w9 b9 hf => ?_)
    obtain ⟨rfl, -⟩ := hf
    show wpList _ _ _ [_] _ _
    refine wpList_frame (by simp [Act.put]; rfl) ?_
    have HBB := Lib.hid (btr hB0 b9)
    clear b9 kA c3 c2 c1 hB0
    go_wp2
    go_ret
    exact ⟨ret_bool HF.out.symm, HBB.out⟩
set_option maxHeartbeats 1600000 in
theorem ValidBatch_i (LA UA TA : Option Addr) (lc uc tc : Nat) (lo up : List Tm) (us : List Upd) (w : World) (h1 : TimesAt w LA lo) (h2 : TimesAt w UA up) (h3 : UpdsAt w TA us) (n1 : lo.length ≤ 4194304) (n2 : up.length ≤ 4194304) (n3 : us.length ≤ 4194304) (r3 : rowsU us 4194304) :
    Calls Try.prog 16 #[.agg #[.slice LA lo.length lc, .slice UA up.length uc, .slice TA us.length tc]] w fun e w' => e = .returned (.bool (batB (lo, (up, us)))) ∧ Below w.heap.size w w' := by
  have hB0 : Below w.heap.size w (w.alloc (.cells #[.slice LA lo.length lc, .slice UA up.length uc, .slice TA us.length tc] 26)) := bal (Below.refl _ _) _
  go_enter Try.func16, Try.ntmps16
  go_wp2_with fail
  refine (boundedOf_i _ _ _ _ _ _ _ _ _ _).mono ?_
  rintro e w1 ⟨rfl, b1⟩
  have B1 := btr hB0 b1
  go_wp2_with fail
  refine (isValidB_i LA UA TA lc uc tc lo up us w1 (h1.below B1) (h2.below B1) (h3.below updR B1) n1 n2 n3 r3).mono ?_
  rintro e w2 ⟨rfl, b2⟩
  have HB := Lib.hid (btr B1 b2)
  clear b1 b2 B1 hB0
  go_wp2
  go_ret
  exact ⟨rfl, HB.out⟩
end Go.Proofs.Ythefakiobpijiaa

/- HELPER, no statement of the seat: the model's valid batches. -/
namespace Go.Proofs.Ythefakiobpijiaa
open Go.RowKit Go.Sort
set_option linter.unusedSimpArgs false
set_option linter.unusedVariables false

set_option maxHeartbeats 1600000 in
theorem inBatch_s (LA UA : Option Addr) (lc uc : Nat) (lo up : List Tm) (x y : Int) (w : World) (h1 : TimesAt w LA lo) (h2 : TimesAt w UA up) (n1 : lo.length ≤ 4194304) (n2 : up.length ≤ 4194304) :
    Calls Try.prog 83 #[.slice LA lo.length lc, .slice UA up.length uc, .agg #[.int .i64 x, .int .i64 y]] w fun e w' => e = .returned (.bool (inBt lo up (x, y))) ∧ Below w.heap.size w w' := by
  have c1 := fun W (h : TimesAt W LA lo) => covers_s LA lc lo x y W h n1
  have c2 := fun W (h : TimesAt W UA up) => covers_s UA uc up x y W h n2
  have hB0 : Below w.heap.size w (w.alloc (.cells #[.int .i64 x, .int .i64 y] 117)) := bal (Below.refl _ _) _
  have kB : Blk (w.alloc (.cells #[.int .i64 x, .int .i64 y] 117)) w.heap.size 117 #[.int .i64 x, .int .i64 y] := Blk.newAt rfl
  cases e1 : cvB lo x y
  · rw [e1] at c1
    have HF : Hid (inBt lo up (x, y) = false) := by simp [Hid, inBt, e1]
    clear e1 c2 kB
    go_enter Try.func83, Try.ntmps83
    go_wp2_with fail
    refine (c1 _ (h1.below hB0)).mono ?_
    rintro e w1 ⟨rfl, b1⟩
    have HB := Lib.hid (btr hB0 b1)
    clear hB0 b1 c1
    go_wp2
    go_ret
    exact ⟨ret_bool HF.out.symm, HB.out⟩
  · rw [e1] at c1
    have HF : Hid (inBt lo up (x, y) = !cvB up x y) := by simp [Hid, inBt, e1]
    clear e1
    go_enter Try.func83, Try.ntmps83
    go_wp2_with fail
    refine (c1 _ (h1.below hB0)).mono ?_
    rintro e w1 ⟨rfl, b1⟩
    have B1 := btr hB0 b1
    have q0 := (kB.below b1).cell 0
    have q1 := (kB.below b1).cell 1
    simp at q0 q1
    clear hB0 b1 c1 kB
    go_wp2_with fail
    refine (c2 _ (h2.below B1)).mono ?_
    rintro e w2 ⟨rfl, b2⟩
    have HB := Lib.hid (btr B1 b2)
    clear B1 b2 c2 q0 q1
    go_wp2
    go_ret
    exact ⟨ret_bool (by rw [HF.out]), HB.out⟩
theorem all_upto {us : List Upd} {f : Upd → Bool} {k : Nat} (hk : k < us.length) (h : f us[k] = false) : us.all f = false := by
  rw [List.all_eq_false]
  exact ⟨us[k], List.getElem_mem hk, by simp [h]⟩
set_option maxRecDepth 100000 in
set_option maxHeartbeats 3200000 in
theorem validBatch_s (LA UA TA : Option Addr) (lc uc tc : Nat) (lo up : List Tm) (us : List Upd) (w : World) (h1 : TimesAt w LA lo) (h2 : TimesAt w UA up) (h3 : UpdsAt w TA us) (n1 : lo.length ≤ 4194304) (n2 : up.length ≤ 4194304) (n3 : us.length ≤ 4194304) (r3 : rowsU us 4194304) :
    Calls Try.prog 73 #[.agg #[.slice LA lo.length lc, .slice UA up.length uc, .slice TA us.length tc]] w fun e w' => e = .returned (.bool (batB (lo, (up, us)))) ∧ Below w.heap.size w w' := by
  have c1 := fun W (h : TimesAt W LA lo) => validFrontier_s LA lc lo W h n1
  have c2 := fun W (h : TimesAt W UA up) => validFrontier_s UA uc up W h n2
  have c3 := fun W (h : TimesAt W LA lo) (k : TimesAt W UA up) => frontierLessEqual_s LA lc lo UA uc up W h n1 k n2
  have c4 := fun W (h : UpdsAt W TA us) => validTrace_s TA tc us W h n3 r3
  have hB0 : Below w.heap.size w (w.alloc (.cells #[.slice LA lo.length lc, .slice UA up.length uc, .slice TA us.length tc] 26)) := bal (Below.refl _ _) _
  have kA : Blk (w.alloc (.cells #[.slice LA lo.length lc, .slice UA up.length uc, .slice TA us.length tc] 26)) w.heap.size 26 #[.slice LA lo.length lc, .slice UA up.length uc, .slice TA us.length tc] := Blk.newAt rfl
  cases e1 : frB lo
  · rw [e1] at c1
    have HF : Hid (batB (lo, (up, us)) = false) := by simp [Hid, batB, flB, e1]
    clear e1 c2 c3 c4 kA
    go_enter Try.func73, Try.ntmps73
    go_wp2_with fail
    refine (c1 _ (h1.below hB0)).mono ?_
    rintro e w1 ⟨rfl, b1⟩
    have HB := Lib.hid (btr hB0 b1)
    clear hB0 b1 c1
    go_wp2
    go_ret
    exact ⟨ret_bool HF.out.symm, HB.out⟩
  rw [e1] at c1
  cases e2 : frB up
  · rw [e2] at c2
    have HF : Hid (batB (lo, (up, us)) = false) := by simp [Hid, batB, flB, e2]
    clear e1 e2 c3 c4
    go_enter Try.func73, Try.ntmps73
    go_wp2_with fail
    refine (c1 _ (h1.below hB0)).mono ?_
    rintro e w1 ⟨rfl, b1⟩
    have B1 := btr hB0 b1
    have p1 := (kA.below b1).cell 1
    simp at p1
    clear hB0 b1 c1 kA
    go_wp2_with fail
    refine (c2 _ (h2.below B1)).mono ?_
    rintro e w2 ⟨rfl, b2⟩
    have HB := Lib.hid (btr B1 b2)
    clear B1 b2 c2 p1
    go_wp2
    go_ret
    exact ⟨ret_bool HF.out.symm, HB.out⟩
  rw [e2] at c2
  cases e3 : (up.all fun e => cvB lo e.1 e.2)
  · rw [e3] at c3
    have HF : Hid (batB (lo, (up, us)) = false) := by simp only [Hid, batB, flB, e1, e2, e3]; rfl
    clear e1 e2 e3 c4
    go_enter Try.func73, Try.ntmps73
    go_wp2_with fail
    refine (c1 _ (h1.below hB0)).mono ?_
    rintro e w1 ⟨rfl, b1⟩
    have B1 := btr hB0 b1
    have k1 := kA.below b1
    have p1 := k1.cell 1
    simp at p1
    clear hB0 b1 c1 kA
    go_wp2_with fail
    refine (c2 _ (h2.below B1)).mono ?_
    rintro e w2 ⟨rfl, b2⟩
    have B2 := btr B1 b2
    have p0 := (k1.below b2).cell 0
    have p1' := (k1.below b2).cell 1
    simp at p0 p1'
    clear B1 b2 c2 p1 k1
    go_wp2_with fail
    refine (c3 _ (h1.below B2) (h2.below B2)).mono ?_
    rintro e w3 ⟨rfl, b3⟩
    have HB := Lib.hid (btr B2 b3)
    clear B2 b3 c3 p0 p1'
    go_wp2
    go_ret
    exact ⟨ret_bool HF.out.symm, HB.out⟩
  rw [e3] at c3
  have HFL : flB lo up = true := by simp only [flB, e1, e2, e3]; rfl
  have HR : Hid (batB (lo, (up, us)) = (trB us && us.all fun e => inBt lo up e.1.2)) := by simp only [Hid, batB, HFL]; rfl
  clear HFL e1 e2 e3
  cases e4 : trB us
  all_goals
    rw [e4] at c4
    have E4 := Lib.hid e4
    clear e4
    go_enter Try.func73, Try.ntmps73
    go_wp2_with fail
    refine (c1 _ (h1.below hB0)).mono ?_
    rintro e w1 ⟨rfl, b1⟩
    have B1 := btr hB0 b1
    have k1 := kA.below b1
    have p1 := k1.cell 1
    simp at p1
    clear hB0 b1 c1 kA
    go_wp2_with fail
    refine (c2 _ (h2.below B1)).mono ?_
    rintro e w2 ⟨rfl, b2⟩
    have B2 := btr B1 b2
    have k2 := k1.below b2
    have p0 := k2.cell 0
    have p1' := k2.cell 1
    simp at p0 p1'
    clear B1 b2 c2 p1 k1
    go_wp2_with fail
    refine (c3 _ (h1.below B2) (h2.below B2)).mono ?_
    rintro e w3 ⟨rfl, b3⟩
    have B3 := btr B2 b3
    have k3 := k2.below b3
    have p2 := k3.cell 2
    simp at p2
    clear B2 b3 c3 p0 p1' k2
    go_wp2_with fail
    refine (c4 _ (h3.below updR B3)).mono ?_
    rintro e w4 ⟨rfl, b4⟩
    have B4 := btr B3 b4
    have k4 := k3.below b4
    clear B3 b4 c4 p2 k3
  · have HF : Hid (batB (lo, (up, us)) = false) := by rw [Hid, HR.out, E4.out]; rfl
    have HB := Lib.hid B4
    clear B4 k4
    go_wp2
    go_ret
    exact ⟨ret_bool HF.out.symm, HB.out⟩
  · have hc := fun W x y (h : Below w.heap.size w W) => inBatch_s LA UA lc uc lo up x y W (h1.below h) (h2.below h) n1 n2
    have HB4 := Lib.hid B4
    have HK4 := Lib.hid k4
    clear B4 k4
    go_wp2
    go_loopw [3] (fun i wr => ∃ k : Nat, k ≤ us.length ∧ i = .int .i64 (k : Nat) ∧ Hid (∀ j (h : j < us.length), j < k → inBt lo up us[j].1.2 = true) ∧ Blk wr w.heap.size 26 #[.slice LA lo.length lc, .slice UA up.length uc, .slice TA us.length tc] ∧ Below w.heap.size w wr) (fun i _ => us.length - (intOf i).toNat)
    case atStart => exact ⟨0, by omega, rfl, fun j h h0 => absurd h0 (by omega), HK4.out, HB4.out⟩
    case round =>
      obtain ⟨k, hk, rfl, hall, kr, hbel⟩ := hrel
      clear HK4 HB4
      have p0 := kr.cell 0
      have p1 := kr.cell 1
      have p2 := kr.cell 2
      simp at p0 p1 p2
      by_cases hlt : k < us.length
      · obtain ⟨b, off, RA, rc, rfl, hbl, hc0, hc1, hc2, hc3, hml, hrow⟩ := h3.get k hlt
        have q1 := (hbel.cell (p := ⟨b, off + k * 4 + 1, none⟩) hbl).trans hc1
        have q2 := (hbel.cell (p := ⟨b, off + k * 4 + 2, none⟩) hbl).trans hc2
        have r0 := cgrow p0
        have r1 := cgrow p1
        have r2 := cgrow p2
        have r3 := cgrow q1
        have r4 := cgrow q2
        have hlt' : (k : Int) < us.length := by omega
        have hcon := fun W (hW : Below wr.heap.size wr W) => hc W us[k].1.2.1 us[k].1.2.2 (btr hbel hW)
        clear hc0 hc1 hc2 hc3 hrow hml hc
        cases hi : inBt lo up us[k].1.2
        · have HF : Hid (batB (lo, (up, us)) = false) := by
            rw [Hid, HR.out, all_upto (f := fun e : Upd => inBt lo up e.1.2) hlt hi]
            simp
          rw [show (us[k].1.2.1, us[k].1.2.2) = us[k].1.2 from rfl, hi] at hcon
          clear hi
          go_wp2_with fail
          refine wp_region_quiet_below (by kernel_rfl) (by kernel_rfl) ?_
          repeat (go_big_quiet_step (exact Calls.regrown_of (hcon _ (below_regrown _ _ _))))
          refine wpQuiet_nil ?_
          intro wq hwq
          obtain ⟨⟨dq, osq⟩, rfl⟩ := hwq
          have HB := Lib.hid (btr hbel (below_regrown wr dq osq))
          clear p0 p1 p2 q1 q2 r0 r1 r2 r3 r4 hcon
          go_wp2
          go_ret
          exact ⟨ret_bool HF.out.symm, HB.out⟩
        · have HA : Hid (∀ j (h : j < us.length), j < k + 1 → inBt lo up us[j].1.2 = true) := fun j h hj => by
            rcases Nat.lt_or_ge j k with h' | h'
            · exact hall.out j h h'
            · obtain rfl : j = k := by omega
              exact hi
          rw [show (us[k].1.2.1, us[k].1.2.2) = us[k].1.2 from rfl, hi] at hcon
          clear hi
          go_wp2_with fail
          refine wp_region_quiet_below (by kernel_rfl) (by kernel_rfl) ?_
          repeat (go_big_quiet_step (exact Calls.regrown_of (hcon _ (below_regrown _ _ _))))
          refine wpQuiet_nil ?_
          intro wq hwq
          obtain ⟨⟨dq, osq⟩, rfl⟩ := hwq
          have hbq := below_regrown wr dq osq
          have HB := Lib.hid (btr hbel hbq)
          have HK := Lib.hid (kr.below hbq)
          clear p0 p1 p2 q1 q2 r0 r1 r2 r3 r4 hcon hbq kr hbel
          go_wp2
          go_roundw
          case rel => exact ⟨k + 1, by omega, by go_num, HA, HK.out, HB.out⟩
          case measure => simp [intOf]; omega
      · obtain rfl : k = us.length := by omega
        have HF : Hid (batB (lo, (up, us)) = true) := by
          rw [Hid, HR.out, E4.out, Bool.true_and, List.all_eq_true]
          intro x hx
          obtain ⟨j, hj, rfl⟩ := List.getElem_of_mem hx
          exact hall.out j hj hj
        go_wp2
        go_ret
        exact ⟨ret_bool HF.out.symm, hbel⟩
end Go.Proofs.Ythefakiobpijiaa

/- HELPER, no statement of the seat: batches that a law has made. -/
namespace Go.Proofs.Ythefakiobpijiaa
open Go.RowKit Go.Sort
set_option linter.unusedSimpArgs false
set_option linter.unusedVariables false

/-- v is a batch that reads so. -/
def BatAt (lo up : List Tm) (us : List Upd) (v : Value) (w : World) : Prop := ∃ LA lc UA uc TA tc, v = .agg #[.slice LA lo.length lc, .slice UA up.length uc, .slice TA us.length tc] ∧ TimesAt w LA lo ∧ TimesAt w UA up ∧ UpdsAt w TA us
theorem stable_batAt (lo up : List Tm) (us : List Upd) : Stable (BatAt lo up us) := fun _ _ _ hb ⟨LA, lc, UA, uc, TA, tc, e, h1, h2, h3⟩ => ⟨LA, lc, UA, uc, TA, tc, e, h1.below hb, h2.below hb, h3.below updR hb⟩
theorem batO_rd {w : World} {S : Fp} {LA UA TA : Option Addr} {lc uc tc : Nat} {lo up : List Tm} {us : List Upd} (h : BatO w S [.slice LA lo.length lc, .slice UA up.length uc, .slice TA us.length tc] (lo, (up, us))) : TimesAt w LA lo ∧ TimesAt w UA up ∧ UpdsAt w TA us := by
  obtain ⟨LA', lc', UA', uc', TA', tc', S1, S2, S3, e, t1, t2, t3, i1, i2, i3⟩ := h.form
  simp only [List.cons.injEq, Value.slice.injEq, and_true, true_and] at e
  obtain ⟨⟨rfl, rfl⟩, ⟨rfl, rfl⟩, ⟨rfl, rfl⟩⟩ := e
  exact ⟨t1.own.at_, t2.own.at_, SlOw.at_ updO t3⟩
theorem batAt_of {w : World} {S : Fp} {LA UA TA : Option Addr} {lc uc tc : Nat} {lo up : List Tm} {us : List Upd} (h : BatO w S [.slice LA lo.length lc, .slice UA up.length uc, .slice TA us.length tc] (lo, (up, us))) : BatAt lo up us (.agg #[.slice LA lo.length lc, .slice UA up.length uc, .slice TA us.length tc]) w := by
  obtain ⟨LA', lc', UA', uc', TA', tc', S1, S2, S3, e, t1, t2, t3, i1, i2, i3⟩ := h.form
  simp only [List.cons.injEq, Value.slice.injEq, and_true, true_and] at e
  obtain ⟨⟨rfl, rfl⟩, ⟨rfl, rfl⟩, ⟨rfl, rfl⟩⟩ := e
  exact ⟨LA, lc, UA, uc, TA, tc, rfl, t1.own.at_, t2.own.at_, SlOw.at_ updO t3⟩
theorem BatO.below {w w' : World} {S : Fp} {cs : List Value} {b : Bt} (h : BatO w S cs b) (ok : OOk BatO BatR 3) (hb : Below w.heap.size w w') : BatO w' S cs b := ok.below h hb
theorem BatO.kept {w w' : World} {S T : Fp} {cs : List Value} {b : Bt} (h : BatO w S cs b) (ok : OOk BatO BatR 3) (hg : GrownS w w' T) (hd : ∀ k, S k → ¬ T k) : BatO w' S cs b := ok.kept h hg hd
end Go.Proofs.Ythefakiobpijiaa
