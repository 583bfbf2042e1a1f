/- The law FnProjectRow returns true at every code; no condition. -/
import Derived.Test.YtjobecoogjojjaaDrawO
import Derived.Test.YtjobecoogjojjaaEqR
import Derived.Test.YtjobecoogjojjaaGrf
import Derived.Test.YtjobecoogjojjaaClo
import Derived.Carry
import Derived.ChangeOld
import Derived.Lib.SmallJoins
import Derived.Lib.QuietBelow
namespace Go.Proofs.Ytjobecoogjojjaa
open Go.ChangeShapes Go.WideShapes Go.ChangeAt Go.RowKit Go.Sort
set_option linter.unusedVariables false
set_option linter.unusedSimpArgs false

theorem absP {P : Program} {f : FuncId} {args : Array Value} {w : World} {Q : Ending → World → Prop} (R : World → Prop) (h : R w) (k : ∀ W, R W → Calls P f args W Q) : Calls P f args w Q := k w h
def upC (n : Nat) : List Int := (List.range n).map (fun i : Nat => (i : Int))
theorem upC_step (n : Nat) : upC (n + 1) = upC n ++ [(n : Int)] := by simp [upC, List.range_succ]
theorem upC_len (n : Nat) : (upC n).length = n := by simp [upC]
theorem rowB_projP {xs cols : List Int} (h : rowB xs = true) (hc : colB cols xs.length = true) : rowB (projL xs cols) = true := by
  obtain ⟨h1, h2, h3⟩ := col_in hc
  simp only [rowB, decide_eq_true_eq] at h ⊢
  refine ⟨by rw [projL_length]; exact h3, by rw [projL_length]; exact h2, fun x hx => ?_⟩
  obtain ⟨c, hcm, rfl⟩ := List.mem_map.1 hx
  have := h1 c hcm
  have hl : c.toNat < xs.length := by omega
  rw [show xs.getD c.toNat 0 = xs[c.toNat] by simp [hl]]
  exact h.2.2 _ (List.getElem_mem hl)
theorem projL_up (xs : List Int) : projL xs (upC xs.length) = xs := by
  apply List.ext_getElem
  · simp [projL, upC]
  · intro i h1 h2
    simp [projL, upC, h2]
theorem colB_up {n : Nat} (h1 : 1 ≤ n) (h6 : n ≤ 6) : colB (upC n) n = true := by
  simp only [colB, decide_eq_true_eq]
  refine ⟨by simp [upC]; omega, by simp [upC]; omega, fun c hc => ?_⟩
  obtain ⟨i, hi, rfl⟩ := List.mem_map.1 hc
  have := List.mem_range.1 hi
  omega
def TupV (r : List Int) (v : Value) (w : World) : Prop := ∃ A c, v = .tuple #[.slice A r.length c, .bool true] ∧ IntsAt w A r
theorem stable_tupV (r : List Int) : Stable (TupV r) := fun _ _ _ hb ⟨A, c, e, h⟩ => ⟨A, c, e, h.below hb⟩
def SlcV (r : List Int) (v : Value) (w : World) : Prop := ∃ A c, v = .slice A r.length c ∧ IntsAt w A r
theorem stable_slcV (r : List Int) : Stable (SlcV r) := fun _ _ _ hb ⟨A, c, e, h⟩ => ⟨A, c, e, h.below hb⟩
def BoxV (a b : Int) (v : Value) (w : World) : Prop := ∃ g, v = .slice (some ⟨g, 0, none⟩) 2 2 ∧ Blk w g 3 (ints [a, b])
theorem stable_boxV (a b : Int) : Stable (BoxV a b) := fun _ _ _ hb ⟨g, e, h⟩ => ⟨g, e, h.below hb⟩
theorem projP {A B : Option Addr} {c d : Nat} {x y : List Int} {w : World} (r : List Int) (b : Bool) (hr : projR x y = r) (hb : projB x y = b) (hx : IntsAt w A x) (hy : IntsAt w B y) (hn : x.length ≤ 4194304) (hm : y.length ≤ 4194304) :
    Calls Try.prog 13 #[.slice A x.length c, .slice B y.length d] w fun e w' => ∃ A' c', e = .returned (.tuple #[.slice A' r.length c', .bool b]) ∧ IntsOwn w' w.heap.size A' c' r ∧ Below w.heap.size w w' := by
  subst hr
  subst hb
  exact ProjectRow_i A B c d x y w hx hy hn hm
theorem projP_s {A B : Option Addr} {c d : Nat} {x y : List Int} {w : World} (r : List Int) (b : Bool) (hr : projR x y = r) (hb : projB x y = b) (hx : IntsAt w A x) (hy : IntsAt w B y) (hn : x.length ≤ 4194304) (hm : y.length ≤ 4194304) :
    Calls Try.prog 14 #[.slice A x.length c, .slice B y.length d] w fun e w' => ∃ A' c', e = .returned (.tuple #[.slice A' r.length c', .bool b]) ∧ IntsOwn w' w.heap.size A' c' r ∧ Below w.heap.size w w' := by
  subst hr
  subst hb
  exact ProjectRow_s A B c d x y w hx hy hn hm

set_option maxRecDepth 100000 in
set_option maxHeartbeats 6400000 in
theorem FnProjectRow_walk (A : Option Addr) (n c : Nat) (w : World) (hc : n ≤ c) (hl : n ≤ maxLen) (hb : BytesAt w w.heap.size A n) :
    Calls Try.prog 3 #[.slice A n c] w fun e w' => e = .returned (.bool true) ∧ Below w.heap.size w w' := by
  unfold maxLen at hl
  by_cases hbign : 1048576 < n
  · have hb' : (1048576 : Int) < n := by omega
    go_enter Try.func3, Try.ntmps3
    go_wp2
    go_ret
    exact ⟨rfl, Below.refl _ _⟩
  have hbn' : (n : Int) ≤ 1048576 := by omega
  have HB := Lib.hid hb
  clear hb hbign
  go_enter Try.func3, Try.ntmps3
  go_wp2_with fail
  refine (DrawProjectRow_r _ _ _ _ HB.out hc (by omega)).mono ?_
  rintro e w1 ⟨x, y, Ax, Ay, cx, cy, rfl, hx, hy, hxl, hyl, B1⟩
  obtain ⟨i0, hi, hz0, hz1, hz2⟩ := info_parts Try.infoInt
  have hxb : x.length ≤ 4194304 := by omega
  have hyb : y.length ≤ 4194304 := by omega
  obtain ⟨R, hR⟩ : ∃ R, projR x y = R := ⟨_, rfl⟩
  have hRl : R.length ≤ 8 := by
    rw [← hR, projR]
    split
    · rw [projL_length]; exact hyl
    · simp
  have hRb : R.length ≤ 4194304 := by omega
  cases hb : projB x y
  · have HB := Lib.hid hb
    have HR := Lib.hid hR
    clear hb hR
    go_wp2_with fail
    refine (projP R false HR.out HB.out hx hy hxb hyb).mono ?_
    rintro e w2 ⟨A2, c2, rfl, o2, b2⟩
    have B2 := btr B1 b2
    go_wp2_with fail
    refine (projP_s R false HR.out HB.out (hx.below b2) (hy.below b2) hxb hyb).mono ?_
    rintro e w3 ⟨A3, c3, rfl, o3, b3⟩
    have B3 := btr B2 b3
    have a2 := o2.at_
    have a3 := o3.at_
    go_wp2_with fail
    refine (eqI true (decide_eq_true rfl) (a2.below b3) a3 hRb hRb).mono ?_
    rintro e w4 ⟨rfl, b4⟩
    have B4 := btr B3 b4
    go_wp2_with fail
    refine (eqI true (decide_eq_true rfl) (a2.below (btr b3 b4)) (a3.below b4) hRb hRb).mono ?_
    rintro e w5 ⟨rfl, b5⟩
    have B5 := btr B4 b5
    go_wp2_with fail
    go_ret
    exact ⟨rfl, B5⟩
  have hb2 := hb
  simp only [projB, Bool.and_eq_true] at hb2
  obtain ⟨hrow, hcol⟩ := hb2
  have hR2 : R = projL x y := by rw [← hR, projR, hb]; rfl
  have hx6 : 1 ≤ x.length ∧ x.length ≤ 6 := by
    have h := hrow
    simp only [rowB, decide_eq_true_eq] at h
    exact ⟨h.1, h.2.1⟩
  obtain ⟨hci, hy6, hy1⟩ := col_in hcol
  obtain ⟨m, hm⟩ : ∃ m, y.length = m + 1 := ⟨y.length - 1, by omega⟩
  have hmy : m < y.length := by omega
  have h0y : 0 < y.length := by omega
  have hrR : rowB R = true := by rw [hR2]; exact rowB_projP hrow hcol
  have hRm : R.length = m + 1 := by rw [hR2, projL_length, hm]
  have q2 : projB x (upC x.length) = true := by simp only [projB, hrow, colB_up hx6.1 hx6.2, Bool.and_self]
  have p2 : projR x (upC x.length) = x := by rw [projR, q2, if_pos rfl, projL_up]
  have q3 : projB R [(m : Int), 0] = true := by
    simp only [projB, hrR, Bool.true_and, colB, decide_eq_true_eq]
    refine ⟨by simp, by simp, fun c hc => ?_⟩
    simp at hc
    rcases hc with rfl | rfl <;> omega
  have q4 : projB x [y[m], y[0]] = true := by
    simp only [projB, hrow, Bool.true_and, colB, decide_eq_true_eq]
    refine ⟨by simp, by simp, fun c hc => ?_⟩
    simp only [List.mem_cons, List.not_mem_nil, or_false] at hc
    rcases hc with rfl | rfl
    · exact hci _ (List.getElem_mem _)
    · exact hci _ (List.getElem_mem _)
  have p34 : projR R [(m : Int), 0] = projR x [y[m], y[0]] := by
    rw [projR, q3, if_pos rfl, projR, q4, if_pos rfl, hR2]
    simp [projL, hmy, h0y]
  obtain ⟨T, hT⟩ : ∃ T, projR x [y[m], y[0]] = T := ⟨_, rfl⟩
  have hTl : T.length = 2 := by rw [← hT, projR, q4, if_pos rfl, projL_length]; rfl
  rw [hT] at p34
  have HB := Lib.hid hb
  have HR := Lib.hid hR
  have Q2 := Lib.hid q2
  have P2 := Lib.hid p2
  have Q3 := Lib.hid q3
  have P3 := Lib.hid p34
  have Q4 := Lib.hid q4
  have P4 := Lib.hid hT
  have HT := Lib.hid hTl
  have HM := Lib.hid hm
  clear hb hR q2 p2 q3 p34 q4 hT hTl hrow hcol hR2 hci hrR hRm hm
  go_wp2_with fail
  refine (projP R true HR.out HB.out hx hy hxb hyb).mono ?_
  rintro e w2 ⟨A2, c2, rfl, o2, b2⟩
  have B2 := btr B1 b2
  go_wp2_with fail
  refine (projP_s R true HR.out HB.out (hx.below b2) (hy.below b2) hxb hyb).mono ?_
  rintro e w3 ⟨A3, c3, rfl, o3, b3⟩
  have B3 := btr B2 b3
  have a2 := o2.at_
  have a3 := o3.at_
  go_wp2_with fail
  refine (eqI true (decide_eq_true rfl) (a2.below b3) a3 hRb hRb).mono ?_
  rintro e V ⟨rfl, b4⟩
  have B4 := btr B3 b4
  have hxV := hx.below (btr (btr b2 b3) b4)
  have hyV := hy.below (btr (btr b2 b3) b4)
  have aRV := a2.below (btr b3 b4)
  have hw0 : (V.alloc (.cells #[] 3)).ownsRow V.heap.size 3 1 (.slice (some ⟨V.heap.size, 0, none⟩) 0 0) 0 ([].map (Value.int .i64)) := World.ownsRow_lit (base := V.heap.size) (size := 1) (e := 3) V #[] 0 (Nat.le_refl _) (by simp [maxLen]) (by simp)
  have HW0 := Lib.hid hw0
  clear hw0 hx hy a2 a3 o2 o3 b2 b3 b4
  go_wp2
  go_loopw [9, 10] (fun v i wr => ∃ (k : Nat) (A' : Option Addr) (c' : Nat), k ≤ x.length ∧ i = .int .i64 (k : Nat) ∧ v = .slice A' k c' ∧ wr.ownsRow V.heap.size 3 1 (.slice A' k c') k ((upC k).map (Value.int .i64)) ∧ Below V.heap.size V wr) (fun _ i _ => x.length - (intOf i).toNat)
  case atStart => exact ⟨0, _, _, by omega, rfl, rfl, HW0.out, bal (Below.refl _ _) _⟩
  case round =>
    obtain ⟨k, A', c', hk, rfl, rfl, hown, bm⟩ := hrel
    have hsm := bm.size
    by_cases hlt : k < x.length
    · have hlt' : (k : Int) < x.length := by omega
      have HO := Lib.hid hown
      clear hown HW0
      go_wp2_with (at_builtin; refine wpList_append_src _ rfl _ _ 23 rfl V.heap.size 3 i0 (.int .i64 0) 1 8 Try.underlying23 hi hz0 hz1 hz2 rfl (by decide) _ _ _ rfl (HO.out.alloc _) (some ⟨wr.heap.size, 0, none⟩) 1 1 [.int .i64 (k : Nat)] rfl rfl (fun h => by cases h) (intZ_srcs _) (intZ_ones _) (by unfold maxLen; omega) (by omega) (by simp; omega) ?_)
      intro v' wA hown' hgrow _
      obtain ⟨A3, c3, rfl⟩ := own_slice hown'
      have hbA : Below V.heap.size V wA := (bal bm _).grown hgrow (by simp; omega) (fun q hq => (World.ownsRow.lt HO.out q hq).1)
      have HO3 : Hid (wA.ownsRow V.heap.size 3 1 (.slice A3 (k + 1) c3) (k + 1) ((upC (k + 1)).map (Value.int .i64))) := by
        rw [Hid, upC_step, List.map_append]
        exact hown'
      clear hown' hgrow HO
      go_wp2
      go_roundw
      case rel => exact ⟨k + 1, A3, c3, by omega, by go_num, rfl, HO3.out, hbA⟩
      case measure => simp [intOf]; omega
    · obtain rfl : k = x.length := by omega
      have hal := upC_len x.length
      have HI : Hid (IntsAt wr A' (upC x.length)) := by
        have h : IntsOwn wr V.heap.size A' c' (upC x.length) := by
          have : wr.ownsRow V.heap.size 3 1 (.slice A' (upC x.length).length c') (upC x.length).length ((upC x.length).map (Value.int .i64)) := by rw [hal]; exact hown
          simpa [IntsOwn] using this
        exact h.at_
      clear hown HW0
      have hxr := hxV.below bm
      have hyr := hyV.below bm
      have aRr := aRV.below bm
      have hcon := fun W (h : IntsAt W Ax x) (h2 : IntsAt W A' (upC x.length)) => projP (A := Ax) (B := A') (c := cx) (d := c') x true P2.out Q2.out h h2 hxb (by omega)
      rw [hal] at hcon
      go_wp2_with fail
      refine (hcon _ hxr HI.out).mono ?_
      rintro e u1 ⟨AS, cS, rfl, oS, d1⟩
      have aS := oS.at_
      have BV := btr B4 bm
      clear hcon HI hal
      have hm1 : (y.length : Int) - 1 = (m : Int) := by have := HM.out; omega
      go_wp2_with fail
      refine absP (fun W => Below u1.heap.size u1 W ∧ Blk W u1.heap.size 3 (ints [(m : Int), 0])) ⟨bal (Below.refl _ _) _, by rw [← hm1]; exact Blk.newAt rfl⟩ ?_
      rintro u2 ⟨d2, hL2⟩
      clear hm1
      refine (projP (y := [(m : Int), 0]) T true P3.out Q3.out (aRr.below (btr d1 d2)) (IntsAt.ofBlk hL2) hRb (by simp)).mono ?_
      rintro e u3 ⟨AT, cT, rfl, oT, d3⟩
      have aT := oT.at_
      have hL3 := hL2.below d3
      have d13 := btr (btr d1 d2) d3
      have hx3 := hxr.below d13
      have hy3 := hyr.below d13
      obtain ⟨by_, oy, rfl, hybl, hyc⟩ := hy3 (by omega)
      have y1 := hyc m hmy
      have y2 := hyc 0 h0y
      have hmy' : (m : Int) < y.length := by omega
      have h0y' : (0 : Int) < y.length := by omega
      rw [show y.getD m 0 = y[m] by simp [hmy]] at y1
      rw [show y.getD 0 0 = y[0] by simp [h0y], Nat.add_zero] at y2
      have HX3 := Lib.hid hx3
      clear hyc hy3 hx3 hyr hxr aRr hL2
      go_wp2_with fail
      refine wp_region_facts [[], [], [], [2], [2, 3], [1, 2, 3, 4], [1, 2, 3, 4, 5], [], [7], [7, 8], [1, 2, 3, 4, 5, 6, 7, 8, 9], [0, 1, 2, 3, 4, 5, 6, 7, 8, 9, 10], [0, 1, 2, 3, 4, 5, 6, 7, 8, 9, 10, 11], [0, 1, 2, 3, 4, 5, 6, 7, 8, 9, 10, 11, 12], [0, 1, 2, 3, 4, 5, 6, 7, 8, 9, 10, 11, 12], [0, 1, 2, 3, 4, 5, 6, 7, 8, 9, 10, 11, 12, 13]]
        [fun v' _ => v' = .slice Ax x.length cx, fun v' _ => v' = .slice (some ⟨by_, oy, none⟩) y.length cy, fun v' _ => v' = .slice (some ⟨u1.heap.size, 0, none⟩) 2 2, fun v' _ => v' = .pointer (some ⟨u1.heap.size, 0, none⟩), fun v' _ => v' = .int .i64 (m : Int), fun v' _ => v' = .pointer (some ⟨by_, oy + m, none⟩), fun v' _ => v' = .int .i64 y[m], fun v' _ => v' = .slice (some ⟨by_, oy, none⟩) y.length cy, fun v' _ => v' = .pointer (some ⟨by_, oy, none⟩), fun v' _ => v' = .int .i64 y[0], BoxV y[m] y[0], TupV T, TupV T, SlcV T, fun v' _ => v' = .bool true, SlcV T]
        (by kernel_rfl) (by kernel_rfl) rfl ⟨stable_pure _, stable_pure _, stable_pure _, stable_pure _, stable_pure _, stable_pure _, stable_pure _, stable_pure _, stable_pure _, stable_pure _, stable_boxV _ _, stable_tupV _, stable_tupV _, stable_slcV _, stable_pure _, stable_slcV _, trivial⟩ ?_
      refine wf_stepK [] [] (by kernel_rfl) (by kernel_rfl) (fun wf hb hf => ?_) (fun t0 => ?_)
      · refine ⟨?_⟩
        go_wp2
        exact ⟨rfl, .slice Ax x.length cx, by kernel_rfl, Below.refl _ _, rfl⟩
      refine wf_stepK [] [] (by kernel_rfl) (by kernel_rfl) (fun wf hb hf => ?_) (fun t1 => ?_)
      · refine ⟨?_⟩
        go_wp2
        exact ⟨rfl, .slice (some ⟨by_, oy, none⟩) y.length cy, by kernel_rfl, Below.refl _ _, rfl⟩
      refine wf_stepK [] [] (by kernel_rfl) (by kernel_rfl) (fun wf hb hf => ?_) (fun t2 => ?_)
      · refine ⟨?_⟩
        go_wp2
        exact ⟨rfl, .slice (some ⟨u1.heap.size, 0, none⟩) 2 2, by kernel_rfl, Below.refl _ _, rfl⟩
      refine wf_stepK [2] [fun _ => t2 = .slice (some ⟨u1.heap.size, 0, none⟩) 2 2] (by kernel_rfl) (by kernel_rfl) (fun wf hb hf => ?_) (fun t3 => ?_)
      · obtain ⟨rfl, -⟩ := hf
        refine ⟨?_⟩
        go_wp2
        exact ⟨rfl, .pointer (some ⟨u1.heap.size, 0, none⟩), by kernel_rfl, Below.refl _ _, rfl⟩
      refine wf_stepK [3] [fun _ => t3 = .pointer (some ⟨u1.heap.size, 0, none⟩)] (by kernel_rfl) (by kernel_rfl) (fun wf hb hf => ?_) (fun t4 => ?_)
      · obtain ⟨rfl, -⟩ := hf
        refine ⟨?_⟩
        have c0 := (hL3.below hb).cell 0
        simp [ints] at c0
        go_wp2
        exact ⟨rfl, .int .i64 (m : Int), by kernel_rfl, Below.refl _ _, rfl⟩
      refine wf_stepK [1, 4] [fun _ => t1 = .slice (some ⟨by_, oy, none⟩) y.length cy, fun _ => t4 = .int .i64 (m : Int)] (by kernel_rfl) (by kernel_rfl) (fun wf hb hf => ?_) (fun t5 => ?_)
      · obtain ⟨rfl, rfl, -⟩ := hf
        refine ⟨?_⟩
        go_wp2
        exact ⟨rfl, .pointer (some ⟨by_, oy + m, none⟩), by kernel_rfl, Below.refl _ _, rfl⟩
      refine wf_stepK [5] [fun _ => t5 = .pointer (some ⟨by_, oy + m, none⟩)] (by kernel_rfl) (by kernel_rfl) (fun wf hb hf => ?_) (fun t6 => ?_)
      · obtain ⟨rfl, -⟩ := hf
        refine ⟨?_⟩
        have c0 := (hb.cell (p := ⟨by_, oy + m, none⟩) hybl).trans y1
        go_wp2
        exact ⟨rfl, .int .i64 y[m], by kernel_rfl, Below.refl _ _, rfl⟩
      refine wf_stepK [] [] (by kernel_rfl) (by kernel_rfl) (fun wf hb hf => ?_) (fun t7 => ?_)
      · refine ⟨?_⟩
        go_wp2
        exact ⟨rfl, .slice (some ⟨by_, oy, none⟩) y.length cy, by kernel_rfl, Below.refl _ _, rfl⟩
      refine wf_stepK [7] [fun _ => t7 = .slice (some ⟨by_, oy, none⟩) y.length cy] (by kernel_rfl) (by kernel_rfl) (fun wf hb hf => ?_) (fun t8 => ?_)
      · obtain ⟨rfl, -⟩ := hf
        refine ⟨?_⟩
        go_wp2
        exact ⟨rfl, .pointer (some ⟨by_, oy, none⟩), by kernel_rfl, Below.refl _ _, rfl⟩
      refine wf_stepK [8] [fun _ => t8 = .pointer (some ⟨by_, oy, none⟩)] (by kernel_rfl) (by kernel_rfl) (fun wf hb hf => ?_) (fun t9 => ?_)
      · obtain ⟨rfl, -⟩ := hf
        refine ⟨?_⟩
        have c0 := (hb.cell (p := ⟨by_, oy, none⟩) hybl).trans y2
        go_wp2
        exact ⟨rfl, .int .i64 y[0], by kernel_rfl, Below.refl _ _, rfl⟩
      refine wf_stepK [6, 9] [fun _ => t6 = .int .i64 y[m], fun _ => t9 = .int .i64 y[0]] (by kernel_rfl) (by kernel_rfl) (fun wf hb hf => ?_) (fun t10 => ?_)
      · obtain ⟨rfl, rfl, -⟩ := hf
        refine ⟨?_⟩
        go_wp2
        exact ⟨rfl, .slice (some ⟨wf.heap.size, 0, none⟩) 2 2, by kernel_rfl, bal (Below.refl _ _) _, wf.heap.size, rfl, Blk.newAt rfl⟩
      refine wf_stepK [0, 10] [fun _ => t0 = .slice Ax x.length cx, BoxV y[m] y[0] t10] (by kernel_rfl) (by kernel_rfl) (fun wf hb hf => ?_) (fun t11 => ?_)
      · obtain ⟨rfl, ⟨gb, rfl, hgb⟩, -⟩ := hf
        refine ⟨?_⟩
        go_wp2_with (go_at_call 13; refine (projP (y := [y[m], y[0]]) T true P4.out Q4.out (HX3.out.below hb) (IntsAt.ofBlk hgb) hxb (by simp)).mono ?_; rintro e w2 ⟨AN, cN, rfl, oN, hb2⟩)
        exact ⟨rfl, .tuple #[.slice AN T.length cN, .bool true], by kernel_rfl, hb2, AN, cN, rfl, oN.at_⟩
      refine wf_stepK [11] [TupV T t11] (by kernel_rfl) (by kernel_rfl) (fun wf hb hf => ?_) (fun t12 => ?_)
      · obtain ⟨⟨AM, cM, rfl, hM⟩, -⟩ := hf
        refine ⟨?_⟩
        go_wp2
        exact ⟨rfl, .tuple #[.slice AM T.length cM, .bool true], by kernel_rfl, Below.refl _ _, AM, cM, rfl, hM⟩
      refine wf_stepK [12] [TupV T t12] (by kernel_rfl) (by kernel_rfl) (fun wf hb hf => ?_) (fun t13 => ?_)
      · obtain ⟨⟨AM, cM, rfl, hM⟩, -⟩ := hf
        refine ⟨?_⟩
        go_wp2
        exact ⟨rfl, .slice AM T.length cM, by kernel_rfl, Below.refl _ _, AM, cM, rfl, hM⟩
      refine wf_stepK [12] [TupV T t12] (by kernel_rfl) (by kernel_rfl) (fun wf hb hf => ?_) (fun t14 => ?_)
      · obtain ⟨⟨AM, cM, rfl, hM⟩, -⟩ := hf
        refine ⟨?_⟩
        go_wp2
        exact ⟨rfl, .bool true, by kernel_rfl, Below.refl _ _, rfl⟩
      refine wf_stepK [13] [SlcV T t13] (by kernel_rfl) (by kernel_rfl) (fun wf hb hf => ?_) (fun t15 => ?_)
      · obtain ⟨⟨AM, cM, rfl, hM⟩, -⟩ := hf
        refine ⟨?_⟩
        go_wp2
        exact ⟨rfl, .slice AM T.length cM, by kernel_rfl, Below.refl _ _, AM, cM, rfl, hM⟩
      refine wf_doneK [14, 15] [fun _ => t14 = .bool true, SlcV T t15] (by kernel_rfl) (by kernel_rfl) (fun u4 hb hf => ?_)
      obtain ⟨rfl, ⟨AO, cO, rfl, aO⟩, -⟩ := hf
      show wpList _ _ _ [_] _ _
      refine wpList_frame (by simp [Act.put]; rfl) ?_
      have hTb : T.length ≤ 4194304 := by have := HT.out; omega
      have d14 := btr (btr d2 d3) hb
      have aS4 := aS.below d14
      have aT4 := aT.below hb
      have hx4 := HX3.out.below hb
      have BF := btr (btr BV d13) hb
      clear y1 y2 hL3 aS aT
      go_wp2_with fail
      refine (eqI true (decide_eq_true rfl) aS4 hx4 hxb hxb).mono ?_
      rintro e u5 ⟨rfl, d5⟩
      go_wp2_with fail
      refine (eqI true (decide_eq_true rfl) (aT4.below d5) (aO.below d5) hTb hTb).mono ?_
      rintro e u6 ⟨rfl, d6⟩
      go_wp2_with fail
      go_ret
      exact ⟨rfl, btr (btr BF d5) d6⟩

namespace lawFnProjectRow
theorem own : ownKnob Try.prog.godebug = none := by kernel_rfl
theorem laidOut : laidOutB Try.prog = true := clo_laid
set_option maxRecDepth 100000 in
theorem lifted (os : Os) (started : os.Started) (H : Type) (enc : TypeId × Value → H) :
    ReturnsInHanded {} Try.checked os 3 .any (Rows.fnProjectRowSpec.pre6 enc Try.prog Try.f3 Rows.fnProjectRowRow.domain false) (Rows.fnProjectRowSpec.post enc Try.prog Try.f3 false true false false) := by
  refine returnsInHanded_of_change (C := Try.checked) own started (by kernel_rfl) Try.func3
    (ChangeSpec.witness6 (enc := enc) (C := Try.checked) false ⟨#[], #[.slice none 0 0], []⟩ 8 (by kernel_rfl) (by kernel_rfl) (by kernel_rfl) (by kernel_rfl)) ?_
  intro W base args ds gs before hval0 hW hcnd _
  have hval : ∀ (j : Nat) t v, Try.f3.params[j]? = some t → args[j]? = some v → Value.okWide Try.prog W .any base t v := hval0
  have hW' := hW
  obtain ⟨p, q, hA0, hV, rfl, hfz, hnd⟩ := hW
  have hA : DataW.TrodAll enc Try.prog W 0 (fun _ => true) true Try.f3.params.toList args.toList ds p := hA0
  rw [Try.params3] at hA hval
  obtain ⟨v0, vs0, d0, ds0, p0, q0, hargs, rfl, rfl, h0, r0⟩ := trodAll_cons hA
  obtain ⟨rfl, rfl, rfl⟩ := trodAll_nil r0
  obtain rfl : args = #[v0] := by cases args; simp_all
  obtain ⟨rfl, rfl⟩ := trodVars_none hV
  have k0 := h0
  have lt0 : ∀ x ∈ p0, x.block < W.heap.size := by obtain ⟨m, hm⟩ := k0; exact DataW.trod_lt m _ _ _ hm
  obtain ⟨a0, len0, cap0, rfl⟩ := okWide_slice Try.underlying22 (hval 0 22 v0 rfl rfl)
  obtain ⟨l0, m0, w0⟩ := bytes_of Try.underlying22 Try.underlying5 (by kernel_rfl) h0
  clear hA0 hval0
  refine (FnProjectRow_walk a0 len0 cap0 W l0 m0 w0).mono fun e W' ⟨he, bel⟩ => ?_
  subst he
  exact ⟨_, rfl, _, _, _, [], _, [], hW', trodAll_mk1 (shut_bool Try.underlying4 _), (trodAll_cons_mk (Below.trod laidOut (by kernel_rfl) (of_decide_eq_true (by kernel_rfl)) k0 bel lt0) trodAll_mk0), rfl, bel.frame _, fun h => by cases h⟩
theorem andTT {a b : Bool} (h1 : a = true) (h2 : b = true) : (a && b) = true := by rw [h1, h2]; rfl
set_option maxHeartbeats 8000000 in
theorem closed : joinedFacts Try.prog 3 Try.f3 Rows.fnProjectRowSpec Rows.fnProjectRowRow = true := by
  unfold joinedFacts
  repeat' (with_reducible refine andTT ?_ ?_)
  all_goals (first | (with_reducible exact clo_laid) | (with_reducible exact clo_maps) | (with_reducible exact clo_heard) | (with_reducible exact clo_enter) | ((with_reducible refine clo_plain _ ?_); rfl) | ((with_reducible refine clo_lifts _ ?_); rfl) | (as_aux_lemma => kernel_rfl))

theorem over : Rows.fnProjectRowRow.holds Try.pinned (OpenSpec.ofChange Rows.fnProjectRowSpec) :=
  OpenClaim.holds_of_wide 3 Try.f3 rfl rfl rfl rfl rfl rfl rfl ⟨rfl, rfl, rfl, rfl, rfl⟩ rfl rfl rfl rfl rfl (by kernel_rfl) Try.func3 closed
    (of_decide_eq_true (by kernel_rfl)) (by unfold Func.isWrapper; first | (rw [if_pos (by decide +kernel)]; kernel_rfl) | (rw [if_neg (by decide +kernel)]; exact ⟨rfl, rfl⟩))
    (fun os started H enc _ => lifted os started H enc)

/-- THE STATEMENT. -/
theorem proved : Rows.FnProjectRowSaid := over
end lawFnProjectRow
end Go.Proofs.Ytjobecoogjojjaa
