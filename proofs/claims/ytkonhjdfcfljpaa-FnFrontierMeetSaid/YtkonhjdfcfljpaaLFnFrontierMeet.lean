/- The law FnFrontierMeet returns true at every two codes; no condition. -/
import Derived.Test.YtkonhjdfcfljpaaDrawH
import Derived.Test.YtkonhjdfcfljpaaEqM
import Derived.Test.YtkonhjdfcfljpaaFrX
import Derived.Test.YtkonhjdfcfljpaaClo
import Derived.Carry
import Derived.ChangeOld
import Derived.Lib.SmallJoins
import Derived.Lib.QuietBelow
namespace Go.Proofs.Ytkonhjdfcfljpaa
open Go.ChangeShapes Go.WideShapes Go.ChangeAt Go.RowKit Go.Sort
set_option linter.unusedVariables false
set_option linter.unusedSimpArgs false

theorem absCF {P : Program} {f : FuncId} {args : Array Value} {w : World} {Q : Ending → World → Prop} (R : World → Prop) (h : R w) (k : ∀ W, R W → Calls P f args W Q) : Calls P f args w Q := k w h
theorem validO {A : Option Addr} {c : Nat} {fr : List Tm} {w : World} (r : Bool) (he : frB fr = r) (hx : TimesAt w A fr) (hn : fr.length ≤ 4194304) :
    Calls Try.prog 48 #[.slice A fr.length c] w fun e w' => e = .returned (.bool r) ∧ Below w.heap.size w w' := he ▸ ValidFrontier_i A c fr w hx hn
theorem coversO {A : Option Addr} {c : Nat} {fr : List Tm} {u v : Int} {w : World} (r : Bool) (he : fcB fr u v = r) (hx : TimesAt w A fr) (hn : fr.length ≤ 4194304) :
    Calls Try.prog 49 #[.slice A fr.length c, .agg #[.int .i64 u, .int .i64 v]] w fun e w' => e = .returned (.bool r) ∧ Below w.heap.size w w' := he ▸ FrontierCovers_i A c fr u v w hx hn
theorem leqO {A B : Option Addr} {c d : Nat} {x y : List Tm} {w : World} (r : Bool) (he : flB x y = r) (hx : TimesAt w A x) (hy : TimesAt w B y) (hn : x.length ≤ 4194304) (hm : y.length ≤ 4194304) :
    Calls Try.prog 52 #[.slice A x.length c, .slice B y.length d] w fun e w' => e = .returned (.bool r) ∧ Below w.heap.size w w' := he ▸ FrontierLessEqual_i A c x B d y w hx hn hy hm

set_option maxRecDepth 100000 in
set_option maxHeartbeats 6400000 in
theorem FnFrontierMeet_walk (A : Option Addr) (n c : Nat) (AA : Option Addr) (nn cc : Nat) (w : World) (hc : n ≤ c) (hl : n ≤ maxLen) (hb : BytesAt w w.heap.size A n) (hcc : nn ≤ cc) (hll : nn ≤ maxLen) (hbb : BytesAt w w.heap.size AA nn) :
    Calls Try.prog 11 #[.slice A n c, .slice AA nn cc] w fun e w' => e = .returned (.bool true) ∧ Below w.heap.size w w' := by
  unfold maxLen at hl hll
  by_cases hbign : 1048576 < n
  · have hb' : (1048576 : Int) < n := by omega
    go_enter Try.func11, Try.ntmps11
    go_wp2
    go_ret
    exact ⟨rfl, Below.refl _ _⟩
  have hbn' : (n : Int) ≤ 1048576 := by omega
  by_cases hbignn : 1048576 < nn
  · have hb' : (1048576 : Int) < nn := by omega
    go_enter Try.func11, Try.ntmps11
    go_wp2
    go_ret
    exact ⟨rfl, Below.refl _ _⟩
  have hbnn' : (nn : Int) ≤ 1048576 := by omega
  have HB := Lib.hid hb
  clear hb hbign
  have HBB := Lib.hid hbb
  clear hbb hbignn
  go_enter Try.func11, Try.ntmps11
  go_wp2_with fail
  refine (DrawFrontierMeet_r _ _ _ _ HB.out hc (by omega)).mono ?_
  rintro e w1 ⟨x, y, Ax, Ay, cx, cy, rfl, hox, hoy, hxl, hyl, b1⟩
  have B1 := b1
  have nx : x.length ≤ 4194304 := by omega
  have ny : y.length ≤ 4194304 := by omega
  have nj : (MeetF x y).length ≤ 4194304 := by have := MeetF_le x y; have h2 := Nat.mul_le_mul hxl hyl; omega
  have hx1 := hox.at_
  have hy1 := hoy.at_
  clear hox hoy
  go_wp2_with fail
  refine (FrontierMeet_i Ax Ay cx cy x y _ hx1 hy1 nx ny).mono ?_
  rintro e w2 ⟨Aj, cj, rfl, hoj, b2⟩
  have B2 := btr B1 b2
  have hx2 := hx1.below b2
  have hy2 := hy1.below b2
  clear hx1 hy1
  have hj2 := hoj.at_
  clear hoj
  go_wp2_with fail
  refine (FrontierMeet_s Ax Ay cx cy x y _ hx2 hy2 nx ny).mono ?_
  rintro e w3 ⟨As2, cs2, rfl, hos, b3⟩
  have B3 := btr B2 b3
  have hx3 := hx2.below b3
  have hy3 := hy2.below b3
  have hj3 := hj2.below b3
  clear hx2 hy2 hj2
  have hs3 := hos.at_
  clear hos
  go_wp2_with fail
  refine (equalM true (decide_eq_true rfl) hj3 hs3 nj nj).mono ?_
  rintro e w4 ⟨rfl, b4⟩
  have B4 := btr B3 b4
  have hx4 := hx3.below b4
  have hy4 := hy3.below b4
  have hj4 := hj3.below b4
  clear hx3 hy3 hj3
  clear hs3
  cases hX : frB x
  · have HX := Lib.hid hX
    clear hX
    go_wp2_with fail
    refine (validO false HX.out hx4 nx).mono ?_
    rintro e w5 ⟨rfl, b5⟩
    have B5 := btr B4 b5
    have hx5 := hx4.below b5
    have hy5 := hy4.below b5
    have hj5 := hj4.below b5
    clear hx4 hy4 hj4
    go_wp2_with fail
    refine (FrontierMeet_s Ax Ay cx cy x y _ hx5 hy5 nx ny).mono ?_
    rintro e w6 ⟨As5, cs5, rfl, hos, b6⟩
    have B6 := btr B5 b6
    have hx6 := hx5.below b6
    have hy6 := hy5.below b6
    have hj6 := hj5.below b6
    clear hx5 hy5 hj5
    have hs6 := hos.at_
    clear hos
    go_wp2_with fail
    refine (equalM true (decide_eq_true rfl) hj6 hs6 nj nj).mono ?_
    rintro e w7 ⟨rfl, b7⟩
    have B7 := btr B6 b7
    have hx7 := hx6.below b7
    have hy7 := hy6.below b7
    have hj7 := hj6.below b7
    clear hx6 hy6 hj6
    clear hs6
    go_wp2_with fail
    go_ret
    exact ⟨rfl, B7⟩
  have HX := Lib.hid hX
  clear hX
  cases hY : frB y
  · have HY := Lib.hid hY
    clear hY
    go_wp2_with fail
    refine (validO true HX.out hx4 nx).mono ?_
    rintro e w5 ⟨rfl, b5⟩
    have B5 := btr B4 b5
    have hx5 := hx4.below b5
    have hy5 := hy4.below b5
    have hj5 := hj4.below b5
    clear hx4 hy4 hj4
    go_wp2_with fail
    refine (validO false HY.out hy5 ny).mono ?_
    rintro e w6 ⟨rfl, b6⟩
    have B6 := btr B5 b6
    have hx6 := hx5.below b6
    have hy6 := hy5.below b6
    have hj6 := hj5.below b6
    clear hx5 hy5 hj5
    go_wp2_with fail
    refine (FrontierMeet_s Ax Ay cx cy x y _ hx6 hy6 nx ny).mono ?_
    rintro e w7 ⟨As6, cs6, rfl, hos, b7⟩
    have B7 := btr B6 b7
    have hx7 := hx6.below b7
    have hy7 := hy6.below b7
    have hj7 := hj6.below b7
    clear hx6 hy6 hj6
    have hs7 := hos.at_
    clear hos
    go_wp2_with fail
    refine (equalM true (decide_eq_true rfl) hj7 hs7 nj nj).mono ?_
    rintro e w8 ⟨rfl, b8⟩
    have B8 := btr B7 b8
    have hx8 := hx7.below b8
    have hy8 := hy7.below b8
    have hj8 := hj7.below b8
    clear hx7 hy7 hj7
    clear hs7
    go_wp2_with fail
    go_ret
    exact ⟨rfl, B8⟩
  have HY := Lib.hid hY
  clear hY
  go_wp2_with fail
  refine (validO true HX.out hx4 nx).mono ?_
  rintro e w5 ⟨rfl, b5⟩
  have B5 := btr B4 b5
  have hx5 := hx4.below b5
  have hy5 := hy4.below b5
  have hj5 := hj4.below b5
  clear hx4 hy4 hj4
  go_wp2_with fail
  refine (validO true HY.out hy5 ny).mono ?_
  rintro e w6 ⟨rfl, b6⟩
  have B6 := btr B5 b6
  have hx6 := hx5.below b6
  have hy6 := hy5.below b6
  have hj6 := hj5.below b6
  clear hx5 hy5 hj5
  have hbb : BytesAt w6 w6.heap.size AA nn := fun hp => by
    obtain ⟨b, off, e, h1, h2⟩ := (HBB.out.below B6 (Nat.le_refl _)) hp
    exact ⟨b, off, e, by have := B6.size; omega, h2⟩
  go_wp2_with fail
  refine (DrawVT_r _ _ _ _ hbb hcc (by omega)).mono ?_
  rintro e w7 ⟨tx, ty, rfl, b7⟩
  have B7 := btr B6 b7
  have hx7 := hx6.below b7
  have hy7 := hy6.below b7
  have hj7 := hj6.below b7
  clear hx6 hy6 hj6
  clear hbb
  go_wp2_with fail
  refine absCF (fun W => Below w7.heap.size w7 W ∧ Blk W w7.heap.size 52 #[.int .i64 tx, .int .i64 ty]) ⟨bal (Below.refl _ _) _, Blk.newAt rfl⟩ ?_
  rintro w8 ⟨b8, hk8⟩
  have B8 := btr B7 b8
  have hx8 := hx7.below b8
  have hy8 := hy7.below b8
  have hj8 := hj7.below b8
  clear hx7 hy7 hj7
  have t0 := hk8.cell 0
  have t1 := hk8.cell 1
  simp at t0 t1
  cases hC : fcB x tx ty
  · have HC := Lib.hid hC
    clear hC
    go_wp2_with fail
    refine (coversO false HC.out hx8 nx).mono ?_
    rintro e w9 ⟨rfl, b9⟩
    have B9 := btr B8 b9
    have hx9 := hx8.below b9
    have hy9 := hy8.below b9
    have hj9 := hj8.below b9
    have hk9 := hk8.below b9
    clear hx8 hy8 hj8 hk8
    clear t0 t1
    have t0 := hk9.cell 0
    have t1 := hk9.cell 1
    simp at t0 t1
    cases hD : fcB y tx ty
    · have HD := Lib.hid hD
      clear hD
      go_wp2_with fail
      refine (coversO false HD.out hy9 ny).mono ?_
      rintro e w10 ⟨rfl, b10⟩
      have B10 := btr B9 b10
      have hx10 := hx9.below b10
      have hy10 := hy9.below b10
      have hj10 := hj9.below b10
      have hk10 := hk9.below b10
      clear hx9 hy9 hj9 hk9
      clear t0 t1
      have t0 := hk10.cell 0
      have t1 := hk10.cell 1
      simp at t0 t1
      have hfc : fcB (MeetF x y) tx ty = false := by rw [MeetF_fc HX.out HY.out]; rw [HC.out, HD.out]; rfl
      have HFC := Lib.hid hfc
      clear hfc
      go_wp2_with fail
      refine (coversO false HFC.out hj10 nj).mono ?_
      rintro e w11 ⟨rfl, b11⟩
      have B11 := btr B10 b11
      have hx11 := hx10.below b11
      have hy11 := hy10.below b11
      have hj11 := hj10.below b11
      have hk11 := hk10.below b11
      clear hx10 hy10 hj10 hk10
      clear t0 t1
      have t0 := hk11.cell 0
      have t1 := hk11.cell 1
      simp at t0 t1
      go_wp2_with fail
      refine (FrontierMeet_i Ay Ax cy cx y x _ hy11 hx11 ny nx).mono ?_
      rintro e w12 ⟨Aq, cq, rfl, hoq, b12⟩
      have B12 := btr B11 b12
      have hx12 := hx11.below b12
      have hy12 := hy11.below b12
      have hj12 := hj11.below b12
      have hk12 := hk11.below b12
      clear hx11 hy11 hj11 hk11
      clear t0 t1
      have t0 := hk12.cell 0
      have t1 := hk12.cell 1
      simp at t0 t1
      have hq12 := hoq.at_
      clear hoq
      have nq : (MeetF y x).length ≤ 4194304 := by rw [MeetF_swap HX.out HY.out]; exact nj
      go_wp2_with fail
      refine (equalM true (decide_eq_true (MeetF_swap HX.out HY.out)) hq12 hj12 nq nj).mono ?_
      rintro e w13 ⟨rfl, b13⟩
      have B13 := btr B12 b13
      have hx13 := hx12.below b13
      have hy13 := hy12.below b13
      have hj13 := hj12.below b13
      have hk13 := hk12.below b13
      clear hx12 hy12 hj12 hk12
      clear t0 t1
      have t0 := hk13.cell 0
      have t1 := hk13.cell 1
      simp at t0 t1
      clear hq12
      go_wp2_with fail
      refine (validO true (MeetF_frB HX.out HY.out) hj13 nj).mono ?_
      rintro e w14 ⟨rfl, b14⟩
      have B14 := btr B13 b14
      have hx14 := hx13.below b14
      have hy14 := hy13.below b14
      have hj14 := hj13.below b14
      have hk14 := hk13.below b14
      clear hx13 hy13 hj13 hk13
      clear t0 t1
      have t0 := hk14.cell 0
      have t1 := hk14.cell 1
      simp at t0 t1
      go_wp2_with fail
      refine (leqO true (MeetF_fl HX.out HY.out) hj14 hx14 nj nx).mono ?_
      rintro e w15 ⟨rfl, b15⟩
      have B15 := btr B14 b15
      have hx15 := hx14.below b15
      have hy15 := hy14.below b15
      have hj15 := hj14.below b15
      have hk15 := hk14.below b15
      clear hx14 hy14 hj14 hk14
      clear t0 t1
      have t0 := hk15.cell 0
      have t1 := hk15.cell 1
      simp at t0 t1
      clear t0 t1
      go_wp2_with fail
      go_ret
      exact ⟨rfl, B15⟩
    · have HD := Lib.hid hD
      clear hD
      go_wp2_with fail
      refine (coversO true HD.out hy9 ny).mono ?_
      rintro e w10 ⟨rfl, b10⟩
      have B10 := btr B9 b10
      have hx10 := hx9.below b10
      have hy10 := hy9.below b10
      have hj10 := hj9.below b10
      have hk10 := hk9.below b10
      clear hx9 hy9 hj9 hk9
      clear t0 t1
      have t0 := hk10.cell 0
      have t1 := hk10.cell 1
      simp at t0 t1
      have hfc : fcB (MeetF x y) tx ty = true := by rw [MeetF_fc HX.out HY.out]; rw [HC.out, HD.out]; rfl
      have HFC := Lib.hid hfc
      clear hfc
      go_wp2_with fail
      refine (coversO true HFC.out hj10 nj).mono ?_
      rintro e w11 ⟨rfl, b11⟩
      have B11 := btr B10 b11
      have hx11 := hx10.below b11
      have hy11 := hy10.below b11
      have hj11 := hj10.below b11
      have hk11 := hk10.below b11
      clear hx10 hy10 hj10 hk10
      clear t0 t1
      have t0 := hk11.cell 0
      have t1 := hk11.cell 1
      simp at t0 t1
      go_wp2_with fail
      refine (FrontierMeet_i Ay Ax cy cx y x _ hy11 hx11 ny nx).mono ?_
      rintro e w12 ⟨Aq, cq, rfl, hoq, b12⟩
      have B12 := btr B11 b12
      have hx12 := hx11.below b12
      have hy12 := hy11.below b12
      have hj12 := hj11.below b12
      have hk12 := hk11.below b12
      clear hx11 hy11 hj11 hk11
      clear t0 t1
      have t0 := hk12.cell 0
      have t1 := hk12.cell 1
      simp at t0 t1
      have hq12 := hoq.at_
      clear hoq
      have nq : (MeetF y x).length ≤ 4194304 := by rw [MeetF_swap HX.out HY.out]; exact nj
      go_wp2_with fail
      refine (equalM true (decide_eq_true (MeetF_swap HX.out HY.out)) hq12 hj12 nq nj).mono ?_
      rintro e w13 ⟨rfl, b13⟩
      have B13 := btr B12 b13
      have hx13 := hx12.below b13
      have hy13 := hy12.below b13
      have hj13 := hj12.below b13
      have hk13 := hk12.below b13
      clear hx12 hy12 hj12 hk12
      clear t0 t1
      have t0 := hk13.cell 0
      have t1 := hk13.cell 1
      simp at t0 t1
      clear hq12
      go_wp2_with fail
      refine (validO true (MeetF_frB HX.out HY.out) hj13 nj).mono ?_
      rintro e w14 ⟨rfl, b14⟩
      have B14 := btr B13 b14
      have hx14 := hx13.below b14
      have hy14 := hy13.below b14
      have hj14 := hj13.below b14
      have hk14 := hk13.below b14
      clear hx13 hy13 hj13 hk13
      clear t0 t1
      have t0 := hk14.cell 0
      have t1 := hk14.cell 1
      simp at t0 t1
      go_wp2_with fail
      refine (leqO true (MeetF_fl HX.out HY.out) hj14 hx14 nj nx).mono ?_
      rintro e w15 ⟨rfl, b15⟩
      have B15 := btr B14 b15
      have hx15 := hx14.below b15
      have hy15 := hy14.below b15
      have hj15 := hj14.below b15
      have hk15 := hk14.below b15
      clear hx14 hy14 hj14 hk14
      clear t0 t1
      have t0 := hk15.cell 0
      have t1 := hk15.cell 1
      simp at t0 t1
      clear t0 t1
      go_wp2_with fail
      go_ret
      exact ⟨rfl, B15⟩
  · have HC := Lib.hid hC
    clear hC
    go_wp2_with fail
    refine (coversO true HC.out hx8 nx).mono ?_
    rintro e w9 ⟨rfl, b9⟩
    have B9 := btr B8 b9
    have hx9 := hx8.below b9
    have hy9 := hy8.below b9
    have hj9 := hj8.below b9
    have hk9 := hk8.below b9
    clear hx8 hy8 hj8 hk8
    clear t0 t1
    have t0 := hk9.cell 0
    have t1 := hk9.cell 1
    simp at t0 t1
    have hfc : fcB (MeetF x y) tx ty = true := by rw [MeetF_fc HX.out HY.out]; rw [HC.out]; simp
    have HFC := Lib.hid hfc
    clear hfc
    go_wp2_with fail
    refine (coversO true HFC.out hj9 nj).mono ?_
    rintro e w10 ⟨rfl, b10⟩
    have B10 := btr B9 b10
    have hx10 := hx9.below b10
    have hy10 := hy9.below b10
    have hj10 := hj9.below b10
    have hk10 := hk9.below b10
    clear hx9 hy9 hj9 hk9
    clear t0 t1
    have t0 := hk10.cell 0
    have t1 := hk10.cell 1
    simp at t0 t1
    go_wp2_with fail
    refine (FrontierMeet_i Ay Ax cy cx y x _ hy10 hx10 ny nx).mono ?_
    rintro e w11 ⟨Aq, cq, rfl, hoq, b11⟩
    have B11 := btr B10 b11
    have hx11 := hx10.below b11
    have hy11 := hy10.below b11
    have hj11 := hj10.below b11
    have hk11 := hk10.below b11
    clear hx10 hy10 hj10 hk10
    clear t0 t1
    have t0 := hk11.cell 0
    have t1 := hk11.cell 1
    simp at t0 t1
    have hq11 := hoq.at_
    clear hoq
    have nq : (MeetF y x).length ≤ 4194304 := by rw [MeetF_swap HX.out HY.out]; exact nj
    go_wp2_with fail
    refine (equalM true (decide_eq_true (MeetF_swap HX.out HY.out)) hq11 hj11 nq nj).mono ?_
    rintro e w12 ⟨rfl, b12⟩
    have B12 := btr B11 b12
    have hx12 := hx11.below b12
    have hy12 := hy11.below b12
    have hj12 := hj11.below b12
    have hk12 := hk11.below b12
    clear hx11 hy11 hj11 hk11
    clear t0 t1
    have t0 := hk12.cell 0
    have t1 := hk12.cell 1
    simp at t0 t1
    clear hq11
    go_wp2_with fail
    refine (validO true (MeetF_frB HX.out HY.out) hj12 nj).mono ?_
    rintro e w13 ⟨rfl, b13⟩
    have B13 := btr B12 b13
    have hx13 := hx12.below b13
    have hy13 := hy12.below b13
    have hj13 := hj12.below b13
    have hk13 := hk12.below b13
    clear hx12 hy12 hj12 hk12
    clear t0 t1
    have t0 := hk13.cell 0
    have t1 := hk13.cell 1
    simp at t0 t1
    go_wp2_with fail
    refine (leqO true (MeetF_fl HX.out HY.out) hj13 hx13 nj nx).mono ?_
    rintro e w14 ⟨rfl, b14⟩
    have B14 := btr B13 b14
    have hx14 := hx13.below b14
    have hy14 := hy13.below b14
    have hj14 := hj13.below b14
    have hk14 := hk13.below b14
    clear hx13 hy13 hj13 hk13
    clear t0 t1
    have t0 := hk14.cell 0
    have t1 := hk14.cell 1
    simp at t0 t1
    clear t0 t1
    go_wp2_with fail
    go_ret
    exact ⟨rfl, B14⟩

namespace lawFnFrontierMeet
theorem own : ownKnob Try.prog.godebug = none := by kernel_rfl
theorem laidOut : laidOutB Try.prog = true := clo_laid
set_option maxRecDepth 100000 in
theorem lifted (os : Os) (started : os.Started) (H : Type) (enc : TypeId × Value → H) :
    ReturnsInHanded {} Try.checked os 11 .any (Rows.fnFrontierMeetSpec.pre6 enc Try.prog Try.f11 Rows.fnFrontierMeetRow.domain false) (Rows.fnFrontierMeetSpec.post enc Try.prog Try.f11 false true false false) := by
  refine returnsInHanded_of_change (C := Try.checked) own started (by kernel_rfl) Try.func11
    (ChangeSpec.witness6 (enc := enc) (C := Try.checked) false ⟨#[], #[.slice none 0 0, .slice none 0 0], []⟩ 8 (by kernel_rfl) (by kernel_rfl) (by kernel_rfl) (by kernel_rfl)) ?_
  intro W base args ds gs before hval0 hW hcnd _
  have hval : ∀ (j : Nat) t v, Try.f11.params[j]? = some t → args[j]? = some v → Value.okWide Try.prog W .any base t v := hval0
  have hW' := hW
  obtain ⟨p, q, hA0, hV, rfl, hfz, hnd⟩ := hW
  have hA : DataW.TrodAll enc Try.prog W 0 (fun _ => true) true Try.f11.params.toList args.toList ds p := hA0
  rw [Try.params11] at hA hval
  obtain ⟨v0, vs0, d0, ds0, p0, q0, hargs, rfl, rfl, h0, r0⟩ := trodAll_cons hA
  obtain ⟨v1, vs1, d1, ds1, p1, q1, rfl, rfl, rfl, h1, r1⟩ := trodAll_cons r0
  obtain ⟨rfl, rfl, rfl⟩ := trodAll_nil r1
  obtain rfl : args = #[v0, v1] := by cases args; simp_all
  obtain ⟨rfl, rfl⟩ := trodVars_none hV
  have k0 := h0
  have lt0 : ∀ x ∈ p0, x.block < W.heap.size := by obtain ⟨m, hm⟩ := k0; exact DataW.trod_lt m _ _ _ hm
  obtain ⟨a0, len0, cap0, rfl⟩ := okWide_slice Try.underlying48 (hval 0 48 v0 rfl rfl)
  obtain ⟨l0, m0, w0⟩ := bytes_of Try.underlying48 Try.underlying5 (by kernel_rfl) h0
  have k1 := h1
  have lt1 : ∀ x ∈ p1, x.block < W.heap.size := by obtain ⟨m, hm⟩ := k1; exact DataW.trod_lt m _ _ _ hm
  obtain ⟨a1, len1, cap1, rfl⟩ := okWide_slice Try.underlying48 (hval 1 48 v1 rfl rfl)
  obtain ⟨l1, m1, w1⟩ := bytes_of Try.underlying48 Try.underlying5 (by kernel_rfl) h1
  clear hA0 hval0
  refine (FnFrontierMeet_walk a0 len0 cap0 a1 len1 cap1 W l0 m0 w0 l1 m1 w1).mono fun e W' ⟨he, bel⟩ => ?_
  subst he
  exact ⟨_, rfl, _, _, _, [], _, [], hW', trodAll_mk1 (shut_bool Try.underlying4 _), (trodAll_cons_mk (Below.trod laidOut (by kernel_rfl) (of_decide_eq_true (by kernel_rfl)) k0 bel lt0) (trodAll_cons_mk (Below.trod laidOut (by kernel_rfl) (of_decide_eq_true (by kernel_rfl)) k1 bel lt1) trodAll_mk0)), rfl, bel.frame _, fun h => by cases h⟩
theorem andTT {a b : Bool} (h1 : a = true) (h2 : b = true) : (a && b) = true := by rw [h1, h2]; rfl
set_option maxHeartbeats 8000000 in
theorem closed : joinedFacts Try.prog 11 Try.f11 Rows.fnFrontierMeetSpec Rows.fnFrontierMeetRow = true := by
  unfold joinedFacts
  repeat' (with_reducible refine andTT ?_ ?_)
  all_goals (first | (with_reducible exact clo_laid) | (with_reducible exact clo_maps) | (with_reducible exact clo_heard) | (with_reducible exact clo_enter) | ((with_reducible refine clo_plain _ ?_); rfl) | ((with_reducible refine clo_lifts _ ?_); rfl) | (as_aux_lemma => kernel_rfl))

theorem over : Rows.fnFrontierMeetRow.holds Try.pinned (OpenSpec.ofChange Rows.fnFrontierMeetSpec) :=
  OpenClaim.holds_of_wide 11 Try.f11 rfl rfl rfl rfl rfl rfl rfl ⟨rfl, rfl, rfl, rfl, rfl⟩ rfl rfl rfl rfl rfl (by kernel_rfl) Try.func11 closed
    (of_decide_eq_true (by kernel_rfl)) (by unfold Func.isWrapper; first | (rw [if_pos (by decide +kernel)]; kernel_rfl) | (rw [if_neg (by decide +kernel)]; exact ⟨rfl, rfl⟩))
    (fun os started H enc _ => lifted os started H enc)

/-- THE STATEMENT. -/
theorem proved : Rows.FnFrontierMeetSaid := over
end lawFnFrontierMeet
end Go.Proofs.Ytkonhjdfcfljpaa
