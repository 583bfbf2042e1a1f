/- The law FnSeekRows returns true at every code; no condition. -/
import Derived.Test.YtkonhjdfcfljpaaBtd
import Derived.Test.YtkonhjdfcfljpaaEqT
import Derived.Test.YtkonhjdfcfljpaaSkL
import Derived.Test.YtkonhjdfcfljpaaGrf
import Derived.Test.YtkonhjdfcfljpaaClo
import Derived.Carry
import Derived.ChangeOld
import Derived.Lib.SmallJoins
import Derived.Lib.QuietBelow
namespace Go.Proofs.Ytkonhjdfcfljpaa
open Go.ChangeShapes Go.WideShapes Go.ChangeAt Go.RowKit Go.Sort
set_option linter.unusedVariables false
set_option linter.unusedSimpArgs false

theorem absSk {P : Program} {f : FuncId} {args : Array Value} {w : World} {Q : Ending → World → Prop} (R : World → Prop) (h : R w) (k : ∀ W, R W → Calls P f args W Q) : Calls P f args w Q := k w h
theorem validBt {LA UA TA : Option Addr} {lc uc tc : Nat} {lo up : List Tm} {us : List Upd} {w : World} (r : Bool) (he : batB (lo, (up, us)) = r) (h1 : TimesAt w LA lo) (h2 : TimesAt w UA up) (h3 : UpdsAt w TA us) (n1 : lo.length ≤ 4194304) (n2 : up.length ≤ 4194304) (n3 : us.length ≤ 4194304) (r3 : rowsU us 4194304) :
    Calls Try.prog 56 #[.agg #[.slice LA lo.length lc, .slice UA up.length uc, .slice TA us.length tc]] w fun e w' => e = .returned (.bool r) ∧ Below w.heap.size w w' := he ▸ ValidBatch_i LA UA TA lc uc tc lo up us w h1 h2 h3 n1 n2 n3 r3
def UpV (us : List Upd) (v : Value) (w : World) : Prop := ∃ A c, v = .slice A us.length c ∧ UpdsAt w A us
theorem stable_upV (us : List Upd) : Stable (UpV us) := fun _ _ _ hb ⟨A, c, e, h⟩ => ⟨A, c, e, h.below updR hb⟩
def NilV (v : Value) (w : World) : Prop := ∃ G, v = .slice (some ⟨G, 0, none⟩) 0 0
theorem stable_nilV : Stable NilV := fun _ _ _ _ h => h

set_option maxRecDepth 100000 in
set_option maxHeartbeats 6400000 in
theorem FnSeekRows_walk (A : Option Addr) (n c : Nat) (w : World) (hc : n ≤ c) (hl : n ≤ maxLen) (hb : BytesAt w w.heap.size A n) :
    Calls Try.prog 12 #[.slice A n c] w fun e w' => e = .returned (.bool true) ∧ Below w.heap.size w w' := by
  unfold maxLen at hl
  by_cases hbign : 1048576 < n
  · have hb' : (1048576 : Int) < n := by omega
    go_enter Try.func12, Try.ntmps12
    go_wp2
    go_ret
    exact ⟨rfl, Below.refl _ _⟩
  have hbn' : (n : Int) ≤ 1048576 := by omega
  have HB := Lib.hid hb
  clear hb hbign
  go_enter Try.func12, Try.ntmps12
  go_wp2_with fail
  refine (DrawSeekRows_r _ _ _ _ HB.out hc (by omega)).mono ?_
  rintro e w1 ⟨⟨lo, up, us⟩, v, key, KA, kc, rfl, ⟨L, lc, U, uc, T, tc, rfl, hbo⟩, hbt, hko, hkl, b1⟩
  have B1 := b1
  simp only at hbo ⊢
  obtain ⟨g1, g2, -⟩ := batO_rd hbo
  have g3 := batO_rdD hbo
  have g4 := hko.at_
  have m1 : lo.length ≤ 82 := hbt.1
  have m2 : up.length ≤ 82 := hbt.2.1
  have m3 : us.length ≤ 21 := hbt.2.2.1
  have HR : Hid (rowsU us 4194304) := fun e he => by have h : e.1.1.length ≤ 10 := hbt.2.2.2 e he; omega
  have HA : Hid (Below w1.heap.size w1 (w1.alloc (.cells #[.slice L lo.length lc, .slice U up.length uc, .slice T us.length tc] 32))) := bal (Below.refl _ _) _
  have HK1 : Hid (Blk (w1.alloc (.cells #[.slice L lo.length lc, .slice U up.length uc, .slice T us.length tc] 32)) w1.heap.size 32 #[.slice L lo.length lc, .slice U up.length uc, .slice T us.length tc]) := Blk.newAt rfl
  have HG := Lib.hid (And.intro g1 (And.intro g2 (And.intro g3 g4)))
  clear hbo hbt hko g1 g2 g3 g4
  obtain ⟨bx, hbx⟩ : ∃ bx, bx = w1.heap.size := ⟨_, rfl⟩
  go_wp2_with fail
  refine absSk (fun W => Below w1.heap.size w1 W ∧ Blk W w1.heap.size 32 #[.slice L lo.length lc, .slice U up.length uc, .slice T us.length tc]) ⟨HA.out, HK1.out⟩ ?_
  rintro w2 ⟨b2, kb2⟩
  have B2 := btr B1 b2
  have hl2 := HG.out.1.below b2
  have hu2 := HG.out.2.1.below b2
  have hc2 := SlAt.below updC HG.out.2.2.1 b2
  have hk2 := HG.out.2.2.2.below b2
  rw [← hbx] at kb2 ⊢
  clear hbx HG HA HK1
  have p0 := kb2.cell 0
  have p1 := kb2.cell 1
  have p2 := kb2.cell 2
  simp at p0 p1 p2
  refine (SeekRows_i L U T KA lc uc tc kc lo up us key _ hl2 hu2 hc2 hk2 (by omega) (by omega) (by omega) HR.out (by omega)).mono ?_
  rintro e w3 ⟨AL, cl, rfl, hol, b3⟩
  have B3 := btr B2 b3
  have hl3 := hl2.below b3
  have hu3 := hu2.below b3
  have hc3 := SlAt.below updC hc2 b3
  have hk3 := hk2.below b3
  have kb3 := kb2.below b3
  clear hl2 hu2 hc2 hk2 kb2
  clear p0 p1 p2
  have p0 := kb3.cell 0
  have p1 := kb3.cell 1
  have p2 := kb3.cell 2
  simp at p0 p1 p2
  have hL3 := UpdsOw.at_ hol
  clear hol
  have zl : (SekF (lo, (up, us)) key).length ≤ 400 := SekF_len _ _
  have HZR : Hid (rowsU (SekF (lo, (up, us)) key) 4194304) := fun e he => by have := SekF_row (lo, (up, us)) key e he; omega
  go_wp2_with fail
  refine (SeekRows_s L U T KA lc uc tc kc lo up us key _ hl3 hu3 hc3 hk3 (by omega) (by omega) (by omega) HR.out (by omega)).mono ?_
  rintro e w4 ⟨As3, cs3, rfl, hos, b4⟩
  have B4 := btr B3 b4
  have hl4 := hl3.below b4
  have hu4 := hu3.below b4
  have hc4 := SlAt.below updC hc3 b4
  have hk4 := hk3.below b4
  have kb4 := kb3.below b4
  have hL4 := hL3.below updR b4
  clear hl3 hu3 hc3 hk3 kb3 hL3
  clear p0 p1 p2
  have p0 := kb4.cell 0
  have p1 := kb4.cell 1
  have p2 := kb4.cell 2
  simp at p0 p1 p2
  have hs4 := UpdsOw.at_ hos
  clear hos
  go_wp2_with fail
  refine (equalT true (decide_eq_true rfl) hL4 hs4 (by omega) (by omega) HZR.out HZR.out).mono ?_
  rintro e w5 ⟨rfl, b5⟩
  have B5 := btr B4 b5
  have hl5 := hl4.below b5
  have hu5 := hu4.below b5
  have hc5 := SlAt.below updC hc4 b5
  have hk5 := hk4.below b5
  have kb5 := kb4.below b5
  have hL5 := hL4.below updR b5
  clear hl4 hu4 hc4 hk4 kb4 hL4
  clear p0 p1 p2
  have p0 := kb5.cell 0
  have p1 := kb5.cell 1
  have p2 := kb5.cell 2
  simp at p0 p1 p2
  clear hs4
  cases hV : batB (lo, (up, us))
  · have HV := Lib.hid hV
    clear hV
    go_wp2_with fail
    refine (validBt false HV.out hl5 hu5 (UpdsC.at_ hc5) (by omega) (by omega) (by omega) HR.out).mono ?_
    rintro e w6 ⟨rfl, b6⟩
    have B6 := btr B5 b6
    have hl6 := hl5.below b6
    have hu6 := hu5.below b6
    have hc6 := SlAt.below updC hc5 b6
    have hk6 := hk5.below b6
    have kb6 := kb5.below b6
    have hL6 := hL5.below updR b6
    clear hl5 hu5 hc5 hk5 kb5 hL5
    clear p0 p1 p2
    have p0 := kb6.cell 0
    have p1 := kb6.cell 1
    have p2 := kb6.cell 2
    simp at p0 p1 p2
    go_wp2_with fail
    refine (SeekRows_s L U T KA lc uc tc kc lo up us key _ hl6 hu6 hc6 hk6 (by omega) (by omega) (by omega) HR.out (by omega)).mono ?_
    rintro e w7 ⟨As6, cs6, rfl, hos, b7⟩
    have B7 := btr B6 b7
    have hl7 := hl6.below b7
    have hu7 := hu6.below b7
    have hc7 := SlAt.below updC hc6 b7
    have hk7 := hk6.below b7
    have kb7 := kb6.below b7
    have hL7 := hL6.below updR b7
    clear hl6 hu6 hc6 hk6 kb6 hL6
    clear p0 p1 p2
    have p0 := kb7.cell 0
    have p1 := kb7.cell 1
    have p2 := kb7.cell 2
    simp at p0 p1 p2
    have hs7 := UpdsOw.at_ hos
    clear hos
    go_wp2_with fail
    refine (equalT true (decide_eq_true rfl) hL7 hs7 (by omega) (by omega) HZR.out HZR.out).mono ?_
    rintro e w8 ⟨rfl, b8⟩
    have B8 := btr B7 b8
    have hl8 := hl7.below b8
    have hu8 := hu7.below b8
    have hc8 := SlAt.below updC hc7 b8
    have hk8 := hk7.below b8
    have kb8 := kb7.below b8
    have hL8 := hL7.below updR b8
    clear hl7 hu7 hc7 hk7 kb7 hL7
    clear p0 p1 p2
    have p0 := kb8.cell 0
    have p1 := kb8.cell 1
    have p2 := kb8.cell 2
    simp at p0 p1 p2
    clear hs7
    clear p0 p1 p2
    go_wp2_with fail
    go_ret
    exact ⟨rfl, B8⟩
  have HV := Lib.hid hV
  clear hV
  go_wp2_with fail
  refine (validBt true HV.out hl5 hu5 (UpdsC.at_ hc5) (by omega) (by omega) (by omega) HR.out).mono ?_
  rintro e w6 ⟨rfl, b6⟩
  have B6 := btr B5 b6
  have hl6 := hl5.below b6
  have hu6 := hu5.below b6
  have hc6 := SlAt.below updC hc5 b6
  have hk6 := hk5.below b6
  have kb6 := kb5.below b6
  have hL6 := hL5.below updR b6
  clear hl5 hu5 hc5 hk5 kb5 hL5
  clear p0 p1 p2
  have p0 := kb6.cell 0
  have p1 := kb6.cell 1
  have p2 := kb6.cell 2
  simp at p0 p1 p2
  have HROWS := Lib.hid (bat_row HV.out)
  have HZT : Hid (trB (SekF (lo, (up, us)) key) = true) := SekF_tr HV.out
  have HZN : Hid (sekN key us us.length = (SekF (lo, (up, us)) key).length) := sekN_all (b := (lo, (up, us))) HV.out
  clear p0 p1 p2
  obtain ⟨W0, rfl⟩ : ∃ W0 : World, W0 = w6 := ⟨_, rfl⟩
  have hl0 := hl6
  have hu0 := hu6
  have hc0 := hc6
  have hk0 := hk6
  have kb0 := kb6
  have hL0 := hL6
  have B0 := Lib.hid B6
  clear hl6 hu6 hc6 hk6 kb6 hL6 B6
  generalize SekF (lo, (up, us)) key = Z at *
  go_wp2
  go_loopw [6, 7, 8] (fun nv iv _ wr => ∃ i nn : Nat, i ≤ us.length ∧ iv = .int .i64 i ∧ nv = .int .i64 nn ∧ Hid (nn = sekN key us i) ∧ nn ≤ i ∧ Below W0.heap.size W0 wr) (fun _ iv _ _ => us.length - (intOf iv).toNat)
  case atStart => exact ⟨0, 0, by omega, rfl, rfl, by simp [Hid, sekN], by omega, RowKit.Below.refl _ _⟩
  case round =>
    obtain ⟨i, nn, hi, rfl, rfl, HNN, hnn, hbel⟩ := hrel
    have kb := kb0.below hbel
    have p2 := kb.cell 2
    simp at p2
    by_cases hil : i < us.length
    · have hiI : (i : Int) < us.length := by omega
      obtain ⟨b, off, RA, rc, rfl, hbl, q0, -, -, -, hcap1, hcap2, hrow⟩ := UpdsC.get (SlAt.below updC hc0 hbel) i hil
      have hr1 := (HROWS.out _ (List.getElem_mem hil)).1
      have hr6 := (HROWS.out _ (List.getElem_mem hil)).2
      have hst := sekN_step (key := key) hil
      rw [← HNN.out] at hst
      obtain ⟨rb, ro, rfl, hrbl, -⟩ := hrow (by omega)
      by_cases hm : key.length ≤ us[i].1.1.length
      · have hlk : (us[i].1.1.take key.length).length = key.length := by simp; omega
        have hd : decide ((key.length : Int) ≤ (us[i].1.1.length : Int)) = true := decide_eq_true (by omega)
        have hd2 : decide (key.length ≤ us[i].1.1.length) = true := decide_eq_true hm
        have g0 : (0 : Int) ≤ key.length := by omega
        have g1 : (key.length : Int) ≤ rc := by omega
        have g2 : (rc : Int) ≤ 9223372036854775807 := by unfold maxLen at hcap2; omega
        have hpe : seekB key us[i].1.1 = decide (us[i].1.1.take key.length = key) := by simp [seekB, hm]
        have hcon := equalInts_l (some ⟨rb, ro, none⟩) KA rc kc (us[i].1.1.take key.length) key wr (hrow.take _) (hk0.below hbel) (by omega) (by omega)
        rw [hlk, ← hpe] at hcon
        clear hpe hlk hm
        cases hs : seekB key us[i].1.1
        · rw [hs] at hst hcon
          have HST : Hid (nn + 0 = sekN key us (i + 1)) := by rw [Hid, hst]; simp
          clear hst hs
          go_wp2_with fail
          refine hcon.mono ?_
          rintro e w1 ⟨rfl, b1⟩
          have HBB := Lib.hid (btr hbel b1)
          clear hcon b1 hbel kb p2 q0 hrow hrbl hbl
          go_wp2
          go_roundw
          case rel => exact ⟨i + 1, nn + 0, by omega, by go_num, by go_num, HST.out, by omega, HBB.out⟩
          case measure => simp [intOf]; omega
        · rw [hs] at hst hcon
          have HST : Hid (nn + 1 = sekN key us (i + 1)) := by rw [Hid, hst]; simp
          clear hst hs
          go_wp2_with fail
          refine hcon.mono ?_
          rintro e w1 ⟨rfl, b1⟩
          have HBB := Lib.hid (btr hbel b1)
          clear hcon b1 hbel kb p2 q0 hrow hrbl hbl
          go_wp2
          go_roundw
          case rel => exact ⟨i + 1, nn + 1, by omega, by go_num, by go_num, HST.out, by omega, HBB.out⟩
          case measure => simp [intOf]; omega
      · have hd : decide ((key.length : Int) ≤ (us[i].1.1.length : Int)) = false := decide_eq_false (by omega)
        have hd2 : decide (key.length ≤ us[i].1.1.length) = false := decide_eq_false hm
        have hs : seekB key us[i].1.1 = false := by simp [seekB, hm]
        rw [hs] at hst
        have HST : Hid (nn = sekN key us (i + 1)) := by rw [Hid, hst]; simp
        have HBB := Lib.hid hbel
        clear hst hs hbel kb hrow hrbl
        go_wp2
        go_roundw
        case rel => exact ⟨i + 1, nn, by omega, by go_num, rfl, HST.out, by omega, HBB.out⟩
        case measure => simp [intOf]; omega
    · obtain rfl : i = us.length := by omega
      have hz : nn = Z.length := by rw [HNN.out]; exact HZN.out
      subst hz
      have hl := hl0.below hbel
      have hu := hu0.below hbel
      have hc := SlAt.below updC hc0 hbel
      have hL := hL0.below updR hbel
      have HB9 := Lib.hid (btr B0.out hbel)
      clear hl0 hu0 hc0 hk0 kb0 hL0 hbel B0 HNN HZN hnn hi
      go_wp2_with fail
      refine wp_region_facts [[], [], [1], [0, 1, 2], List.range 4, List.range 5, List.range 5, List.range 7, List.range 5, [0, 1, 2, 3, 4, 8], List.range 10, List.range 11, List.range 12, List.range 13, List.range 14, List.range 15]
        [fun v' _ => v' = .int .i64 ((Z.length : Nat)), fun v' _ => v' = .slice AL Z.length cl, fun v' _ => v' = .int .i64 ((Z.length : Nat)), fun v' _ => v' = .bool true, fun v' _ => v' = .bool true, fun v' _ => v' = .agg #[.slice L lo.length lc, .slice U up.length uc, .slice T us.length tc], NilV, UpV us, fun v' _ => v' = .pointer (some ⟨bx, 2, none⟩), fun v' _ => v' = .slice T us.length tc, fun v' _ => v' = .bool true, fun v' _ => v' = .bool true, fun v' _ => v' = .bool true, fun v' _ => v' = .slice AL Z.length cl, fun v' _ => v' = .bool true, fun v' _ => v' = .bool true]
        (by kernel_rfl) (by kernel_rfl) rfl ⟨stable_pure _, stable_pure _, stable_pure _, stable_pure _, stable_pure _, stable_pure _, stable_nilV, stable_upV _, stable_pure _, stable_pure _, stable_pure _, stable_pure _, stable_pure _, stable_pure _, stable_pure _, stable_pure _, trivial⟩ ?_
      refine wf_stepK [] [] (by kernel_rfl) (by kernel_rfl) (fun wf hb hf => ?_) (fun t0 => ?_)
      · refine ⟨?_⟩
        go_wp2
        exact ⟨rfl, .int .i64 ((Z.length : Nat)), by kernel_rfl, Below.refl _ _, rfl⟩
      refine wf_stepK [] [] (by kernel_rfl) (by kernel_rfl) (fun wf hb hf => ?_) (fun t1 => ?_)
      · refine ⟨?_⟩
        go_wp2
        exact ⟨rfl, .slice AL Z.length cl, by kernel_rfl, Below.refl _ _, rfl⟩
      refine wf_stepK [1] [fun _ => t1 = .slice AL Z.length cl] (by kernel_rfl) (by kernel_rfl) (fun wf hb hf => ?_) (fun t2 => ?_)
      · obtain ⟨rfl, -⟩ := hf
        refine ⟨?_⟩
        go_wp2
        exact ⟨rfl, .int .i64 ((Z.length : Nat)), by kernel_rfl, Below.refl _ _, rfl⟩
      refine wf_stepK [0, 2] [fun _ => t0 = .int .i64 ((Z.length : Nat)), fun _ => t2 = .int .i64 ((Z.length : Nat))] (by kernel_rfl) (by kernel_rfl) (fun wf hb hf => ?_) (fun t3 => ?_)
      · obtain ⟨rfl, rfl, -⟩ := hf
        refine ⟨?_⟩
        go_wp2
        exact ⟨rfl, .bool true, by kernel_rfl, Below.refl _ _, rfl⟩
      refine wf_stepK [3] [fun _ => t3 = .bool true] (by kernel_rfl) (by kernel_rfl) (fun wf hb hf => ?_) (fun t4 => ?_)
      · obtain ⟨rfl, -⟩ := hf
        refine ⟨?_⟩
        go_wp2
        exact ⟨rfl, .bool true, by kernel_rfl, Below.refl _ _, rfl⟩
      refine wf_stepK [4] [fun _ => t4 = .bool true] (by kernel_rfl) (by kernel_rfl) (fun wf hb hf => ?_) (fun t5 => ?_)
      · obtain ⟨rfl, -⟩ := hf
        refine WfOp.yes (by kernel_rfl) ?_
        dsimp only
        have p0 := (kb.below hb).cell 0
        have p1 := (kb.below hb).cell 1
        have p2 := (kb.below hb).cell 2
        simp at p0 p1 p2
        go_wp2
        exact ⟨rfl, .agg #[.slice L lo.length lc, .slice U up.length uc, .slice T us.length tc], by kernel_rfl, Below.refl _ _, rfl⟩
      refine wf_stepK [4] [fun _ => t4 = .bool true] (by kernel_rfl) (by kernel_rfl) (fun wf hb hf => ?_) (fun t6 => ?_)
      · obtain ⟨rfl, -⟩ := hf
        refine WfOp.yes (by kernel_rfl) ?_
        dsimp only
        go_wp2
        exact ⟨rfl, .slice (some ⟨wf.heap.size, 0, none⟩) 0 0, by kernel_rfl, bal (Below.refl _ _) _, wf.heap.size, rfl⟩
      refine wf_stepK [4, 5, 6] [fun _ => t4 = .bool true, fun _ => t5 = .agg #[.slice L lo.length lc, .slice U up.length uc, .slice T us.length tc], NilV t6] (by kernel_rfl) (by kernel_rfl) (fun wf hb hf => ?_) (fun t7 => ?_)
      · obtain ⟨rfl, rfl, ⟨GN, rfl⟩, -⟩ := hf
        refine WfOp.yes (by kernel_rfl) ?_
        dsimp only
        have hcon := SeekRows_i L U T (some ⟨GN, 0, none⟩) lc uc tc 0 lo up us [] wf (hl.below hb) (hu.below hb) (SlAt.below updC hc hb) (fun hn => absurd hn (by simp)) (by omega) (by omega) (by omega) HR.out (by simp)
        rw [SekF_nil HV.out] at hcon
        go_wp2_with (go_at_call 18; refine hcon.mono ?_; rintro e w2 ⟨AQ, cQ, rfl, oQ, hb2⟩)
        exact ⟨rfl, .slice AQ us.length cQ, by kernel_rfl, hb2, AQ, cQ, rfl, UpdsOw.at_ oQ⟩
      refine wf_stepK [4] [fun _ => t4 = .bool true] (by kernel_rfl) (by kernel_rfl) (fun wf hb hf => ?_) (fun t8 => ?_)
      · obtain ⟨rfl, -⟩ := hf
        refine WfOp.yes (by kernel_rfl) ?_
        dsimp only
        go_wp2
        exact ⟨rfl, .pointer (some ⟨bx, 2, none⟩), by kernel_rfl, Below.refl _ _, rfl⟩
      refine wf_stepK [4, 8] [fun _ => t4 = .bool true, fun _ => t8 = .pointer (some ⟨bx, 2, none⟩)] (by kernel_rfl) (by kernel_rfl) (fun wf hb hf => ?_) (fun t9 => ?_)
      · obtain ⟨rfl, rfl, -⟩ := hf
        refine WfOp.yes (by kernel_rfl) ?_
        dsimp only
        have p2 := (kb.below hb).cell 2
        simp at p2
        go_wp2
        exact ⟨rfl, .slice T us.length tc, by kernel_rfl, Below.refl _ _, rfl⟩
      refine wf_stepK [4, 7, 9] [fun _ => t4 = .bool true, UpV us t7, fun _ => t9 = .slice T us.length tc] (by kernel_rfl) (by kernel_rfl) (fun wf hb hf => ?_) (fun t10 => ?_)
      · obtain ⟨rfl, ⟨AN, cN, rfl, hN⟩, rfl, -⟩ := hf
        refine WfOp.yes (by kernel_rfl) ?_
        dsimp only
        go_wp2_with (go_at_call 55; refine (equalT (xs := us) (ys := us) true (decide_eq_true rfl) hN ((UpdsC.at_ hc).below updR hb) (by omega) (by omega) HR.out HR.out).mono ?_; rintro e w2 ⟨rfl, hb2⟩)
        exact ⟨rfl, .bool true, by kernel_rfl, hb2, rfl⟩
      refine wf_stepK [4, 10] [fun _ => t4 = .bool true, fun _ => t10 = .bool true] (by kernel_rfl) (by kernel_rfl) (fun wf hb hf => ?_) (fun t11 => ?_)
      · obtain ⟨rfl, rfl, -⟩ := hf
        refine ⟨?_⟩
        go_wp2
        exact ⟨rfl, .bool true, by kernel_rfl, Below.refl _ _, rfl⟩
      refine wf_stepK [11] [fun _ => t11 = .bool true] (by kernel_rfl) (by kernel_rfl) (fun wf hb hf => ?_) (fun t12 => ?_)
      · obtain ⟨rfl, -⟩ := hf
        refine ⟨?_⟩
        go_wp2
        exact ⟨rfl, .bool true, by kernel_rfl, Below.refl _ _, rfl⟩
      refine wf_stepK [12] [fun _ => t12 = .bool true] (by kernel_rfl) (by kernel_rfl) (fun wf hb hf => ?_) (fun t13 => ?_)
      · obtain ⟨rfl, -⟩ := hf
        refine WfOp.yes (by kernel_rfl) ?_
        dsimp only
        go_wp2
        exact ⟨rfl, .slice AL Z.length cl, by kernel_rfl, Below.refl _ _, rfl⟩
      refine wf_stepK [12, 13] [fun _ => t12 = .bool true, fun _ => t13 = .slice AL Z.length cl] (by kernel_rfl) (by kernel_rfl) (fun wf hb hf => ?_) (fun t14 => ?_)
      · obtain ⟨rfl, rfl, -⟩ := hf
        refine WfOp.yes (by kernel_rfl) ?_
        dsimp only
        have hcon := ValidTrace_i AL cl Z wf (hL.below updR hb) (by omega) HZR.out
        rw [HZT.out] at hcon
        go_wp2_with (go_at_call 35; refine hcon.mono ?_; rintro e w2 ⟨rfl, hb2⟩)
        exact ⟨rfl, .bool true, by kernel_rfl, hb2, rfl⟩
      refine wf_stepK [12, 14] [fun _ => t12 = .bool true, fun _ => t14 = .bool true] (by kernel_rfl) (by kernel_rfl) (fun wf hb hf => ?_) (fun t15 => ?_)
      · obtain ⟨rfl, rfl, -⟩ := hf
        refine ⟨?_⟩
        go_wp2
        exact ⟨rfl, .bool true, by kernel_rfl, Below.refl _ _, rfl⟩
      refine wf_doneK [15] [fun _ => t15 = .bool true] (by kernel_rfl) (by kernel_rfl) (fun w50 b50 hf => ?_)
      obtain ⟨rfl, -⟩ := hf
      show wpList _ _ _ [_] _ _
      refine wpList_frame (by simp [Act.put]; rfl) ?_
      have HB8 := btr HB9.out b50
      go_wp2
      go_ret
      exact ⟨rfl, HB8⟩

namespace lawFnSeekRows
theorem own : ownKnob Try.prog.godebug = none := by kernel_rfl
theorem laidOut : laidOutB Try.prog = true := clo_laid
set_option maxRecDepth 100000 in
theorem lifted (os : Os) (started : os.Started) (H : Type) (enc : TypeId × Value → H) :
    ReturnsInHanded {} Try.checked os 12 .any (Rows.fnSeekRowsSpec.pre6 enc Try.prog Try.f12 Rows.fnSeekRowsRow.domain false) (Rows.fnSeekRowsSpec.post enc Try.prog Try.f12 false true false false) := by
  refine returnsInHanded_of_change (C := Try.checked) own started (by kernel_rfl) Try.func12
    (ChangeSpec.witness6 (enc := enc) (C := Try.checked) false ⟨#[], #[.slice none 0 0], []⟩ 8 (by kernel_rfl) (by kernel_rfl) (by kernel_rfl) (by kernel_rfl)) ?_
  intro W base args ds gs before hval0 hW hcnd _
  have hval : ∀ (j : Nat) t v, Try.f12.params[j]? = some t → args[j]? = some v → Value.okWide Try.prog W .any base t v := hval0
  have hW' := hW
  obtain ⟨p, q, hA0, hV, rfl, hfz, hnd⟩ := hW
  have hA : DataW.TrodAll enc Try.prog W 0 (fun _ => true) true Try.f12.params.toList args.toList ds p := hA0
  rw [Try.params12] at hA hval
  obtain ⟨v0, vs0, d0, ds0, p0, q0, hargs, rfl, rfl, h0, r0⟩ := trodAll_cons hA
  obtain ⟨rfl, rfl, rfl⟩ := trodAll_nil r0
  obtain rfl : args = #[v0] := by cases args; simp_all
  obtain ⟨rfl, rfl⟩ := trodVars_none hV
  have k0 := h0
  have lt0 : ∀ x ∈ p0, x.block < W.heap.size := by obtain ⟨m, hm⟩ := k0; exact DataW.trod_lt m _ _ _ hm
  obtain ⟨a0, len0, cap0, rfl⟩ := okWide_slice Try.underlying48 (hval 0 48 v0 rfl rfl)
  obtain ⟨l0, m0, w0⟩ := bytes_of Try.underlying48 Try.underlying5 (by kernel_rfl) h0
  clear hA0 hval0
  refine (FnSeekRows_walk a0 len0 cap0 W l0 m0 w0).mono fun e W' ⟨he, bel⟩ => ?_
  subst he
  exact ⟨_, rfl, _, _, _, [], _, [], hW', trodAll_mk1 (shut_bool Try.underlying4 _), (trodAll_cons_mk (Below.trod laidOut (by kernel_rfl) (of_decide_eq_true (by kernel_rfl)) k0 bel lt0) trodAll_mk0), rfl, bel.frame _, fun h => by cases h⟩
theorem andTT {a b : Bool} (h1 : a = true) (h2 : b = true) : (a && b) = true := by rw [h1, h2]; rfl
set_option maxHeartbeats 8000000 in
theorem closed : joinedFacts Try.prog 12 Try.f12 Rows.fnSeekRowsSpec Rows.fnSeekRowsRow = true := by
  unfold joinedFacts
  repeat' (with_reducible refine andTT ?_ ?_)
  all_goals (first | (with_reducible exact clo_laid) | (with_reducible exact clo_maps) | (with_reducible exact clo_heard) | (with_reducible exact clo_enter) | ((with_reducible refine clo_plain _ ?_); rfl) | ((with_reducible refine clo_lifts _ ?_); rfl) | (as_aux_lemma => kernel_rfl))

theorem over : Rows.fnSeekRowsRow.holds Try.pinned (OpenSpec.ofChange Rows.fnSeekRowsSpec) :=
  OpenClaim.holds_of_wide 12 Try.f12 rfl rfl rfl rfl rfl rfl rfl ⟨rfl, rfl, rfl, rfl, rfl⟩ rfl rfl rfl rfl rfl (by kernel_rfl) Try.func12 closed
    (of_decide_eq_true (by kernel_rfl)) (by unfold Func.isWrapper; first | (rw [if_pos (by decide +kernel)]; kernel_rfl) | (rw [if_neg (by decide +kernel)]; exact ⟨rfl, rfl⟩))
    (fun os started H enc _ => lifted os started H enc)

/-- THE STATEMENT. -/
theorem proved : Rows.FnSeekRowsSaid := over
end lawFnSeekRows
end Go.Proofs.Ytkonhjdfcfljpaa
