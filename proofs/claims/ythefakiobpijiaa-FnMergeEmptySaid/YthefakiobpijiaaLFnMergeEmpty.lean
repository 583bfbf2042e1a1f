/- The law FnMergeEmpty returns true at every code; no condition. -/
import Derived.Test.YthefakiobpijiaaMea
import Derived.Test.YthefakiobpijiaaMeb
import Derived.Test.YthefakiobpijiaaFro
import Derived.Test.YthefakiobpijiaaMec
import Derived.Test.YthefakiobpijiaaMed
import Derived.Test.YthefakiobpijiaaClo
import Derived.Carry
import Derived.ChangeOld
import Derived.Lib.QuietBelow
namespace Go.Proofs.Ythefakiobpijiaa
open Go.ChangeShapes Go.WideShapes Go.ChangeAt Go.RowKit Go.Sort
set_option linter.unusedVariables false
set_option linter.unusedSimpArgs false

theorem absMe {P : Program} {f : FuncId} {args : Array Value} {w : World} {Q : Ending → World → Prop} (R : World → Prop) (h : R w) (k : ∀ W, R W → Calls P f args W Q) : Calls P f args w Q := k w h
theorem mrg_nilR {us : List Upd} (h : trB us = true) : mrgT us [] = us := List.filter_eq_self.2 (fun e he => by simp [trB_ne h e he])
theorem mrb_empty {lo up : List Tm} {us : List Upd} (h : batB (lo, (up, us)) = true) : mrbOk (lo, (up, us)) (up, (up, [])) = true ∧ mrbV (lo, (up, us)) (up, (up, [])) = (lo, (up, us)) := by
  have h1 : flB lo up = true := (bat_parts h).1
  have h2 : trB us = true := (bat_parts h).2.1
  have h3 : flB up up = true := fl_refl (fl_parts h1).2.1
  have h4 : batB (up, (up, [])) = true := by simp only [batB, h3]; rfl
  have ho : mrbOk (lo, (up, us)) (up, (up, [])) = true := by simp [mrbOk, mrbIn, h, h4, mrg_nilR h2, h2]
  exact ⟨ho, by simp [mrbV, ho, mrg_nilR h2]⟩
/-- A batch in a box. -/
def MeB (W : World) (bx : Nat) (L U T : Option Addr) (lc uc tc : Nat) (lo up : List Tm) (us : List Upd) : Prop := Blk W bx 26 #[.slice L lo.length lc, .slice U up.length uc, .slice T us.length tc] ∧ TimesAt W L lo ∧ TimesAt W U up ∧ UpdsAt W T us
theorem MeB.below {W W' : World} {bx : Nat} {L U T : Option Addr} {lc uc tc : Nat} {lo up : List Tm} {us : List Upd} (h : MeB W bx L U T lc uc tc lo up us) (hb : Below W.heap.size W W') : MeB W' bx L U T lc uc tc lo up us := ⟨h.1.below hb, h.2.1.below hb, h.2.2.1.below hb, h.2.2.2.below updR hb⟩
theorem MeB.new {W : World} {bx : Nat} {L U T : Option Addr} {lc uc tc : Nat} {lo up : List Tm} {us : List Upd} (hbx : W.heap.size = bx) (h1 : TimesAt W L lo) (h2 : TimesAt W U up) (h3 : UpdsAt W T us) : MeB (W.alloc (.cells #[.slice L lo.length lc, .slice U up.length uc, .slice T us.length tc] 26)) bx L U T lc uc tc lo up us :=
  ⟨Blk.newAt hbx, h1.below (bal (Below.refl _ _) _), h2.below (bal (Below.refl _ _) _), h3.below updR (bal (Below.refl _ _) _)⟩
theorem validBt {LA UA TA : Option Addr} {lc uc tc : Nat} {lo up : List Tm} {us : List Upd} {w : World} (r : Bool) (he : batB (lo, (up, us)) = r) (h1 : TimesAt w LA lo) (h2 : TimesAt w UA up) (h3 : UpdsAt w TA us) (n1 : lo.length ≤ 4194304) (n2 : up.length ≤ 4194304) (n3 : us.length ≤ 4194304) (r3 : rowsU us 4194304) :
    Calls Try.prog 16 #[.agg #[.slice LA lo.length lc, .slice UA up.length uc, .slice TA us.length tc]] w fun e w' => e = .returned (.bool r) ∧ Below w.heap.size w w' := he ▸ ValidBatch_i LA UA TA lc uc tc lo up us w h1 h2 h3 n1 n2 n3 r3
theorem btrB {n : Nat} {w a b : World} (h : Below n w a) (k : Below a.heap.size a b) (hs : w.heap.size = n := by first | rfl | assumption | omega) : Below n w b := by subst hs; exact btr h k
set_option maxRecDepth 100000 in
set_option maxHeartbeats 3200000 in
theorem equalB {L U T L' U' T' : Option Addr} {lc uc tc lc' uc' tc' : Nat} {lo up : List Tm} {us : List Upd} {w : World} (h1 : TimesAt w L lo) (h2 : TimesAt w U up) (h3 : UpdsAt w T us) (k1 : TimesAt w L' lo) (k2 : TimesAt w U' up) (k3 : UpdsAt w T' us) (n1 : lo.length ≤ 4194304) (n2 : up.length ≤ 4194304) (n3 : us.length ≤ 4194304) (r3 : rowsU us 4194304) :
    Calls Try.prog 15 #[.agg #[.slice L lo.length lc, .slice U up.length uc, .slice T us.length tc], .agg #[.slice L' lo.length lc', .slice U' up.length uc', .slice T' us.length tc']] w fun e w' => e = .returned (.bool true) ∧ Below w.heap.size w w' := by
  have hA : Hid (MeB ((w.alloc (.cells #[.slice L lo.length lc, .slice U up.length uc, .slice T us.length tc] 26)).alloc (.cells #[.slice L' lo.length lc', .slice U' up.length uc', .slice T' us.length tc'] 26)) w.heap.size L U T lc uc tc lo up us) := (MeB.new rfl h1 h2 h3).below (bal (Below.refl _ _) _)
  have hb1 := bal (Below.refl w.heap.size w) (.cells #[.slice L lo.length lc, .slice U up.length uc, .slice T us.length tc] 26)
  have hB : Hid (MeB ((w.alloc (.cells #[.slice L lo.length lc, .slice U up.length uc, .slice T us.length tc] 26)).alloc (.cells #[.slice L' lo.length lc', .slice U' up.length uc', .slice T' us.length tc'] 26)) (w.heap.size + 1) L' U' T' lc' uc' tc' lo up us) := MeB.new (by simp) (k1.below hb1) (k2.below hb1) (k3.below updR hb1)
  have hb2 : Hid (Below w.heap.size w ((w.alloc (.cells #[.slice L lo.length lc, .slice U up.length uc, .slice T us.length tc] 26)).alloc (.cells #[.slice L' lo.length lc', .slice U' up.length uc', .slice T' us.length tc'] 26))) := bal hb1 _
  clear h1 h2 h3 k1 k2 k3 hb1
  go_enter Try.func15, Try.ntmps15
  go_wp2_with fail
  refine absMe (fun W => Below w.heap.size w W ∧ MeB W w.heap.size L U T lc uc tc lo up us ∧ MeB W (w.heap.size + 1) L' U' T' lc' uc' tc' lo up us) ⟨hb2.out, hA.out, hB.out⟩ ?_
  clear hb2 hA hB
  rintro w2 ⟨B2, a2, b2⟩
  have p0 := a2.1.cell 0
  have p1 := a2.1.cell 1
  have p2 := a2.1.cell 2
  simp at p0 p1 p2
  have q0 := b2.1.cell 0
  have q1 := b2.1.cell 1
  have q2 := b2.1.cell 2
  simp at q0 q1 q2
  refine (equalM true (decide_eq_true rfl) a2.2.1 b2.2.1 n1 n1).mono ?_
  rintro e w3 ⟨rfl, c3⟩
  have B3 := btrB B2 c3
  have a3 := a2.below c3
  have b3 := b2.below c3
  clear a2 b2 c3 B2 p0 p1 p2 q0 q1 q2
  have p0 := a3.1.cell 0
  have p1 := a3.1.cell 1
  have p2 := a3.1.cell 2
  simp at p0 p1 p2
  have q0 := b3.1.cell 0
  have q1 := b3.1.cell 1
  have q2 := b3.1.cell 2
  simp at q0 q1 q2
  go_wp2_with fail
  clear p0 p1 p2 q0 q1 q2
  have p0 := a3.1.cell 0
  have p1 := a3.1.cell 1
  have p2 := a3.1.cell 2
  simp at p0 p1 p2
  have q0 := b3.1.cell 0
  have q1 := b3.1.cell 1
  have q2 := b3.1.cell 2
  simp at q0 q1 q2
  refine (equalM true (decide_eq_true rfl) a3.2.2.1 b3.2.2.1 n2 n2).mono ?_
  rintro e w4 ⟨rfl, c4⟩
  have B4 := btrB B3 c4
  have a4 := a3.below c4
  have b4 := b3.below c4
  clear a3 b3 c4 B3 p0 p1 p2 q0 q1 q2
  have p0 := a4.1.cell 0
  have p1 := a4.1.cell 1
  have p2 := a4.1.cell 2
  simp at p0 p1 p2
  have q0 := b4.1.cell 0
  have q1 := b4.1.cell 1
  have q2 := b4.1.cell 2
  simp at q0 q1 q2
  go_wp2_with fail
  clear p0 p1 p2 q0 q1 q2
  refine (equalT true (decide_eq_true rfl) a4.2.2.2 b4.2.2.2 n3 n3 r3 r3).mono ?_
  rintro e w5 ⟨rfl, c5⟩
  have B5 := Lib.hid (btrB B4 c5)
  clear a4 b4 c5 B4
  go_wp2_with fail
  go_ret
  exact ⟨rfl, B5.out⟩

set_option maxRecDepth 100000 in
set_option maxHeartbeats 6400000 in
theorem FnMergeEmpty_walk (A : Option Addr) (n c : Nat) (w : World) (hc : n ≤ c) (hl : n ≤ maxLen) (hb : BytesAt w w.heap.size A n) :
    Calls Try.prog 3 #[.slice A n c] w fun e w' => e = .returned (.bool true) ∧ Below w.heap.size w w' := by
  unfold maxLen at hl
  by_cases hbign : 1048576 < n
  · have hb' : (1048576 : Int) < n := by omega
    go_enter Try.func3, Try.ntmps3
    go_wp2
    go_ret
    exact ⟨rfl, Below.refl _ _⟩
  have hbn' : (n : Int) ≤ 1048576 := by omega
  have HB := Lib.hid hb
  clear hb hbign
  go_enter Try.func3, Try.ntmps3
  go_wp2_with fail
  refine (DrawMergeBatches_r _ _ _ _ HB.out hc (by omega)).mono ?_
  rintro e w1 ⟨⟨lo, up, us⟩, ⟨lo2, up2, tr⟩, va, vb, rfl, ⟨L, lc, U, uc, T, tc, rfl, i1, i2, i3, i4⟩, ⟨L', lc', U', uc', T', tc', rfl, k1, k2, k3, k4⟩, ta, tb, B1⟩
  simp only at i1 i2 i3 i4 k1 k2 k3 k4 ⊢
  have m1 : lo.length ≤ 82 := ta.1
  have m2 : up.length ≤ 82 := ta.2.1
  have m3 : us.length ≤ 21 := ta.2.2.1
  have m4 : lo2.length ≤ 82 := tb.1
  have m5 : up2.length ≤ 82 := tb.2.1
  have m6 : tr.length ≤ 21 := tb.2.2.1
  have HR : Hid (rowsU us 4194304) := fun e he => by have h : e.1.1.length ≤ 10 := ta.2.2.2 e he; omega
  have HS : Hid (rowsU tr 4194304) := fun e he => by have h : e.1.1.length ≤ 10 := tb.2.2.2 e he; omega
  have hA : Hid (MeB ((w1.alloc (.cells #[.slice L lo.length lc, .slice U up.length uc, .slice T us.length tc] 26)).alloc (.cells #[.slice L' lo2.length lc', .slice U' up2.length uc', .slice T' tr.length tc'] 26)) w1.heap.size L U T lc uc tc lo up us) := (MeB.new rfl i1 i2 i3).below (bal (Below.refl _ _) _)
  have hb1 := bal (Below.refl w1.heap.size w1) (.cells #[.slice L lo.length lc, .slice U up.length uc, .slice T us.length tc] 26)
  have hB : Hid (MeB ((w1.alloc (.cells #[.slice L lo.length lc, .slice U up.length uc, .slice T us.length tc] 26)).alloc (.cells #[.slice L' lo2.length lc', .slice U' up2.length uc', .slice T' tr.length tc'] 26)) (w1.heap.size + 1) L' U' T' lc' uc' tc' lo2 up2 tr) := MeB.new (by simp) (k1.below hb1) (k2.below hb1) (k3.below updR hb1)
  have hb2 : Hid (Below w1.heap.size w1 ((w1.alloc (.cells #[.slice L lo.length lc, .slice U up.length uc, .slice T us.length tc] 26)).alloc (.cells #[.slice L' lo2.length lc', .slice U' up2.length uc', .slice T' tr.length tc'] 26))) := bal hb1 _
  obtain ⟨⟨ml, mu, mt⟩, hmv⟩ : ∃ mv : Bt, mv = mrbV (lo, (up, us)) (lo2, (up2, tr)) := ⟨_, rfl⟩
  obtain ⟨ok, hok⟩ : ∃ ok : Bool, ok = mrbOk (lo, (up, us)) (lo2, (up2, tr)) := ⟨_, rfl⟩
  have hlen := mrbV_len (lo, (up, us)) (lo2, (up2, tr)) (by simp only; omega) (by simp only; omega)
  rw [← hmv] at hlen
  obtain ⟨l1, l2, l3, l4⟩ := hlen
  simp only at l1 l2 l3 l4
  have HM : Hid (rowsU mt 4194304) := fun e he => by have := l4 e he; omega
  have hne : (ok != ok) = false := bne_self_eq_false _
  have heq : (ok == ok) = true := beq_self_eq_true _
  have HMV := Lib.hid (And.intro hmv hok)
  have HCT := Lib.hid (And.intro i4 k4)
  have HB1 := Lib.hid B1
  clear i1 i2 i3 i4 k1 k2 k3 k4 ta tb hb1 l4 hmv hok B1
  go_wp2_with fail
  refine absMe (fun W => Below w1.heap.size w1 W ∧ MeB W w1.heap.size L U T lc uc tc lo up us ∧ MeB W (w1.heap.size + 1) L' U' T' lc' uc' tc' lo2 up2 tr) ⟨hb2.out, hA.out, hB.out⟩ ?_
  clear hb2 hA hB
  rintro w2 ⟨b2, a2, d2⟩
  have HB2 := Lib.hid (btr HB1.out b2)
  clear HB1 b2
  have hcon := MergeBatches_i L U T L' U' T' lc uc tc lc' uc' tc' lo up us lo2 up2 tr w2 a2.2.1 a2.2.2.1 a2.2.2.2 d2.2.1 d2.2.2.1 d2.2.2.2 HCT.out.1 HCT.out.2 (by omega) (by omega) (by omega) HR.out (by omega) (by omega) (by omega) HS.out
  rw [← HMV.out.1, ← HMV.out.2] at hcon
  refine hcon.mono ?_
  clear hcon
  rintro e w3 ⟨Lm, lm, Um, um, Tm', tm, rfl, ho, b3⟩
  simp only at ho ⊢
  obtain ⟨g1, g2, g3⟩ := batO_rd ho
  have a3 := a2.below b3
  have d3 := d2.below b3
  have HB3 := Lib.hid (btr HB2.out b3)
  have hm : Hid (MeB (w3.alloc (.cells #[.slice Lm ml.length lm, .slice Um mu.length um, .slice Tm' mt.length tm] 26)) w3.heap.size Lm Um Tm' lm um tm ml mu mt) := MeB.new rfl g1 g2 g3
  have hb3 : Hid (Below w3.heap.size w3 (w3.alloc (.cells #[.slice Lm ml.length lm, .slice Um mu.length um, .slice Tm' mt.length tm] 26))) := bal (Below.refl _ _) _
  have hlA := a3.1.lt
  have hlB := d3.1.lt
  clear g1 g2 g3 ho a2 d2 b3 HB2
  have p0 := a3.1.cell 0
  have p1 := a3.1.cell 1
  have p2 := a3.1.cell 2
  simp at p0 p1 p2
  have q0 := d3.1.cell 0
  have q1 := d3.1.cell 1
  have q2 := d3.1.cell 2
  simp at q0 q1 q2
  go_wp2_with fail
  refine absMe (fun W => Below w3.heap.size w3 W ∧ MeB W w3.heap.size Lm Um Tm' lm um tm ml mu mt) ⟨hb3.out, hm.out⟩ ?_
  clear hb3 hm p0 p1 p2 q0 q1 q2
  rintro w4 ⟨b4, m4'⟩
  have a4 := a3.below b4
  have d4 := d3.below b4
  have HB4 := Lib.hid (btr HB3.out b4)
  clear a3 d3 HB3 hlA hlB b4
  have hcon := MergeBatches_s L U T L' U' T' lc uc tc lc' uc' tc' lo up us lo2 up2 tr w4 a4.2.1 a4.2.2.1 a4.2.2.2 d4.2.1 d4.2.2.1 d4.2.2.2 (by omega) (by omega) (by omega) HR.out (by omega) (by omega) (by omega) HS.out
  rw [← HMV.out.1, ← HMV.out.2] at hcon
  refine hcon.mono ?_
  clear hcon
  rintro e w5 ⟨Lw, lw, Uw, uw, Tw, tw, rfl, g1, g2, g3, b5⟩
  simp only at g1 g2 g3 ⊢
  have a5 := a4.below b5
  have m5' := m4'.below b5
  have HB5 := Lib.hid (btr HB4.out b5)
  have hw : Hid (MeB (w5.alloc (.cells #[.slice Lw ml.length lw, .slice Uw mu.length uw, .slice Tw mt.length tw] 26)) w5.heap.size Lw Uw Tw lw uw tw ml mu mt) := MeB.new rfl g1 g2 g3
  have hb5 : Hid (Below w5.heap.size w5 (w5.alloc (.cells #[.slice Lw ml.length lw, .slice Uw mu.length uw, .slice Tw mt.length tw] 26))) := bal (Below.refl _ _) _
  have hlA := a5.1.lt
  have hlM := m5'.1.lt
  clear g1 g2 g3 a4 d4 m4' b5 HB4
  have p0 := a5.1.cell 0
  have p1 := a5.1.cell 1
  have p2 := a5.1.cell 2
  simp at p0 p1 p2
  have q0 := m5'.1.cell 0
  have q1 := m5'.1.cell 1
  have q2 := m5'.1.cell 2
  simp at q0 q1 q2
  go_wp2_with fail
  refine absMe (fun W => Below w5.heap.size w5 W ∧ MeB W w5.heap.size Lw Uw Tw lw uw tw ml mu mt) ⟨hb5.out, hw.out⟩ ?_
  clear hb5 hw p0 p1 p2 q0 q1 q2
  rintro w6 ⟨b6, v6⟩
  have a6 := a5.below b6
  have m6' := m5'.below b6
  have HB6 := Lib.hid (btr HB5.out b6)
  clear a5 m5' HB5 hlA hlM b6
  refine (equalB m6'.2.1 m6'.2.2.1 m6'.2.2.2 v6.2.1 v6.2.2.1 v6.2.2.2 l1 l2 (by omega) HM.out).mono ?_
  rintro e w7 ⟨rfl, b7⟩
  have a7 := a6.below b7
  have m7' := m6'.below b7
  have v7 := v6.below b7
  have HB7 := Lib.hid (btr HB6.out b7)
  clear a6 m6' v6 b7 HB6
  have p0 := a7.1.cell 0
  have p1 := a7.1.cell 1
  have p2 := a7.1.cell 2
  simp at p0 p1 p2
  have q0 := m7'.1.cell 0
  have q1 := m7'.1.cell 1
  have q2 := m7'.1.cell 2
  simp at q0 q1 q2
  have s0 := v7.1.cell 0
  have s1 := v7.1.cell 1
  have s2 := v7.1.cell 2
  simp at s0 s1 s2
  go_wp2_with fail
  cases hV : batB (lo, (up, us))
  · refine (validBt false hV a7.2.1 a7.2.2.1 a7.2.2.2 (by omega) (by omega) (by omega) HR.out).mono ?_
    rintro e w8 ⟨rfl, b8⟩
    have m8' := m7'.below b8
    have v8 := v7.below b8
    have HB8 := Lib.hid (btr HB7.out b8)
    clear a7 m7' v7 b8 HB7 p0 p1 p2 q0 q1 q2 s0 s1 s2
    have q0 := m8'.1.cell 0
    have q1 := m8'.1.cell 1
    have q2 := m8'.1.cell 2
    simp at q0 q1 q2
    have s0 := v8.1.cell 0
    have s1 := v8.1.cell 1
    have s2 := v8.1.cell 2
    simp at s0 s1 s2
    go_wp2_with fail
    refine (equalB m8'.2.1 m8'.2.2.1 m8'.2.2.2 v8.2.1 v8.2.2.1 v8.2.2.2 l1 l2 (by omega) HM.out).mono ?_
    rintro e w9 ⟨rfl, b9⟩
    have HB9 := Lib.hid (btr HB8.out b9)
    clear m8' v8 b9 HB8 q0 q1 q2 s0 s1 s2
    go_wp2_with fail
    go_ret
    exact ⟨rfl, HB9.out⟩
  refine (validBt true hV a7.2.1 a7.2.2.1 a7.2.2.2 (by omega) (by omega) (by omega) HR.out).mono ?_
  rintro e w8 ⟨rfl, b8⟩
  have a8 := a7.below b8
  have HB8 := Lib.hid (btr HB7.out b8)
  have HE := Lib.hid (mrb_empty hV)
  have hlA := a8.1.lt
  clear a7 m7' v7 b8 HB7 p0 p1 p2 q0 q1 q2 s0 s1 s2 hV
  have p0 := a8.1.cell 0
  have p1 := a8.1.cell 1
  have p2 := a8.1.cell 2
  simp at p0 p1 p2
  have hz : Hid (Below w8.heap.size w8 ((w8.alloc (.cells #[] 119)).alloc (.cells #[.slice U up.length uc, .slice U up.length uc, .slice (some ⟨w8.heap.size, 0, none⟩) 0 0] 26))) := bal (bal (Below.refl _ _) _) _
  have ho : Hid (Blk ((w8.alloc (.cells #[] 119)).alloc (.cells #[.slice U up.length uc, .slice U up.length uc, .slice (some ⟨w8.heap.size, 0, none⟩) 0 0] 26)) (w8.heap.size + 1) 26 #[.slice U up.length uc, .slice U up.length uc, .slice (some ⟨w8.heap.size, 0, none⟩) 0 0]) := Blk.newAt (by simp)
  go_wp2_with fail
  refine absMe (fun W => Below w8.heap.size w8 W ∧ Blk W (w8.heap.size + 1) 26 #[.slice U up.length uc, .slice U up.length uc, .slice (some ⟨w8.heap.size, 0, none⟩) 0 0]) ⟨hz.out, ho.out⟩ ?_
  clear hz ho p0 p1 p2
  rintro w9 ⟨b9, o9⟩
  have a9 := a8.below b9
  have HB9 := Lib.hid (btr HB8.out b9)
  clear a8 HB8 b9
  have hcon := MergeBatches_i L U T U U (some ⟨w8.heap.size, 0, none⟩) lc uc tc uc uc 0 lo up us up up [] w9 a9.2.1 a9.2.2.1 a9.2.2.2 a9.2.2.1 a9.2.2.1 (fun hn => absurd hn (by simp)) HCT.out.1 (by simp) (by omega) (by omega) (by omega) HR.out (by omega) (by omega) (by simp) (fun e he => by cases he)
  rw [HE.out.1, HE.out.2] at hcon
  refine hcon.mono ?_
  clear hcon
  rintro e w10 ⟨L2, lc2, U2, uc2, T2, tc2, rfl, ho, b10⟩
  simp only at ho ⊢
  obtain ⟨g1, g2, g3⟩ := batO_rd ho
  have a10 := a9.below b10
  have HB10 := Lib.hid (btr HB9.out b10)
  have hm : Hid (MeB (w10.alloc (.cells #[.slice L2 lo.length lc2, .slice U2 up.length uc2, .slice T2 us.length tc2] 26)) w10.heap.size L2 U2 T2 lc2 uc2 tc2 lo up us) := MeB.new rfl g1 g2 g3
  have hb10 : Hid (Below w10.heap.size w10 (w10.alloc (.cells #[.slice L2 lo.length lc2, .slice U2 up.length uc2, .slice T2 us.length tc2] 26))) := bal (Below.refl _ _) _
  have hlA := a10.1.lt
  clear g1 g2 g3 ho a9 o9 b10 HB9
  have p0 := a10.1.cell 0
  have p1 := a10.1.cell 1
  have p2 := a10.1.cell 2
  simp at p0 p1 p2
  go_wp2_with fail
  refine absMe (fun W => Below w10.heap.size w10 W ∧ MeB W w10.heap.size L2 U2 T2 lc2 uc2 tc2 lo up us) ⟨hb10.out, hm.out⟩ ?_
  clear hb10 hm p0 p1 p2
  rintro w11 ⟨b11, m11⟩
  have a11 := a10.below b11
  have HB11 := Lib.hid (btr HB10.out b11)
  clear a10 HB10 b11
  refine (equalB m11.2.1 m11.2.2.1 m11.2.2.2 a11.2.1 a11.2.2.1 a11.2.2.2 (by omega) (by omega) (by omega) HR.out).mono ?_
  rintro e w12 ⟨rfl, b12⟩
  have HB12 := Lib.hid (btr HB11.out b12)
  clear a11 m11 b12 HB11
  go_wp2_with fail
  go_ret
  exact ⟨rfl, HB12.out⟩

namespace lawFnMergeEmpty
theorem own : ownKnob Try.prog.godebug = none := by kernel_rfl
theorem laidOut : laidOutB Try.prog = true := clo_laid
set_option maxRecDepth 100000 in
theorem lifted (os : Os) (started : os.Started) (H : Type) (enc : TypeId × Value → H) :
    ReturnsInHanded {} Try.checked os 3 .any (Rows.fnMergeEmptySpec.pre6 enc Try.prog Try.f3 Rows.fnMergeEmptyRow.domain false) (Rows.fnMergeEmptySpec.post enc Try.prog Try.f3 false true false false) := by
  refine returnsInHanded_of_change (C := Try.checked) own started (by kernel_rfl) Try.func3
    (ChangeSpec.witness6 (enc := enc) (C := Try.checked) false ⟨#[], #[.slice none 0 0], []⟩ 8 (by kernel_rfl) (by kernel_rfl) (by kernel_rfl) (by kernel_rfl)) ?_
  intro W base args ds gs before hval0 hW hcnd _
  have hval : ∀ (j : Nat) t v, Try.f3.params[j]? = some t → args[j]? = some v → Value.okWide Try.prog W .any base t v := hval0
  have hW' := hW
  obtain ⟨p, q, hA0, hV, rfl, hfz, hnd⟩ := hW
  have hA : DataW.TrodAll enc Try.prog W 0 (fun _ => true) true Try.f3.params.toList args.toList ds p := hA0
  rw [Try.params3] at hA hval
  obtain ⟨v0, vs0, d0, ds0, p0, q0, hargs, rfl, rfl, h0, r0⟩ := trodAll_cons hA
  obtain ⟨rfl, rfl, rfl⟩ := trodAll_nil r0
  obtain rfl : args = #[v0] := by cases args; simp_all
  obtain ⟨rfl, rfl⟩ := trodVars_none hV
  have k0 := h0
  have lt0 : ∀ x ∈ p0, x.block < W.heap.size := by obtain ⟨m, hm⟩ := k0; exact DataW.trod_lt m _ _ _ hm
  obtain ⟨a0, len0, cap0, rfl⟩ := okWide_slice Try.underlying22 (hval 0 22 v0 rfl rfl)
  obtain ⟨l0, m0, w0⟩ := bytes_of Try.underlying22 Try.underlying5 (by kernel_rfl) h0
  clear hA0 hval0
  refine (FnMergeEmpty_walk a0 len0 cap0 W l0 m0 w0).mono fun e W' ⟨he, bel⟩ => ?_
  subst he
  exact ⟨_, rfl, _, _, _, [], _, [], hW', trodAll_mk1 (shut_bool Try.underlying4 _), (trodAll_cons_mk (Below.trod laidOut (by kernel_rfl) (of_decide_eq_true (by kernel_rfl)) k0 bel lt0) trodAll_mk0), rfl, bel.frame _, fun h => by cases h⟩
theorem andTT {a b : Bool} (h1 : a = true) (h2 : b = true) : (a && b) = true := by rw [h1, h2]; rfl
set_option maxHeartbeats 8000000 in
theorem closed : joinedFacts Try.prog 3 Try.f3 Rows.fnMergeEmptySpec Rows.fnMergeEmptyRow = true := by
  unfold joinedFacts
  repeat' (with_reducible refine andTT ?_ ?_)
  all_goals (first | (with_reducible exact clo_laid) | (with_reducible exact clo_maps) | (with_reducible exact clo_heard) | (with_reducible exact clo_enter) | ((with_reducible refine clo_plain _ ?_); rfl) | ((with_reducible refine clo_lifts _ ?_); rfl) | (as_aux_lemma => kernel_rfl))

theorem over : Rows.fnMergeEmptyRow.holds Try.pinned (OpenSpec.ofChange Rows.fnMergeEmptySpec) :=
  OpenClaim.holds_of_wide 3 Try.f3 rfl rfl rfl rfl rfl rfl rfl ⟨rfl, rfl, rfl, rfl, rfl⟩ rfl rfl rfl rfl rfl (by kernel_rfl) Try.func3 closed
    (of_decide_eq_true (by kernel_rfl)) (by unfold Func.isWrapper; first | (rw [if_pos (by decide +kernel)]; kernel_rfl) | (rw [if_neg (by decide +kernel)]; exact ⟨rfl, rfl⟩))
    (fun os started H enc _ => lifted os started H enc)

/-- THE STATEMENT. -/
theorem proved : Rows.FnMergeEmptySaid := over
end lawFnMergeEmpty
end Go.Proofs.Ythefakiobpijiaa
