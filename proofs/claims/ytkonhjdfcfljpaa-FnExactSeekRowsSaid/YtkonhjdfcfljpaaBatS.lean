/- HELPER, no statement of the seat: the model's valid batches. -/
import Derived.Test.YtkonhjdfcfljpaaBatI
namespace Go.Proofs.Ytkonhjdfcfljpaa
open Go.RowKit Go.Sort
set_option linter.unusedSimpArgs false
set_option linter.unusedVariables false

set_option maxHeartbeats 1600000 in
theorem inBatch_s (LA UA : Option Addr) (lc uc : Nat) (lo up : List Tm) (x y : Int) (w : World) (h1 : TimesAt w LA lo) (h2 : TimesAt w UA up) (n1 : lo.length ≤ 4194304) (n2 : up.length ≤ 4194304) :
    Calls Try.prog 111 #[.slice LA lo.length lc, .slice UA up.length uc, .agg #[.int .i64 x, .int .i64 y]] w fun e w' => e = .returned (.bool (inBt lo up (x, y))) ∧ Below w.heap.size w w' := by
  have c1 := fun W (h : TimesAt W LA lo) => covers_s LA lc lo x y W h n1
  have c2 := fun W (h : TimesAt W UA up) => covers_s UA uc up x y W h n2
  have hB0 : Below w.heap.size w (w.alloc (.cells #[.int .i64 x, .int .i64 y] 52)) := bal (Below.refl _ _) _
  have kB : Blk (w.alloc (.cells #[.int .i64 x, .int .i64 y] 52)) w.heap.size 52 #[.int .i64 x, .int .i64 y] := Blk.newAt rfl
  cases e1 : cvB lo x y
  · rw [e1] at c1
    have HF : Hid (inBt lo up (x, y) = false) := by simp [Hid, inBt, e1]
    clear e1 c2 kB
    go_enter Try.func111, Try.ntmps111
    go_wp2_with fail
    refine (c1 _ (h1.below hB0)).mono ?_
    rintro e w1 ⟨rfl, b1⟩
    have HB := Lib.hid (btr hB0 b1)
    clear hB0 b1 c1
    go_wp2
    go_ret
    exact ⟨ret_bool HF.out.symm, HB.out⟩
  · rw [e1] at c1
    have HF : Hid (inBt lo up (x, y) = !cvB up x y) := by simp [Hid, inBt, e1]
    clear e1
    go_enter Try.func111, Try.ntmps111
    go_wp2_with fail
    refine (c1 _ (h1.below hB0)).mono ?_
    rintro e w1 ⟨rfl, b1⟩
    have B1 := btr hB0 b1
    have q0 := (kB.below b1).cell 0
    have q1 := (kB.below b1).cell 1
    simp at q0 q1
    clear hB0 b1 c1 kB
    go_wp2_with fail
    refine (c2 _ (h2.below B1)).mono ?_
    rintro e w2 ⟨rfl, b2⟩
    have HB := Lib.hid (btr B1 b2)
    clear B1 b2 c2 q0 q1
    go_wp2
    go_ret
    exact ⟨ret_bool (by rw [HF.out]), HB.out⟩
theorem all_upto {us : List Upd} {f : Upd → Bool} {k : Nat} (hk : k < us.length) (h : f us[k] = false) : us.all f = false := by
  rw [List.all_eq_false]
  exact ⟨us[k], List.getElem_mem hk, by simp [h]⟩
set_option maxRecDepth 100000 in
set_option maxHeartbeats 3200000 in
theorem validBatch_s (LA UA TA : Option Addr) (lc uc tc : Nat) (lo up : List Tm) (us : List Upd) (w : World) (h1 : TimesAt w LA lo) (h2 : TimesAt w UA up) (h3 : UpdsAt w TA us) (n1 : lo.length ≤ 4194304) (n2 : up.length ≤ 4194304) (n3 : us.length ≤ 4194304) (r3 : rowsU us 4194304) :
    Calls Try.prog 67 #[.agg #[.slice LA lo.length lc, .slice UA up.length uc, .slice TA us.length tc]] w fun e w' => e = .returned (.bool (batB (lo, (up, us)))) ∧ Below w.heap.size w w' := by
  have c1 := fun W (h : TimesAt W LA lo) => validFrontier_s LA lc lo W h n1
  have c2 := fun W (h : TimesAt W UA up) => validFrontier_s UA uc up W h n2
  have c3 := fun W (h : TimesAt W LA lo) (k : TimesAt W UA up) => frontierLessEqual_s LA lc lo UA uc up W h n1 k n2
  have c4 := fun W (h : UpdsAt W TA us) => validTrace_s TA tc us W h n3 r3
  have hB0 : Below w.heap.size w (w.alloc (.cells #[.slice LA lo.length lc, .slice UA up.length uc, .slice TA us.length tc] 32)) := bal (Below.refl _ _) _
  have kA : Blk (w.alloc (.cells #[.slice LA lo.length lc, .slice UA up.length uc, .slice TA us.length tc] 32)) w.heap.size 32 #[.slice LA lo.length lc, .slice UA up.length uc, .slice TA us.length tc] := Blk.newAt rfl
  cases e1 : frB lo
  · rw [e1] at c1
    have HF : Hid (batB (lo, (up, us)) = false) := by simp [Hid, batB, flB, e1]
    clear e1 c2 c3 c4 kA
    go_enter Try.func67, Try.ntmps67
    go_wp2_with fail
    refine (c1 _ (h1.below hB0)).mono ?_
    rintro e w1 ⟨rfl, b1⟩
    have HB := Lib.hid (btr hB0 b1)
    clear hB0 b1 c1
    go_wp2
    go_ret
    exact ⟨ret_bool HF.out.symm, HB.out⟩
  rw [e1] at c1
  cases e2 : frB up
  · rw [e2] at c2
    have HF : Hid (batB (lo, (up, us)) = false) := by simp [Hid, batB, flB, e2]
    clear e1 e2 c3 c4
    go_enter Try.func67, Try.ntmps67
    go_wp2_with fail
    refine (c1 _ (h1.below hB0)).mono ?_
    rintro e w1 ⟨rfl, b1⟩
    have B1 := btr hB0 b1
    have p1 := (kA.below b1).cell 1
    simp at p1
    clear hB0 b1 c1 kA
    go_wp2_with fail
    refine (c2 _ (h2.below B1)).mono ?_
    rintro e w2 ⟨rfl, b2⟩
    have HB := Lib.hid (btr B1 b2)
    clear B1 b2 c2 p1
    go_wp2
    go_ret
    exact ⟨ret_bool HF.out.symm, HB.out⟩
  rw [e2] at c2
  cases e3 : (up.all fun e => cvB lo e.1 e.2)
  · rw [e3] at c3
    have HF : Hid (batB (lo, (up, us)) = false) := by simp only [Hid, batB, flB, e1, e2, e3]; rfl
    clear e1 e2 e3 c4
    go_enter Try.func67, Try.ntmps67
    go_wp2_with fail
    refine (c1 _ (h1.below hB0)).mono ?_
    rintro e w1 ⟨rfl, b1⟩
    have B1 := btr hB0 b1
    have k1 := kA.below b1
    have p1 := k1.cell 1
    simp at p1
    clear hB0 b1 c1 kA
    go_wp2_with fail
    refine (c2 _ (h2.below B1)).mono ?_
    rintro e w2 ⟨rfl, b2⟩
    have B2 := btr B1 b2
    have p0 := (k1.below b2).cell 0
    have p1' := (k1.below b2).cell 1
    simp at p0 p1'
    clear B1 b2 c2 p1 k1
    go_wp2_with fail
    refine (c3 _ (h1.below B2) (h2.below B2)).mono ?_
    rintro e w3 ⟨rfl, b3⟩
    have HB := Lib.hid (btr B2 b3)
    clear B2 b3 c3 p0 p1'
    go_wp2
    go_ret
    exact ⟨ret_bool HF.out.symm, HB.out⟩
  rw [e3] at c3
  have HFL : flB lo up = true := by simp only [flB, e1, e2, e3]; rfl
  have HR : Hid (batB (lo, (up, us)) = (trB us && us.all fun e => inBt lo up e.1.2)) := by simp only [Hid, batB, HFL]; rfl
  clear HFL e1 e2 e3
  cases e4 : trB us
  all_goals
    rw [e4] at c4
    have E4 := Lib.hid e4
    clear e4
    go_enter Try.func67, Try.ntmps67
    go_wp2_with fail
    refine (c1 _ (h1.below hB0)).mono ?_
    rintro e w1 ⟨rfl, b1⟩
    have B1 := btr hB0 b1
    have k1 := kA.below b1
    have p1 := k1.cell 1
    simp at p1
    clear hB0 b1 c1 kA
    go_wp2_with fail
    refine (c2 _ (h2.below B1)).mono ?_
    rintro e w2 ⟨rfl, b2⟩
    have B2 := btr B1 b2
    have k2 := k1.below b2
    have p0 := k2.cell 0
    have p1' := k2.cell 1
    simp at p0 p1'
    clear B1 b2 c2 p1 k1
    go_wp2_with fail
    refine (c3 _ (h1.below B2) (h2.below B2)).mono ?_
    rintro e w3 ⟨rfl, b3⟩
    have B3 := btr B2 b3
    have k3 := k2.below b3
    have p2 := k3.cell 2
    simp at p2
    clear B2 b3 c3 p0 p1' k2
    go_wp2_with fail
    refine (c4 _ (h3.below updR B3)).mono ?_
    rintro e w4 ⟨rfl, b4⟩
    have B4 := btr B3 b4
    have k4 := k3.below b4
    clear B3 b4 c4 p2 k3
  · have HF : Hid (batB (lo, (up, us)) = false) := by rw [Hid, HR.out, E4.out]; rfl
    have HB := Lib.hid B4
    clear B4 k4
    go_wp2
    go_ret
    exact ⟨ret_bool HF.out.symm, HB.out⟩
  · have hc := fun W x y (h : Below w.heap.size w W) => inBatch_s LA UA lc uc lo up x y W (h1.below h) (h2.below h) n1 n2
    have HB4 := Lib.hid B4
    have HK4 := Lib.hid k4
    clear B4 k4
    go_wp2
    go_loopw [3] (fun i wr => ∃ k : Nat, k ≤ us.length ∧ i = .int .i64 (k : Nat) ∧ Hid (∀ j (h : j < us.length), j < k → inBt lo up us[j].1.2 = true) ∧ Blk wr w.heap.size 32 #[.slice LA lo.length lc, .slice UA up.length uc, .slice TA us.length tc] ∧ Below w.heap.size w wr) (fun i _ => us.length - (intOf i).toNat)
    case atStart => exact ⟨0, by omega, rfl, fun j h h0 => absurd h0 (by omega), HK4.out, HB4.out⟩
    case round =>
      obtain ⟨k, hk, rfl, hall, kr, hbel⟩ := hrel
      clear HK4 HB4
      have p0 := kr.cell 0
      have p1 := kr.cell 1
      have p2 := kr.cell 2
      simp at p0 p1 p2
      by_cases hlt : k < us.length
      · obtain ⟨b, off, RA, rc, rfl, hbl, hc0, hc1, hc2, hc3, hml, hrow⟩ := h3.get k hlt
        have q1 := (hbel.cell (p := ⟨b, off + k * 4 + 1, none⟩) hbl).trans hc1
        have q2 := (hbel.cell (p := ⟨b, off + k * 4 + 2, none⟩) hbl).trans hc2
        have r0 := cgrow p0
        have r1 := cgrow p1
        have r2 := cgrow p2
        have r3 := cgrow q1
        have r4 := cgrow q2
        have hlt' : (k : Int) < us.length := by omega
        have hcon := fun W (hW : Below wr.heap.size wr W) => hc W us[k].1.2.1 us[k].1.2.2 (btr hbel hW)
        clear hc0 hc1 hc2 hc3 hrow hml hc
        cases hi : inBt lo up us[k].1.2
        · have HF : Hid (batB (lo, (up, us)) = false) := by
            rw [Hid, HR.out, all_upto (f := fun e : Upd => inBt lo up e.1.2) hlt hi]
            simp
          rw [show (us[k].1.2.1, us[k].1.2.2) = us[k].1.2 from rfl, hi] at hcon
          clear hi
          go_wp2_with fail
          refine wp_region_quiet_below (by kernel_rfl) (by kernel_rfl) ?_
          repeat (go_big_quiet_step (exact Calls.regrown_of (hcon _ (below_regrown _ _ _))))
          refine wpQuiet_nil ?_
          intro wq hwq
          obtain ⟨⟨dq, osq⟩, rfl⟩ := hwq
          have HB := Lib.hid (btr hbel (below_regrown wr dq osq))
          clear p0 p1 p2 q1 q2 r0 r1 r2 r3 r4 hcon
          go_wp2
          go_ret
          exact ⟨ret_bool HF.out.symm, HB.out⟩
        · have HA : Hid (∀ j (h : j < us.length), j < k + 1 → inBt lo up us[j].1.2 = true) := fun j h hj => by
            rcases Nat.lt_or_ge j k with h' | h'
            · exact hall.out j h h'
            · obtain rfl : j = k := by omega
              exact hi
          rw [show (us[k].1.2.1, us[k].1.2.2) = us[k].1.2 from rfl, hi] at hcon
          clear hi
          go_wp2_with fail
          refine wp_region_quiet_below (by kernel_rfl) (by kernel_rfl) ?_
          repeat (go_big_quiet_step (exact Calls.regrown_of (hcon _ (below_regrown _ _ _))))
          refine wpQuiet_nil ?_
          intro wq hwq
          obtain ⟨⟨dq, osq⟩, rfl⟩ := hwq
          have hbq := below_regrown wr dq osq
          have HB := Lib.hid (btr hbel hbq)
          have HK := Lib.hid (kr.below hbq)
          clear p0 p1 p2 q1 q2 r0 r1 r2 r3 r4 hcon hbq kr hbel
          go_wp2
          go_roundw
          case rel => exact ⟨k + 1, by omega, by go_num, HA, HK.out, HB.out⟩
          case measure => simp [intOf]; omega
      · obtain rfl : k = us.length := by omega
        have HF : Hid (batB (lo, (up, us)) = true) := by
          rw [Hid, HR.out, E4.out, Bool.true_and, List.all_eq_true]
          intro x hx
          obtain ⟨j, hj, rfl⟩ := List.getElem_of_mem hx
          exact hall.out j hj hj
        go_wp2
        go_ret
        exact ⟨ret_bool HF.out.symm, hbel⟩
end Go.Proofs.Ytkonhjdfcfljpaa
