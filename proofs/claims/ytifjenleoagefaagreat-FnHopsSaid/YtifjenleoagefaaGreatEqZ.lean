/- HELPER, no statement of the seat: the equalities that the laws use. -/
import Derived.Test.YtifjenleoagefaaGreatZbs
import Derived.Lib.QuietBelow
namespace Go.Proofs.YtifjenleoagefaaGreat
open Go.RowKit Go.Sort
set_option linter.unusedSimpArgs false
set_option linter.unusedVariables false

theorem cgrowZ {w : World} {b o : Nat} {v : Value} (h : w.cell? ⟨b, o, none⟩ = some v) : ∀ d os, (grow (redrawn w d) os).cell? ⟨b, o, none⟩ = some v := fun d os => cell_regrown h d os
theorem take_eq_stepZ {α : Type} {xs ys : List α} {k : Nat} (h1 : k < xs.length) (h2 : k < ys.length) (h : xs.take k = ys.take k) (e : xs[k] = ys[k]) : xs.take (k + 1) = ys.take (k + 1) := by
  rw [List.take_succ_eq_append_getElem h1, List.take_succ_eq_append_getElem h2, h, e]

set_option maxHeartbeats 1600000 in
theorem equalZSets_l (A B : Option Addr) (c d : Nat) (xs ys : List Ent) (w : World) (hx : EntsAt w A xs) (hy : EntsAt w B ys) (hn : xs.length ≤ 4194304) (hm : ys.length ≤ 4194304) (hr : rowsIn xs 4194304) (hs : rowsIn ys 4194304) :
    Calls Tryz.prog 7 #[.slice A xs.length c, .slice B ys.length d] w fun e w' => e = .returned (.bool (decide (xs = ys))) ∧ Below w.heap.size w w' := by
  by_cases hl : xs.length = ys.length
  · have hb : ((xs.length : Int) != (ys.length : Int)) = false := by simp [hl]
    have HL := Lib.hid hl
    clear hl
    go_enter Tryz.func7, Tryz.ntmps7
    go_wp2
    go_loopw [5] (fun i wr => ∃ k : Nat, k ≤ xs.length ∧ i = .int .i64 k ∧ xs.take k = ys.take k ∧ Below w.heap.size w wr) (fun i _ => xs.length - (intOf i).toNat)
    case atStart => exact ⟨0, by omega, rfl, rfl, Below.refl _ _⟩
    case round =>
      obtain ⟨k, hk, rfl, htk, hbel⟩ := hrel
      have HT := Lib.hid htk
      clear htk
      by_cases hlt : k < xs.length
      · have hlt2 : k < ys.length := by have := HL.out; omega
        obtain ⟨b, off, RA, rc, rfl, hbl, hc0, hc1, -, hrow⟩ := hx.get k hlt
        obtain ⟨b2, off2, RB, rd, rfl, hbl2, hd0, hd1, -, hrow2⟩ := hy.get k hlt2
        have q0 := cgrowZ ((hbel.cell (p := ⟨b, off + k * 2, none⟩) hbl).trans hc0)
        have q1 := cgrowZ ((hbel.cell (p := ⟨b, off + k * 2 + 1, none⟩) hbl).trans hc1)
        have q2 := cgrowZ ((hbel.cell (p := ⟨b2, off2 + k * 2, none⟩) hbl2).trans hd0)
        have q3 := cgrowZ ((hbel.cell (p := ⟨b2, off2 + k * 2 + 1, none⟩) hbl2).trans hd1)
        have hcon := fun W (hW : Below wr.heap.size wr W) => equalInts_l RA RB rc rd xs[k].1 ys[k].1 W ((hrow.below hbel).below hW) ((hrow2.below hbel).below hW) (by have := hr.get hlt; omega) (by have := hs.get hlt2; omega)
        have hk1 : (k : Int) < xs.length := by omega
        have hk2 : (k : Int) < ys.length := by omega
        clear hc0 hc1 hd0 hd1
        by_cases e1 : xs[k].1 = ys[k].1
        · have hd1 : decide (xs[k].1 = ys[k].1) = true := by simp [e1]
          rw [hd1] at hcon
          have HE1 := Lib.hid e1
          by_cases e2 : xs[k].2 = ys[k].2
          · have hne : (xs[k].2 != ys[k].2) = false := by simp [e2]
            have HE : Hid (xs[k] = ys[k]) := by
              have h1 := HE1.out
              exact Prod.ext h1 e2
            clear e1 e2 hd1
            go_wp2_with fail
            refine wp_region_quiet_below (by kernel_rfl) (by kernel_rfl) ?_
            repeat (go_big_quiet_step (exact Calls.regrown_of (hcon _ (below_regrown _ _ _))))
            refine wpQuiet_nil ?_
            intro wq hwq
            obtain ⟨⟨dq, osq⟩, rfl⟩ := hwq
            have hbq := btr hbel (below_regrown wr dq osq)
            generalize grow (redrawn wr dq) osq = w4 at hbq
            clear q0 q1 q2 q3 hcon
            go_wp2
            go_roundw
            case rel => exact ⟨k + 1, by omega, by go_num, take_eq_stepZ hlt hlt2 HT.out HE.out, hbq⟩
            case measure => simp [intOf]; omega
          · have hne : (xs[k].2 != ys[k].2) = true := by simp [e2]
            have HF : Hid (decide (xs = ys) = false) := by
              simp only [Hid, decide_eq_false_iff_not]
              intro h; subst h; exact e2 rfl
            clear e1 e2 hd1
            go_wp2_with fail
            refine wp_region_quiet_below (by kernel_rfl) (by kernel_rfl) ?_
            repeat (go_big_quiet_step (exact Calls.regrown_of (hcon _ (below_regrown _ _ _))))
            refine wpQuiet_nil ?_
            intro wq hwq
            obtain ⟨⟨dq, osq⟩, rfl⟩ := hwq
            have hbq := btr hbel (below_regrown wr dq osq)
            generalize grow (redrawn wr dq) osq = w4 at hbq
            clear q0 q1 q2 q3 hcon
            go_wp2
            go_ret
            exact ⟨ret_bool HF.out.symm, hbq⟩
        · have hd1 : decide (xs[k].1 = ys[k].1) = false := by simp [e1]
          rw [hd1] at hcon
          have HF : Hid (decide (xs = ys) = false) := by
            simp only [Hid, decide_eq_false_iff_not]
            intro h; subst h; exact e1 rfl
          clear e1 hd1
          go_wp2_with fail
          refine wp_region_quiet_below (by kernel_rfl) (by kernel_rfl) ?_
          repeat (go_big_quiet_step (exact Calls.regrown_of (hcon _ (below_regrown _ _ _))))
          refine wpQuiet_nil ?_
          intro wq hwq
          obtain ⟨⟨dq, osq⟩, rfl⟩ := hwq
          have hbq := btr hbel (below_regrown wr dq osq)
          generalize grow (redrawn wr dq) osq = w4 at hbq
          clear q0 q1 q2 q3 hcon
          go_wp2
          go_ret
          exact ⟨ret_bool HF.out.symm, hbq⟩
      · obtain rfl : k = xs.length := by omega
        have hfin : decide (xs = ys) = true := by
          have h1 := HT.out
          have h2 := HL.out
          rw [List.take_length, h2, List.take_length] at h1
          simp [h1]
        have HF := Lib.hid hfin
        clear hfin
        go_wp2
        go_ret
        exact ⟨ret_bool HF.out.symm, hbel⟩
  · have hb : ((xs.length : Int) != (ys.length : Int)) = true := by simp; omega
    have hfin : decide (xs = ys) = false := by simp; rintro rfl; exact hl rfl
    have HF := Lib.hid hfin
    clear hfin
    go_enter Tryz.func7, Tryz.ntmps7
    go_wp2
    go_ret
    exact ⟨ret_bool HF.out.symm, Below.refl _ _⟩
theorem equalZ {A B : Option Addr} {c d : Nat} {xs ys : List Ent} {w : World} (r : Bool) (he : decide (xs = ys) = r) (hx : EntsAt w A xs) (hy : EntsAt w B ys) (hn : xs.length ≤ 4194304) (hm : ys.length ≤ 4194304) (hr : rowsIn xs 4194304) (hs : rowsIn ys 4194304) :
    Calls Tryz.prog 7 #[.slice A xs.length c, .slice B ys.length d] w fun e w' => e = .returned (.bool r) ∧ Below w.heap.size w w' :=
  he ▸ equalZSets_l A B c d xs ys w hx hy hn hm hr hs
end Go.Proofs.YtifjenleoagefaaGreat
