/- HELPER, no statement of the seat: the equality of lists of times by slices.Equal. -/
import Derived.Test.YtffgonddephkkaaGreatFrt
import Derived.Laws.StructEq
import Derived.Lib.QuietBelow
namespace Go.Proofs.YtffgonddephkkaaGreat
open Go.RowKit Go.Sort
set_option linter.unusedSimpArgs false
set_option linter.unusedVariables false

set_option maxRecDepth 100000 in
theorem timeIn_eqC (a b c d : Int) (w : World) : (Op.equalIn 10000 64 (.agg #[.int .i64 a, .int .i64 b]) (.agg #[.int .i64 c, .int .i64 d])).run Tryz.prog w = .ok (a == c && b == d) w := by
  have u3 := Tryz.underlying3
  have a3 := Tryz.isAgg3
  have z3 := Tryz.sizeOf3
  have hS : Tryz.prog.underlying 64 = some (.struct (Tryz.prog.fieldsOf 64)) := by kernel_rfl
  have hp : Tryz.prog.stoodInHeld 64 = false := by kernel_rfl
  rw [show (10000 : Nat) = 9999 + 1 from rfl, run_equalIn_agg w 9999 64 _ _ hS hp]
  simp only [Program.fieldsOf, Tryz.underlying64]
  go_simp
  by_cases h1 : a = c <;> by_cases h2 : b = d <;> simp [h1, h2]
set_option maxHeartbeats 3200000 in
theorem equalC_i (A B : Option Addr) (c d : Nat) (xs ys : List Tm) (w : World) (hx : TimesAt w A xs) (hy : TimesAt w B ys) (hn : xs.length ≤ 4194304) (hm : ys.length ≤ 4194304) :
    Calls Tryz.prog 38 #[.slice A xs.length c, .slice B ys.length d] w fun e w' => e = .returned (.bool (decide (xs = ys))) ∧ Below w.heap.size w w' := by
  by_cases hl : xs.length = ys.length
  · have hb : ((xs.length : Int) != (ys.length : Int)) = false := by simp [hl]
    have HL := Lib.hid hl
    clear hl
    go_enter Tryz.func38, Tryz.ntmps38
    go_wp2
    go_loopw [5, 13] (fun _ i wr => ∃ k : Nat, k ≤ xs.length ∧ i = .int .i64 k ∧ xs.take k = ys.take k ∧ Below w.heap.size w wr) (fun _ i _ => xs.length - (intOf i).toNat)
    case atStart => exact ⟨0, by omega, rfl, rfl, Below.refl _ _⟩
    case round =>
      obtain ⟨k, hk, rfl, htk, hbel⟩ := hrel
      have HT := Lib.hid htk
      clear htk
      by_cases hlt : k < xs.length
      · have hlt2 : k < ys.length := by have := HL.out; omega
        obtain ⟨b, off, rfl, hbl, hc⟩ := hx (by omega)
        obtain ⟨b2, off2, rfl, hbl2, hc2⟩ := hy (by omega)
        have hc := hc k hlt
        have hc2 := hc2 k hlt2
        rw [show xs.getD k (0, 0) = xs[k] by simp [hlt]] at hc
        rw [show ys.getD k (0, 0) = ys[k] by simp [hlt2]] at hc2
        have q1 := cgrowT ((hbel.cell (p := ⟨b, off + k * 2, none⟩) hbl).trans hc.1)
        have q2 := cgrowT ((hbel.cell (p := ⟨b, off + k * 2 + 1, none⟩) hbl).trans hc.2)
        have q3 := cgrowT ((hbel.cell (p := ⟨b2, off2 + k * 2, none⟩) hbl2).trans hc2.1)
        have q4 := cgrowT ((hbel.cell (p := ⟨b2, off2 + k * 2 + 1, none⟩) hbl2).trans hc2.2)
        clear hc hc2
        have qe := fun W => timeIn_eqC xs[k].1 xs[k].2 ys[k].1 ys[k].2 W
        by_cases he : xs[k] = ys[k]
        · have hqt : (xs[k].1 == ys[k].1 && xs[k].2 == ys[k].2) = true := by rw [he]; simp
          rw [hqt] at qe
          clear hqt
          have HE := Lib.hid he
          clear he
          go_wp2_with fail
          refine wp_region_quiet_below (by kernel_rfl) (by kernel_rfl) ?_
          repeat (go_big_quiet_step (fail))
          refine wpQuiet_nil ?_
          intro w3 hw3
          obtain ⟨⟨dq, osq⟩, rfl⟩ := hw3
          have hbq := below_regrown wr dq osq
          generalize grow (redrawn wr dq) osq = w4 at hbq
          clear q1 q2 q3 q4
          go_wp2
          go_roundw
          case rel => exact ⟨k + 1, by omega, by go_num, take_eq_stepT hlt hlt2 HT.out HE.out, btr hbel hbq⟩
          case measure => simp [intOf]; omega
        · have hqt : (xs[k].1 == ys[k].1 && xs[k].2 == ys[k].2) = false := by
            cases hh : (xs[k].1 == ys[k].1 && xs[k].2 == ys[k].2) with
            | false => rfl
            | true => simp at hh; exact absurd (Prod.ext hh.1 hh.2) he
          rw [hqt] at qe
          have HF : Hid (decide (xs = ys) = false) := by
            simp only [Hid, decide_eq_false_iff_not]
            intro h; subst h; exact he rfl
          clear hqt he
          go_wp2_with fail
          refine wp_region_quiet_below (by kernel_rfl) (by kernel_rfl) ?_
          repeat (go_big_quiet_step (fail))
          refine wpQuiet_nil ?_
          intro w3 hw3
          obtain ⟨⟨dq, osq⟩, rfl⟩ := hw3
          have hbq := below_regrown wr dq osq
          generalize grow (redrawn wr dq) osq = w4 at hbq
          clear q1 q2 q3 q4
          go_wp2
          go_ret
          exact ⟨ret_bool HF.out.symm, btr hbel hbq⟩
      · obtain rfl : k = xs.length := by omega
        have hfin : decide (xs = ys) = true := by
          have h1 := HT.out
          have h2 := HL.out
          rw [List.take_length, h2, List.take_length] at h1
          simp [h1]
        have HF := Lib.hid hfin
        clear hfin
        go_wp2
        go_ret
        exact ⟨ret_bool HF.out.symm, hbel⟩
  · have hb : ((xs.length : Int) != (ys.length : Int)) = true := by simp; omega
    have hfin : decide (xs = ys) = false := by simp; rintro rfl; exact hl rfl
    have HF := Lib.hid hfin
    clear hfin
    go_enter Tryz.func38, Tryz.ntmps38
    go_wp2
    go_ret
    exact ⟨ret_bool HF.out.symm, Below.refl _ _⟩
end Go.Proofs.YtffgonddephkkaaGreat
