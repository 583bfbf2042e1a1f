/- HELPER, no statement of the seat: several texts in one file. -/
import Derived.Test.YthefakiobpijiaaZbs
import Derived.Lib.QuietBelow
import Derived.Test.YthefakiobpijiaaMee
import Derived.Test.YthefakiobpijiaaFrt
import Derived.Laws.StructEq
/- HELPER, no statement of the seat: the equalities that the laws use. -/
namespace Go.Proofs.Ythefakiobpijiaa
open Go.RowKit Go.Sort
set_option linter.unusedSimpArgs false
set_option linter.unusedVariables false

theorem cgrowZ {w : World} {b o : Nat} {v : Value} (h : w.cell? ⟨b, o, none⟩ = some v) : ∀ d os, (grow (redrawn w d) os).cell? ⟨b, o, none⟩ = some v := fun d os => cell_regrown h d os
theorem take_eq_stepZ {α : Type} {xs ys : List α} {k : Nat} (h1 : k < xs.length) (h2 : k < ys.length) (h : xs.take k = ys.take k) (e : xs[k] = ys[k]) : xs.take (k + 1) = ys.take (k + 1) := by
  rw [List.take_succ_eq_append_getElem h1, List.take_succ_eq_append_getElem h2, h, e]

end Go.Proofs.Ythefakiobpijiaa

/- HELPER, no statement of the seat: the equality of traces that the laws use. -/
namespace Go.Proofs.Ythefakiobpijiaa
open Go.RowKit Go.Sort
set_option linter.unusedSimpArgs false
set_option linter.unusedVariables false

set_option maxHeartbeats 3200000 in
theorem equalTraces_l (A B : Option Addr) (c d : Nat) (xs ys : List Upd) (w : World) (hx : UpdsAt w A xs) (hy : UpdsAt w B ys) (hn : xs.length ≤ 4194304) (hm : ys.length ≤ 4194304) (hr : rowsU xs 4194304) (hs : rowsU ys 4194304) :
    Calls Try.prog 77 #[.slice A xs.length c, .slice B ys.length d] w fun e w' => e = .returned (.bool (decide (xs = ys))) ∧ Below w.heap.size w w' := by
  by_cases hl : xs.length = ys.length
  · have hb : ((xs.length : Int) != (ys.length : Int)) = false := by simp [hl]
    have HL := Lib.hid hl
    clear hl
    go_enter Try.func77, Try.ntmps77
    go_wp2
    go_loopw [5] (fun i wr => ∃ k : Nat, k ≤ xs.length ∧ i = .int .i64 k ∧ xs.take k = ys.take k ∧ Below w.heap.size w wr) (fun i _ => xs.length - (intOf i).toNat)
    case atStart => exact ⟨0, by omega, rfl, rfl, Below.refl _ _⟩
    case round =>
      obtain ⟨k, hk, rfl, htk, hbel⟩ := hrel
      have HT := Lib.hid htk
      clear htk
      by_cases hlt : k < xs.length
      · have hlt2 : k < ys.length := by have := HL.out; omega
        obtain ⟨b, off, RA, rc, rfl, hbl, hc0, hc1, hc2, hc3, -, hrow⟩ := hx.get k hlt
        obtain ⟨b2, off2, RB, rd, rfl, hbl2, hd0, hd1, hd2, hd3, -, hrow2⟩ := hy.get k hlt2
        have q0 := cgrowZ ((hbel.cell (p := ⟨b, off + k * 4, none⟩) hbl).trans hc0)
        have q1 := cgrowZ ((hbel.cell (p := ⟨b, off + k * 4 + 1, none⟩) hbl).trans hc1)
        have q2 := cgrowZ ((hbel.cell (p := ⟨b, off + k * 4 + 2, none⟩) hbl).trans hc2)
        have q3 := cgrowZ ((hbel.cell (p := ⟨b, off + k * 4 + 3, none⟩) hbl).trans hc3)
        have p0 := cgrowZ ((hbel.cell (p := ⟨b2, off2 + k * 4, none⟩) hbl2).trans hd0)
        have p1 := cgrowZ ((hbel.cell (p := ⟨b2, off2 + k * 4 + 1, none⟩) hbl2).trans hd1)
        have p2 := cgrowZ ((hbel.cell (p := ⟨b2, off2 + k * 4 + 2, none⟩) hbl2).trans hd2)
        have p3 := cgrowZ ((hbel.cell (p := ⟨b2, off2 + k * 4 + 3, none⟩) hbl2).trans hd3)
        have hcon := fun W (hW : Below wr.heap.size wr W) => equalInts_l RA RB rc rd xs[k].1.1 ys[k].1.1 W ((hrow.below hbel).below hW) ((hrow2.below hbel).below hW) (by have := hr.get hlt; omega) (by have := hs.get hlt2; omega)
        have hk1 : (k : Int) < xs.length := by omega
        have hk2 : (k : Int) < ys.length := by omega
        have qe := fun W => timeIn_eq xs[k].1.2.1 xs[k].1.2.2 ys[k].1.2.1 ys[k].1.2.2 W
        clear hc0 hc1 hc2 hc3 hd0 hd1 hd2 hd3
        by_cases e1 : xs[k].1.1 = ys[k].1.1
        · have hd1 : decide (xs[k].1.1 = ys[k].1.1) = true := by simp [e1]
          rw [hd1] at hcon
          have HE1 := Lib.hid e1
          clear e1 hd1
          by_cases e2 : xs[k].1.2 = ys[k].1.2
          · have hqt : (xs[k].1.2.1 == ys[k].1.2.1 && xs[k].1.2.2 == ys[k].1.2.2) = true := by rw [e2]; simp
            rw [hqt] at qe
            have HE2 := Lib.hid e2
            clear e2 hqt
            by_cases e3 : xs[k].2 = ys[k].2
            · have hne : (xs[k].2 != ys[k].2) = false := by simp [e3]
              have HE : Hid (xs[k] = ys[k]) := Prod.ext (Prod.ext HE1.out HE2.out) e3
              clear e3
              go_wp2_with fail
              refine wp_region_quiet_below (by kernel_rfl) (by kernel_rfl) ?_
              repeat (go_big_quiet_step (exact Calls.regrown_of (hcon _ (below_regrown _ _ _))))
              refine wpQuiet_nil ?_
              intro wq hwq
              obtain ⟨⟨dq, osq⟩, rfl⟩ := hwq
              have hbq := btr hbel (below_regrown wr dq osq)
              generalize grow (redrawn wr dq) osq = w4 at hbq
              clear q0 q1 q2 q3 p0 p1 p2 p3 hcon
              go_wp2
              go_roundw
              case rel => exact ⟨k + 1, by omega, by go_num, take_eq_stepZ hlt hlt2 HT.out HE.out, hbq⟩
              case measure => simp [intOf]; omega
            · have hne : (xs[k].2 != ys[k].2) = true := by simp [e3]
              have HF : Hid (decide (xs = ys) = false) := by
                simp only [Hid, decide_eq_false_iff_not]
                intro h; subst h; exact e3 rfl
              clear e3
              go_wp2_with fail
              refine wp_region_quiet_below (by kernel_rfl) (by kernel_rfl) ?_
              repeat (go_big_quiet_step (exact Calls.regrown_of (hcon _ (below_regrown _ _ _))))
              refine wpQuiet_nil ?_
              intro wq hwq
              obtain ⟨⟨dq, osq⟩, rfl⟩ := hwq
              have hbq := btr hbel (below_regrown wr dq osq)
              generalize grow (redrawn wr dq) osq = w4 at hbq
              clear q0 q1 q2 q3 p0 p1 p2 p3 hcon
              go_wp2
              go_ret
              exact ⟨ret_bool HF.out.symm, hbq⟩
          · have hqt : (xs[k].1.2.1 == ys[k].1.2.1 && xs[k].1.2.2 == ys[k].1.2.2) = false := by
              cases hh : (xs[k].1.2.1 == ys[k].1.2.1 && xs[k].1.2.2 == ys[k].1.2.2) with
              | false => rfl
              | true => simp at hh; exact absurd (Prod.ext hh.1 hh.2) e2
            rw [hqt] at qe
            have HF : Hid (decide (xs = ys) = false) := by
              simp only [Hid, decide_eq_false_iff_not]
              intro h; subst h; exact e2 rfl
            clear e2 hqt
            go_wp2_with fail
            refine wp_region_quiet_below (by kernel_rfl) (by kernel_rfl) ?_
            repeat (go_big_quiet_step (exact Calls.regrown_of (hcon _ (below_regrown _ _ _))))
            refine wpQuiet_nil ?_
            intro wq hwq
            obtain ⟨⟨dq, osq⟩, rfl⟩ := hwq
            have hbq := btr hbel (below_regrown wr dq osq)
            generalize grow (redrawn wr dq) osq = w4 at hbq
            clear q0 q1 q2 q3 p0 p1 p2 p3 hcon
            go_wp2
            go_ret
            exact ⟨ret_bool HF.out.symm, hbq⟩
        · have hd1 : decide (xs[k].1.1 = ys[k].1.1) = false := by simp [e1]
          rw [hd1] at hcon
          have HF : Hid (decide (xs = ys) = false) := by
            simp only [Hid, decide_eq_false_iff_not]
            intro h; subst h; exact e1 rfl
          clear e1 hd1 qe
          go_wp2_with fail
          refine wp_region_quiet_below (by kernel_rfl) (by kernel_rfl) ?_
          repeat (go_big_quiet_step (exact Calls.regrown_of (hcon _ (below_regrown _ _ _))))
          refine wpQuiet_nil ?_
          intro wq hwq
          obtain ⟨⟨dq, osq⟩, rfl⟩ := hwq
          have hbq := btr hbel (below_regrown wr dq osq)
          generalize grow (redrawn wr dq) osq = w4 at hbq
          clear q0 q1 q2 q3 p0 p1 p2 p3 hcon
          go_wp2
          go_ret
          exact ⟨ret_bool HF.out.symm, hbq⟩
      · obtain rfl : k = xs.length := by omega
        have hfin : decide (xs = ys) = true := by
          have h1 := HT.out
          have h2 := HL.out
          rw [List.take_length, h2, List.take_length] at h1
          simp [h1]
        have HF := Lib.hid hfin
        clear hfin
        go_wp2
        go_ret
        exact ⟨ret_bool HF.out.symm, hbel⟩
  · have hb : ((xs.length : Int) != (ys.length : Int)) = true := by simp; omega
    have hfin : decide (xs = ys) = false := by simp; rintro rfl; exact hl rfl
    have HF := Lib.hid hfin
    clear hfin
    go_enter Try.func77, Try.ntmps77
    go_wp2
    go_ret
    exact ⟨ret_bool HF.out.symm, Below.refl _ _⟩
theorem equalT {A B : Option Addr} {c d : Nat} {xs ys : List Upd} {w : World} (r : Bool) (he : decide (xs = ys) = r) (hx : UpdsAt w A xs) (hy : UpdsAt w B ys) (hn : xs.length ≤ 4194304) (hm : ys.length ≤ 4194304) (hr : rowsU xs 4194304) (hs : rowsU ys 4194304) :
    Calls Try.prog 77 #[.slice A xs.length c, .slice B ys.length d] w fun e w' => e = .returned (.bool r) ∧ Below w.heap.size w w' :=
  he ▸ equalTraces_l A B c d xs ys w hx hy hn hm hr hs
theorem validT {A : Option Addr} {c : Nat} {z : List Upd} {w : World} (r : Bool) (he : trB z = r) (hx : UpdsAt w A z) (hn : z.length ≤ 4194304) (hr : rowsU z 4194304) :
    Calls Try.prog 144 #[.slice A z.length c] w fun e w' => e = .returned (.bool r) ∧ Below w.heap.size w w' := he ▸ ValidTrace_i A c z w hx hn hr
theorem rows_bigU {z : List Upd} {n : Nat} (h : rowsU z n) (hn : n ≤ 4194304) : rowsU z 4194304 := fun e he => by have := h e he; omega
end Go.Proofs.Ythefakiobpijiaa

/- HELPER, no statement of the seat: the equality of lists of times that the laws use. -/
namespace Go.Proofs.Ythefakiobpijiaa
open Go.RowKit Go.Sort
set_option linter.unusedSimpArgs false
set_option linter.unusedVariables false

set_option maxRecDepth 100000 in
theorem timeIn_eqE (a b c d : Int) (w : World) : (Op.equalIn 10000 117 (.agg #[.int .i64 a, .int .i64 b]) (.agg #[.int .i64 c, .int .i64 d])).run Try.prog w = .ok (a == c && b == d) w := by
  have u3 := Try.underlying3
  have a3 := Try.isAgg3
  have z3 := Try.sizeOf3
  have hS : Try.prog.underlying 117 = some (.struct (Try.prog.fieldsOf 117)) := by kernel_rfl
  have hp : Try.prog.stoodInHeld 117 = false := by kernel_rfl
  rw [show (10000 : Nat) = 9999 + 1 from rfl, run_equalIn_agg w 9999 117 _ _ hS hp]
  simp only [Program.fieldsOf, Try.underlying117]
  go_simp
  by_cases h1 : a = c <;> by_cases h2 : b = d <;> simp [h1, h2]
set_option maxHeartbeats 3200000 in
theorem equalTimes_l (A B : Option Addr) (c d : Nat) (xs ys : List Tm) (w : World) (hx : TimesAt w A xs) (hy : TimesAt w B ys) (hn : xs.length ≤ 4194304) (hm : ys.length ≤ 4194304) :
    Calls Try.prog 76 #[.slice A xs.length c, .slice B ys.length d] w fun e w' => e = .returned (.bool (decide (xs = ys))) ∧ Below w.heap.size w w' := by
  by_cases hl : xs.length = ys.length
  · have hb : ((xs.length : Int) != (ys.length : Int)) = false := by simp [hl]
    have HL := Lib.hid hl
    clear hl
    go_enter Try.func76, Try.ntmps76
    go_wp2
    go_loopw [5] (fun i wr => ∃ k : Nat, k ≤ xs.length ∧ i = .int .i64 k ∧ xs.take k = ys.take k ∧ Below w.heap.size w wr) (fun i _ => xs.length - (intOf i).toNat)
    case atStart => exact ⟨0, by omega, rfl, rfl, Below.refl _ _⟩
    case round =>
      obtain ⟨k, hk, rfl, htk, hbel⟩ := hrel
      have HT := Lib.hid htk
      clear htk
      by_cases hlt : k < xs.length
      · have hlt2 : k < ys.length := by have := HL.out; omega
        obtain ⟨b, off, rfl, hbl, hc⟩ := hx (by omega)
        obtain ⟨b2, off2, rfl, hbl2, hc2⟩ := hy (by omega)
        have hc := hc k hlt
        have hc2 := hc2 k hlt2
        rw [show xs.getD k (0, 0) = xs[k] by simp [hlt]] at hc
        rw [show ys.getD k (0, 0) = ys[k] by simp [hlt2]] at hc2
        have q1 := cgrowT ((hbel.cell (p := ⟨b, off + k * 2, none⟩) hbl).trans hc.1)
        have q2 := cgrowT ((hbel.cell (p := ⟨b, off + k * 2 + 1, none⟩) hbl).trans hc.2)
        have q3 := cgrowT ((hbel.cell (p := ⟨b2, off2 + k * 2, none⟩) hbl2).trans hc2.1)
        have q4 := cgrowT ((hbel.cell (p := ⟨b2, off2 + k * 2 + 1, none⟩) hbl2).trans hc2.2)
        clear hc hc2
        have qe := fun W => timeIn_eqE xs[k].1 xs[k].2 ys[k].1 ys[k].2 W
        by_cases he : xs[k] = ys[k]
        · have hqt : (xs[k].1 == ys[k].1 && xs[k].2 == ys[k].2) = true := by rw [he]; simp
          rw [hqt] at qe
          clear hqt
          have HE := Lib.hid he
          clear he
          go_wp2_with fail
          refine wp_region_quiet_below (by kernel_rfl) (by kernel_rfl) ?_
          repeat (go_big_quiet_step (fail))
          refine wpQuiet_nil ?_
          intro w3 hw3
          obtain ⟨⟨dq, osq⟩, rfl⟩ := hw3
          have hbq := below_regrown wr dq osq
          generalize grow (redrawn wr dq) osq = w4 at hbq
          clear q1 q2 q3 q4
          go_wp2
          go_roundw
          case rel => exact ⟨k + 1, by omega, by go_num, take_eq_stepT hlt hlt2 HT.out HE.out, btr hbel hbq⟩
          case measure => simp [intOf]; omega
        · have hqt : (xs[k].1 == ys[k].1 && xs[k].2 == ys[k].2) = false := by
            cases hh : (xs[k].1 == ys[k].1 && xs[k].2 == ys[k].2) with
            | false => rfl
            | true => simp at hh; exact absurd (Prod.ext hh.1 hh.2) he
          rw [hqt] at qe
          have HF : Hid (decide (xs = ys) = false) := by
            simp only [Hid, decide_eq_false_iff_not]
            intro h; subst h; exact he rfl
          clear hqt he
          go_wp2_with fail
          refine wp_region_quiet_below (by kernel_rfl) (by kernel_rfl) ?_
          repeat (go_big_quiet_step (fail))
          refine wpQuiet_nil ?_
          intro w3 hw3
          obtain ⟨⟨dq, osq⟩, rfl⟩ := hw3
          have hbq := below_regrown wr dq osq
          generalize grow (redrawn wr dq) osq = w4 at hbq
          clear q1 q2 q3 q4
          go_wp2
          go_ret
          exact ⟨ret_bool HF.out.symm, btr hbel hbq⟩
      · obtain rfl : k = xs.length := by omega
        have hfin : decide (xs = ys) = true := by
          have h1 := HT.out
          have h2 := HL.out
          rw [List.take_length, h2, List.take_length] at h1
          simp [h1]
        have HF := Lib.hid hfin
        clear hfin
        go_wp2
        go_ret
        exact ⟨ret_bool HF.out.symm, hbel⟩
  · have hb : ((xs.length : Int) != (ys.length : Int)) = true := by simp; omega
    have hfin : decide (xs = ys) = false := by simp; rintro rfl; exact hl rfl
    have HF := Lib.hid hfin
    clear hfin
    go_enter Try.func76, Try.ntmps76
    go_wp2
    go_ret
    exact ⟨ret_bool HF.out.symm, Below.refl _ _⟩
theorem equalM {A B : Option Addr} {c d : Nat} {xs ys : List Tm} {w : World} (r : Bool) (he : decide (xs = ys) = r) (hx : TimesAt w A xs) (hy : TimesAt w B ys) (hn : xs.length ≤ 4194304) (hm : ys.length ≤ 4194304) :
    Calls Try.prog 76 #[.slice A xs.length c, .slice B ys.length d] w fun e w' => e = .returned (.bool r) ∧ Below w.heap.size w w' :=
  he ▸ equalTimes_l A B c d xs ys w hx hy hn hm
end Go.Proofs.Ythefakiobpijiaa
