/- HELPER, no statement of the seat: several texts in one file. -/
import Derived.Test.YthefakiobpijiaaFrt
import Derived.Laws.StructEq
import Derived.Lib.QuietBelow
import Derived.Test.YthefakiobpijiaaMec
import Derived.Test.YthefakiobpijiaaVwb
import Derived.Test.YthefakiobpijiaaBtc
/- HELPER, no statement of the seat: the equality of lists of times of the model. -/
namespace Go.Proofs.Ythefakiobpijiaa
open Go.RowKit Go.Sort
set_option linter.unusedSimpArgs false
set_option linter.unusedVariables false

set_option maxRecDepth 100000 in
theorem timeIn_eqS (a b c d : Int) (w : World) : (Op.equalIn 10000 117 (.agg #[.int .i64 a, .int .i64 b]) (.agg #[.int .i64 c, .int .i64 d])).run Try.prog w = .ok (a == c && b == d) w := by
  have u3 := Try.underlying3
  have a3 := Try.isAgg3
  have z3 := Try.sizeOf3
  have hS : Try.prog.underlying 117 = some (.struct (Try.prog.fieldsOf 117)) := by kernel_rfl
  have hp : Try.prog.stoodInHeld 117 = false := by kernel_rfl
  rw [show (10000 : Nat) = 9999 + 1 from rfl, run_equalIn_agg w 9999 117 _ _ hS hp]
  simp only [Program.fieldsOf, Try.underlying117]
  go_simp
  by_cases h1 : a = c <;> by_cases h2 : b = d <;> simp [h1, h2]
set_option maxHeartbeats 3200000 in
theorem equalTimes_s (A B : Option Addr) (c d : Nat) (xs ys : List Tm) (w : World) (hx : TimesAt w A xs) (hy : TimesAt w B ys) (hn : xs.length ≤ 4194304) (hm : ys.length ≤ 4194304) :
    Calls Try.prog 74 #[.slice A xs.length c, .slice B ys.length d] w fun e w' => e = .returned (.bool (decide (xs = ys))) ∧ Below w.heap.size w w' := by
  by_cases hl : xs.length = ys.length
  · have hb : ((xs.length : Int) != (ys.length : Int)) = false := by simp [hl]
    have HL := Lib.hid hl
    clear hl
    go_enter Try.func74, Try.ntmps74
    go_wp2
    go_loopw [5] (fun i wr => ∃ k : Nat, k ≤ xs.length ∧ i = .int .i64 k ∧ xs.take k = ys.take k ∧ Below w.heap.size w wr) (fun i _ => xs.length - (intOf i).toNat)
    case atStart => exact ⟨0, by omega, rfl, rfl, Below.refl _ _⟩
    case round =>
      obtain ⟨k, hk, rfl, htk, hbel⟩ := hrel
      have HT := Lib.hid htk
      clear htk
      by_cases hlt : k < xs.length
      · have hlt2 : k < ys.length := by have := HL.out; omega
        obtain ⟨b, off, rfl, hbl, hc⟩ := hx (by omega)
        obtain ⟨b2, off2, rfl, hbl2, hc2⟩ := hy (by omega)
        have hc := hc k hlt
        have hc2 := hc2 k hlt2
        rw [show xs.getD k (0, 0) = xs[k] by simp [hlt]] at hc
        rw [show ys.getD k (0, 0) = ys[k] by simp [hlt2]] at hc2
        have q1 := cgrowT ((hbel.cell (p := ⟨b, off + k * 2, none⟩) hbl).trans hc.1)
        have q2 := cgrowT ((hbel.cell (p := ⟨b, off + k * 2 + 1, none⟩) hbl).trans hc.2)
        have q3 := cgrowT ((hbel.cell (p := ⟨b2, off2 + k * 2, none⟩) hbl2).trans hc2.1)
        have q4 := cgrowT ((hbel.cell (p := ⟨b2, off2 + k * 2 + 1, none⟩) hbl2).trans hc2.2)
        clear hc hc2
        have qe := fun W => timeIn_eqS xs[k].1 xs[k].2 ys[k].1 ys[k].2 W
        by_cases he : xs[k] = ys[k]
        · have hqt : (xs[k].1 == ys[k].1 && xs[k].2 == ys[k].2) = true := by rw [he]; simp
          rw [hqt] at qe
          clear hqt
          have HE := Lib.hid he
          clear he
          go_wp2_with fail
          refine wp_region_quiet_below (by kernel_rfl) (by kernel_rfl) ?_
          repeat (go_big_quiet_step (fail))
          refine wpQuiet_nil ?_
          intro w3 hw3
          obtain ⟨⟨dq, osq⟩, rfl⟩ := hw3
          have hbq := below_regrown wr dq osq
          generalize grow (redrawn wr dq) osq = w4 at hbq
          clear q1 q2 q3 q4
          go_wp2
          go_roundw
          case rel => exact ⟨k + 1, by omega, by go_num, take_eq_stepT hlt hlt2 HT.out HE.out, btr hbel hbq⟩
          case measure => simp [intOf]; omega
        · have hqt : (xs[k].1 == ys[k].1 && xs[k].2 == ys[k].2) = false := by
            cases hh : (xs[k].1 == ys[k].1 && xs[k].2 == ys[k].2) with
            | false => rfl
            | true => simp at hh; exact absurd (Prod.ext hh.1 hh.2) he
          rw [hqt] at qe
          have HF : Hid (decide (xs = ys) = false) := by
            simp only [Hid, decide_eq_false_iff_not]
            intro h; subst h; exact he rfl
          clear hqt he
          go_wp2_with fail
          refine wp_region_quiet_below (by kernel_rfl) (by kernel_rfl) ?_
          repeat (go_big_quiet_step (fail))
          refine wpQuiet_nil ?_
          intro w3 hw3
          obtain ⟨⟨dq, osq⟩, rfl⟩ := hw3
          have hbq := below_regrown wr dq osq
          generalize grow (redrawn wr dq) osq = w4 at hbq
          clear q1 q2 q3 q4
          go_wp2
          go_ret
          exact ⟨ret_bool HF.out.symm, btr hbel hbq⟩
      · obtain rfl : k = xs.length := by omega
        have hfin : decide (xs = ys) = true := by
          have h1 := HT.out
          have h2 := HL.out
          rw [List.take_length, h2, List.take_length] at h1
          simp [h1]
        have HF := Lib.hid hfin
        clear hfin
        go_wp2
        go_ret
        exact ⟨ret_bool HF.out.symm, hbel⟩
  · have hb : ((xs.length : Int) != (ys.length : Int)) = true := by simp; omega
    have hfin : decide (xs = ys) = false := by simp; rintro rfl; exact hl rfl
    have HF := Lib.hid hfin
    clear hfin
    go_enter Try.func74, Try.ntmps74
    go_wp2
    go_ret
    exact ⟨ret_bool HF.out.symm, Below.refl _ _⟩
end Go.Proofs.Ythefakiobpijiaa

/- HELPER, no statement of the seat: the model's MergeBatches. -/
namespace Go.Proofs.Ythefakiobpijiaa
open Go.RowKit Go.Sort
set_option linter.unusedSimpArgs false
set_option linter.unusedVariables false

def BldN (B : Nat) (lo up : List Tm) (t : Value) (v : Value) (w : World) : Prop := ∃ A c D d, v = .agg #[.slice A lo.length c, .slice D up.length d, t] ∧ TmOwn w B A c lo ∧ TmOwn w B D d up
theorem stable_bldN (B : Nat) (lo up : List Tm) (t : Value) : Stable (BldN B lo up t) := fun _ _ _ hb ⟨A, c, D, d, e, h1, h2⟩ => ⟨A, c, D, d, e, h1.below hb, h2.below hb⟩
set_option maxRecDepth 100000 in
set_option maxHeartbeats 12800000 in
theorem MergeBatches_s (LA UA TA LB UB TB : Option Addr) (lc uc tc ld ud td : Nat) (lo up : List Tm) (us : List Upd) (lo2 up2 : List Tm) (tr : List Upd) (w : World) (h1 : TimesAt w LA lo) (h2 : TimesAt w UA up) (h3 : UpdsAt w TA us) (k1 : TimesAt w LB lo2) (k2 : TimesAt w UB up2) (k3 : UpdsAt w TB tr)
    (n1 : lo.length ≤ 4194304) (n2 : up.length ≤ 4194304) (n3 : us.length ≤ 4194303) (r3 : rowsU us 4194304) (m1 : lo2.length ≤ 4194304) (m2 : up2.length ≤ 4194304) (m3 : tr.length ≤ 4194304) (r4 : rowsU tr 4194304) :
    Calls Try.prog 14 #[.agg #[.slice LA lo.length lc, .slice UA up.length uc, .slice TA us.length tc], .agg #[.slice LB lo2.length ld, .slice UB up2.length ud, .slice TB tr.length td]] w fun e w' => ∃ L1 d1 U1 d2 T1 d3, e = .returned (.tuple #[.agg #[.slice L1 (mrbV (lo, (up, us)) (lo2, (up2, tr))).1.length d1, .slice U1 (mrbV (lo, (up, us)) (lo2, (up2, tr))).2.1.length d2, .slice T1 (mrbV (lo, (up, us)) (lo2, (up2, tr))).2.2.length d3], .bool (mrbOk (lo, (up, us)) (lo2, (up2, tr)))]) ∧
      TimesAt w' L1 (mrbV (lo, (up, us)) (lo2, (up2, tr))).1 ∧ TimesAt w' U1 (mrbV (lo, (up, us)) (lo2, (up2, tr))).2.1 ∧ UpdsAt w' T1 (mrbV (lo, (up, us)) (lo2, (up2, tr))).2.2 ∧ Below w.heap.size w w' := by
  have cv := fun W (hW : Below w.heap.size w W) => validBatch_s LA UA TA lc uc tc lo up us W (h1.below hW) (h2.below hW) (h3.below updR hW) n1 n2 (by omega) r3
  have cb := fun W (hW : Below w.heap.size w W) => validBatch_s LB UB TB ld ud td lo2 up2 tr W (k1.below hW) (k2.below hW) (k3.below updR hW) m1 m2 m3 r4
  have ce := fun W (hW : Below w.heap.size w W) => equalTimes_s UA LB uc ld up lo2 W (h2.below hW) (k1.below hW) n2 m1
  have hB0 : Below w.heap.size w (((w.alloc (.cells #[.slice LA lo.length lc, .slice UA up.length uc, .slice TA us.length tc] 26)).alloc (.cells #[.slice LB lo2.length ld, .slice UB up2.length ud, .slice TB tr.length td] 26)).alloc (.cells #[.slice none 0 0, .slice none 0 0, .slice none 0 0] 26)) := bal (bal (bal (Below.refl _ _) _) _) _
  have kA : Blk (((w.alloc (.cells #[.slice LA lo.length lc, .slice UA up.length uc, .slice TA us.length tc] 26)).alloc (.cells #[.slice LB lo2.length ld, .slice UB up2.length ud, .slice TB tr.length td] 26)).alloc (.cells #[.slice none 0 0, .slice none 0 0, .slice none 0 0] 26)) w.heap.size 26 #[.slice LA lo.length lc, .slice UA up.length uc, .slice TA us.length tc] := ((Blk.newAt rfl).alloc _).alloc _
  have kB : Blk (((w.alloc (.cells #[.slice LA lo.length lc, .slice UA up.length uc, .slice TA us.length tc] 26)).alloc (.cells #[.slice LB lo2.length ld, .slice UB up2.length ud, .slice TB tr.length td] 26)).alloc (.cells #[.slice none 0 0, .slice none 0 0, .slice none 0 0] 26)) (w.heap.size + 1) 26 #[.slice LB lo2.length ld, .slice UB up2.length ud, .slice TB tr.length td] := (Blk.newAt (by simp)).alloc _
  have kR : Blk (((w.alloc (.cells #[.slice LA lo.length lc, .slice UA up.length uc, .slice TA us.length tc] 26)).alloc (.cells #[.slice LB lo2.length ld, .slice UB up2.length ud, .slice TB tr.length td] 26)).alloc (.cells #[.slice none 0 0, .slice none 0 0, .slice none 0 0] 26)) (w.heap.size + 2) 26 #[.slice none 0 0, .slice none 0 0, .slice none 0 0] := Blk.newAt (by simp)
  have HV0 : mrbOk (lo, (up, us)) (lo2, (up2, tr)) = false → mrbV (lo, (up, us)) (lo2, (up2, tr)) = ([], ([], [])) := fun h => by simp [mrbV, h]
  cases e1 : batB (lo, (up, us))
  · have HF : Hid (mrbOk (lo, (up, us)) (lo2, (up2, tr)) = false) := by simp only [Hid, mrbOk, mrbIn, e1]; simp
    have HVF := Lib.hid (HV0 HF.out)
    have cv1 := cv
    rw [e1] at cv1
    clear e1 cv cb ce HV0
    go_enter Try.func14, Try.ntmps14
    go_wp2_with fail
    refine (cv1 _ hB0).mono ?_
    rintro e w1 ⟨rfl, b1⟩
    have B1 := btr hB0 b1
    have kR1 := kR.below b1
    have g0 := kR1.cell 0
    have g1 := kR1.cell 1
    have g2 := kR1.cell 2
    have f0 := kR1.frozen 0
    have f1 := kR1.frozen 1
    have f2 := kR1.frozen 2
    simp at g0 g1 g2
    have kR5 := ((kR1.set_ 0 (.slice none 0 0)).set_ 1 (.slice none 0 0)).set_ 2 (.slice none 0 0)
    have r0 := kR5.cell 0
    have r1 := kR5.cell 1
    have r2 := kR5.cell 2
    simp at r0 r1 r2
    have HR := Lib.hid (And.intro r0 (And.intro r1 r2))
    have HB := Lib.hid B1
    clear cv1 kA kB kR kR1 kR5 r0 r1 r2 hB0 b1 B1
    go_wp2
    exact bodyPost_ret (v := .tuple #[.agg #[.slice none 0 0, .slice none 0 0, .slice none 0 0], .bool false]) (by simp [results, Try.results14, go_sem, HR.out.1, HR.out.2.1, HR.out.2.2]) rfl ⟨none, 0, none, 0, none, 0, by rw [HF.out, HVF.out]; rfl, by rw [HVF.out]; exact fun h => absurd h (by simp), by rw [HVF.out]; exact fun h => absurd h (by simp), by rw [HVF.out]; exact SlAt.nil, bset (bset (bset HB.out (by simp <;> omega) _) (by simp <;> omega) _) (by simp <;> omega) _⟩
  cases e2 : batB (lo2, (up2, tr))
  · have HF : Hid (mrbOk (lo, (up, us)) (lo2, (up2, tr)) = false) := by simp only [Hid, mrbOk, mrbIn, e2]; simp
    have HVF := Lib.hid (HV0 HF.out)
    have cv1 := cv
    rw [e1] at cv1
    have cb1 := cb
    rw [e2] at cb1
    clear e1 e2 cv cb ce HV0
    go_enter Try.func14, Try.ntmps14
    go_wp2_with fail
    refine (cv1 _ hB0).mono ?_
    rintro e w1 ⟨rfl, b1⟩
    have B1 := btr hB0 b1
    have xkB0 := (kB.below b1).cell 0
    have xkB1 := (kB.below b1).cell 1
    have xkB2 := (kB.below b1).cell 2
    simp at xkB0 xkB1 xkB2
    go_wp2_with fail
    refine (cb1 _ B1).mono ?_
    rintro e w2 ⟨rfl, b2⟩
    have B2 := btr B1 b2
    clear xkB0 xkB1 xkB2
    have kR1 := kR.below (btr b1 b2)
    have g0 := kR1.cell 0
    have g1 := kR1.cell 1
    have g2 := kR1.cell 2
    have f0 := kR1.frozen 0
    have f1 := kR1.frozen 1
    have f2 := kR1.frozen 2
    simp at g0 g1 g2
    have kR5 := ((kR1.set_ 0 (.slice none 0 0)).set_ 1 (.slice none 0 0)).set_ 2 (.slice none 0 0)
    have r0 := kR5.cell 0
    have r1 := kR5.cell 1
    have r2 := kR5.cell 2
    simp at r0 r1 r2
    have HR := Lib.hid (And.intro r0 (And.intro r1 r2))
    have HB := Lib.hid B2
    clear cv1 cb1 kA kB kR kR1 kR5 r0 r1 r2 hB0 b1 B1 b2 B2
    go_wp2
    exact bodyPost_ret (v := .tuple #[.agg #[.slice none 0 0, .slice none 0 0, .slice none 0 0], .bool false]) (by simp [results, Try.results14, go_sem, HR.out.1, HR.out.2.1, HR.out.2.2]) rfl ⟨none, 0, none, 0, none, 0, by rw [HF.out, HVF.out]; rfl, by rw [HVF.out]; exact fun h => absurd h (by simp), by rw [HVF.out]; exact fun h => absurd h (by simp), by rw [HVF.out]; exact SlAt.nil, bset (bset (bset HB.out (by simp <;> omega) _) (by simp <;> omega) _) (by simp <;> omega) _⟩
  cases e3 : decide (up = lo2)
  · have HF : Hid (mrbOk (lo, (up, us)) (lo2, (up2, tr)) = false) := by simp only [Hid, mrbOk, mrbIn, e3]; simp
    have HVF := Lib.hid (HV0 HF.out)
    have cv1 := cv
    rw [e1] at cv1
    have cb1 := cb
    rw [e2] at cb1
    have ce1 := ce
    rw [e3] at ce1
    clear e1 e2 e3 cv cb ce HV0
    go_enter Try.func14, Try.ntmps14
    go_wp2_with fail
    refine (cv1 _ hB0).mono ?_
    rintro e w1 ⟨rfl, b1⟩
    have B1 := btr hB0 b1
    have xkB0 := (kB.below b1).cell 0
    have xkB1 := (kB.below b1).cell 1
    have xkB2 := (kB.below b1).cell 2
    simp at xkB0 xkB1 xkB2
    go_wp2_with fail
    refine (cb1 _ B1).mono ?_
    rintro e w2 ⟨rfl, b2⟩
    have B2 := btr B1 b2
    clear xkB0 xkB1 xkB2
    have xkA1 := (kA.below (btr b1 b2)).cell 1
    have xkB0 := (kB.below (btr b1 b2)).cell 0
    simp at xkA1 xkB0
    go_wp2_with fail
    refine (ce1 _ B2).mono ?_
    rintro e w3 ⟨rfl, b3⟩
    have B3 := btr B2 b3
    clear xkA1 xkB0
    have kR1 := kR.below (btr (btr b1 b2) b3)
    have g0 := kR1.cell 0
    have g1 := kR1.cell 1
    have g2 := kR1.cell 2
    have f0 := kR1.frozen 0
    have f1 := kR1.frozen 1
    have f2 := kR1.frozen 2
    simp at g0 g1 g2
    have kR5 := ((kR1.set_ 0 (.slice none 0 0)).set_ 1 (.slice none 0 0)).set_ 2 (.slice none 0 0)
    have r0 := kR5.cell 0
    have r1 := kR5.cell 1
    have r2 := kR5.cell 2
    simp at r0 r1 r2
    have HR := Lib.hid (And.intro r0 (And.intro r1 r2))
    have HB := Lib.hid B3
    clear cv1 cb1 ce1 kA kB kR kR1 kR5 r0 r1 r2 hB0 b1 B1 b2 B2 b3 B3
    go_wp2
    exact bodyPost_ret (v := .tuple #[.agg #[.slice none 0 0, .slice none 0 0, .slice none 0 0], .bool false]) (by simp [results, Try.results14, go_sem, HR.out.1, HR.out.2.1, HR.out.2.2]) rfl ⟨none, 0, none, 0, none, 0, by rw [HF.out, HVF.out]; rfl, by rw [HVF.out]; exact fun h => absurd h (by simp), by rw [HVF.out]; exact fun h => absurd h (by simp), by rw [HVF.out]; exact SlAt.nil, bset (bset (bset HB.out (by simp <;> omega) _) (by simp <;> omega) _) (by simp <;> omega) _⟩
  have hin : mrbIn (lo, (up, us)) (lo2, (up2, tr)) = true := by simp only [mrbIn, e1, e2, e3, Bool.true_and]
  have hap := mrb_many hin
  have hOK : mrbOk (lo, (up, us)) (lo2, (up2, tr)) = trB (mrgT us tr) := by rw [mrbOk, hin, Bool.true_and]
  have hu1 : trB us = true := (bat_parts e1).2.1
  have ht1 : trB tr = true := (bat_parts e2).2.1
  have hnorm : nz (NormLU (us ++ tr)) = mrgT us tr := mrg_norm hu1
  have hul : us.length ≤ 400 := trB_len hu1
  have htl : tr.length ≤ 400 := trB_len ht1
  have hcr : rowsU (us ++ tr) 10 := fun e he => by
    rcases List.mem_append.1 he with he | he
    · have := trB_row hu1 e he; omega
    · have := trB_row ht1 e he; omega
  have hcw : wIn (us ++ tr) 1000000 := fun e he => by
    rcases List.mem_append.1 he with he | he
    · exact wts_tr hu1 e he
    · exact wts_tr ht1 e he
  have hcl : (us ++ tr).length ≤ 100000 := by rw [List.length_append]; omega
  have cc := fun A c W (hx : UpdsAt W A (us ++ tr)) => consolidate_w A c (us ++ tr) W hx hcl hcr hcw
  rw [List.length_append, hnorm] at cc
  have HQ : Hid (((((chkT (mrgT us tr)).length : Nat) : Int) != (us.length : Int) + (tr.length : Int)) = !trB (mrgT us tr)) := by
    have hap' : decide ((chkT (mrgT us tr)).length = us.length + tr.length) = trB (mrgT us tr) := hap
    rw [Hid, ← hap']
    by_cases h : (chkT (mrgT us tr)).length = us.length + tr.length
    · have h' : (((chkT (mrgT us tr)).length : Nat) : Int) = (us.length : Int) + (tr.length : Int) := by omega
      simp [h, h']
    · have h' : ¬ (((chkT (mrgT us tr)).length : Nat) : Int) = (us.length : Int) + (tr.length : Int) := by omega
      simp [h, h', bne]
  have HCM : Hid (trB (mrgT us tr) = true → chkT (mrgT us tr) = mrgT us tr) := fun h => by simp [chkT, h]
  have HVY : Hid (trB (mrgT us tr) = true → mrbV (lo, (up, us)) (lo2, (up2, tr)) = (lo, (up2, mrgT us tr)) ∧ mrbOk (lo, (up, us)) (lo2, (up2, tr)) = true) := fun h => ⟨by simp [mrbV, hOK, h], by rw [hOK, h]⟩
  have HVN : Hid (trB (mrgT us tr) = false → mrbV (lo, (up, us)) (lo2, (up2, tr)) = ([], ([], [])) ∧ mrbOk (lo, (up, us)) (lo2, (up2, tr)) = false) := fun h => ⟨HV0 (by rw [hOK, h]), by rw [hOK, h]⟩
  have cy := fun W (hW : Below w.heap.size w W) => copyTrace_s TA tc us W (h3.below updR hW) n3 r3
  obtain ⟨css2, hrd2, ha0, hsrc2, hone2⟩ := upds_src k3
  have hfl2 : css2.flatten.length = tr.length * 4 := by rw [flat_len (hrd2.elen updR), hrd2.len]
  obtain ⟨i0, hi, hz0, hz1, hz2⟩ := info_parts Try.infoTime
  obtain ⟨j0, hj, hy0, hy1, hy2⟩ := info_parts Try.infoUpd
  have HH4 : Hid ((∀ W, Below w.heap.size w W → RdL UpdR W css2 tr) ∧ (∀ W, Below w.heap.size w W → ∀ a, TB = some a → ∀ j x, css2.flatten[j]? = some x → W.cell? (a.add j) = some x)) :=
    ⟨fun W hW => hrd2.below updR hW, fun W hW a e j x hx => by
      have := hsrc2 a e j x hx
      rw [hW.cell (block_lt_of_cell this)]
      exact this⟩
  have HH1 : Hid ((∀ W, Below w.heap.size w W → TimesAt W LA lo) ∧ (∀ W, Below w.heap.size w W → TimesAt W UB up2)) := ⟨fun W hW => h1.below hW, fun W hW => k2.below hW⟩
  have HFL2 := Lib.hid hfl2
  have cv1 := cv
  rw [e1] at cv1
  have cb1 := cb
  rw [e2] at cb1
  have ce1 := ce
  rw [e3] at ce1
  generalize chkT (mrgT us tr) = C at *
  generalize mrgT us tr = M at *
  clear hap hOK hnorm hcr hcw hcl hrd2 hsrc2 hfl2 h1 h2 h3 k1 k2 k3 e1 e2 e3 hin hu1 ht1 HV0 cv cb ce
  go_enter Try.func14, Try.ntmps14
  go_wp2_with fail
  refine (cv1 _ hB0).mono ?_
  rintro e w1 ⟨rfl, b1⟩
  have B1 := btr hB0 b1
  have xkB0 := (kB.below b1).cell 0
  have xkB1 := (kB.below b1).cell 1
  have xkB2 := (kB.below b1).cell 2
  simp at xkB0 xkB1 xkB2
  go_wp2_with fail
  refine (cb1 _ B1).mono ?_
  rintro e w2 ⟨rfl, b2⟩
  have B2 := btr B1 b2
  clear xkB0 xkB1 xkB2
  have xkA1 := (kA.below (btr b1 b2)).cell 1
  have xkB0 := (kB.below (btr b1 b2)).cell 0
  simp at xkA1 xkB0
  go_wp2_with fail
  refine (ce1 _ B2).mono ?_
  rintro e w3 ⟨rfl, b3⟩
  have B3 := btr B2 b3
  clear xkA1 xkB0
  have kA2 := kA.below (btr (btr b1 b2) b3)
  have kB2 := kB.below (btr (btr b1 b2) b3)
  have kR2 := kR.below (btr (btr b1 b2) b3)
  have hs0 := B3.size
  have hRlt := kR2.lt
  clear b1 b2 b3 kA kB kR B1 B2 cv1 cb1 ce1 hB0
  go_wp2_with fail
  refine wp_region_facts [[], [0], [0, 1], [], [3]]
    [fun v' _ => v' = .pointer (some ⟨w.heap.size, 2, none⟩), fun v' _ => v' = .slice TA us.length tc, UpsN w3 us, fun v' _ => v' = .pointer (some ⟨w.heap.size + 1, 2, none⟩), fun v' _ => v' = .slice TB tr.length td]
    (by kernel_rfl) (by kernel_rfl) rfl ⟨stable_pure _, stable_pure _, stable_upsN _ _, stable_pure _, stable_pure _, trivial⟩ ?_
  refine wf_stepK [] [] (by kernel_rfl) (by kernel_rfl) (fun wf hb hf => ?_) (fun t0 => ?_)
  · refine ⟨?_⟩
    go_wp2
    exact ⟨rfl, .pointer (some ⟨w.heap.size, 2, none⟩), by kernel_rfl, Below.refl _ _, rfl⟩
  refine wf_stepK [0] [fun _ => t0 = .pointer (some ⟨w.heap.size, 2, none⟩)] (by kernel_rfl) (by kernel_rfl) (fun wf hb hf => ?_) (fun t1 => ?_)
  · obtain ⟨rfl, -⟩ := hf
    refine ⟨?_⟩
    have p0 := (kA2.below hb).cell 2
    simp at p0
    go_wp2
    exact ⟨rfl, .slice TA us.length tc, by kernel_rfl, Below.refl _ _, rfl⟩
  refine wf_stepK [1] [fun _ => t1 = .slice TA us.length tc] (by kernel_rfl) (by kernel_rfl) (fun wf hb hf => ?_) (fun t2 => ?_)
  · obtain ⟨rfl, -⟩ := hf
    refine ⟨?_⟩
    go_wp2_with (go_at_call 75; refine (cy _ (btr B3 hb)).mono ?_; rintro e w2 ⟨A', c', rfl, ho, hb2⟩)
    exact ⟨rfl, .slice A' us.length c', by kernel_rfl, hb2, A', c', rfl, ho.mono (fun q hq => ⟨Nat.le_trans hb.size hq.1, hq.2⟩) (fun q hq => hq.2)⟩
  refine wf_stepK [] [] (by kernel_rfl) (by kernel_rfl) (fun wf hb hf => ?_) (fun t3 => ?_)
  · refine ⟨?_⟩
    go_wp2
    exact ⟨rfl, .pointer (some ⟨w.heap.size + 1, 2, none⟩), by kernel_rfl, Below.refl _ _, rfl⟩
  refine wf_stepK [3] [fun _ => t3 = .pointer (some ⟨w.heap.size + 1, 2, none⟩)] (by kernel_rfl) (by kernel_rfl) (fun wf hb hf => ?_) (fun t4 => ?_)
  · obtain ⟨rfl, -⟩ := hf
    refine ⟨?_⟩
    have p0 := (kB2.below hb).cell 2
    simp at p0
    go_wp2
    exact ⟨rfl, .slice TB tr.length td, by kernel_rfl, Below.refl _ _, rfl⟩
  refine wf_doneK [2, 4] [UpsN w3 us t2, fun _ => t4 = .slice TB tr.length td] (by kernel_rfl) (by kernel_rfl) (fun w4 b4 hf => ?_)
  obtain ⟨⟨T1, d3, rfl, css, F, hF⟩, rfl, -⟩ := hf
  show wpList _ _ _ [_, _, _] _ _
  refine wpList_frame (by simp [Act.put]; rfl) ?_
  have B4 := btr B3 b4
  have hs4 := b4.size
  have hbase : ∀ k, blk T1 = some k → w3.heap.size ≤ k := fun k hk => (hF.top k hk).1
  have hRow := ownsRow_base hF.row hbase
  have hnew := HH4.out.2 _ B4
  have HP := Lib.hid (And.intro (kA2.below b4) (And.intro (kB2.below b4) (And.intro (kR2.below b4) (And.intro B4 hF))))
  clear kA2 kB2 kR2 hF cy
  go_wp2_with (at_builtin; refine wpList_append_src _ rfl _ _ 24 rfl w3.heap.size 119 j0 (.agg #[.slice none 0 0, .int .i64 0, .int .i64 0, .int .i64 0]) 4 48 Try.underlying24 hj hy0 hy1 hy2 rfl (by decide) _ _ _ rfl hRow TB tr.length td css2.flatten rfl HFL2.out ha0 hnew hone2 (by unfold maxLen; omega) (by omega) (by omega) ?_)
  intro v' w5 hown' hgrow hloc
  rw [ownBlock_slice] at hgrow
  obtain ⟨kA4, kB4, kR4, B4', hF⟩ := HP.out
  clear HP hnew B4'
  have hs5 := hgrow.size
  have hbk : ∀ k, k < w3.heap.size → w5.heap[k]? = w4.heap[k]? := fun k hk => hgrow.block k (by omega) (fun e => by have := hbase _ e.symm; omega)
  have kA5 : Blk w5 w.heap.size 26 #[.slice LA lo.length lc, .slice UA up.length uc, .slice TA us.length tc] := (hbk _ (by omega)).trans kA4
  have kB5 : Blk w5 (w.heap.size + 1) 26 #[.slice LB lo2.length ld, .slice UB up2.length ud, .slice TB tr.length td] := (hbk _ (by omega)).trans kB4
  have kR5 : Blk w5 (w.heap.size + 2) 26 #[.slice none 0 0, .slice none 0 0, .slice none 0 0] := (hbk _ (by omega)).trans kR4
  have B5 : Below w.heap.size w w5 := B4.grown hgrow B4.size (fun k hk => by have := hbase k hk; omega)
  have rd1 : RdL UpdR w5 css us := ⟨hF.clen, fun j g1 g2 => updO.rd (updO.loc (hF.elt j g1 g2) (fun k hk => hgrow.block k (hF.sub j k hk).1.2 (fun e => (hF.sub j k hk).2 e.symm)))⟩
  obtain ⟨A5, c5, hv⟩ := own_slice hown'
  subst hv
  have hx5 : UpdsAt w5 A5 (us ++ tr) := upds_cat rd1 (HH4.out.1 w5 B5) rfl hown'
  have HP := Lib.hid (And.intro kA5 (And.intro kB5 (And.intro kR5 (And.intro B5 hx5))))
  clear hgrow hloc hown' kA4 kB4 kR4 B4 hF rd1 kA5 kB5 kR5 B5 hx5 hRow hbase hbk B3 b4
  go_wp2_with fail
  refine (cc A5 c5 w5 HP.out.2.2.2.2).mono ?_
  rintro e w6 ⟨A6, c6, rfl, o6, b6⟩
  obtain ⟨kA5, kB5, kR5, B5, hx5⟩ := HP.out
  have kA6 := kA5.below b6
  have kB6 := kB5.below b6
  have kR6 := kR5.below b6
  have B6 := btr B5 b6
  have hs6 := b6.size
  have y2 := kA6.cell 2
  have z2 := kB6.cell 2
  simp at y2 z2
  clear kA5 kB5 kR5 B5 hx5 HP cc
  cases hm : trB M
  · have hq : (((C.length : Nat) : Int) != (us.length : Int) + (tr.length : Int)) = true := by rw [HQ.out, hm]; rfl
    have HW := Lib.hid (HVN.out hm)
    have g0 := kR6.cell 0
    have g1 := kR6.cell 1
    have g2 := kR6.cell 2
    have f0 := kR6.frozen 0
    have f1 := kR6.frozen 1
    have f2 := kR6.frozen 2
    have kR9 := ((kR6.set_ 0 (.slice none 0 0)).set_ 1 (.slice none 0 0)).set_ 2 (.slice none 0 0)
    have v0 := kR9.cell 0
    have v1 := kR9.cell 1
    have v2 := kR9.cell 2
    simp at g0 g1 g2 v0 v1 v2
    have HR := Lib.hid (And.intro v0 (And.intro v1 v2))
    have HB := Lib.hid B6
    clear kA6 kB6 kR6 kR9 v0 v1 v2 HQ HCM HVY HVN hm o6 b6 B6
    go_wp2
    exact bodyPost_ret (v := .tuple #[.agg #[.slice none 0 0, .slice none 0 0, .slice none 0 0], .bool false]) (by simp [results, Try.results14, go_sem, HR.out.1, HR.out.2.1, HR.out.2.2]) rfl ⟨none, 0, none, 0, none, 0, by rw [HW.out.1, HW.out.2]; rfl, by rw [HW.out.1]; exact fun h => absurd h (by simp), by rw [HW.out.1]; exact fun h => absurd h (by simp), by rw [HW.out.1]; exact SlAt.nil, bset (bset (bset HB.out (by simp <;> omega) _) (by simp <;> omega) _) (by simp <;> omega) _⟩
  have hq : (((C.length : Nat) : Int) != (us.length : Int) + (tr.length : Int)) = false := by rw [HQ.out, hm]; rfl
  have HW := Lib.hid (HVY.out hm)
  obtain rfl : C = M := HCM.out hm
  clear HQ HCM HVY HVN hm
  have g1 := HH1.out.1 w6 B6
  have g2 := HH1.out.2 w6 B6
  go_wp2_with fail
  refine wp_region_facts [[], [], [1], [0, 1, 2], [], [], [5], [4, 5, 6], [], List.range 9]
    [LitT w6.heap.size, fun v' _ => v' = .pointer (some ⟨w.heap.size, 0, none⟩), fun v' _ => v' = .slice LA lo.length lc, TmsN w6.heap.size lo, LitT w6.heap.size, fun v' _ => v' = .pointer (some ⟨w.heap.size + 1, 1, none⟩), fun v' _ => v' = .slice UB up2.length ud, TmsN w6.heap.size up2, fun v' _ => v' = .slice A6 C.length c6, BldN w6.heap.size lo up2 (.slice A6 C.length c6)]
    (by kernel_rfl) (by kernel_rfl) rfl ⟨stable_litT _, stable_pure _, stable_pure _, stable_tmsN _ _, stable_litT _, stable_pure _, stable_pure _, stable_tmsN _ _, stable_pure _, stable_bldN _ _ _ _, trivial⟩ ?_
  refine wf_stepK [] [] (by kernel_rfl) (by kernel_rfl) (fun wf hb hf => ?_) (fun t0 => ?_)
  · refine ⟨?_⟩
    have hs := hb.size
    go_wp2
    exact ⟨rfl, .slice (some ⟨wf.heap.size, 0, none⟩) 0 0, by kernel_rfl, bal (Below.refl _ _) _, wf.heap.size, rfl, hs, Blk.newAt rfl⟩
  refine wf_stepK [] [] (by kernel_rfl) (by kernel_rfl) (fun wf hb hf => ?_) (fun t1 => ?_)
  · refine ⟨?_⟩
    go_wp2
    exact ⟨rfl, .pointer (some ⟨w.heap.size, 0, none⟩), by kernel_rfl, Below.refl _ _, rfl⟩
  refine wf_stepK [1] [fun _ => t1 = .pointer (some ⟨w.heap.size, 0, none⟩)] (by kernel_rfl) (by kernel_rfl) (fun wf hb hf => ?_) (fun t2 => ?_)
  · obtain ⟨rfl, -⟩ := hf
    refine ⟨?_⟩
    have p0 := (kA6.below hb).cell 0
    simp at p0
    go_wp2
    exact ⟨rfl, .slice LA lo.length lc, by kernel_rfl, Below.refl _ _, rfl⟩
  refine wf_stepK [0, 2] [LitT w6.heap.size t0, fun _ => t2 = .slice LA lo.length lc] (by kernel_rfl) (by kernel_rfl) (fun wf hb hf => ?_) (fun t3 => ?_)
  · obtain ⟨⟨g, rfl, hg, hk⟩, rfl, -⟩ := hf
    refine ⟨?_⟩
    go_wp2_with (at_builtin; refine wpList_appT rfl _ _ 23 rfl i0 (.agg #[.int .i64 0, .int .i64 0]) Try.underlying23 hi hz0 hz1 hz2 rfl g rfl hk LA lc lo rfl (g1.below hb) n1 w6.heap.size hg ?_)
    intro A' c' w2 ho hb2
    exact ⟨rfl, .slice A' lo.length c', by kernel_rfl, hb2, A', c', rfl, ho⟩
  refine wf_stepK [] [] (by kernel_rfl) (by kernel_rfl) (fun wf hb hf => ?_) (fun t4 => ?_)
  · refine ⟨?_⟩
    have hs := hb.size
    go_wp2
    exact ⟨rfl, .slice (some ⟨wf.heap.size, 0, none⟩) 0 0, by kernel_rfl, bal (Below.refl _ _) _, wf.heap.size, rfl, hs, Blk.newAt rfl⟩
  refine wf_stepK [] [] (by kernel_rfl) (by kernel_rfl) (fun wf hb hf => ?_) (fun t5 => ?_)
  · refine ⟨?_⟩
    go_wp2
    exact ⟨rfl, .pointer (some ⟨w.heap.size + 1, 1, none⟩), by kernel_rfl, Below.refl _ _, rfl⟩
  refine wf_stepK [5] [fun _ => t5 = .pointer (some ⟨w.heap.size + 1, 1, none⟩)] (by kernel_rfl) (by kernel_rfl) (fun wf hb hf => ?_) (fun t6 => ?_)
  · obtain ⟨rfl, -⟩ := hf
    refine ⟨?_⟩
    have p0 := (kB6.below hb).cell 1
    simp at p0
    go_wp2
    exact ⟨rfl, .slice UB up2.length ud, by kernel_rfl, Below.refl _ _, rfl⟩
  refine wf_stepK [4, 6] [LitT w6.heap.size t4, fun _ => t6 = .slice UB up2.length ud] (by kernel_rfl) (by kernel_rfl) (fun wf hb hf => ?_) (fun t7 => ?_)
  · obtain ⟨⟨g, rfl, hg, hk⟩, rfl, -⟩ := hf
    refine ⟨?_⟩
    go_wp2_with (at_builtin; refine wpList_appT rfl _ _ 23 rfl i0 (.agg #[.int .i64 0, .int .i64 0]) Try.underlying23 hi hz0 hz1 hz2 rfl g rfl hk UB ud up2 rfl (g2.below hb) m2 w6.heap.size hg ?_)
    intro A' c' w2 ho hb2
    exact ⟨rfl, .slice A' up2.length c', by kernel_rfl, hb2, A', c', rfl, ho⟩
  refine wf_stepK [] [] (by kernel_rfl) (by kernel_rfl) (fun wf hb hf => ?_) (fun t8 => ?_)
  · refine ⟨?_⟩
    go_wp2
    exact ⟨rfl, .slice A6 C.length c6, by kernel_rfl, Below.refl _ _, rfl⟩
  refine wf_stepK [3, 7, 8] [TmsN w6.heap.size lo t3, TmsN w6.heap.size up2 t7, fun _ => t8 = .slice A6 C.length c6] (by kernel_rfl) (by kernel_rfl) (fun wf hb hf => ?_) (fun t9 => ?_)
  · obtain ⟨⟨A, c, rfl, o1⟩, ⟨B, d, rfl, o2⟩, rfl, -⟩ := hf
    refine ⟨?_⟩
    go_wp2
    exact ⟨rfl, .agg #[.slice A lo.length c, .slice B up2.length d, .slice A6 C.length c6], by kernel_rfl, Below.refl _ _, A, c, B, d, rfl, o1, o2⟩
  refine wf_doneK [9] [BldN w6.heap.size lo up2 (.slice A6 C.length c6) t9] (by kernel_rfl) (by kernel_rfl) (fun w9 b9 hf => ?_)
  obtain ⟨⟨A, c, B, d, rfl, o1, o2⟩, -⟩ := hf
  show wpList _ _ _ [_, _] _ _
  refine wpList_frame (by simp [Act.put]; rfl) ?_
  have o9 : UpdsOw w9 (news w5 w6) A6 c6 C := SlOw.below updO o6 b9
  have kR9 := kR6.below b9
  have x0 := kR9.cell 0
  have x1 := kR9.cell 1
  have x2 := kR9.cell 2
  have f0 := kR9.frozen 0
  have f1 := kR9.frozen 1
  have f2 := kR9.frozen 2
  simp at x0 x1 x2
  have kRz := ((kR9.set_ 0 (.slice A lo.length c)).set_ 1 (.slice B up2.length d)).set_ 2 (.slice A6 C.length c6)
  have v0 := kRz.cell 0
  have v1 := kRz.cell 1
  have v2 := kRz.cell 2
  simp at v0 v1 v2
  have HR := Lib.hid (And.intro v0 (And.intro v1 v2))
  have HB := Lib.hid (btr B6 b9)
  have hlR := kR6.lt
  have far3 : ∀ q, q ≠ w.heap.size + 2 → (((w9.setCell ⟨w.heap.size + 2, 0, none⟩ (.slice A lo.length c)).setCell ⟨w.heap.size + 2, 1, none⟩ (.slice B up2.length d)).setCell ⟨w.heap.size + 2, 2, none⟩ (.slice A6 C.length c6)).heap[q]? = w9.heap[q]? := fun q hq =>
    (Below.heap_setCell _ _ _ _ (by simpa using hq)).trans ((Below.heap_setCell _ _ _ _ (by simpa using hq)).trans (Below.heap_setCell _ _ _ _ (by simpa using hq)))
  have H1 := Lib.hid (o1.loc (fun q hq => far3 q (by have := (o1.lt q hq).1; omega))).at_
  have H2 := Lib.hid (o2.loc (fun q hq => far3 q (by have := (o2.lt q hq).1; omega))).at_
  have H3 := Lib.hid (SlOw.at_ updO (SlOw.loc updO o9 (fun q hq => far3 q (by have := hq.1; omega))))
  clear kA6 kB6 kR6 kR9 kRz v0 v1 v2 o1 o2 o6 o9 b6 b9 B6 far3 g1 g2 y2 z2
  go_wp2
  exact bodyPost_ret (v := .tuple #[.agg #[.slice A lo.length c, .slice B up2.length d, .slice A6 C.length c6], .bool true]) (by simp [results, Try.results14, go_sem, HR.out.1, HR.out.2.1, HR.out.2.2]) rfl ⟨A, c, B, d, A6, c6, by rw [HW.out.1, HW.out.2], by rw [HW.out.1]; exact H1.out, by rw [HW.out.1]; exact H2.out, by rw [HW.out.1]; exact H3.out, bset (bset (bset HB.out (by simp <;> omega) _) (by simp <;> omega) _) (by simp <;> omega) _⟩
end Go.Proofs.Ythefakiobpijiaa
