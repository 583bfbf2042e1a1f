/- HELPER, no statement of the seat: several texts in one file. -/
import Derived.Test.YthefakiobpijiaaVwa
import Derived.Test.YthefakiobpijiaaFrt
import Derived.Laws.StructEq
import Derived.Lib.QuietBelow
import Derived.Test.YthefakiobpijiaaRgq
/- HELPER, no statement of the seat: merging two batches, as lists; no program. -/
namespace Go.Proofs.Ythefakiobpijiaa
open Go.RowKit Go.Sort
set_option linter.unusedSimpArgs false
set_option linter.unusedVariables false

def mrbIn (a b : Bt) : Bool := batB a && (batB b && decide (a.2.1 = b.1))
def mrbOk (a b : Bt) : Bool := mrbIn a b && trB (mrgT a.2.2 b.2.2)
def mrbV (a b : Bt) : Bt := if mrbOk a b = true then (a.1, (b.2.1, mrgT a.2.2 b.2.2)) else ([], ([], []))
theorem mrb_parts {a b : Bt} (h : mrbIn a b = true) : batB a = true ∧ batB b = true ∧ a.2.1 = b.1 := by
  simp only [mrbIn, Bool.and_eq_true, decide_eq_true_eq] at h
  exact ⟨h.1, h.2.1, h.2.2⟩
theorem mrb_perm {a b : Bt} (h : mrbIn a b = true) : (mrgT a.2.2 b.2.2).Perm (a.2.2 ++ b.2.2) := by
  obtain ⟨h1, h2, e⟩ := mrb_parts h
  obtain ⟨a1, a2, a3⟩ := bat_parts h1
  obtain ⟨b1, b2, b3⟩ := bat_parts h2
  exact mrg_perm a2 b2 (apart_cv (up := a.2.1) (fun x hx => (a3 x hx).2) (fun x hx => by rw [e]; exact (b3 x hx).1))
theorem mrb_bat {a b : Bt} (h : mrbIn a b = true) : batB (a.1, (b.2.1, mrgT a.2.2 b.2.2)) = trB (mrgT a.2.2 b.2.2) := by
  have hp := mrb_perm h
  obtain ⟨h1, h2, e⟩ := mrb_parts h
  obtain ⟨a1, a2, a3⟩ := bat_parts h1
  obtain ⟨b1, b2, b3⟩ := bat_parts h2
  rw [e] at a1
  have hn : (mrgT a.2.2 b.2.2).all (fun x => inBt a.1 b.2.1 x.1.2) = true := by
    rw [List.all_eq_true]
    intro x hx
    simp only [inBt, Bool.and_eq_true, Bool.not_eq_true']
    rcases List.mem_append.1 (hp.mem_iff.1 hx) with hx | hx
    · refine ⟨(a3 x hx).1, ?_⟩
      cases hc : cvB b.2.1 x.1.2.1 x.1.2.2 with
      | false => rfl
      | true => have h3 := (a3 x hx).2; rw [e, fl_cv b1 hc] at h3; cases h3
    · exact ⟨fl_cv a1 (b3 x hx).1, (b3 x hx).2⟩
  simp only [batB, fl_trans a1 b1, hn, Bool.true_and, Bool.and_true]
theorem mrb_len {a b : Bt} (h : mrbIn a b = true) : (mrgT a.2.2 b.2.2).length = a.2.2.length + b.2.2.length := by
  rw [(mrb_perm h).length_eq, List.length_append]
theorem mrb_many {a b : Bt} (h : mrbIn a b = true) : decide ((chkT (mrgT a.2.2 b.2.2)).length = a.2.2.length + b.2.2.length) = trB (mrgT a.2.2 b.2.2) := by
  have hl := mrb_len h
  cases ht : trB (mrgT a.2.2 b.2.2) with
  | true => simp [chkT, ht, hl]
  | false =>
    rw [decide_eq_false_iff_not]
    intro e
    simp only [chkT, ht] at e
    have h0 : mrgT a.2.2 b.2.2 = [] := List.eq_nil_of_length_eq_zero (by simp at e; omega)
    rw [h0] at ht
    revert ht
    decide
theorem mrbV_len (a b : Bt) (n1 : a.1.length ≤ 4194304) (n2 : b.2.1.length ≤ 4194304) : (mrbV a b).1.length ≤ 4194304 ∧ (mrbV a b).2.1.length ≤ 4194304 ∧ (mrbV a b).2.2.length ≤ 400 ∧ rowsU (mrbV a b).2.2 6 := by
  unfold mrbV
  split
  · rename_i h
    simp only [mrbOk, Bool.and_eq_true] at h
    exact ⟨n1, n2, (trB_parts h.2).1, trB_row h.2⟩
  · exact ⟨by simp, by simp, by simp, fun e he => by cases he⟩
end Go.Proofs.Ythefakiobpijiaa

/- HELPER, no statement of the seat: batches of the program, copied (batch). -/
namespace Go.Proofs.Ythefakiobpijiaa
open Go.RowKit Go.Sort
set_option linter.unusedSimpArgs false
set_option linter.unusedVariables false

set_option maxRecDepth 100000 in
set_option maxHeartbeats 3200000 in
theorem batch_i (LA UA TA : Option Addr) (lc uc tc : Nat) (lo up : List Tm) (us : List Upd) (w : World) (h1 : TimesAt w LA lo) (h2 : TimesAt w UA up) (h3 : UpdsAt w TA us) (n1 : lo.length ≤ 4194304) (n2 : up.length ≤ 4194304) (n3 : us.length ≤ 4194304) (r3 : rowsU us 4194304) :
    Calls Try.prog 72 #[.agg #[.slice TA us.length tc, .slice LA lo.length lc, .slice UA up.length uc]] w fun e w' => ∃ L1 d1 U1 d2 T1 d3, e = .returned (.agg #[.slice L1 lo.length d1, .slice U1 up.length d2, .slice T1 us.length d3]) ∧ BatO w' (news w w') [.slice L1 lo.length d1, .slice U1 up.length d2, .slice T1 us.length d3] (lo, (up, us)) ∧ Below w.heap.size w w' := by
  go_enter Try.func72, Try.ntmps72
  go_wp2_with fail
  refine abs_world (fun W => Below w.heap.size w W ∧ W.heap.size = w.heap.size + 2 ∧ Blk W w.heap.size 100 #[.slice TA us.length tc, .slice LA lo.length lc, .slice UA up.length uc] ∧ Blk W (w.heap.size + 1) 26 #[.slice none 0 0, .slice none 0 0, .slice none 0 0]) ⟨bal (bal (Below.refl _ _) _) _, by simp, (Blk.newAt rfl).alloc _, Blk.newAt (by simp)⟩ ?_
  rintro W0 ⟨hB0, hsz, kA, kR⟩
  have g1 := h1.below hB0
  have g2 := h2.below hB0
  have g3 := h3.below updR hB0
  have cl := fun W (hW : Below W0.heap.size W0 W) => cloneT_i LA lc lo W (g1.below hW) n1
  have cu := fun W (hW : Below W0.heap.size W0 W) => cloneT_i UA uc up W (g2.below hW) n2
  have ci := fun W (hW : Below W0.heap.size W0 W) => copyItems_u TA tc us W (g3.below updR hW) n3 r3
  clear g1 g2 g3 h1 h2 h3
  refine Rgo.wp_region_facts [[], [0], [0, 1], [], [3], [3, 4], [], [6], [6, 7]]
    [fun _ _ v' _ => v' = .pointer (some ⟨w.heap.size, 1, none⟩), fun _ _ v' _ => v' = .slice LA lo.length lc, TmB lo, fun _ _ v' _ => v' = .pointer (some ⟨w.heap.size, 2, none⟩), fun _ _ v' _ => v' = .slice UA up.length uc, TmB up, fun _ _ v' _ => v' = .pointer (some ⟨w.heap.size, 0, none⟩), fun _ _ v' _ => v' = .slice TA us.length tc, UpB us]
    (by kernel_rfl) (by kernel_rfl) rfl ⟨Rgo.stable_pure _, Rgo.stable_pure _, stable_tmB _, Rgo.stable_pure _, Rgo.stable_pure _, stable_tmB _, Rgo.stable_pure _, Rgo.stable_pure _, stable_upB _, trivial⟩ ?_
  refine Rgo.wf_stepK [] [] (by kernel_rfl) (by kernel_rfl) (fun wf hb hf => ?_) (fun t0 l0 h0 => ?_)
  · refine ⟨?_⟩
    go_wp2
    exact ⟨rfl, .pointer (some ⟨w.heap.size, 1, none⟩), by kernel_rfl, Below.refl _ _, rfl⟩
  refine Rgo.wf_stepK [0] [fun _ => t0 = .pointer (some ⟨w.heap.size, 1, none⟩)] (by kernel_rfl) (by kernel_rfl) (fun wf hb hf => ?_) (fun t1 l1 h1 => ?_)
  · obtain ⟨rfl, -⟩ := hf
    refine ⟨?_⟩
    have p0 := (kA.below hb).cell 1
    simp at p0
    go_wp2
    exact ⟨rfl, .slice LA lo.length lc, by kernel_rfl, Below.refl _ _, rfl⟩
  refine Rgo.wf_stepK [1] [fun _ => t1 = .slice LA lo.length lc] (by kernel_rfl) (by kernel_rfl) (fun wf hb hf => ?_) (fun t2 l2 h2 => ?_)
  · obtain ⟨rfl, -⟩ := hf
    refine ⟨?_⟩
    go_wp2_with (go_at_call 141; refine (cl _ hb).mono ?_; rintro e w2 ⟨A', c', rfl, ho, hb2⟩)
    exact ⟨rfl, .slice A' lo.length c', by kernel_rfl, hb2, A', c', rfl, ho, fun k hk => (ho.lt k hk).2⟩
  refine Rgo.wf_stepK [] [] (by kernel_rfl) (by kernel_rfl) (fun wf hb hf => ?_) (fun t3 l3 h3 => ?_)
  · refine ⟨?_⟩
    go_wp2
    exact ⟨rfl, .pointer (some ⟨w.heap.size, 2, none⟩), by kernel_rfl, Below.refl _ _, rfl⟩
  refine Rgo.wf_stepK [3] [fun _ => t3 = .pointer (some ⟨w.heap.size, 2, none⟩)] (by kernel_rfl) (by kernel_rfl) (fun wf hb hf => ?_) (fun t4 l4 h4 => ?_)
  · obtain ⟨rfl, -⟩ := hf
    refine ⟨?_⟩
    have p0 := (kA.below hb).cell 2
    simp at p0
    go_wp2
    exact ⟨rfl, .slice UA up.length uc, by kernel_rfl, Below.refl _ _, rfl⟩
  refine Rgo.wf_stepK [4] [fun _ => t4 = .slice UA up.length uc] (by kernel_rfl) (by kernel_rfl) (fun wf hb hf => ?_) (fun t5 l5 h5 => ?_)
  · obtain ⟨rfl, -⟩ := hf
    refine ⟨?_⟩
    go_wp2_with (go_at_call 141; refine (cu _ hb).mono ?_; rintro e w2 ⟨A', c', rfl, ho, hb2⟩)
    exact ⟨rfl, .slice A' up.length c', by kernel_rfl, hb2, A', c', rfl, ho, fun k hk => (ho.lt k hk).2⟩
  refine Rgo.wf_stepK [] [] (by kernel_rfl) (by kernel_rfl) (fun wf hb hf => ?_) (fun t6 l6 h6 => ?_)
  · refine ⟨?_⟩
    go_wp2
    exact ⟨rfl, .pointer (some ⟨w.heap.size, 0, none⟩), by kernel_rfl, Below.refl _ _, rfl⟩
  refine Rgo.wf_stepK [6] [fun _ => t6 = .pointer (some ⟨w.heap.size, 0, none⟩)] (by kernel_rfl) (by kernel_rfl) (fun wf hb hf => ?_) (fun t7 l7 h7 => ?_)
  · obtain ⟨rfl, -⟩ := hf
    refine ⟨?_⟩
    have p0 := (kA.below hb).cell 0
    simp at p0
    go_wp2
    exact ⟨rfl, .slice TA us.length tc, by kernel_rfl, Below.refl _ _, rfl⟩
  refine Rgo.wf_stepK [7] [fun _ => t7 = .slice TA us.length tc] (by kernel_rfl) (by kernel_rfl) (fun wf hb hf => ?_) (fun t8 l8 h8 => ?_)
  · obtain ⟨rfl, -⟩ := hf
    refine ⟨?_⟩
    go_wp2_with (go_at_call 142; refine (ci _ hb).mono ?_; rintro e w2 ⟨A', c', rfl, ho, hb2⟩)
    exact ⟨rfl, .slice A' us.length c', by kernel_rfl, hb2, A', c', rfl, ho⟩
  refine Rgo.wf_doneK [2, 5, 8] [TmB lo l2 h2 t2, TmB up l5 h5 t5, UpB us l8 h8 t8] (by kernel_rfl) (by kernel_rfl) (fun w9 b9 hf hap hbo => ?_)
  obtain ⟨⟨A1, c1, rfl, o1, e1⟩, ⟨A2, c2, rfl, o2, e2⟩, ⟨A3, c3, rfl, o3⟩, -⟩ := hf
  have a12 : h2 ≤ l5 ∨ h5 ≤ l2 := hap 2 5 (by omega) (by simp)
  have a13 : h2 ≤ l8 ∨ h8 ≤ l2 := hap 2 8 (by omega) (by simp)
  have a23 : h5 ≤ l8 ∨ h8 ≤ l5 := hap 5 8 (by omega) (by simp)
  have q1 : W0.heap.size ≤ l2 ∧ l2 ≤ h2 ∧ h2 ≤ w9.heap.size := hbo 2 (by simp)
  have q2 : W0.heap.size ≤ l5 ∧ l5 ≤ h5 ∧ h5 ≤ w9.heap.size := hbo 5 (by simp)
  have q3 : W0.heap.size ≤ l8 ∧ l8 ≤ h8 ∧ h8 ≤ w9.heap.size := hbo 8 (by simp)
  rw [hsz] at q1 q2 q3
  show wpList _ _ _ [_, _] _ _
  refine wpList_frame (by simp [Act.put]; rfl) ?_
  have HE := Lib.hid (view_end o1 e1 o2 e2 o3 (btr hB0 b9) q1 q2 q3 a12 a13 a23 (.slice A1 lo.length c1) (.slice A2 up.length c2) (.slice A3 us.length c3))
  have kR9 := kR.below b9
  have g0 := kR9.cell 0
  have g1 := kR9.cell 1
  have g2 := kR9.cell 2
  have f0 := kR9.frozen 0
  have f1 := kR9.frozen 1
  have f2 := kR9.frozen 2
  simp at g0 g1 g2
  have kR5 := ((kR9.set_ 0 (.slice A1 lo.length c1)).set_ 1 (.slice A2 up.length c2)).set_ 2 (.slice A3 us.length c3)
  have r0 := kR5.cell 0
  have r1 := kR5.cell 1
  have r2 := kR5.cell 2
  simp at r0 r1 r2
  have HR0 := Lib.hid r0
  have HR1 := Lib.hid r1
  have HR2 := Lib.hid r2
  clear r0 r1 r2 kR5 kR9 kR kA cl cu ci o1 o2 o3 e1 e2 a12 a13 a23 q1 q2 q3 hap hbo b9 hB0 hsz
  go_wp2
  exact bodyPost_ret (v := .agg #[.slice A1 lo.length c1, .slice A2 up.length c2, .slice A3 us.length c3]) (by simp [results, Try.results72, go_sem, HR0.out, HR1.out, HR2.out]) rfl ⟨_, _, _, _, _, _, rfl, HE.out.1, HE.out.2⟩
end Go.Proofs.Ythefakiobpijiaa

/- HELPER, no statement of the seat: the equality of lists of times by slices.Equal. -/
namespace Go.Proofs.Ythefakiobpijiaa
open Go.RowKit Go.Sort
set_option linter.unusedSimpArgs false
set_option linter.unusedVariables false

set_option maxRecDepth 100000 in
theorem timeIn_eqC (a b c d : Int) (w : World) : (Op.equalIn 10000 117 (.agg #[.int .i64 a, .int .i64 b]) (.agg #[.int .i64 c, .int .i64 d])).run Try.prog w = .ok (a == c && b == d) w := by
  have u3 := Try.underlying3
  have a3 := Try.isAgg3
  have z3 := Try.sizeOf3
  have hS : Try.prog.underlying 117 = some (.struct (Try.prog.fieldsOf 117)) := by kernel_rfl
  have hp : Try.prog.stoodInHeld 117 = false := by kernel_rfl
  rw [show (10000 : Nat) = 9999 + 1 from rfl, run_equalIn_agg w 9999 117 _ _ hS hp]
  simp only [Program.fieldsOf, Try.underlying117]
  go_simp
  by_cases h1 : a = c <;> by_cases h2 : b = d <;> simp [h1, h2]
set_option maxHeartbeats 3200000 in
theorem equalC_i (A B : Option Addr) (c d : Nat) (xs ys : List Tm) (w : World) (hx : TimesAt w A xs) (hy : TimesAt w B ys) (hn : xs.length ≤ 4194304) (hm : ys.length ≤ 4194304) :
    Calls Try.prog 139 #[.slice A xs.length c, .slice B ys.length d] w fun e w' => e = .returned (.bool (decide (xs = ys))) ∧ Below w.heap.size w w' := by
  by_cases hl : xs.length = ys.length
  · have hb : ((xs.length : Int) != (ys.length : Int)) = false := by simp [hl]
    have HL := Lib.hid hl
    clear hl
    go_enter Try.func139, Try.ntmps139
    go_wp2
    go_loopw [5, 13] (fun _ i wr => ∃ k : Nat, k ≤ xs.length ∧ i = .int .i64 k ∧ xs.take k = ys.take k ∧ Below w.heap.size w wr) (fun _ i _ => xs.length - (intOf i).toNat)
    case atStart => exact ⟨0, by omega, rfl, rfl, Below.refl _ _⟩
    case round =>
      obtain ⟨k, hk, rfl, htk, hbel⟩ := hrel
      have HT := Lib.hid htk
      clear htk
      by_cases hlt : k < xs.length
      · have hlt2 : k < ys.length := by have := HL.out; omega
        obtain ⟨b, off, rfl, hbl, hc⟩ := hx (by omega)
        obtain ⟨b2, off2, rfl, hbl2, hc2⟩ := hy (by omega)
        have hc := hc k hlt
        have hc2 := hc2 k hlt2
        rw [show xs.getD k (0, 0) = xs[k] by simp [hlt]] at hc
        rw [show ys.getD k (0, 0) = ys[k] by simp [hlt2]] at hc2
        have q1 := cgrowT ((hbel.cell (p := ⟨b, off + k * 2, none⟩) hbl).trans hc.1)
        have q2 := cgrowT ((hbel.cell (p := ⟨b, off + k * 2 + 1, none⟩) hbl).trans hc.2)
        have q3 := cgrowT ((hbel.cell (p := ⟨b2, off2 + k * 2, none⟩) hbl2).trans hc2.1)
        have q4 := cgrowT ((hbel.cell (p := ⟨b2, off2 + k * 2 + 1, none⟩) hbl2).trans hc2.2)
        clear hc hc2
        have qe := fun W => timeIn_eqC xs[k].1 xs[k].2 ys[k].1 ys[k].2 W
        by_cases he : xs[k] = ys[k]
        · have hqt : (xs[k].1 == ys[k].1 && xs[k].2 == ys[k].2) = true := by rw [he]; simp
          rw [hqt] at qe
          clear hqt
          have HE := Lib.hid he
          clear he
          go_wp2_with fail
          refine wp_region_quiet_below (by kernel_rfl) (by kernel_rfl) ?_
          repeat (go_big_quiet_step (fail))
          refine wpQuiet_nil ?_
          intro w3 hw3
          obtain ⟨⟨dq, osq⟩, rfl⟩ := hw3
          have hbq := below_regrown wr dq osq
          generalize grow (redrawn wr dq) osq = w4 at hbq
          clear q1 q2 q3 q4
          go_wp2
          go_roundw
          case rel => exact ⟨k + 1, by omega, by go_num, take_eq_stepT hlt hlt2 HT.out HE.out, btr hbel hbq⟩
          case measure => simp [intOf]; omega
        · have hqt : (xs[k].1 == ys[k].1 && xs[k].2 == ys[k].2) = false := by
            cases hh : (xs[k].1 == ys[k].1 && xs[k].2 == ys[k].2) with
            | false => rfl
            | true => simp at hh; exact absurd (Prod.ext hh.1 hh.2) he
          rw [hqt] at qe
          have HF : Hid (decide (xs = ys) = false) := by
            simp only [Hid, decide_eq_false_iff_not]
            intro h; subst h; exact he rfl
          clear hqt he
          go_wp2_with fail
          refine wp_region_quiet_below (by kernel_rfl) (by kernel_rfl) ?_
          repeat (go_big_quiet_step (fail))
          refine wpQuiet_nil ?_
          intro w3 hw3
          obtain ⟨⟨dq, osq⟩, rfl⟩ := hw3
          have hbq := below_regrown wr dq osq
          generalize grow (redrawn wr dq) osq = w4 at hbq
          clear q1 q2 q3 q4
          go_wp2
          go_ret
          exact ⟨ret_bool HF.out.symm, btr hbel hbq⟩
      · obtain rfl : k = xs.length := by omega
        have hfin : decide (xs = ys) = true := by
          have h1 := HT.out
          have h2 := HL.out
          rw [List.take_length, h2, List.take_length] at h1
          simp [h1]
        have HF := Lib.hid hfin
        clear hfin
        go_wp2
        go_ret
        exact ⟨ret_bool HF.out.symm, hbel⟩
  · have hb : ((xs.length : Int) != (ys.length : Int)) = true := by simp; omega
    have hfin : decide (xs = ys) = false := by simp; rintro rfl; exact hl rfl
    have HF := Lib.hid hfin
    clear hfin
    go_enter Try.func139, Try.ntmps139
    go_wp2
    go_ret
    exact ⟨ret_bool HF.out.symm, Below.refl _ _⟩
end Go.Proofs.Ythefakiobpijiaa

/- HELPER, no statement of the seat: the program's MergeBatches. -/
namespace Go.Proofs.Ythefakiobpijiaa
open Go.RowKit Go.Sort
set_option linter.unusedSimpArgs false
set_option linter.unusedVariables false

set_option maxRecDepth 100000 in
set_option maxHeartbeats 6400000 in
theorem merged_i (LA UA TA LB UB TB : Option Addr) (lc uc tc ld ud td : Nat) (lo up : List Tm) (us : List Upd) (lo2 up2 : List Tm) (tr : List Upd) (w : World) (h1 : TimesAt w LA lo) (h2 : TimesAt w UA up) (h3 : UpdsAt w TA us) (k1 : TimesAt w LB lo2) (k2 : TimesAt w UB up2) (k3 : UpdsAt w TB tr) (p3 : us.length ≤ tc) (p4 : tr.length ≤ td)
    (n1 : lo.length ≤ 4194304) (n2 : up.length ≤ 4194304) (n3 : us.length ≤ 4194304) (r3 : rowsU us 4194304) (m1 : lo2.length ≤ 4194304) (m2 : up2.length ≤ 4194304) (m3 : tr.length ≤ 4194304) (r4 : rowsU tr 4194304) :
    Calls Try.prog 71 #[.agg #[.slice TA us.length tc, .slice LA lo.length lc, .slice UA up.length uc], .agg #[.slice TB tr.length td, .slice LB lo2.length ld, .slice UB up2.length ud]] w fun e w' => ∃ A1 m1 c1 A2 m2 c2 A3 m3 c3, e = .returned (.tuple #[.agg #[.slice A1 m1 c1, .slice A2 m2 c2, .slice A3 m3 c3], .bool (mrbOk (lo, (up, us)) (lo2, (up2, tr)))]) ∧
      (mrbOk (lo, (up, us)) (lo2, (up2, tr)) = true → m1 = (mrgT us tr).length ∧ UpdsAt w' A1 (mrgT us tr) ∧ A2 = LA ∧ m2 = lo.length ∧ c2 = lc ∧ A3 = UB ∧ m3 = up2.length ∧ c3 = ud) ∧ Below w.heap.size w w' := by
  have cv := fun W (hW : Below w.heap.size w W) => isValidB_i LA UA TA lc uc tc lo up us W (h1.below hW) (h2.below hW) (h3.below updR hW) n1 n2 n3 r3
  have cb := fun W (hW : Below w.heap.size w W) => isValidB_i LB UB TB ld ud td lo2 up2 tr W (k1.below hW) (k2.below hW) (k3.below updR hW) m1 m2 m3 r4
  have ce := fun W (hW : Below w.heap.size w W) => equalC_i UA LB uc ld up lo2 W (h2.below hW) (k1.below hW) n2 m1
  have hB0 : Below w.heap.size w (((w.alloc (.cells #[.slice TA us.length tc, .slice LA lo.length lc, .slice UA up.length uc] 100)).alloc (.cells #[.slice TB tr.length td, .slice LB lo2.length ld, .slice UB up2.length ud] 100)).alloc (.cells #[.slice none 0 0, .slice none 0 0, .slice none 0 0] 100)) := bal (bal (bal (Below.refl _ _) _) _) _
  have kA : Blk (((w.alloc (.cells #[.slice TA us.length tc, .slice LA lo.length lc, .slice UA up.length uc] 100)).alloc (.cells #[.slice TB tr.length td, .slice LB lo2.length ld, .slice UB up2.length ud] 100)).alloc (.cells #[.slice none 0 0, .slice none 0 0, .slice none 0 0] 100)) w.heap.size 100 #[.slice TA us.length tc, .slice LA lo.length lc, .slice UA up.length uc] := ((Blk.newAt rfl).alloc _).alloc _
  have kB : Blk (((w.alloc (.cells #[.slice TA us.length tc, .slice LA lo.length lc, .slice UA up.length uc] 100)).alloc (.cells #[.slice TB tr.length td, .slice LB lo2.length ld, .slice UB up2.length ud] 100)).alloc (.cells #[.slice none 0 0, .slice none 0 0, .slice none 0 0] 100)) (w.heap.size + 1) 100 #[.slice TB tr.length td, .slice LB lo2.length ld, .slice UB up2.length ud] := (Blk.newAt (by simp)).alloc _
  have kR : Blk (((w.alloc (.cells #[.slice TA us.length tc, .slice LA lo.length lc, .slice UA up.length uc] 100)).alloc (.cells #[.slice TB tr.length td, .slice LB lo2.length ld, .slice UB up2.length ud] 100)).alloc (.cells #[.slice none 0 0, .slice none 0 0, .slice none 0 0] 100)) (w.heap.size + 2) 100 #[.slice none 0 0, .slice none 0 0, .slice none 0 0] := Blk.newAt (by simp)
  cases e1 : batB (lo, (up, us))
  · have HF : Hid (mrbOk (lo, (up, us)) (lo2, (up2, tr)) = false) := by simp only [Hid, mrbOk, mrbIn, e1]; simp
    have cv1 := cv
    rw [e1] at cv1
    clear e1 cv cb ce
    go_enter Try.func71, Try.ntmps71
    go_wp2_with fail
    refine (cv1 _ hB0).mono ?_
    rintro e w1 ⟨rfl, b1⟩
    have B1 := btr hB0 b1
    have kR1 := kR.below b1
    have g0 := kR1.cell 0
    have g1 := kR1.cell 1
    have g2 := kR1.cell 2
    have f0 := kR1.frozen 0
    have f1 := kR1.frozen 1
    have f2 := kR1.frozen 2
    simp at g0 g1 g2
    have kR5 := ((kR1.set_ 0 (.slice none 0 0)).set_ 1 (.slice none 0 0)).set_ 2 (.slice none 0 0)
    have r0 := kR5.cell 0
    have r1 := kR5.cell 1
    have r2 := kR5.cell 2
    simp at r0 r1 r2
    have HR := Lib.hid (And.intro r0 (And.intro r1 r2))
    have HB := Lib.hid B1
    clear cv1 kA kB kR kR1 kR5 r0 r1 r2 hB0 b1 B1
    go_wp2
    refine bodyPost_ret (v := .tuple #[.agg #[.slice none 0 0, .slice none 0 0, .slice none 0 0], .bool false]) (by simp [results, Try.results71, go_sem, HR.out.1, HR.out.2.1, HR.out.2.2]) rfl ⟨none, 0, 0, none, 0, 0, none, 0, 0, by rw [HF.out], (fun h => by rw [HF.out] at h; cases h), bset (bset (bset HB.out (by simp <;> omega) _) (by simp <;> omega) _) (by simp <;> omega) _⟩
  cases e2 : batB (lo2, (up2, tr))
  · have HF : Hid (mrbOk (lo, (up, us)) (lo2, (up2, tr)) = false) := by simp only [Hid, mrbOk, mrbIn, e2]; simp
    have cv1 := cv
    rw [e1] at cv1
    have cb1 := cb
    rw [e2] at cb1
    clear e1 e2 cv cb ce
    go_enter Try.func71, Try.ntmps71
    go_wp2_with fail
    refine (cv1 _ hB0).mono ?_
    rintro e w1 ⟨rfl, b1⟩
    have B1 := btr hB0 b1
    have xkB0 := (kB.below b1).cell 0
    have xkB1 := (kB.below b1).cell 1
    have xkB2 := (kB.below b1).cell 2
    simp at xkB0 xkB1 xkB2
    go_wp2_with fail
    refine (cb1 _ B1).mono ?_
    rintro e w2 ⟨rfl, b2⟩
    have B2 := btr B1 b2
    clear xkB0 xkB1 xkB2
    have kR1 := kR.below (btr b1 b2)
    have g0 := kR1.cell 0
    have g1 := kR1.cell 1
    have g2 := kR1.cell 2
    have f0 := kR1.frozen 0
    have f1 := kR1.frozen 1
    have f2 := kR1.frozen 2
    simp at g0 g1 g2
    have kR5 := ((kR1.set_ 0 (.slice none 0 0)).set_ 1 (.slice none 0 0)).set_ 2 (.slice none 0 0)
    have r0 := kR5.cell 0
    have r1 := kR5.cell 1
    have r2 := kR5.cell 2
    simp at r0 r1 r2
    have HR := Lib.hid (And.intro r0 (And.intro r1 r2))
    have HB := Lib.hid B2
    clear cv1 cb1 kA kB kR kR1 kR5 r0 r1 r2 hB0 b1 B1 b2 B2
    go_wp2
    refine bodyPost_ret (v := .tuple #[.agg #[.slice none 0 0, .slice none 0 0, .slice none 0 0], .bool false]) (by simp [results, Try.results71, go_sem, HR.out.1, HR.out.2.1, HR.out.2.2]) rfl ⟨none, 0, 0, none, 0, 0, none, 0, 0, by rw [HF.out], (fun h => by rw [HF.out] at h; cases h), bset (bset (bset HB.out (by simp <;> omega) _) (by simp <;> omega) _) (by simp <;> omega) _⟩
  cases e3 : decide (up = lo2)
  · have HF : Hid (mrbOk (lo, (up, us)) (lo2, (up2, tr)) = false) := by simp only [Hid, mrbOk, mrbIn, e3]; simp
    have cv1 := cv
    rw [e1] at cv1
    have cb1 := cb
    rw [e2] at cb1
    have ce1 := ce
    rw [e3] at ce1
    clear e1 e2 e3 cv cb ce
    go_enter Try.func71, Try.ntmps71
    go_wp2_with fail
    refine (cv1 _ hB0).mono ?_
    rintro e w1 ⟨rfl, b1⟩
    have B1 := btr hB0 b1
    have xkB0 := (kB.below b1).cell 0
    have xkB1 := (kB.below b1).cell 1
    have xkB2 := (kB.below b1).cell 2
    simp at xkB0 xkB1 xkB2
    go_wp2_with fail
    refine (cb1 _ B1).mono ?_
    rintro e w2 ⟨rfl, b2⟩
    have B2 := btr B1 b2
    clear xkB0 xkB1 xkB2
    have xkA2 := (kA.below (btr b1 b2)).cell 2
    have xkB1 := (kB.below (btr b1 b2)).cell 1
    simp at xkA2 xkB1
    go_wp2_with fail
    refine (ce1 _ B2).mono ?_
    rintro e w3 ⟨rfl, b3⟩
    have B3 := btr B2 b3
    clear xkA2 xkB1
    have kR1 := kR.below (btr (btr b1 b2) b3)
    have g0 := kR1.cell 0
    have g1 := kR1.cell 1
    have g2 := kR1.cell 2
    have f0 := kR1.frozen 0
    have f1 := kR1.frozen 1
    have f2 := kR1.frozen 2
    simp at g0 g1 g2
    have kR5 := ((kR1.set_ 0 (.slice none 0 0)).set_ 1 (.slice none 0 0)).set_ 2 (.slice none 0 0)
    have r0 := kR5.cell 0
    have r1 := kR5.cell 1
    have r2 := kR5.cell 2
    simp at r0 r1 r2
    have HR := Lib.hid (And.intro r0 (And.intro r1 r2))
    have HB := Lib.hid B3
    clear cv1 cb1 ce1 kA kB kR kR1 kR5 r0 r1 r2 hB0 b1 B1 b2 B2 b3 B3
    go_wp2
    refine bodyPost_ret (v := .tuple #[.agg #[.slice none 0 0, .slice none 0 0, .slice none 0 0], .bool false]) (by simp [results, Try.results71, go_sem, HR.out.1, HR.out.2.1, HR.out.2.2]) rfl ⟨none, 0, 0, none, 0, 0, none, 0, 0, by rw [HF.out], (fun h => by rw [HF.out] at h; cases h), bset (bset (bset HB.out (by simp <;> omega) _) (by simp <;> omega) _) (by simp <;> omega) _⟩
  have hin : mrbIn (lo, (up, us)) (lo2, (up2, tr)) = true := by simp only [mrbIn, e1, e2, e3, Bool.true_and]
  have HOK : Hid (mrbOk (lo, (up, us)) (lo2, (up2, tr)) = batB (lo, (up2, mrgT us tr))) := by
    rw [Hid, mrbOk, hin, Bool.true_and]
    exact (mrb_bat hin).symm
  have hlen := mrg_len us tr
  have HZ := Lib.hid (And.intro (bat_parts e1).2.1 (bat_parts e2).2.1)
  have hl1 : us.length ≤ 400 := trB_len HZ.out.1
  have hl2 : tr.length ≤ 400 := trB_len HZ.out.2
  have hmr : rowsU (mrgT us tr) 4194304 := mrg_rows r3 r4
  have hml : (mrgT us tr).length ≤ 4194304 := by omega
  have cv1 := cv
  rw [e1] at cv1
  have cb1 := cb
  rw [e2] at cb1
  have ce1 := ce
  rw [e3] at ce1
  have cm := fun W (hW : Below w.heap.size w W) => sumOfSorted_u TA tc us TB td tr W (h3.below updR hW) (k3.below updR hW) p3 p4 HZ.out.1 HZ.out.2
  have cw := fun A c W (hW : Below w.heap.size w W) (hx : UpdsAt W A (mrgT us tr)) => isValidB_i LA UB A lc ud c lo up2 (mrgT us tr) W (h1.below hW) (k2.below hW) hx n1 m2 hml hmr
  have hcm : nz (AddLU us tr) = mrgT us tr := rfl
  rw [hcm] at cm
  clear hlen hcm e1 e2 e3 cv cb ce hl1 hl2 hin
  generalize mrgT us tr = M at *
  generalize mrbOk (lo, (up, us)) (lo2, (up2, tr)) = ok at *
  generalize batB (lo, (up2, M)) = vm at *
  go_enter Try.func71, Try.ntmps71
  go_wp2_with fail
  refine (cv1 _ hB0).mono ?_
  rintro e w1 ⟨rfl, b1⟩
  have B1 := btr hB0 b1
  have xkB0 := (kB.below b1).cell 0
  have xkB1 := (kB.below b1).cell 1
  have xkB2 := (kB.below b1).cell 2
  simp at xkB0 xkB1 xkB2
  go_wp2_with fail
  refine (cb1 _ B1).mono ?_
  rintro e w2 ⟨rfl, b2⟩
  have B2 := btr B1 b2
  clear xkB0 xkB1 xkB2
  have xkA2 := (kA.below (btr b1 b2)).cell 2
  have xkB1 := (kB.below (btr b1 b2)).cell 1
  simp at xkA2 xkB1
  go_wp2_with fail
  refine (ce1 _ B2).mono ?_
  rintro e w3 ⟨rfl, b3⟩
  have B3 := btr B2 b3
  clear xkA2 xkB1
  have kA2 := kA.below (btr (btr b1 b2) b3)
  have kB2 := kB.below (btr (btr b1 b2) b3)
  have kR2 := kR.below (btr (btr b1 b2) b3)
  have hs0 := B3.size
  have hRlt := kR2.lt
  clear b1 b2 b3 kA kB kR B1 B2 cv1 cb1 ce1 hB0
  go_wp2_with fail
  refine wp_region_facts [[], [0], [], [2], [0, 1, 2, 3], [], [5], [], [7], [0, 1, 2, 3, 4, 5, 6, 7, 8], []]
    [fun v' _ => v' = .pointer (some ⟨w.heap.size, 0, none⟩), fun v' _ => v' = .slice TA us.length tc, fun v' _ => v' = .pointer (some ⟨w.heap.size + 1, 0, none⟩), fun v' _ => v' = .slice TB tr.length td, UpsV M, fun v' _ => v' = .pointer (some ⟨w.heap.size, 1, none⟩), fun v' _ => v' = .slice LA lo.length lc, fun v' _ => v' = .pointer (some ⟨w.heap.size + 1, 2, none⟩), fun v' _ => v' = .slice UB up2.length ud, RtrV M (.slice LA lo.length lc) (.slice UB up2.length ud), AtBlk w3.heap.size 100 #[.slice none 0 0, .slice none 0 0, .slice none 0 0]]
    (by kernel_rfl) (by kernel_rfl) rfl ⟨stable_pure _, stable_pure _, stable_pure _, stable_pure _, stable_upsV _, stable_pure _, stable_pure _, stable_pure _, stable_pure _, stable_rtrV _ _ _, stable_atBlk _ _ _, trivial⟩ ?_
  refine wf_stepK [] [] (by kernel_rfl) (by kernel_rfl) (fun wf hb hf => ?_) (fun t0 => ?_)
  · refine ⟨?_⟩
    go_wp2
    exact ⟨rfl, .pointer (some ⟨w.heap.size, 0, none⟩), by kernel_rfl, Below.refl _ _, rfl⟩
  refine wf_stepK [0] [fun _ => t0 = .pointer (some ⟨w.heap.size, 0, none⟩)] (by kernel_rfl) (by kernel_rfl) (fun wf hb hf => ?_) (fun t1 => ?_)
  · obtain ⟨rfl, -⟩ := hf
    refine ⟨?_⟩
    have p0 := (kA2.below hb).cell 0
    simp at p0
    go_wp2
    exact ⟨rfl, .slice TA us.length tc, by kernel_rfl, Below.refl _ _, rfl⟩
  refine wf_stepK [] [] (by kernel_rfl) (by kernel_rfl) (fun wf hb hf => ?_) (fun t2 => ?_)
  · refine ⟨?_⟩
    go_wp2
    exact ⟨rfl, .pointer (some ⟨w.heap.size + 1, 0, none⟩), by kernel_rfl, Below.refl _ _, rfl⟩
  refine wf_stepK [2] [fun _ => t2 = .pointer (some ⟨w.heap.size + 1, 0, none⟩)] (by kernel_rfl) (by kernel_rfl) (fun wf hb hf => ?_) (fun t3 => ?_)
  · obtain ⟨rfl, -⟩ := hf
    refine ⟨?_⟩
    have p0 := (kB2.below hb).cell 0
    simp at p0
    go_wp2
    exact ⟨rfl, .slice TB tr.length td, by kernel_rfl, Below.refl _ _, rfl⟩
  refine wf_stepK [1, 3] [fun _ => t1 = .slice TA us.length tc, fun _ => t3 = .slice TB tr.length td] (by kernel_rfl) (by kernel_rfl) (fun wf hb hf => ?_) (fun t4 => ?_)
  · obtain ⟨rfl, rfl, -⟩ := hf
    refine ⟨?_⟩
    go_wp2_with (go_at_call 140; refine (cm _ (btr B3 hb)).mono ?_; rintro e w3 ⟨A', c', rfl, hx, hb2⟩)
    exact ⟨rfl, .slice A' M.length c', by kernel_rfl, hb2, A', c', rfl, hx⟩
  refine wf_stepK [] [] (by kernel_rfl) (by kernel_rfl) (fun wf hb hf => ?_) (fun t5 => ?_)
  · refine ⟨?_⟩
    go_wp2
    exact ⟨rfl, .pointer (some ⟨w.heap.size, 1, none⟩), by kernel_rfl, Below.refl _ _, rfl⟩
  refine wf_stepK [5] [fun _ => t5 = .pointer (some ⟨w.heap.size, 1, none⟩)] (by kernel_rfl) (by kernel_rfl) (fun wf hb hf => ?_) (fun t6 => ?_)
  · obtain ⟨rfl, -⟩ := hf
    refine ⟨?_⟩
    have p0 := (kA2.below hb).cell 1
    simp at p0
    go_wp2
    exact ⟨rfl, .slice LA lo.length lc, by kernel_rfl, Below.refl _ _, rfl⟩
  refine wf_stepK [] [] (by kernel_rfl) (by kernel_rfl) (fun wf hb hf => ?_) (fun t7 => ?_)
  · refine ⟨?_⟩
    go_wp2
    exact ⟨rfl, .pointer (some ⟨w.heap.size + 1, 2, none⟩), by kernel_rfl, Below.refl _ _, rfl⟩
  refine wf_stepK [7] [fun _ => t7 = .pointer (some ⟨w.heap.size + 1, 2, none⟩)] (by kernel_rfl) (by kernel_rfl) (fun wf hb hf => ?_) (fun t8 => ?_)
  · obtain ⟨rfl, -⟩ := hf
    refine ⟨?_⟩
    have p0 := (kB2.below hb).cell 2
    simp at p0
    go_wp2
    exact ⟨rfl, .slice UB up2.length ud, by kernel_rfl, Below.refl _ _, rfl⟩
  refine wf_stepK [4, 6, 8] [UpsV M t4, fun _ => t6 = .slice LA lo.length lc, fun _ => t8 = .slice UB up2.length ud] (by kernel_rfl) (by kernel_rfl) (fun wf hb hf => ?_) (fun t9 => ?_)
  · obtain ⟨⟨A', c', rfl, hx⟩, rfl, rfl, -⟩ := hf
    refine ⟨?_⟩
    go_wp2
    exact ⟨rfl, .agg #[.slice A' M.length c', .slice LA lo.length lc, .slice UB up2.length ud], by kernel_rfl, Below.refl _ _, A', c', rfl, hx⟩
  refine wf_stepK [] [] (by kernel_rfl) (by kernel_rfl) (fun wf hb hf => ?_) (fun t10 => ?_)
  · refine ⟨?_⟩
    have hs := hb.size
    go_wp2
    exact ⟨rfl, .pointer (some ⟨wf.heap.size, 0, none⟩), by kernel_rfl, bal (Below.refl _ _) _, wf.heap.size, rfl, hs, Blk.newAt rfl⟩
  refine wf_doneK [9, 10] [RtrV M (.slice LA lo.length lc) (.slice UB up2.length ud) t9, AtBlk w3.heap.size 100 #[.slice none 0 0, .slice none 0 0, .slice none 0 0] t10] (by kernel_rfl) (by kernel_rfl) (fun w9 b9 hf => ?_)
  obtain ⟨⟨A, c, rfl, hx⟩, ⟨g, rfl, hg, kG⟩, -⟩ := hf
  show wpList _ _ _ [_] _ _
  refine wpList_frame (by simp [Act.put]; rfl) ?_
  have g0 := kG.cell 0
  have g1 := kG.cell 1
  have g2 := kG.cell 2
  have f0 := kG.frozen 0
  have f1 := kG.frozen 1
  have f2 := kG.frozen 2
  simp at g0 g1 g2
  have hgB : w.heap.size + 3 ≤ g := by omega
  have hx3 : UpdsAt (((w9.setCell ⟨g, 0, none⟩ (.slice A M.length c)).setCell ⟨g, 1, none⟩ (.slice LA lo.length lc)).setCell ⟨g, 2, none⟩ (.slice UB up2.length ud)) A M :=
    hx.box kG noInt3 ((((GrownS.refl w9 (fun k => k = g)).set_ rfl _).set_ rfl _).set_ rfl _)
  have kG3 := ((kG.set_ 0 (.slice A M.length c)).set_ 1 (.slice LA lo.length lc)).set_ 2 (.slice UB up2.length ud)
  have kR3 := (((kR2.below b9).far (p := ⟨g, 0, none⟩) (by simp; omega) (.slice A M.length c)).far (p := ⟨g, 1, none⟩) (by simp; omega) (.slice LA lo.length lc)).far (p := ⟨g, 2, none⟩) (by simp; omega) (.slice UB up2.length ud)
  have B3x := bset (bset (bset (btr B3 b9) (p := ⟨g, 0, none⟩) (by simp; omega) (.slice A M.length c)) (p := ⟨g, 1, none⟩) (by simp; omega) (.slice LA lo.length lc)) (p := ⟨g, 2, none⟩) (by simp; omega) (.slice UB up2.length ud)
  have H3 := Lib.hid (And.intro B3x (And.intro kG3 (And.intro kR3 hx3)))
  clear hx3 kG3 kR3 B3x hx kG kR2 kA2 kB2 B3 b9 cm
  go_wp2_with fail
  refine abs_world (fun W => Below w.heap.size w W ∧ Blk W g 100 #[.slice A M.length c, .slice LA lo.length lc, .slice UB up2.length ud] ∧ Blk W (w.heap.size + 2) 100 #[.slice none 0 0, .slice none 0 0, .slice none 0 0] ∧ UpdsAt W A M) (by simpa using H3.out) ?_
  rintro w4 ⟨B4, kG, kR, hx⟩
  have cx := fun W (hW : Below w4.heap.size w4 W) => cw A c W (btr B4 hW) (hx.below updR hW)
  clear H3 g0 g1 g2 f0 f1 f2 cw
  refine wp_region_facts [[], [], [1]] [fun v' _ => v' = .agg #[.slice A M.length c, .slice LA lo.length lc, .slice UB up2.length ud], fun v' _ => v' = .agg #[.slice A M.length c, .slice LA lo.length lc, .slice UB up2.length ud], fun v' _ => v' = .bool vm]
    (by kernel_rfl) (by kernel_rfl) rfl ⟨stable_pure _, stable_pure _, stable_pure _, trivial⟩ ?_
  refine wf_stepK [] [] (by kernel_rfl) (by kernel_rfl) (fun wf hb hf => ?_) (fun t0 => ?_)
  · refine ⟨?_⟩
    have p0 := (kG.below hb).cell 0
    have p1 := (kG.below hb).cell 1
    have p2 := (kG.below hb).cell 2
    simp at p0 p1 p2
    go_wp2
    exact ⟨rfl, .agg #[.slice A M.length c, .slice LA lo.length lc, .slice UB up2.length ud], by kernel_rfl, Below.refl _ _, rfl⟩
  refine wf_stepK [] [] (by kernel_rfl) (by kernel_rfl) (fun wf hb hf => ?_) (fun t1 => ?_)
  · refine ⟨?_⟩
    have p0 := (kG.below hb).cell 0
    have p1 := (kG.below hb).cell 1
    have p2 := (kG.below hb).cell 2
    simp at p0 p1 p2
    go_wp2
    exact ⟨rfl, .agg #[.slice A M.length c, .slice LA lo.length lc, .slice UB up2.length ud], by kernel_rfl, Below.refl _ _, rfl⟩
  refine wf_stepK [1] [fun _ => t1 = .agg #[.slice A M.length c, .slice LA lo.length lc, .slice UB up2.length ud]] (by kernel_rfl) (by kernel_rfl) (fun wf hb hf => ?_) (fun t2 => ?_)
  · obtain ⟨rfl, -⟩ := hf
    refine ⟨?_⟩
    go_wp2_with (go_at_call 78; refine (cx _ hb).mono ?_; rintro e w3 ⟨rfl, hb2⟩)
    exact ⟨rfl, .bool vm, by kernel_rfl, hb2, rfl⟩
  refine wf_doneK [0, 2] [fun _ => t0 = .agg #[.slice A M.length c, .slice LA lo.length lc, .slice UB up2.length ud], fun _ => t2 = .bool vm] (by kernel_rfl) (by kernel_rfl) (fun w9 b9 hf => ?_)
  obtain ⟨rfl, rfl, -⟩ := hf
  show wpList _ _ _ [_, _] _ _
  refine wpList_frame (by simp [Act.put]; rfl) ?_
  have kR9 := kR.below b9
  have g0 := kR9.cell 0
  have g1 := kR9.cell 1
  have g2 := kR9.cell 2
  have f0 := kR9.frozen 0
  have f1 := kR9.frozen 1
  have f2 := kR9.frozen 2
  simp at g0 g1 g2
  have kR5 := ((kR9.set_ 0 (.slice A M.length c)).set_ 1 (.slice LA lo.length lc)).set_ 2 (.slice UB up2.length ud)
  have r0 := kR5.cell 0
  have r1 := kR5.cell 1
  have r2 := kR5.cell 2
  simp at r0 r1 r2
  have HR := Lib.hid (And.intro r0 (And.intro r1 r2))
  have HB := Lib.hid (btr B4 b9)
  have HX : Hid (UpdsAt (((w9.setCell ⟨w.heap.size + 2, 0, none⟩ (.slice A M.length c)).setCell ⟨w.heap.size + 2, 1, none⟩ (.slice LA lo.length lc)).setCell ⟨w.heap.size + 2, 2, none⟩ (.slice UB up2.length ud)) A M) :=
    UpdsAt.box kR9 noInt3 ((((GrownS.refl w9 (fun k => k = w.heap.size + 2)).set_ rfl _).set_ rfl _).set_ rfl _) (hx.below updR b9)
  clear kG kR kR9 kR5 r0 r1 r2 hx cx b9 B4
  go_wp2
  exact bodyPost_ret (v := .tuple #[.agg #[.slice A M.length c, .slice LA lo.length lc, .slice UB up2.length ud], .bool vm]) (by simp [results, Try.results71, go_sem, HR.out.1, HR.out.2.1, HR.out.2.2]) rfl ⟨A, _, c, LA, _, lc, UB, _, ud, by rw [HOK.out], (fun _ => ⟨rfl, HX.out, rfl, rfl, rfl, rfl, rfl, rfl⟩), bset (bset (bset HB.out (by simp <;> omega) _) (by simp <;> omega) _) (by simp <;> omega) _⟩
/-- What merged hands on. -/
def MrgX (ok : Bool) (M : List Upd) (LA : Option Addr) (n2 c2 : Nat) (UB : Option Addr) (n3 c3 : Nat) (w : World) (A1 : Option Addr) (m1 d1 : Nat) (A2 : Option Addr) (m2 d2 : Nat) (A3 : Option Addr) (m3 d3 : Nat) : Prop :=
  ok = true → m1 = M.length ∧ UpdsAt w A1 M ∧ A2 = LA ∧ m2 = n2 ∧ d2 = c2 ∧ A3 = UB ∧ m3 = n3 ∧ d3 = c3
def MrgR (ok : Bool) (M : List Upd) (LA : Option Addr) (n2 c2 : Nat) (UB : Option Addr) (n3 c3 : Nat) (v : Value) (w : World) : Prop := ∃ A1 m1 d1 A2 m2 d2 A3 m3 d3, v = .tuple #[.agg #[.slice A1 m1 d1, .slice A2 m2 d2, .slice A3 m3 d3], .bool ok] ∧ MrgX ok M LA n2 c2 UB n3 c3 w A1 m1 d1 A2 m2 d2 A3 m3 d3
def MrgA (ok : Bool) (M : List Upd) (LA : Option Addr) (n2 c2 : Nat) (UB : Option Addr) (n3 c3 : Nat) (v : Value) (w : World) : Prop := ∃ A1 m1 d1 A2 m2 d2 A3 m3 d3, v = .agg #[.slice A1 m1 d1, .slice A2 m2 d2, .slice A3 m3 d3] ∧ MrgX ok M LA n2 c2 UB n3 c3 w A1 m1 d1 A2 m2 d2 A3 m3 d3
theorem MrgX.below {ok : Bool} {M : List Upd} {LA : Option Addr} {n2 c2 : Nat} {UB : Option Addr} {n3 c3 : Nat} {w w' : World} {A1 : Option Addr} {m1 d1 : Nat} {A2 : Option Addr} {m2 d2 : Nat} {A3 : Option Addr} {m3 d3 : Nat} (h : MrgX ok M LA n2 c2 UB n3 c3 w A1 m1 d1 A2 m2 d2 A3 m3 d3) (hb : Below w.heap.size w w') : MrgX ok M LA n2 c2 UB n3 c3 w' A1 m1 d1 A2 m2 d2 A3 m3 d3 := fun e => by
  obtain ⟨a1, a2, a3⟩ := h e
  exact ⟨a1, a2.below updR hb, a3⟩
theorem stable_mrgR (ok : Bool) (M : List Upd) (LA : Option Addr) (n2 c2 : Nat) (UB : Option Addr) (n3 c3 : Nat) : Stable (MrgR ok M LA n2 c2 UB n3 c3) := fun _ _ _ hb ⟨a, b, c, d, e, f, g, i, j, h1, h2⟩ => ⟨a, b, c, d, e, f, g, i, j, h1, h2.below hb⟩
theorem stable_mrgA (ok : Bool) (M : List Upd) (LA : Option Addr) (n2 c2 : Nat) (UB : Option Addr) (n3 c3 : Nat) : Stable (MrgA ok M LA n2 c2 UB n3 c3) := fun _ _ _ hb ⟨a, b, c, d, e, f, g, i, j, h1, h2⟩ => ⟨a, b, c, d, e, f, g, i, j, h1, h2.below hb⟩
/-- A view that was made, behind the store of it into the cell of the result. -/
theorem batO_cell2 {w w3 W : World} {L1 U1 T1 : Option Addr} {d1 d2 d3 : Nat} {lo up : List Tm} {us : List Upd} (o : BatO W (news w3 W) [.slice L1 lo.length d1, .slice U1 up.length d2, .slice T1 us.length d3] (lo, (up, us))) (b : Below w.heap.size w W) (hs : w.heap.size + 2 < w3.heap.size) (u0 u1 u2 : Value) :
    BatO (((W.setCell ⟨w.heap.size + 2, 0, none⟩ u0).setCell ⟨w.heap.size + 2, 1, none⟩ u1).setCell ⟨w.heap.size + 2, 2, none⟩ u2) (news w (((W.setCell ⟨w.heap.size + 2, 0, none⟩ u0).setCell ⟨w.heap.size + 2, 1, none⟩ u1).setCell ⟨w.heap.size + 2, 2, none⟩ u2)) [.slice L1 lo.length d1, .slice U1 up.length d2, .slice T1 us.length d3] (lo, (up, us)) ∧ Below w.heap.size w (((W.setCell ⟨w.heap.size + 2, 0, none⟩ u0).setCell ⟨w.heap.size + 2, 1, none⟩ u1).setCell ⟨w.heap.size + 2, 2, none⟩ u2) := by
  have far : ∀ k, w3.heap.size ≤ k → (((W.setCell ⟨w.heap.size + 2, 0, none⟩ u0).setCell ⟨w.heap.size + 2, 1, none⟩ u1).setCell ⟨w.heap.size + 2, 2, none⟩ u2).heap[k]? = W.heap[k]? := fun k hk =>
    (Below.heap_setCell _ _ _ _ (by simp; omega)).trans ((Below.heap_setCell _ _ _ _ (by simp; omega)).trans (Below.heap_setCell _ _ _ _ (by simp; omega)))
  have hsz : (((W.setCell ⟨w.heap.size + 2, 0, none⟩ u0).setCell ⟨w.heap.size + 2, 1, none⟩ u1).setCell ⟨w.heap.size + 2, 2, none⟩ u2).heap.size = W.heap.size := by simp [World.setCell]
  exact ⟨batO.mono (batO.loc o (fun k hk => far k hk.1)) (fun k hk => ⟨by have := hk.1; omega, by rw [hsz]; exact hk.2⟩) (fun k hk => hk.2), bset (bset (bset b (by simp <;> omega) _) (by simp <;> omega) _) (by simp <;> omega) _⟩
set_option maxRecDepth 100000 in
set_option maxHeartbeats 6400000 in
theorem MergeBatches_i (LA UA TA LB UB TB : Option Addr) (lc uc tc ld ud td : Nat) (lo up : List Tm) (us : List Upd) (lo2 up2 : List Tm) (tr : List Upd) (w : World) (h1 : TimesAt w LA lo) (h2 : TimesAt w UA up) (h3 : UpdsAt w TA us) (k1 : TimesAt w LB lo2) (k2 : TimesAt w UB up2) (k3 : UpdsAt w TB tr) (p3 : us.length ≤ tc) (p4 : tr.length ≤ td)
    (n1 : lo.length ≤ 4194304) (n2 : up.length ≤ 4194304) (n3 : us.length ≤ 4194304) (r3 : rowsU us 4194304) (m1 : lo2.length ≤ 4194304) (m2 : up2.length ≤ 4194304) (m3 : tr.length ≤ 4194304) (r4 : rowsU tr 4194304) :
    Calls Try.prog 13 #[.agg #[.slice LA lo.length lc, .slice UA up.length uc, .slice TA us.length tc], .agg #[.slice LB lo2.length ld, .slice UB up2.length ud, .slice TB tr.length td]] w fun e w' => ∃ L1 d1 U1 d2 T1 d3, e = .returned (.tuple #[.agg #[.slice L1 (mrbV (lo, (up, us)) (lo2, (up2, tr))).1.length d1, .slice U1 (mrbV (lo, (up, us)) (lo2, (up2, tr))).2.1.length d2, .slice T1 (mrbV (lo, (up, us)) (lo2, (up2, tr))).2.2.length d3], .bool (mrbOk (lo, (up, us)) (lo2, (up2, tr)))]) ∧
      BatO w' (news w w') [.slice L1 (mrbV (lo, (up, us)) (lo2, (up2, tr))).1.length d1, .slice U1 (mrbV (lo, (up, us)) (lo2, (up2, tr))).2.1.length d2, .slice T1 (mrbV (lo, (up, us)) (lo2, (up2, tr))).2.2.length d3] (mrbV (lo, (up, us)) (lo2, (up2, tr))) ∧ Below w.heap.size w w' := by
  have cx := fun W (hW : Below w.heap.size w W) => merged_i LA UA TA LB UB TB lc uc tc ld ud td lo up us lo2 up2 tr W (h1.below hW) (h2.below hW) (h3.below updR hW) (k1.below hW) (k2.below hW) (k3.below updR hW) p3 p4 n1 n2 n3 r3 m1 m2 m3 r4
  have hml : mrbOk (lo, (up, us)) (lo2, (up2, tr)) = true → (mrgT us tr).length ≤ 4194304 := fun h => by
    simp only [mrbOk, Bool.and_eq_true] at h
    have := (trB_parts h.2).1
    omega
  have hmr : rowsU (mrgT us tr) 4194304 := mrg_rows r3 r4
  have cy := fun (h : mrbOk (lo, (up, us)) (lo2, (up2, tr)) = true) A c W (hW : Below w.heap.size w W) (hx : UpdsAt W A (mrgT us tr)) => batch_i LA UB A lc ud c lo up2 (mrgT us tr) W (h1.below hW) (k2.below hW) hx n1 m2 (hml h) hmr
  cases hok : mrbOk (lo, (up, us)) (lo2, (up2, tr))
  · have HV : mrbV (lo, (up, us)) (lo2, (up2, tr)) = ([], ([], [])) := by simp [mrbV, hok]
    rw [hok] at cx
    rw [HV]
    clear hok cy hml hmr HV
    go_enter Try.func13, Try.ntmps13
    go_wp2_with fail
    refine abs_world (fun W => Below w.heap.size w W ∧ W.heap.size = w.heap.size + 3 ∧ Blk W w.heap.size 26 #[.slice LA lo.length lc, .slice UA up.length uc, .slice TA us.length tc] ∧ Blk W (w.heap.size + 1) 26 #[.slice LB lo2.length ld, .slice UB up2.length ud, .slice TB tr.length td] ∧ Blk W (w.heap.size + 2) 26 #[.slice none 0 0, .slice none 0 0, .slice none 0 0]) ⟨bal (bal (bal (Below.refl _ _) _) _) _, by simp, ((Blk.newAt rfl).alloc _).alloc _, (Blk.newAt (by simp)).alloc _, Blk.newAt (by simp)⟩ ?_
    rintro W0 ⟨hB0, hsz, kA, kB, kR⟩
    refine wp_region_factsQ 7 _ _ [[], [0], [], [2], [0, 1, 2, 3], [0, 1, 2, 3, 4], [0, 1, 2, 3, 4, 5], [0, 1, 2, 3, 4, 5], []]
      [fun v' _ => v' = .agg #[.slice LA lo.length lc, .slice UA up.length uc, .slice TA us.length tc], fun v' _ => v' = .agg #[.slice TA us.length tc, .slice LA lo.length lc, .slice UA up.length uc], fun v' _ => v' = .agg #[.slice LB lo2.length ld, .slice UB up2.length ud, .slice TB tr.length td], fun v' _ => v' = .agg #[.slice TB tr.length td, .slice LB lo2.length ld, .slice UB up2.length ud], MrgR false (mrgT us tr) LA lo.length lc UB up2.length ud, MrgR false (mrgT us tr) LA lo.length lc UB up2.length ud, MrgA false (mrgT us tr) LA lo.length lc UB up2.length ud, fun v' _ => v' = .bool false, AtBlk W0.heap.size 100 #[.slice none 0 0, .slice none 0 0, .slice none 0 0]]
      [some (fun v' _ => v' = .agg #[.slice LA lo.length lc, .slice UA up.length uc, .slice TA us.length tc]), some (fun v' _ => v' = .agg #[.slice TA us.length tc, .slice LA lo.length lc, .slice UA up.length uc]), some (fun v' _ => v' = .agg #[.slice LB lo2.length ld, .slice UB up2.length ud, .slice TB tr.length td]), some (fun v' _ => v' = .agg #[.slice TB tr.length td, .slice LB lo2.length ld, .slice UB up2.length ud]), some (MrgR false (mrgT us tr) LA lo.length lc UB up2.length ud), some (MrgR false (mrgT us tr) LA lo.length lc UB up2.length ud), some (MrgA false (mrgT us tr) LA lo.length lc UB up2.length ud), none, some (AtBlk W0.heap.size 100 #[.slice none 0 0, .slice none 0 0, .slice none 0 0])]
      (by decide) rfl rfl rfl (by kernel_rfl) (by kernel_rfl) rfl ⟨stable_pure _, stable_pure _, stable_pure _, stable_pure _, stable_mrgR _ _ _ _ _ _ _ _, stable_mrgR _ _ _ _ _ _ _ _, stable_mrgA _ _ _ _ _ _ _ _, stable_pure _, stable_atBlk _ _ _, trivial⟩ ?_ ?_
    · refine wf_stepK [] [] (by kernel_rfl) (by kernel_rfl) (fun wf hb hf => ?_) (fun t0 => ?_)
      · refine ⟨?_⟩
        have p0 := (kA.below hb).cell 0
        have p1 := (kA.below hb).cell 1
        have p2 := (kA.below hb).cell 2
        simp at p0 p1 p2
        go_wp2
        exact ⟨rfl, .agg #[.slice LA lo.length lc, .slice UA up.length uc, .slice TA us.length tc], by kernel_rfl, Below.refl _ _, rfl⟩
      refine wf_stepK [0] [fun _ => t0 = .agg #[.slice LA lo.length lc, .slice UA up.length uc, .slice TA us.length tc]] (by kernel_rfl) (by kernel_rfl) (fun wf hb hf => ?_) (fun t1 => ?_)
      · obtain ⟨rfl, -⟩ := hf
        refine ⟨?_⟩
        go_wp2_with (go_at_call 70; refine (boundedOf_i _ _ _ _ _ _ _ _ _ _).mono ?_; rintro e w3 ⟨rfl, hb2⟩)
        exact ⟨rfl, .agg #[.slice TA us.length tc, .slice LA lo.length lc, .slice UA up.length uc], by kernel_rfl, hb2, rfl⟩
      refine wf_stepK [] [] (by kernel_rfl) (by kernel_rfl) (fun wf hb hf => ?_) (fun t2 => ?_)
      · refine ⟨?_⟩
        have p0 := (kB.below hb).cell 0
        have p1 := (kB.below hb).cell 1
        have p2 := (kB.below hb).cell 2
        simp at p0 p1 p2
        go_wp2
        exact ⟨rfl, .agg #[.slice LB lo2.length ld, .slice UB up2.length ud, .slice TB tr.length td], by kernel_rfl, Below.refl _ _, rfl⟩
      refine wf_stepK [2] [fun _ => t2 = .agg #[.slice LB lo2.length ld, .slice UB up2.length ud, .slice TB tr.length td]] (by kernel_rfl) (by kernel_rfl) (fun wf hb hf => ?_) (fun t3 => ?_)
      · obtain ⟨rfl, -⟩ := hf
        refine ⟨?_⟩
        go_wp2_with (go_at_call 70; refine (boundedOf_i _ _ _ _ _ _ _ _ _ _).mono ?_; rintro e w3 ⟨rfl, hb2⟩)
        exact ⟨rfl, .agg #[.slice TB tr.length td, .slice LB lo2.length ld, .slice UB up2.length ud], by kernel_rfl, hb2, rfl⟩
      refine wf_stepK [1, 3] [fun _ => t1 = .agg #[.slice TA us.length tc, .slice LA lo.length lc, .slice UA up.length uc], fun _ => t3 = .agg #[.slice TB tr.length td, .slice LB lo2.length ld, .slice UB up2.length ud]] (by kernel_rfl) (by kernel_rfl) (fun wf hb hf => ?_) (fun t4 => ?_)
      · obtain ⟨rfl, rfl, -⟩ := hf
        refine ⟨?_⟩
        go_wp2_with (go_at_call 71; refine (cx _ (btr hB0 hb)).mono ?_; rintro e w3 ⟨A1, m1, c1, A2, m2, c2, A3, m3, c3, rfl, hX, hb2⟩; have HX := Lib.hid hX; clear hX)
        exact ⟨rfl, .tuple #[.agg #[.slice A1 m1 c1, .slice A2 m2 c2, .slice A3 m3 c3], .bool false], by kernel_rfl, hb2, A1, m1, c1, A2, m2, c2, A3, m3, c3, rfl, (by intro h; first | exact HX.out h | exact HX.out trivial | cases h)⟩
      refine wf_stepK [4] [MrgR false (mrgT us tr) LA lo.length lc UB up2.length ud t4] (by kernel_rfl) (by kernel_rfl) (fun wf hb hf => ?_) (fun t5 => ?_)
      · obtain ⟨⟨A1, m1, c1, A2, m2, c2, A3, m3, c3, rfl, hX⟩, -⟩ := hf
        refine ⟨?_⟩
        go_wp2
        exact ⟨rfl, .tuple #[.agg #[.slice A1 m1 c1, .slice A2 m2 c2, .slice A3 m3 c3], .bool false], by kernel_rfl, Below.refl _ _, A1, m1, c1, A2, m2, c2, A3, m3, c3, rfl, hX⟩
      refine wf_stepK [5] [MrgR false (mrgT us tr) LA lo.length lc UB up2.length ud t5] (by kernel_rfl) (by kernel_rfl) (fun wf hb hf => ?_) (fun t6 => ?_)
      · obtain ⟨⟨A1, m1, c1, A2, m2, c2, A3, m3, c3, rfl, hX⟩, -⟩ := hf
        refine ⟨?_⟩
        go_wp2
        exact ⟨rfl, .agg #[.slice A1 m1 c1, .slice A2 m2 c2, .slice A3 m3 c3], by kernel_rfl, Below.refl _ _, A1, m1, c1, A2, m2, c2, A3, m3, c3, rfl, hX⟩
      refine wf_stepK [5] [MrgR false (mrgT us tr) LA lo.length lc UB up2.length ud t5] (by kernel_rfl) (by kernel_rfl) (fun wf hb hf => ?_) (fun t7 => ?_)
      · obtain ⟨⟨A1, m1, c1, A2, m2, c2, A3, m3, c3, rfl, hX⟩, -⟩ := hf
        refine ⟨?_⟩
        go_wp2
        exact ⟨rfl, .bool false, by kernel_rfl, Below.refl _ _, rfl⟩
      refine wf_stepK [] [] (by kernel_rfl) (by kernel_rfl) (fun wf hb hf => ?_) (fun t8 => ?_)
      · refine ⟨?_⟩
        have hs := hb.size
        go_wp2
        exact ⟨rfl, .pointer (some ⟨wf.heap.size, 0, none⟩), by kernel_rfl, bal (Below.refl _ _) _, wf.heap.size, rfl, (by omega), Blk.newAt rfl⟩
      refine wf_doneK [6, 7, 8] [MrgA false (mrgT us tr) LA lo.length lc UB up2.length ud t6, fun _ => t7 = .bool false, AtBlk W0.heap.size 100 #[.slice none 0 0, .slice none 0 0, .slice none 0 0] t8] (by kernel_rfl) (by kernel_rfl) (fun w9 b9 hf => ?_)
      obtain ⟨⟨A1, m1, c1, A2, m2, c2, A3, m3, c3, rfl, hX⟩, rfl, ⟨g, rfl, hg, kG⟩, -⟩ := hf
      show wpList _ _ _ [_, _] _ _
      refine wpList_frame (by simp [Act.put]; rfl) ?_
      have g0 := kG.cell 0
      have g1 := kG.cell 1
      have g2 := kG.cell 2
      have f0 := kG.frozen 0
      have f1 := kG.frozen 1
      have f2 := kG.frozen 2
      simp at g0 g1 g2
      have hgw : w.heap.size + 3 ≤ g := by omega
      have kG3 := ((kG.set_ 0 (.slice A1 m1 c1)).set_ 1 (.slice A2 m2 c2)).set_ 2 (.slice A3 m3 c3)
      have kR3 := (((kR.below b9).far (p := ⟨g, 0, none⟩) (by simp; omega) (.slice A1 m1 c1)).far (p := ⟨g, 1, none⟩) (by simp; omega) (.slice A2 m2 c2)).far (p := ⟨g, 2, none⟩) (by simp; omega) (.slice A3 m3 c3)
      have B3 := bset (bset (bset (btr hB0 b9) (p := ⟨g, 0, none⟩) (by simp; omega) (.slice A1 m1 c1)) (p := ⟨g, 1, none⟩) (by simp; omega) (.slice A2 m2 c2)) (p := ⟨g, 2, none⟩) (by simp; omega) (.slice A3 m3 c3)
      have kR5 := ((kR3.set_ 0 (.slice none 0 0)).set_ 1 (.slice none 0 0)).set_ 2 (.slice none 0 0)
      have z0 := kR3.cell 0
      have z1 := kR3.cell 1
      have z2 := kR3.cell 2
      have y0 := kR3.frozen 0
      have y1 := kR3.frozen 1
      have y2 := kR3.frozen 2
      have r0 := kR5.cell 0
      have r1 := kR5.cell 1
      have r2 := kR5.cell 2
      simp at z0 z1 z2 r0 r1 r2
      have HR := Lib.hid (And.intro r0 (And.intro r1 r2))
      have HB := Lib.hid B3
      have hne : ¬ w.heap.size + 2 = g := by omega
      have hne' : ¬ g = w.heap.size + 2 := by omega
      clear kG3 kR3 kR5 r0 r1 r2 B3 b9 kG hX kA kB kR hB0 cx
      go_wp2
      exact bodyPost_ret (v := .tuple #[.agg #[.slice none 0 0, .slice none 0 0, .slice none 0 0], .bool false]) (by simp [results, Try.results13, go_sem, HR.out.1, HR.out.2.1, HR.out.2.2]) rfl ⟨none, 0, none, 0, none, 0, rfl, batO_zero _ (fun q hq => hq.2), bset (bset (bset HB.out (by simp <;> omega) _) (by simp <;> omega) _) (by simp <;> omega) _⟩
    · refine doneO_some (fun t0 => ?_)
      refine doneO_some (fun t1 => ?_)
      refine doneO_some (fun t2 => ?_)
      refine doneO_some (fun t3 => ?_)
      refine doneO_some (fun t4 => ?_)
      refine doneO_some (fun t5 => ?_)
      refine doneO_some (fun t6 => ?_)
      refine doneO_none ?_
      refine doneO_some (fun t8 => ?_)
      refine doneO_end [5, 6, 7] [MrgR false (mrgT us tr) LA lo.length lc UB up2.length ud t5, MrgA false (mrgT us tr) LA lo.length lc UB up2.length ud t6, AtBlk W0.heap.size 100 #[.slice none 0 0, .slice none 0 0, .slice none 0 0] t8] (by kernel_rfl) (by kernel_rfl) (fun w9 b9 hf => ?_)
      obtain ⟨⟨A1', m1', c1', A2', m2', c2', A3', m3', c3', rfl, -⟩, ⟨A1, m1, c1, A2, m2, c2, A3, m3, c3, rfl, hX⟩, ⟨g, rfl, hg, kG⟩, -⟩ := hf
      show wpList _ _ _ [_, _, _] _ _
      refine wpList_frame (by simp [Act.put]; rfl) ?_
      have g0 := kG.cell 0
      have g1 := kG.cell 1
      have g2 := kG.cell 2
      have f0 := kG.frozen 0
      have f1 := kG.frozen 1
      have f2 := kG.frozen 2
      simp at g0 g1 g2
      have hgw : w.heap.size + 3 ≤ g := by omega
      have kG3 := ((kG.set_ 0 (.slice A1 m1 c1)).set_ 1 (.slice A2 m2 c2)).set_ 2 (.slice A3 m3 c3)
      have kR3 := (((kR.below b9).far (p := ⟨g, 0, none⟩) (by simp; omega) (.slice A1 m1 c1)).far (p := ⟨g, 1, none⟩) (by simp; omega) (.slice A2 m2 c2)).far (p := ⟨g, 2, none⟩) (by simp; omega) (.slice A3 m3 c3)
      have B3 := bset (bset (bset (btr hB0 b9) (p := ⟨g, 0, none⟩) (by simp; omega) (.slice A1 m1 c1)) (p := ⟨g, 1, none⟩) (by simp; omega) (.slice A2 m2 c2)) (p := ⟨g, 2, none⟩) (by simp; omega) (.slice A3 m3 c3)
      have kR5 := ((kR3.set_ 0 (.slice none 0 0)).set_ 1 (.slice none 0 0)).set_ 2 (.slice none 0 0)
      have z0 := kR3.cell 0
      have z1 := kR3.cell 1
      have z2 := kR3.cell 2
      have y0 := kR3.frozen 0
      have y1 := kR3.frozen 1
      have y2 := kR3.frozen 2
      have r0 := kR5.cell 0
      have r1 := kR5.cell 1
      have r2 := kR5.cell 2
      simp at z0 z1 z2 r0 r1 r2
      have HR := Lib.hid (And.intro r0 (And.intro r1 r2))
      have HB := Lib.hid B3
      have hne : ¬ w.heap.size + 2 = g := by omega
      have hne' : ¬ g = w.heap.size + 2 := by omega
      clear kG3 kR3 kR5 r0 r1 r2 B3 b9 kG hX kA kB kR hB0 cx
      go_wp2
      exact bodyPost_ret (v := .tuple #[.agg #[.slice none 0 0, .slice none 0 0, .slice none 0 0], .bool false]) (by simp [results, Try.results13, go_sem, HR.out.1, HR.out.2.1, HR.out.2.2]) rfl ⟨none, 0, none, 0, none, 0, rfl, batO_zero _ (fun q hq => hq.2), bset (bset (bset HB.out (by simp <;> omega) _) (by simp <;> omega) _) (by simp <;> omega) _⟩
  · have HV : mrbV (lo, (up, us)) (lo2, (up2, tr)) = (lo, (up2, mrgT us tr)) := by simp [mrbV, hok]
    have cy1 := cy hok
    rw [hok] at cx
    rw [HV]
    clear hok cy hml hmr HV
    go_enter Try.func13, Try.ntmps13
    go_wp2_with fail
    refine abs_world (fun W => Below w.heap.size w W ∧ W.heap.size = w.heap.size + 3 ∧ Blk W w.heap.size 26 #[.slice LA lo.length lc, .slice UA up.length uc, .slice TA us.length tc] ∧ Blk W (w.heap.size + 1) 26 #[.slice LB lo2.length ld, .slice UB up2.length ud, .slice TB tr.length td] ∧ Blk W (w.heap.size + 2) 26 #[.slice none 0 0, .slice none 0 0, .slice none 0 0]) ⟨bal (bal (bal (Below.refl _ _) _) _) _, by simp, ((Blk.newAt rfl).alloc _).alloc _, (Blk.newAt (by simp)).alloc _, Blk.newAt (by simp)⟩ ?_
    rintro W0 ⟨hB0, hsz, kA, kB, kR⟩
    refine wp_region_factsQ 7 _ _ [[], [0], [], [2], [0, 1, 2, 3], [0, 1, 2, 3, 4], [0, 1, 2, 3, 4, 5], [0, 1, 2, 3, 4, 5], []]
      [fun v' _ => v' = .agg #[.slice LA lo.length lc, .slice UA up.length uc, .slice TA us.length tc], fun v' _ => v' = .agg #[.slice TA us.length tc, .slice LA lo.length lc, .slice UA up.length uc], fun v' _ => v' = .agg #[.slice LB lo2.length ld, .slice UB up2.length ud, .slice TB tr.length td], fun v' _ => v' = .agg #[.slice TB tr.length td, .slice LB lo2.length ld, .slice UB up2.length ud], MrgR true (mrgT us tr) LA lo.length lc UB up2.length ud, MrgR true (mrgT us tr) LA lo.length lc UB up2.length ud, MrgA true (mrgT us tr) LA lo.length lc UB up2.length ud, fun v' _ => v' = .bool true, AtBlk W0.heap.size 100 #[.slice none 0 0, .slice none 0 0, .slice none 0 0]]
      [some (fun v' _ => v' = .agg #[.slice LA lo.length lc, .slice UA up.length uc, .slice TA us.length tc]), some (fun v' _ => v' = .agg #[.slice TA us.length tc, .slice LA lo.length lc, .slice UA up.length uc]), some (fun v' _ => v' = .agg #[.slice LB lo2.length ld, .slice UB up2.length ud, .slice TB tr.length td]), some (fun v' _ => v' = .agg #[.slice TB tr.length td, .slice LB lo2.length ld, .slice UB up2.length ud]), some (MrgR true (mrgT us tr) LA lo.length lc UB up2.length ud), some (MrgR true (mrgT us tr) LA lo.length lc UB up2.length ud), some (MrgA true (mrgT us tr) LA lo.length lc UB up2.length ud), none, some (AtBlk W0.heap.size 100 #[.slice none 0 0, .slice none 0 0, .slice none 0 0])]
      (by decide) rfl rfl rfl (by kernel_rfl) (by kernel_rfl) rfl ⟨stable_pure _, stable_pure _, stable_pure _, stable_pure _, stable_mrgR _ _ _ _ _ _ _ _, stable_mrgR _ _ _ _ _ _ _ _, stable_mrgA _ _ _ _ _ _ _ _, stable_pure _, stable_atBlk _ _ _, trivial⟩ ?_ ?_
    · refine wf_stepK [] [] (by kernel_rfl) (by kernel_rfl) (fun wf hb hf => ?_) (fun t0 => ?_)
      · refine ⟨?_⟩
        have p0 := (kA.below hb).cell 0
        have p1 := (kA.below hb).cell 1
        have p2 := (kA.below hb).cell 2
        simp at p0 p1 p2
        go_wp2
        exact ⟨rfl, .agg #[.slice LA lo.length lc, .slice UA up.length uc, .slice TA us.length tc], by kernel_rfl, Below.refl _ _, rfl⟩
      refine wf_stepK [0] [fun _ => t0 = .agg #[.slice LA lo.length lc, .slice UA up.length uc, .slice TA us.length tc]] (by kernel_rfl) (by kernel_rfl) (fun wf hb hf => ?_) (fun t1 => ?_)
      · obtain ⟨rfl, -⟩ := hf
        refine ⟨?_⟩
        go_wp2_with (go_at_call 70; refine (boundedOf_i _ _ _ _ _ _ _ _ _ _).mono ?_; rintro e w3 ⟨rfl, hb2⟩)
        exact ⟨rfl, .agg #[.slice TA us.length tc, .slice LA lo.length lc, .slice UA up.length uc], by kernel_rfl, hb2, rfl⟩
      refine wf_stepK [] [] (by kernel_rfl) (by kernel_rfl) (fun wf hb hf => ?_) (fun t2 => ?_)
      · refine ⟨?_⟩
        have p0 := (kB.below hb).cell 0
        have p1 := (kB.below hb).cell 1
        have p2 := (kB.below hb).cell 2
        simp at p0 p1 p2
        go_wp2
        exact ⟨rfl, .agg #[.slice LB lo2.length ld, .slice UB up2.length ud, .slice TB tr.length td], by kernel_rfl, Below.refl _ _, rfl⟩
      refine wf_stepK [2] [fun _ => t2 = .agg #[.slice LB lo2.length ld, .slice UB up2.length ud, .slice TB tr.length td]] (by kernel_rfl) (by kernel_rfl) (fun wf hb hf => ?_) (fun t3 => ?_)
      · obtain ⟨rfl, -⟩ := hf
        refine ⟨?_⟩
        go_wp2_with (go_at_call 70; refine (boundedOf_i _ _ _ _ _ _ _ _ _ _).mono ?_; rintro e w3 ⟨rfl, hb2⟩)
        exact ⟨rfl, .agg #[.slice TB tr.length td, .slice LB lo2.length ld, .slice UB up2.length ud], by kernel_rfl, hb2, rfl⟩
      refine wf_stepK [1, 3] [fun _ => t1 = .agg #[.slice TA us.length tc, .slice LA lo.length lc, .slice UA up.length uc], fun _ => t3 = .agg #[.slice TB tr.length td, .slice LB lo2.length ld, .slice UB up2.length ud]] (by kernel_rfl) (by kernel_rfl) (fun wf hb hf => ?_) (fun t4 => ?_)
      · obtain ⟨rfl, rfl, -⟩ := hf
        refine ⟨?_⟩
        go_wp2_with (go_at_call 71; refine (cx _ (btr hB0 hb)).mono ?_; rintro e w3 ⟨A1, m1, c1, A2, m2, c2, A3, m3, c3, rfl, hX, hb2⟩; have HX := Lib.hid hX; clear hX)
        exact ⟨rfl, .tuple #[.agg #[.slice A1 m1 c1, .slice A2 m2 c2, .slice A3 m3 c3], .bool true], by kernel_rfl, hb2, A1, m1, c1, A2, m2, c2, A3, m3, c3, rfl, (by intro h; first | exact HX.out h | exact HX.out trivial | cases h)⟩
      refine wf_stepK [4] [MrgR true (mrgT us tr) LA lo.length lc UB up2.length ud t4] (by kernel_rfl) (by kernel_rfl) (fun wf hb hf => ?_) (fun t5 => ?_)
      · obtain ⟨⟨A1, m1, c1, A2, m2, c2, A3, m3, c3, rfl, hX⟩, -⟩ := hf
        refine ⟨?_⟩
        go_wp2
        exact ⟨rfl, .tuple #[.agg #[.slice A1 m1 c1, .slice A2 m2 c2, .slice A3 m3 c3], .bool true], by kernel_rfl, Below.refl _ _, A1, m1, c1, A2, m2, c2, A3, m3, c3, rfl, hX⟩
      refine wf_stepK [5] [MrgR true (mrgT us tr) LA lo.length lc UB up2.length ud t5] (by kernel_rfl) (by kernel_rfl) (fun wf hb hf => ?_) (fun t6 => ?_)
      · obtain ⟨⟨A1, m1, c1, A2, m2, c2, A3, m3, c3, rfl, hX⟩, -⟩ := hf
        refine ⟨?_⟩
        go_wp2
        exact ⟨rfl, .agg #[.slice A1 m1 c1, .slice A2 m2 c2, .slice A3 m3 c3], by kernel_rfl, Below.refl _ _, A1, m1, c1, A2, m2, c2, A3, m3, c3, rfl, hX⟩
      refine wf_stepK [5] [MrgR true (mrgT us tr) LA lo.length lc UB up2.length ud t5] (by kernel_rfl) (by kernel_rfl) (fun wf hb hf => ?_) (fun t7 => ?_)
      · obtain ⟨⟨A1, m1, c1, A2, m2, c2, A3, m3, c3, rfl, hX⟩, -⟩ := hf
        refine ⟨?_⟩
        go_wp2
        exact ⟨rfl, .bool true, by kernel_rfl, Below.refl _ _, rfl⟩
      refine wf_stepK [] [] (by kernel_rfl) (by kernel_rfl) (fun wf hb hf => ?_) (fun t8 => ?_)
      · refine ⟨?_⟩
        have hs := hb.size
        go_wp2
        exact ⟨rfl, .pointer (some ⟨wf.heap.size, 0, none⟩), by kernel_rfl, bal (Below.refl _ _) _, wf.heap.size, rfl, (by omega), Blk.newAt rfl⟩
      refine wf_doneK [6, 7, 8] [MrgA true (mrgT us tr) LA lo.length lc UB up2.length ud t6, fun _ => t7 = .bool true, AtBlk W0.heap.size 100 #[.slice none 0 0, .slice none 0 0, .slice none 0 0] t8] (by kernel_rfl) (by kernel_rfl) (fun w9 b9 hf => ?_)
      obtain ⟨⟨A1, m1, c1, A2, m2, c2, A3, m3, c3, rfl, hX⟩, rfl, ⟨g, rfl, hg, kG⟩, -⟩ := hf
      show wpList _ _ _ [_, _] _ _
      refine wpList_frame (by simp [Act.put]; rfl) ?_
      have g0 := kG.cell 0
      have g1 := kG.cell 1
      have g2 := kG.cell 2
      have f0 := kG.frozen 0
      have f1 := kG.frozen 1
      have f2 := kG.frozen 2
      simp at g0 g1 g2
      have hgw : w.heap.size + 3 ≤ g := by omega
      have kG3 := ((kG.set_ 0 (.slice A1 m1 c1)).set_ 1 (.slice A2 m2 c2)).set_ 2 (.slice A3 m3 c3)
      have kR3 := (((kR.below b9).far (p := ⟨g, 0, none⟩) (by simp; omega) (.slice A1 m1 c1)).far (p := ⟨g, 1, none⟩) (by simp; omega) (.slice A2 m2 c2)).far (p := ⟨g, 2, none⟩) (by simp; omega) (.slice A3 m3 c3)
      have B3 := bset (bset (bset (btr hB0 b9) (p := ⟨g, 0, none⟩) (by simp; omega) (.slice A1 m1 c1)) (p := ⟨g, 1, none⟩) (by simp; omega) (.slice A2 m2 c2)) (p := ⟨g, 2, none⟩) (by simp; omega) (.slice A3 m3 c3)
      obtain ⟨rfl, hx, rfl, rfl, rfl, rfl, rfl, rfl⟩ := hX rfl
      have hx3 : UpdsAt (((w9.setCell ⟨g, 0, none⟩ (.slice A1 (mrgT us tr).length c1)).setCell ⟨g, 1, none⟩ (.slice A2 lo.length c2)).setCell ⟨g, 2, none⟩ (.slice A3 up2.length c3)) A1 (mrgT us tr) :=
        UpdsAt.box kG noInt3 ((((GrownS.refl w9 (fun k => k = g)).set_ rfl _).set_ rfl _).set_ rfl _) hx
      have H3 := Lib.hid (And.intro B3 (And.intro kR3 hx3))
      clear kG3 kR3 B3 b9 kG hX kA kB kR hB0 cx hx hx3
      go_wp2_with fail
      refine absI (fun W => Below w.heap.size w W ∧ Blk W (w.heap.size + 2) 26 #[.slice none 0 0, .slice none 0 0, .slice none 0 0] ∧ UpdsAt W A1 (mrgT us tr)) (by simpa using H3.out) ?_
      rintro w3 ⟨B3, kR4, hx⟩
      clear H3 g0 g1 g2 f0 f1 f2
      refine (cy1 A1 c1 w3 B3 hx).mono ?_
      rintro e w4 ⟨L1, d1, U1, d2, T1, d3, rfl, o4, b4⟩
      have kR9 := kR4.below b4
      have g0 := kR9.cell 0
      have g1 := kR9.cell 1
      have g2 := kR9.cell 2
      have f0 := kR9.frozen 0
      have f1 := kR9.frozen 1
      have f2 := kR9.frozen 2
      simp at g0 g1 g2
      have kR5 := ((kR9.set_ 0 (.slice L1 lo.length d1)).set_ 1 (.slice U1 up2.length d2)).set_ 2 (.slice T1 (mrgT us tr).length d3)
      have r0 := kR5.cell 0
      have r1 := kR5.cell 1
      have r2 := kR5.cell 2
      simp at r0 r1 r2
      have HR := Lib.hid (And.intro r0 (And.intro r1 r2))
      have HO := Lib.hid (batO_cell2 (lo := lo) (up := up2) (us := mrgT us tr) o4 (btr B3 b4) (by have := kR4.lt; omega) (.slice L1 lo.length d1) (.slice U1 up2.length d2) (.slice T1 (mrgT us tr).length d3))
      clear kR9 kR4 kR5 r0 r1 r2 o4 b4 B3 hx cy1
      go_wp2
      exact bodyPost_ret (v := .tuple #[.agg #[.slice L1 lo.length d1, .slice U1 up2.length d2, .slice T1 (mrgT us tr).length d3], .bool true]) (by simp [results, Try.results13, go_sem, HR.out.1, HR.out.2.1, HR.out.2.2]) rfl ⟨L1, d1, U1, d2, T1, d3, rfl, HO.out.1, HO.out.2⟩
    · refine doneO_some (fun t0 => ?_)
      refine doneO_some (fun t1 => ?_)
      refine doneO_some (fun t2 => ?_)
      refine doneO_some (fun t3 => ?_)
      refine doneO_some (fun t4 => ?_)
      refine doneO_some (fun t5 => ?_)
      refine doneO_some (fun t6 => ?_)
      refine doneO_none ?_
      refine doneO_some (fun t8 => ?_)
      refine doneO_end [5, 6, 7] [MrgR true (mrgT us tr) LA lo.length lc UB up2.length ud t5, MrgA true (mrgT us tr) LA lo.length lc UB up2.length ud t6, AtBlk W0.heap.size 100 #[.slice none 0 0, .slice none 0 0, .slice none 0 0] t8] (by kernel_rfl) (by kernel_rfl) (fun w9 b9 hf => ?_)
      obtain ⟨⟨A1', m1', c1', A2', m2', c2', A3', m3', c3', rfl, -⟩, ⟨A1, m1, c1, A2, m2, c2, A3, m3, c3, rfl, hX⟩, ⟨g, rfl, hg, kG⟩, -⟩ := hf
      show wpList _ _ _ [_, _, _] _ _
      refine wpList_frame (by simp [Act.put]; rfl) ?_
      have g0 := kG.cell 0
      have g1 := kG.cell 1
      have g2 := kG.cell 2
      have f0 := kG.frozen 0
      have f1 := kG.frozen 1
      have f2 := kG.frozen 2
      simp at g0 g1 g2
      have hgw : w.heap.size + 3 ≤ g := by omega
      have kG3 := ((kG.set_ 0 (.slice A1 m1 c1)).set_ 1 (.slice A2 m2 c2)).set_ 2 (.slice A3 m3 c3)
      have kR3 := (((kR.below b9).far (p := ⟨g, 0, none⟩) (by simp; omega) (.slice A1 m1 c1)).far (p := ⟨g, 1, none⟩) (by simp; omega) (.slice A2 m2 c2)).far (p := ⟨g, 2, none⟩) (by simp; omega) (.slice A3 m3 c3)
      have B3 := bset (bset (bset (btr hB0 b9) (p := ⟨g, 0, none⟩) (by simp; omega) (.slice A1 m1 c1)) (p := ⟨g, 1, none⟩) (by simp; omega) (.slice A2 m2 c2)) (p := ⟨g, 2, none⟩) (by simp; omega) (.slice A3 m3 c3)
      obtain ⟨rfl, hx, rfl, rfl, rfl, rfl, rfl, rfl⟩ := hX rfl
      have hx3 : UpdsAt (((w9.setCell ⟨g, 0, none⟩ (.slice A1 (mrgT us tr).length c1)).setCell ⟨g, 1, none⟩ (.slice A2 lo.length c2)).setCell ⟨g, 2, none⟩ (.slice A3 up2.length c3)) A1 (mrgT us tr) :=
        UpdsAt.box kG noInt3 ((((GrownS.refl w9 (fun k => k = g)).set_ rfl _).set_ rfl _).set_ rfl _) hx
      have H3 := Lib.hid (And.intro B3 (And.intro kR3 hx3))
      clear kG3 kR3 B3 b9 kG hX kA kB kR hB0 cx hx hx3
      go_wp2_with fail
      refine absI (fun W => Below w.heap.size w W ∧ Blk W (w.heap.size + 2) 26 #[.slice none 0 0, .slice none 0 0, .slice none 0 0] ∧ UpdsAt W A1 (mrgT us tr)) (by simpa using H3.out) ?_
      rintro w3 ⟨B3, kR4, hx⟩
      clear H3 g0 g1 g2 f0 f1 f2
      refine (cy1 A1 c1 w3 B3 hx).mono ?_
      rintro e w4 ⟨L1, d1, U1, d2, T1, d3, rfl, o4, b4⟩
      have kR9 := kR4.below b4
      have g0 := kR9.cell 0
      have g1 := kR9.cell 1
      have g2 := kR9.cell 2
      have f0 := kR9.frozen 0
      have f1 := kR9.frozen 1
      have f2 := kR9.frozen 2
      simp at g0 g1 g2
      have kR5 := ((kR9.set_ 0 (.slice L1 lo.length d1)).set_ 1 (.slice U1 up2.length d2)).set_ 2 (.slice T1 (mrgT us tr).length d3)
      have r0 := kR5.cell 0
      have r1 := kR5.cell 1
      have r2 := kR5.cell 2
      simp at r0 r1 r2
      have HR := Lib.hid (And.intro r0 (And.intro r1 r2))
      have HO := Lib.hid (batO_cell2 (lo := lo) (up := up2) (us := mrgT us tr) o4 (btr B3 b4) (by have := kR4.lt; omega) (.slice L1 lo.length d1) (.slice U1 up2.length d2) (.slice T1 (mrgT us tr).length d3))
      clear kR9 kR4 kR5 r0 r1 r2 o4 b4 B3 hx cy1
      go_wp2
      exact bodyPost_ret (v := .tuple #[.agg #[.slice L1 lo.length d1, .slice U1 up2.length d2, .slice T1 (mrgT us tr).length d3], .bool true]) (by simp [results, Try.results13, go_sem, HR.out.1, HR.out.2.1, HR.out.2.2]) rfl ⟨L1, d1, U1, d2, T1, d3, rfl, HO.out.1, HO.out.2⟩
end Go.Proofs.Ythefakiobpijiaa
