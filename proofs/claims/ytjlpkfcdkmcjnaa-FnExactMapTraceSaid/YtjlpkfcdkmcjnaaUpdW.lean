/- HELPER, no statement of the seat: the test of a trace of the program. -/
import Derived.Test.YtjlpkfcdkmcjnaaUpdV
namespace Go.Proofs.Ytjlpkfcdkmcjnaa
open Go.RowKit Go.Sort
set_option linter.unusedSimpArgs false
set_option linter.unusedVariables false

theorem widU_nil : widU ([] : List Upd) = 0 := rfl
theorem widU_get {es : List Upd} (h : 0 < es.length) : widU es = es[0].1.1.length := by rw [widU, nthU_get h]
theorem widthOf_u (A : Option Addr) (c : Nat) (es : List Upd) (w : World) (hx : UpdsAt w A es) (hn : es.length ≤ 4194304) :
    Calls Try.prog 166 #[.slice A es.length c] w fun e w' => e = .returned (.int .i64 (widU es)) ∧ Below w.heap.size w w' := by
  by_cases h0 : es.length = 0
  · obtain rfl := List.eq_nil_of_length_eq_zero h0
    go_enter Try.func166, Try.ntmps166
    go_wp2
    go_ret
    exact ⟨rfl, Below.refl _ _⟩
  · have hp : 0 < es.length := by omega
    have hp' : (0 : Int) < es.length := by omega
    have hne : ((es.length : Int) == 0) = false := by rw [beq_eq_false_iff_ne]; omega
    obtain ⟨b, off, RA, rc, rfl, hbl, hc0, hc1, hc2, hc3, hml, hrow⟩ := hx.get 0 hp
    simp only [Nat.zero_mul, Nat.add_zero] at hc0 hc1 hc2 hc3
    have HW := Lib.hid (widU_get hp)
    have hm := m_rowU
    have hml' : es[0].1.1.length ≤ 9223372036854775807 := hml
    clear h0 hml
    go_enter Try.func166, Try.ntmps166
    go_wp2_with (go_at_call 247; refine (row_u _ _ _ _ _ _ _).mono ?_; rintro e w1 ⟨rfl, hb⟩)
    go_ret
    exact ⟨ret_int (by rw [HW.out]), by assumption⟩

theorem stepU_zero {es : List Upd} {k : Nat} (h : k < es.length) (e : es[k].2 = 0) : stepU es k = false := by simp [stepU, nthU_get h, e]
theorem stepU_wid {es : List Upd} {k : Nat} (h : k < es.length) (e : es[k].1.1.length ≠ widU es) : stepU es k = false := by simp [stepU, nthU_get h, e]
theorem stepU_first {es : List Upd} (h : 0 < es.length) (e : es[0].2 ≠ 0) (e1 : es[0].1.1.length = widU es) : stepU es 0 = true := by simp [stepU, nthU_get h, e, e1]
theorem stepU_next {es : List Upd} {m : Nat} (h : m + 1 < es.length) (e : es[m + 1].2 ≠ 0) (e1 : es[m + 1].1.1.length = widU es) : stepU es (m + 1) = ltU es[m].1 es[m + 1].1 := by simp [stepU, nthU_get h, nthU_get (show m < es.length by omega), e, e1]

set_option maxHeartbeats 1600000 in
theorem isSum_u (A : Option Addr) (c : Nat) (es : List Upd) (w : World) (hx : UpdsAt w A es) (hn : es.length ≤ 4194304) (hr : rowsU es 4194304) :
    Calls Try.prog 146 #[.slice A es.length c] w fun e w' => e = .returned (.bool (ordU es)) ∧ Below w.heap.size w w' := by
  go_enter Try.func146, Try.ntmps146
  go_wp2
  go_loopw [3, 4, 7] (fun _ _ i wr => ∃ k : Nat, k ≤ es.length ∧ i = .int .i64 k ∧ allTo (stepU es) k = true ∧ Below w.heap.size w wr) (fun _ _ i _ => es.length - (intOf i).toNat)
  case atStart => exact ⟨0, by omega, rfl, rfl, Below.refl _ _⟩
  case round =>
    obtain ⟨k, hk, rfl, hall, hbel⟩ := hrel
    have HA := Lib.hid hall
    clear hall
    by_cases hlt : k < es.length
    · have hx' := hx
      obtain ⟨b, off, RA, rc, rfl, hbl, hc0, hc1, hc2, hc3, hml, hrow⟩ := hx'.get k hlt
      have q0 := (hbel.cell (p := ⟨b, off + k * 4, none⟩) hbl).trans hc0
      have q1 := (hbel.cell (p := ⟨b, off + k * 4 + 1, none⟩) hbl).trans hc1
      have q2' := (hbel.cell (p := ⟨b, off + k * 4 + 2, none⟩) hbl).trans hc2
      have q3' := (hbel.cell (p := ⟨b, off + k * 4 + 3, none⟩) hbl).trans hc3
      have hrl := hr.get hlt
      have hm1 := m_isZeroU
      have hm2 := m_rowU
      have hm3 := m_compareU
      have hb0 : Below w.heap.size w (wr.alloc (.cells #[.slice RA es[k].1.1.length rc, .int .i64 es[k].1.2.1, .int .i64 es[k].1.2.2, .int .i64 es[k].2] 102)) := bal hbel _
      have hml' : es[k].1.1.length ≤ 9223372036854775807 := hml
      clear hc0 hc1 hc2 hc3 hml
      by_cases hz : es[k].2 = 0
      · have hz' : (es[k].2 == 0) = true := by simp [hz]
        have HR : Hid (ordU es = false) := allTo_bad hlt (stepU_zero hlt hz)
        clear hz
        go_wp2_with (go_at_call 245; refine (isZero_u _ _ _ _ _).mono ?_; rintro e w1 ⟨rfl, hb⟩)
        go_ret
        exact ⟨ret_bool HR.out.symm, btr hb0 (by assumption)⟩
      have hz' : (es[k].2 == 0) = false := by simp [hz]
      have HZ := Lib.hid hz
      clear hz
      go_wp2_with fail
      refine (isZero_u _ _ _ _ _).mono ?_
      rintro e w1 ⟨rfl, hb⟩
      obtain ⟨hcl, hfr⟩ := bcell hb
      have hB1 := btr hb0 hb
      have hs1 : wr.heap.size + 1 ≤ w1.heap.size := by have := hb.size; simpa using this
      clear hb
      go_wp2_with fail
      refine (row_u _ _ _ _ _ _ _).mono ?_
      rintro e w2 ⟨rfl, hb⟩
      obtain ⟨hcl2, hfr2⟩ := bcell hb
      have hB2 := btr hB1 hb
      have hs2 := hb.size
      clear hb
      go_wp2_with fail
      refine (widthOf_u _ _ _ _ (hx.below updR hB2) hn).mono ?_
      rintro e w3 ⟨rfl, hb⟩
      obtain ⟨hcl3, hfr3⟩ := bcell hb
      have hB3 := btr hB2 hb
      have hs3 := hb.size
      clear hb
      by_cases hw : es[k].1.1.length = widU es
      · have hw' : ((es[k].1.1.length : Int) != (widU es : Int)) = false := by simp [hw]
        have HW := Lib.hid hw
        clear hw
        -- the cells of the element of this round, in the world behind the three calls
        have t0 : w3.cell? ⟨wr.heap.size, 0, none⟩ = some (.slice RA es[k].1.1.length rc) := by rw [hcl3 _ _ (by omega), hcl2 _ _ (by omega), hcl _ _ (by simp)]; simp
        have r0 := cgrow t0
        have t1 : w3.cell? ⟨wr.heap.size, 1, none⟩ = some (.int .i64 es[k].1.2.1) := by rw [hcl3 _ _ (by omega), hcl2 _ _ (by omega), hcl _ _ (by simp)]; simp
        have r1 := cgrow t1
        have t2 : w3.cell? ⟨wr.heap.size, 2, none⟩ = some (.int .i64 es[k].1.2.2) := by rw [hcl3 _ _ (by omega), hcl2 _ _ (by omega), hcl _ _ (by simp)]; simp
        have r2 := cgrow t2
        have t3 : w3.cell? ⟨wr.heap.size, 3, none⟩ = some (.int .i64 es[k].2) := by rw [hcl3 _ _ (by omega), hcl2 _ _ (by omega), hcl _ _ (by simp)]; simp
        have r3 := cgrow t3
        by_cases hk0 : k = 0
        · subst hk0
          have HS : Hid (stepU es 0 = true) := stepU_first hlt HZ.out HW.out
          clear hcl hcl2 hcl3 hfr hfr2 hfr3 t0 t1 t2 t3 q0 q1 q2' q3'
          go_wp2_with fail
          refine wp_region_quiet_below (by kernel_rfl) (by kernel_rfl) ?_
          repeat (go_big_quiet_step (fail))
          refine wpQuiet_nil ?_
          intro w4 hw4
          obtain ⟨⟨dq, osq⟩, rfl⟩ := hw4
          have hbq := btr hB3 (below_regrown w3 dq osq)
          generalize grow (redrawn w3 dq) osq = w5 at hbq
          clear r0 r1 r2 r3
          go_wp2
          go_roundw
          case rel => exact ⟨1, by omega, by go_num, allTo_step HA.out HS.out, hbq⟩
          case measure => simp [intOf]; omega
        · obtain ⟨m, rfl⟩ : ∃ m, k = m + 1 := ⟨k - 1, by omega⟩
          obtain ⟨b', off', RP, pc, hA', hbl', hd0, hd1, hd2, hd3, -, hrow'⟩ := hx'.get m (by omega)
          injection hA' with hA'
          injection hA' with h1 h2
          subst h1
          subst h2
          have hlm : m < es.length := by omega
          have q2 := cgrow ((hB3.cell (p := ⟨b, off + m * 4, none⟩) hbl).trans hd0)
          have q3 := cgrow ((hB3.cell (p := ⟨b, off + m * 4 + 1, none⟩) hbl).trans hd1)
          have q4 := cgrow ((hB3.cell (p := ⟨b, off + m * 4 + 2, none⟩) hbl).trans hd2)
          have q5 := cgrow ((hB3.cell (p := ⟨b, off + m * 4 + 3, none⟩) hbl).trans hd3)
          have hrlm := hr.get hlm
          have e1 : IntKind.i64.wrap ((m : Int) + 1 - 1) = m := by rw [IntKind.wrap_i64]; omega
          have e2 : IntKind.i64.wrap (m : Int) = m := by rw [IntKind.wrap_i64]; omega
          have hpos : (0 : Int) < (m : Int) + 1 := by omega
          have hml2 : (m : Int) < es.length := by omega
          have hcon := fun W' (hW : Below w3.heap.size w3 W') => updCompare_i RP RA pc rc es[m].1.1 es[m + 1].1.1 es[m].1.2.1 es[m].1.2.2 es[m].2 es[m + 1].1.2.1 es[m + 1].1.2.2 es[m + 1].2 W' ((hrow'.below hB3).below hW) ((hrow.below hB3).below hW) hrlm hrl
          clear hcl hcl2 hcl3 hfr hfr2 hfr3 t0 t1 t2 t3 q0 q1 q2' q3' hd0 hd1 hd2 hd3
          by_cases hc : orV (cmpL es[m].1.1 es[m + 1].1.1) (cmpT es[m].1.2.1 es[m].1.2.2 es[m + 1].1.2.1 es[m + 1].1.2.2) < 0
          · have HS : Hid (stepU es (m + 1) = true) := by rw [Hid, stepU_next hlt HZ.out HW.out]; simpa [ltU] using hc
            have hc' : ¬ (0 ≤ orV (cmpL es[m].1.1 es[m + 1].1.1) (cmpT es[m].1.2.1 es[m].1.2.2 es[m + 1].1.2.1 es[m + 1].1.2.2)) := by omega
            go_wp2_with fail
            refine wp_region_quiet_below (by kernel_rfl) (by kernel_rfl) ?_
            repeat (go_big_quiet_step ((go_at_call 243; exact Calls.regrown_of (hcon _ (below_regrown _ _ _)))))
            refine wpQuiet_nil ?_
            intro w4 hw4
            obtain ⟨⟨dq, osq⟩, rfl⟩ := hw4
            have hbq := btr hB3 (below_regrown w3 dq osq)
            generalize grow (redrawn w3 dq) osq = w5 at hbq
            clear r0 r1 r2 r3 q2 q3 q4 q5 hcon
            go_wp2
            go_roundw
            case rel => exact ⟨m + 1 + 1, by omega, by go_num, allTo_step HA.out HS.out, hbq⟩
            case measure => simp [intOf]; omega
          · have HR : Hid (ordU es = false) := allTo_bad hlt (by rw [stepU_next hlt HZ.out HW.out]; simpa [ltU] using hc)
            have hc' : 0 ≤ orV (cmpL es[m].1.1 es[m + 1].1.1) (cmpT es[m].1.2.1 es[m].1.2.2 es[m + 1].1.2.1 es[m + 1].1.2.2) := by omega
            clear hc
            go_wp2_with fail
            refine wp_region_quiet_below (by kernel_rfl) (by kernel_rfl) ?_
            repeat (go_big_quiet_step ((go_at_call 243; exact Calls.regrown_of (hcon _ (below_regrown _ _ _)))))
            refine wpQuiet_nil ?_
            intro w4 hw4
            obtain ⟨⟨dq, osq⟩, rfl⟩ := hw4
            have hbq := btr hB3 (below_regrown w3 dq osq)
            generalize grow (redrawn w3 dq) osq = w5 at hbq
            clear r0 r1 r2 r3 q2 q3 q4 q5 hcon
            go_wp2
            go_ret
            exact ⟨ret_bool HR.out.symm, hbq⟩
      · have hw' : ((es[k].1.1.length : Int) != (widU es : Int)) = true := by rw [bne_iff_ne]; omega
        have HR : Hid (ordU es = false) := allTo_bad hlt (stepU_wid hlt hw)
        clear hw
        go_wp2
        go_ret
        exact ⟨ret_bool HR.out.symm, hB3⟩
    · obtain rfl : k = es.length := by omega
      have HR : Hid (ordU es = true) := HA.out
      go_wp2
      go_ret
      exact ⟨ret_bool HR.out.symm, hbel⟩

set_option maxHeartbeats 400000 in
theorem ValidTrace_i (A : Option Addr) (c : Nat) (es : List Upd) (w : World) (hx : UpdsAt w A es) (hn : es.length ≤ 4194304) (hr : rowsU es 4194304) :
    Calls Try.prog 97 #[.slice A es.length c] w fun e w' => e = .returned (.bool (trB es)) ∧ Below w.heap.size w w' := by
  by_cases h1 : (decide (es.length ≤ 400) && sumsU es) = true
  · have HR : Hid (trB es = ordU es) := by rw [Hid, trB, ← Bool.and_assoc, h1]; simp
    have hcon := areSummands_u A c es w hx hn hr
    rw [h1] at hcon
    clear h1
    go_enter Try.func97, Try.ntmps97
    go_wp2_with fail
    refine hcon.mono ?_
    rintro e w1 ⟨rfl, hb⟩
    clear hcon
    go_wp2_with fail
    refine (isSum_u _ _ _ _ (hx.below updR hb) hn hr).mono ?_
    rintro e w2 ⟨rfl, hb2⟩
    go_wp2_with fail
    go_ret
    exact ⟨ret_bool HR.out.symm, btr hb hb2⟩
  · have h1' : (decide (es.length ≤ 400) && sumsU es) = false := by simpa using h1
    have HR : Hid (trB es = false) := by rw [Hid, trB, ← Bool.and_assoc, h1']; simp
    have hcon := areSummands_u A c es w hx hn hr
    rw [h1'] at hcon
    clear h1 h1'
    go_enter Try.func97, Try.ntmps97
    go_wp2_with fail
    refine hcon.mono ?_
    rintro e w1 ⟨rfl, hb⟩
    clear hcon
    go_wp2_with fail
    go_ret
    exact ⟨ret_bool HR.out.symm, hb⟩

/-! ### The comparison of lists -/
set_option maxHeartbeats 800000 in
theorem eqUpdateS_any (A B : Option Addr) (c d : Nat) (xs ys : List Upd) (w : World) (hx : UpdsAt w A xs) (hy : UpdsAt w B ys) (hn : xs.length ≤ 4194304) (hm : ys.length ≤ 4194304) (hr : rowsU xs 4194304) (hs : rowsU ys 4194304) :
    Calls Try.prog 43 #[.slice A xs.length c, .slice B ys.length d] w fun e w' => e = .returned (.bool (decide (xs = ys))) ∧ Below w.heap.size w w' := by
  by_cases hl : xs.length = ys.length
  · have hb : ((xs.length : Int) != (ys.length : Int)) = false := by simp [hl]
    have HL := Lib.hid hl
    clear hl
    go_enter Try.func43, Try.ntmps43
    go_wp2
    go_loopw [5] (fun i wr => ∃ k : Nat, k ≤ xs.length ∧ i = .int .i64 k ∧ xs.take k = ys.take k ∧ Below w.heap.size w wr) (fun i _ => xs.length - (intOf i).toNat)
    case atStart => exact ⟨0, by omega, rfl, rfl, Below.refl _ _⟩
    case round =>
      obtain ⟨k, hk, rfl, htk, hbel⟩ := hrel
      have HT := Lib.hid htk
      clear htk
      by_cases hlt : k < xs.length
      · have hlt2 : k < ys.length := by have := HL.out; omega
        obtain ⟨b, off, RA, rc, rfl, hbl, hc0, hc1, hc2, hc3, -, hrow⟩ := hx.get k hlt
        obtain ⟨b2, off2, RB, rd, rfl, hbl2, hd0, hd1, hd2, hd3, -, hrow2⟩ := hy.get k hlt2
        have q1 := cgrow ((hbel.cell (p := ⟨b, off + k * 4, none⟩) hbl).trans hc0)
        have q2 := cgrow ((hbel.cell (p := ⟨b, off + k * 4 + 1, none⟩) hbl).trans hc1)
        have q3 := cgrow ((hbel.cell (p := ⟨b2, off2 + k * 4, none⟩) hbl2).trans hd0)
        have q4 := cgrow ((hbel.cell (p := ⟨b2, off2 + k * 4 + 1, none⟩) hbl2).trans hd1)
        have q5 := cgrow ((hbel.cell (p := ⟨b, off + k * 4 + 2, none⟩) hbl).trans hc2)
        have q6 := cgrow ((hbel.cell (p := ⟨b, off + k * 4 + 3, none⟩) hbl).trans hc3)
        have q7 := cgrow ((hbel.cell (p := ⟨b2, off2 + k * 4 + 2, none⟩) hbl2).trans hd2)
        have q8 := cgrow ((hbel.cell (p := ⟨b2, off2 + k * 4 + 3, none⟩) hbl2).trans hd3)
        have hl1 := hr.get hlt
        have hl2 := hs.get hlt2
        clear hc0 hc1 hc2 hc3 hd0 hd1 hd2 hd3
        have hcon := fun W' (hW : Below wr.heap.size wr W') => eqUpdate_any RA RB rc rd xs[k] ys[k] W' ((hrow.below hbel).below hW) ((hrow2.below hbel).below hW) hl1 hl2
        by_cases he : xs[k] = ys[k]
        · have hne : eqU xs[k] ys[k] = true := by simp [eqU, he]
          have HE := Lib.hid he
          clear he
          go_wp2_with fail
          refine wp_region_quiet_below (by kernel_rfl) (by kernel_rfl) ?_
          repeat (go_big_quiet_step (exact Calls.regrown_of (hcon _ (below_regrown _ _ _))))
          refine wpQuiet_nil ?_
          intro w3 hw3
          obtain ⟨⟨dq, osq⟩, rfl⟩ := hw3
          have hbq := below_regrown wr dq osq
          generalize grow (redrawn wr dq) osq = w4 at hbq
          clear q1 q2 q3 q4 q5 q6 q7 q8 hcon
          go_wp2
          go_roundw
          case rel => exact ⟨k + 1, by omega, by go_num, take_eq_stepE hlt hlt2 HT.out HE.out, btr hbel hbq⟩
          case measure => simp [intOf]; omega
        · have hne : eqU xs[k] ys[k] = false := by simp [eqU, he]
          go_wp2_with fail
          refine wp_region_quiet_below (by kernel_rfl) (by kernel_rfl) ?_
          repeat (go_big_quiet_step (exact Calls.regrown_of (hcon _ (below_regrown _ _ _))))
          refine wpQuiet_nil ?_
          intro w3 hw3
          obtain ⟨⟨dq, osq⟩, rfl⟩ := hw3
          have hbq := below_regrown wr dq osq
          generalize grow (redrawn wr dq) osq = w4 at hbq
          clear q1 q2 q3 q4 q5 q6 q7 q8 hcon
          go_wp2
          go_ret
          exact ⟨ret_bool (by simp; rintro rfl; exact he rfl), btr hbel hbq⟩
      · obtain rfl : k = xs.length := by omega
        have hfin : decide (xs = ys) = true := by
          have h1 := HT.out
          have h2 := HL.out
          rw [List.take_length, h2, List.take_length] at h1
          simp [h1]
        have HF := Lib.hid hfin
        clear hfin
        go_wp2
        go_ret
        exact ⟨ret_bool HF.out.symm, hbel⟩
  · have hb : ((xs.length : Int) != (ys.length : Int)) = true := by simp; omega
    have hfin : decide (xs = ys) = false := by simp; rintro rfl; exact hl rfl
    have HF := Lib.hid hfin
    clear hfin
    go_enter Try.func43, Try.ntmps43
    go_wp2
    go_ret
    exact ⟨ret_bool HF.out.symm, Below.refl _ _⟩
end Go.Proofs.Ytjlpkfcdkmcjnaa
