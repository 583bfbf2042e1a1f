/- HELPER, no statement of the seat: several texts in one file. -/
import Derived.Test.YtifjenleoagefaaGreatZba
/- HELPER, no statement of the seat: the program's methods of entries, and its generic tests at entries. -/
namespace Go.Proofs.YtifjenleoagefaaGreat
open Go.RowKit Go.Sort
set_option linter.unusedSimpArgs false
set_option linter.unusedVariables false

theorem isWithin_w (n : Int) (w : World) : Calls Tryz.prog 109 #[.int .i64 n, .int .i64 1000000] w fun e w' => e = .returned (.bool (wtB n)) ∧ w = w' := by
  by_cases h0 : -1000000 ≤ n <;> by_cases h1 : n ≤ 1000000
  all_goals
    go_enter Tryz.func109, Tryz.ntmps109
    go_wp2
    go_ret
    exact ⟨ret_bool (by simp [wtB, inB, *] <;> omega), rfl⟩

theorem isSummand_e (RA : Option Addr) (rc : Nat) (xs : List Int) (x : Int) (w : World) (hx : IntsAt w RA xs) (hn : xs.length ≤ 4194304) :
    Calls Tryz.prog 132 #[.agg #[.slice RA xs.length rc, .int .i64 x]] w fun e w' => e = .returned (.bool (sumE (xs, x))) ∧ Below w.heap.size w w' := by
  have hb0 : Below w.heap.size w (w.alloc (.cells #[.slice RA xs.length rc, .int .i64 x] 33)) := bal (Below.refl _ _) _
  by_cases h1 : rowB xs = true
  · have HR : Hid (sumE (xs, x) = wtB x) := by simp [Hid, sumE, h1]
    go_enter Tryz.func132, Tryz.ntmps132
    go_wp2_with fail
    refine (ValidRow_i _ _ _ _ (hx.below hb0) (by omega)).mono ?_
    rintro e w1 ⟨rfl, hb⟩
    obtain ⟨hc, hf⟩ := bcell hb
    have hB := btr hb0 hb
    clear hb hb0
    go_wp2_with (go_at_call 109; refine (isWithin_w _ _).mono ?_; rintro e w2 ⟨rfl, rfl⟩)
    go_ret
    exact ⟨ret_bool HR.out.symm, hB⟩
  · have h1' : rowB xs = false := by simpa using h1
    have HR : Hid (sumE (xs, x) = false) := by simp [Hid, sumE, h1']
    clear h1
    go_enter Tryz.func132, Tryz.ntmps132
    go_wp2_with fail
    refine (ValidRow_i _ _ _ _ (hx.below hb0) (by omega)).mono ?_
    rintro e w1 ⟨rfl, hb⟩
    have hB := btr hb0 hb
    clear hb hb0
    go_wp2_with fail
    go_ret
    exact ⟨ret_bool HR.out.symm, hB⟩
theorem isZero_e (v : Value) (x : Int) (w : World) :
    Calls Tryz.prog 133 #[.agg #[v, .int .i64 x]] w fun e w' => e = .returned (.bool (x == 0)) ∧ Below w.heap.size w w' := by
  go_enter Tryz.func133, Tryz.ntmps133
  go_wp2
  go_ret
  exact ⟨rfl, bal (Below.refl _ _) _⟩
theorem row_e (RA : Option Addr) (n rc : Nat) (x : Int) (w : World) :
    Calls Tryz.prog 135 #[.agg #[.slice RA n rc, .int .i64 x]] w fun e w' => e = .returned (.slice RA n rc) ∧ Below w.heap.size w w' := by
  go_enter Tryz.func135, Tryz.ntmps135
  go_wp2
  go_ret
  exact ⟨rfl, bal (Below.refl _ _) _⟩
theorem withRow_e (v : Value) (RA : Option Addr) (n rc : Nat) (x : Int) (w : World) :
    Calls Tryz.prog 136 #[.agg #[v, .int .i64 x], .slice RA n rc] w fun e w' => e = .returned (.agg #[.slice RA n rc, .int .i64 x]) ∧ Below w.heap.size w w' := by
  go_enter Tryz.func136, Tryz.ntmps136
  go_wp2
  exact bodyPost_ret (v := .agg #[.slice RA n rc, .int .i64 x]) (by simp [results, Tryz.results136, go_sem]) rfl ⟨rfl, (by repeat (first | exact Below.refl _ _ | refine bal ?_ _ | refine bset ?_ (by simp) _ | refine Below.drew ?_))⟩
theorem compare_e (RA RB : Option Addr) (c d : Nat) (xs ys : List Int) (x y : Int) (w : World) (hx : IntsAt w RA xs) (hy : IntsAt w RB ys) (hn : xs.length ≤ 4194304) (hm : ys.length ≤ 4194304) :
    Calls Tryz.prog 131 #[.agg #[.slice RA xs.length c, .int .i64 x], .agg #[.slice RB ys.length d, .int .i64 y]] w fun e w' => e = .returned (.int .i64 (cmpL xs ys)) ∧ Below w.heap.size w w' := by
  have hb0 : Below w.heap.size w ((w.alloc (.cells #[.slice RA xs.length c, .int .i64 x] 33)).alloc (.cells #[.slice RB ys.length d, .int .i64 y] 33)) := bal (bal (Below.refl _ _) _) _
  go_enter Tryz.func131, Tryz.ntmps131
  go_wp2_with fail
  refine (compare_i _ _ _ _ _ _ _ (hx.below hb0) (hy.below hb0) (by omega) (by omega)).mono ?_
  rintro e w1 ⟨rfl, hb⟩
  go_wp2
  go_ret
  exact ⟨rfl, btr hb0 hb⟩

theorem m_isSummand (v u : Value) (w : World) : (method 246 33 (.agg #[v, u]) "loop.example/dataflow/impl.isSummand").run Tryz.prog w = .ok (132, .agg #[v, u]) w := by kernel_rfl
theorem m_isZero (v u : Value) (w : World) : (method 246 33 (.agg #[v, u]) "loop.example/dataflow/impl.isZero").run Tryz.prog w = .ok (133, .agg #[v, u]) w := by kernel_rfl
theorem m_row (v u : Value) (w : World) : (method 246 33 (.agg #[v, u]) "loop.example/dataflow/impl.row").run Tryz.prog w = .ok (135, .agg #[v, u]) w := by kernel_rfl
theorem m_withRow (v u : Value) (w : World) : (method 246 33 (.agg #[v, u]) "loop.example/dataflow/impl.withRow").run Tryz.prog w = .ok (136, .agg #[v, u]) w := by kernel_rfl
theorem m_compare (v u : Value) (w : World) : (method 246 33 (.agg #[v, u]) "loop.example/dataflow/impl.compare").run Tryz.prog w = .ok (131, .agg #[v, u]) w := by kernel_rfl
theorem m_plus (v u : Value) (w : World) : (method 246 33 (.agg #[v, u]) "loop.example/dataflow/impl.plus").run Tryz.prog w = .ok (134, .agg #[v, u]) w := by kernel_rfl

set_option maxHeartbeats 800000 in
theorem areSummands_e (A : Option Addr) (c : Nat) (es : List Ent) (w : World) (hx : EntsAt w A es) (hn : es.length ≤ 4194304) (hr : rowsIn es 4194304) :
    Calls Tryz.prog 58 #[.slice A es.length c, .int .i64 400] w fun e w' => e = .returned (.bool (decide (es.length ≤ 400) && sumsB es)) ∧ Below w.heap.size w w' := by
  by_cases hbig : 400 < es.length
  · have hb' : (400 : Int) < es.length := by omega
    have HR : Hid ((decide (es.length ≤ 400) && sumsB es) = false) := by simp [Hid]; omega
    go_enter Tryz.func58, Tryz.ntmps58
    go_wp2
    go_ret
    exact ⟨ret_bool HR.out.symm, Below.refl _ _⟩
  have hb' : (es.length : Int) ≤ 400 := by omega
  go_enter Tryz.func58, Tryz.ntmps58
  go_wp2
  go_loopw [6, 13] (fun _ i wr => ∃ k : Nat, k ≤ es.length ∧ i = .int .i64 k ∧ allTo (fun j => sumE (nth es j)) k = true ∧ Below w.heap.size w wr) (fun _ i _ => es.length - (intOf i).toNat)
  case atStart => exact ⟨0, by omega, rfl, rfl, Below.refl _ _⟩
  case round =>
    obtain ⟨k, hk, rfl, hall, hbel⟩ := hrel
    have HA := Lib.hid hall
    clear hall
    by_cases hlt : k < es.length
    · obtain ⟨b, off, RA, rc, rfl, hbl, hc0, hc1, -, hrow⟩ := hx.get k hlt
      have q0 := (hbel.cell (p := ⟨b, off + k * 2, none⟩) hbl).trans hc0
      have q1 := (hbel.cell (p := ⟨b, off + k * 2 + 1, none⟩) hbl).trans hc1
      have hrl := hr.get hlt
      have hm := m_isSummand
      have hb0 : Below w.heap.size w (wr.alloc (.cells #[.slice RA es[k].1.length rc, .int .i64 es[k].2] 33)) := bal hbel _
      have e0 := nth_get hlt
      have HE := Lib.hid e0
      have hcon := isSummand_e RA rc es[k].1 es[k].2 _ (hrow.below hb0) hrl
      clear hc0 hc1 e0
      by_cases hs : sumE es[k] = true
      · rw [show (es[k].1, es[k].2) = es[k] from rfl, hs] at hcon
        have HS := Lib.hid hs
        clear hs
        go_wp2_with fail
        refine hcon.mono ?_
        rintro e w1 ⟨rfl, hb⟩
        have hB := btr hb0 hb
        clear hcon
        go_wp2
        go_roundw
        case rel => exact ⟨k + 1, by omega, by go_num, allTo_step HA.out (by rw [HE.out]; exact HS.out), hB⟩
        case measure => simp [intOf]; omega
      · have hs' : sumE es[k] = false := by simpa using hs
        rw [show (es[k].1, es[k].2) = es[k] from rfl, hs'] at hcon
        have HR : Hid (sumsB es = false) := allTo_bad hlt (by rw [HE.out]; exact hs')
        clear hs hs'
        go_wp2_with fail
        refine hcon.mono ?_
        rintro e w1 ⟨rfl, hb⟩
        have hB := btr hb0 hb
        clear hcon
        go_wp2
        go_ret
        exact ⟨ret_bool (by rw [HR.out]; simp), hB⟩
    · obtain rfl : k = es.length := by omega
      have HR : Hid (sumsB es = true) := HA.out
      go_wp2
      go_ret
      exact ⟨ret_bool (by rw [HR.out]; simp; omega), hbel⟩

theorem wid_nil : wid ([] : List Ent) = 0 := rfl
theorem wid_get {es : List Ent} (h : 0 < es.length) : wid es = es[0].1.length := by rw [wid, nth_get h]
theorem widthOf_e (A : Option Addr) (c : Nat) (es : List Ent) (w : World) (hx : EntsAt w A es) (hn : es.length ≤ 4194304) :
    Calls Tryz.prog 36 #[.slice A es.length c] w fun e w' => e = .returned (.int .i64 (wid es)) ∧ Below w.heap.size w w' := by
  by_cases h0 : es.length = 0
  · obtain rfl := List.eq_nil_of_length_eq_zero h0
    go_enter Tryz.func36, Tryz.ntmps36
    go_wp2
    go_ret
    exact ⟨rfl, Below.refl _ _⟩
  · have hp : 0 < es.length := by omega
    have hp' : (0 : Int) < es.length := by omega
    have hne : ((es.length : Int) == 0) = false := by rw [beq_eq_false_iff_ne]; omega
    obtain ⟨b, off, RA, rc, rfl, hbl, hc0, hc1, hml, hrow⟩ := hx.get 0 hp
    simp only [Nat.zero_mul, Nat.add_zero] at hc0 hc1
    have HW := Lib.hid (wid_get hp)
    have hm := m_row
    have hml' : es[0].1.length ≤ 9223372036854775807 := hml
    clear h0 hml
    go_enter Tryz.func36, Tryz.ntmps36
    go_wp2_with (go_at_call 135; refine (row_e _ _ _ _ _).mono ?_; rintro e w1 ⟨rfl, hb⟩)
    go_ret
    exact ⟨ret_int (by rw [HW.out]), by assumption⟩

theorem stepB_zero {es : List Ent} {k : Nat} (h : k < es.length) (e : es[k].2 = 0) : stepB es k = false := by simp [stepB, nth_get h, e]
theorem stepB_wid {es : List Ent} {k : Nat} (h : k < es.length) (e : es[k].1.length ≠ wid es) : stepB es k = false := by simp [stepB, nth_get h, e]
theorem stepB_first {es : List Ent} (h : 0 < es.length) (e : es[0].2 ≠ 0) (e1 : es[0].1.length = wid es) : stepB es 0 = true := by simp [stepB, nth_get h, e, e1]
theorem stepB_next {es : List Ent} {m : Nat} (h : m + 1 < es.length) (e : es[m + 1].2 ≠ 0) (e1 : es[m + 1].1.length = wid es) : stepB es (m + 1) = lessB es[m].1 es[m + 1].1 := by simp [stepB, nth_get h, nth_get (show m < es.length by omega), e, e1]

set_option maxHeartbeats 1600000 in
theorem isSum_e (A : Option Addr) (c : Nat) (es : List Ent) (w : World) (hx : EntsAt w A es) (hn : es.length ≤ 4194304) (hr : rowsIn es 4194304) :
    Calls Tryz.prog 69 #[.slice A es.length c] w fun e w' => e = .returned (.bool (ordB es)) ∧ Below w.heap.size w w' := by
  go_enter Tryz.func69, Tryz.ntmps69
  go_wp2
  go_loopw [3, 4, 7] (fun _ _ i wr => ∃ k : Nat, k ≤ es.length ∧ i = .int .i64 k ∧ allTo (stepB es) k = true ∧ Below w.heap.size w wr) (fun _ _ i _ => es.length - (intOf i).toNat)
  case atStart => exact ⟨0, by omega, rfl, rfl, Below.refl _ _⟩
  case round =>
    obtain ⟨k, hk, rfl, hall, hbel⟩ := hrel
    have HA := Lib.hid hall
    clear hall
    by_cases hlt : k < es.length
    · have hx' := hx
      obtain ⟨b, off, RA, rc, rfl, hbl, hc0, hc1, hml, hrow⟩ := hx'.get k hlt
      have q0 := (hbel.cell (p := ⟨b, off + k * 2, none⟩) hbl).trans hc0
      have q1 := (hbel.cell (p := ⟨b, off + k * 2 + 1, none⟩) hbl).trans hc1
      have hrl := hr.get hlt
      have hm1 := m_isZero
      have hm2 := m_row
      have hm3 := m_compare
      have hb0 : Below w.heap.size w (wr.alloc (.cells #[.slice RA es[k].1.length rc, .int .i64 es[k].2] 33)) := bal hbel _
      have hml' : es[k].1.length ≤ 9223372036854775807 := hml
      clear hc0 hc1 hml
      by_cases hz : es[k].2 = 0
      · have hz' : (es[k].2 == 0) = true := by simp [hz]
        have HR : Hid (ordB es = false) := allTo_bad hlt (stepB_zero hlt hz)
        clear hz
        go_wp2_with (go_at_call 133; refine (isZero_e _ _ _).mono ?_; rintro e w1 ⟨rfl, hb⟩)
        go_ret
        exact ⟨ret_bool HR.out.symm, btr hb0 (by assumption)⟩
      have hz' : (es[k].2 == 0) = false := by simp [hz]
      have HZ := Lib.hid hz
      clear hz
      go_wp2_with fail
      refine (isZero_e _ _ _).mono ?_
      rintro e w1 ⟨rfl, hb⟩
      obtain ⟨hcl, hfr⟩ := bcell hb
      have hB1 := btr hb0 hb
      have hs1 : wr.heap.size + 1 ≤ w1.heap.size := by have := hb.size; simpa using this
      clear hb
      go_wp2_with fail
      refine (row_e _ _ _ _ _).mono ?_
      rintro e w2 ⟨rfl, hb⟩
      obtain ⟨hcl2, hfr2⟩ := bcell hb
      have hB2 := btr hB1 hb
      have hs2 := hb.size
      clear hb
      go_wp2_with fail
      refine (widthOf_e _ _ _ _ (hx.below entR hB2) hn).mono ?_
      rintro e w3 ⟨rfl, hb⟩
      obtain ⟨hcl3, hfr3⟩ := bcell hb
      have hB3 := btr hB2 hb
      have hs3 := hb.size
      clear hb
      by_cases hw : es[k].1.length = wid es
      · have hw' : ((es[k].1.length : Int) != (wid es : Int)) = false := by simp [hw]
        have HW := Lib.hid hw
        clear hw
        -- the cells of the element of this round, in the world behind the three calls
        have t0 : w3.cell? ⟨wr.heap.size, 0, none⟩ = some (.slice RA es[k].1.length rc) := by rw [hcl3 _ _ (by omega), hcl2 _ _ (by omega), hcl _ _ (by simp)]; simp
        have t1 : w3.cell? ⟨wr.heap.size, 1, none⟩ = some (.int .i64 es[k].2) := by rw [hcl3 _ _ (by omega), hcl2 _ _ (by omega), hcl _ _ (by simp)]; simp
        have r0 := cgrow t0
        have r1 := cgrow t1
        by_cases hk0 : k = 0
        · subst hk0
          have HS : Hid (stepB es 0 = true) := stepB_first hlt HZ.out HW.out
          clear hcl hcl2 hcl3 hfr hfr2 hfr3 t0 t1 q0 q1
          go_wp2_with fail
          refine wp_region_quiet_below (by kernel_rfl) (by kernel_rfl) ?_
          repeat (go_big_quiet_step (fail))
          refine wpQuiet_nil ?_
          intro w4 hw4
          obtain ⟨⟨dq, osq⟩, rfl⟩ := hw4
          have hbq := btr hB3 (below_regrown w3 dq osq)
          generalize grow (redrawn w3 dq) osq = w5 at hbq
          clear r0 r1
          go_wp2
          go_roundw
          case rel => exact ⟨1, by omega, by go_num, allTo_step HA.out HS.out, hbq⟩
          case measure => simp [intOf]; omega
        · obtain ⟨m, rfl⟩ : ∃ m, k = m + 1 := ⟨k - 1, by omega⟩
          obtain ⟨b', off', RP, pc, hA', hbl', hd0, hd1, -, hrow'⟩ := hx'.get m (by omega)
          injection hA' with hA'
          injection hA' with h1 h2
          subst h1
          subst h2
          have hlm : m < es.length := by omega
          have q2 := cgrow ((hB3.cell (p := ⟨b, off + m * 2, none⟩) hbl).trans hd0)
          have q3 := cgrow ((hB3.cell (p := ⟨b, off + m * 2 + 1, none⟩) hbl).trans hd1)
          have hrlm := hr.get hlm
          have e1 : IntKind.i64.wrap ((m : Int) + 1 - 1) = m := by rw [IntKind.wrap_i64]; omega
          have e2 : IntKind.i64.wrap (m : Int) = m := by rw [IntKind.wrap_i64]; omega
          have hpos : (0 : Int) < (m : Int) + 1 := by omega
          have hml2 : (m : Int) < es.length := by omega
          have hcon := fun W' (hW : Below w3.heap.size w3 W') => compare_e RP RA pc rc es[m].1 es[m + 1].1 es[m].2 es[m + 1].2 W' ((hrow'.below hB3).below hW) ((hrow.below hB3).below hW) hrlm hrl
          clear hcl hcl2 hcl3 hfr hfr2 hfr3 t0 t1 q0 q1 hd0 hd1
          by_cases hc : cmpL es[m].1 es[m + 1].1 < 0
          · have HS : Hid (stepB es (m + 1) = true) := by rw [Hid, stepB_next hlt HZ.out HW.out]; simpa [lessB] using hc
            have hc' : ¬ (0 ≤ cmpL es[m].1 es[m + 1].1) := by omega
            go_wp2_with fail
            refine wp_region_quiet_below (by kernel_rfl) (by kernel_rfl) ?_
            repeat (go_big_quiet_step ((go_at_call 131; exact Calls.regrown_of (hcon _ (below_regrown _ _ _)))))
            refine wpQuiet_nil ?_
            intro w4 hw4
            obtain ⟨⟨dq, osq⟩, rfl⟩ := hw4
            have hbq := btr hB3 (below_regrown w3 dq osq)
            generalize grow (redrawn w3 dq) osq = w5 at hbq
            clear r0 r1 q2 q3 hcon
            go_wp2
            go_roundw
            case rel => exact ⟨m + 1 + 1, by omega, by go_num, allTo_step HA.out HS.out, hbq⟩
            case measure => simp [intOf]; omega
          · have HR : Hid (ordB es = false) := allTo_bad hlt (by rw [stepB_next hlt HZ.out HW.out]; simpa [lessB] using hc)
            have hc' : 0 ≤ cmpL es[m].1 es[m + 1].1 := by omega
            clear hc
            go_wp2_with fail
            refine wp_region_quiet_below (by kernel_rfl) (by kernel_rfl) ?_
            repeat (go_big_quiet_step ((go_at_call 131; exact Calls.regrown_of (hcon _ (below_regrown _ _ _)))))
            refine wpQuiet_nil ?_
            intro w4 hw4
            obtain ⟨⟨dq, osq⟩, rfl⟩ := hw4
            have hbq := btr hB3 (below_regrown w3 dq osq)
            generalize grow (redrawn w3 dq) osq = w5 at hbq
            clear r0 r1 q2 q3 hcon
            go_wp2
            go_ret
            exact ⟨ret_bool HR.out.symm, hbq⟩
      · have hw' : ((es[k].1.length : Int) != (wid es : Int)) = true := by rw [bne_iff_ne]; omega
        have HR : Hid (ordB es = false) := allTo_bad hlt (stepB_wid hlt hw)
        clear hw
        go_wp2
        go_ret
        exact ⟨ret_bool HR.out.symm, hB3⟩
    · obtain rfl : k = es.length := by omega
      have HR : Hid (ordB es = true) := HA.out
      go_wp2
      go_ret
      exact ⟨ret_bool HR.out.symm, hbel⟩

set_option maxHeartbeats 400000 in
theorem ValidZSet_i (A : Option Addr) (c : Nat) (es : List Ent) (w : World) (hx : EntsAt w A es) (hn : es.length ≤ 4194304) (hr : rowsIn es 4194304) :
    Calls Tryz.prog 34 #[.slice A es.length c] w fun e w' => e = .returned (.bool (zsB es)) ∧ Below w.heap.size w w' := by
  by_cases h1 : (decide (es.length ≤ 400) && sumsB es) = true
  · have HR : Hid (zsB es = ordB es) := by rw [Hid, zsB, ← Bool.and_assoc, h1]; simp
    have hcon := areSummands_e A c es w hx hn hr
    rw [h1] at hcon
    clear h1
    go_enter Tryz.func34, Tryz.ntmps34
    go_wp2_with fail
    refine hcon.mono ?_
    rintro e w1 ⟨rfl, hb⟩
    clear hcon
    go_wp2_with fail
    refine (isSum_e _ _ _ _ (hx.below entR hb) hn hr).mono ?_
    rintro e w2 ⟨rfl, hb2⟩
    go_wp2_with fail
    go_ret
    exact ⟨ret_bool HR.out.symm, btr hb hb2⟩
  · have h1' : (decide (es.length ≤ 400) && sumsB es) = false := by simpa using h1
    have HR : Hid (zsB es = false) := by rw [Hid, zsB, ← Bool.and_assoc, h1']; simp
    have hcon := areSummands_e A c es w hx hn hr
    rw [h1'] at hcon
    clear h1 h1'
    go_enter Tryz.func34, Tryz.ntmps34
    go_wp2_with fail
    refine hcon.mono ?_
    rintro e w1 ⟨rfl, hb⟩
    clear hcon
    go_wp2_with fail
    go_ret
    exact ⟨ret_bool HR.out.symm, hb⟩
end Go.Proofs.YtifjenleoagefaaGreat

/- HELPER, no statement of the seat: the model's tests and simple functions on lists of entries. -/
namespace Go.Proofs.YtifjenleoagefaaGreat
open Go.RowKit Go.Sort
set_option linter.unusedSimpArgs false
set_option linter.unusedVariables false

theorem inB_below (n : Int) (b : Bool) (h : wtB n = b) (w : World) : Calls Tryz.prog 29 #[.int .i64 n, .int .i64 (-1000000), .int .i64 1000000] w fun e w' => e = .returned (.bool b) ∧ Below w.heap.size w w' :=
  (inRange_any n _ _ w).mono fun e w' ⟨he, hw⟩ => ⟨by rw [he, ← h]; rfl, hw ▸ Below.refl _ _⟩
/-- The test of the model, of one entry. -/
def goodE (es : List Ent) (k : Nat) : Bool := sumE (nth es k) && stepB es k
theorem zsB_good (es : List Ent) : zsB es = (allTo (goodE es) es.length && decide (es.length ≤ 400)) := zsB_all
theorem zsB_bad {es : List Ent} {k : Nat} (h : k < es.length) (hg : goodE es k = false) : zsB es = false := by rw [zsB_good, allTo_bad h hg]; rfl
theorem good_row {es : List Ent} {k : Nat} (h : k < es.length) (e : rowB es[k].1 = false) : goodE es k = false := by simp [goodE, sumE, nth_get h, e]
theorem good_wt {es : List Ent} {k : Nat} (h : k < es.length) (e : wtB es[k].2 = false) : goodE es k = false := by simp [goodE, sumE, nth_get h, e]
theorem good_step {es : List Ent} {k : Nat} (e : stepB es k = false) : goodE es k = false := by simp [goodE, e]
theorem good_ok {es : List Ent} {k : Nat} (h : k < es.length) (e : rowB es[k].1 = true) (e1 : wtB es[k].2 = true) (e2 : stepB es k = true) : goodE es k = true := by simp [goodE, sumE, nth_get h, e, e1, e2]

set_option maxHeartbeats 3200000 in
theorem validZSet_s (A : Option Addr) (c : Nat) (es : List Ent) (w : World) (hx : EntsAt w A es) (hn : es.length ≤ 4194304) (hr : rowsIn es 4194304) :
    Calls Tryz.prog 60 #[.slice A es.length c] w fun e w' => e = .returned (.bool (zsB es)) ∧ Below w.heap.size w w' := by
  go_enter Tryz.func60, Tryz.ntmps60
  go_wp2
  go_loopw [3] (fun i wr => ∃ k : Nat, k ≤ es.length ∧ i = .int .i64 k ∧ allTo (goodE es) k = true ∧ Below w.heap.size w wr) (fun i _ => es.length - (intOf i).toNat)
  case atStart => exact ⟨0, by omega, rfl, rfl, Below.refl _ _⟩
  case round =>
    obtain ⟨k, hk, rfl, hall, hbel⟩ := hrel
    have HA := Lib.hid hall
    clear hall
    by_cases hlt : k < es.length
    · have hx' := hx
      obtain ⟨b, off, RA, rc, rfl, hbl, hc0, hc1, hml, hrow⟩ := hx'.get k hlt
      obtain ⟨b', off', R0, r0, hA', -, hd0, hd1, hml0, -⟩ := hx'.get 0 (by omega)
      injection hA' with hA'
      injection hA' with h1 h2
      subst h1
      subst h2
      simp only [Nat.zero_mul, Nat.add_zero] at hd0 hd1
      have hp : 0 < es.length := by omega
      have hp' : (0 : Int) < es.length := by omega
      have hlt' : (k : Int) < es.length := by omega
      have q0 := cgrow ((hbel.cell (p := ⟨b, off + k * 2, none⟩) hbl).trans hc0)
      have q1 := cgrow ((hbel.cell (p := ⟨b, off + k * 2 + 1, none⟩) hbl).trans hc1)
      have q2 := cgrow ((hbel.cell (p := ⟨b, off, none⟩) hbl).trans hd0)
      have q3 := cgrow ((hbel.cell (p := ⟨b, off + 1, none⟩) hbl).trans hd1)
      have hrl := hr.get hlt
      have hw0 := wid_get hp
      have hrn : es[k].1.length * 8 ≤ 140737488351232 := by omega
      have hcv := fun W' (hW : Below wr.heap.size wr W') => validRow_s RA rc es[k].1 W' ((hrow.below hbel).below hW) hrn
      rw [← hw0] at hd0 q2
      clear hc0 hc1 hd0 hd1 hml hml0 hw0 hrn
      by_cases g1 : rowB es[k].1 = true
      · have hc1 := fun W' hW => (hcv W' hW).mono fun e w' ⟨he, hb⟩ => (⟨by rw [he, g1], hb⟩ : e = Ending.returned (.bool true) ∧ Below W'.heap.size W' w')
        clear hcv
        by_cases g2 : es[k].1.length = wid es
        · have hw' : ((es[k].1.length : Int) != (wid es : Int)) = false := by simp [g2]
          by_cases g3 : es[k].2 = 0
          · have hz : (es[k].2 == 0) = true := by simp [g3]
            have HR := Lib.hid (zsB_bad hlt (good_step (stepB_zero hlt g3)))
            clear g1 g2 g3
            go_wp2_with fail
            refine wp_region_quiet_below (by kernel_rfl) (by kernel_rfl) ?_
            repeat (go_big_quiet_step (first | (go_at_call 82; exact Calls.regrown_of (hc1 _ (below_regrown _ _ _)))))
            refine wpQuiet_nil ?_
            intro wq hwq
            obtain ⟨⟨dq, osq⟩, rfl⟩ := hwq
            have hbq := btr hbel (below_regrown wr dq osq)
            generalize grow (redrawn wr dq) osq = wz at hbq
            clear q0 q1 q2 q3 hc1
            go_wp2
            go_ret
            exact ⟨ret_bool HR.out.symm, hbq⟩
          · have hz : (es[k].2 == 0) = false := by simp [g3]
            by_cases g4 : wtB es[k].2 = true
            · have hc2 := inB_below es[k].2 true g4
              by_cases hk0 : k = 0
              · subst hk0
                have HS := Lib.hid (good_ok hlt g1 g4 (stepB_first hlt g3 g2))
                clear g1 g2 g3 g4
                simp only [Nat.zero_mul, Nat.add_zero] at q0 q1
                clear q2 q3 hw'
                have hw2 : ((es[0].1.length : Int) != (es[0].1.length : Int)) = false := by simp
                go_wp2_with fail
                refine wp_region_quiet_below (by kernel_rfl) (by kernel_rfl) ?_
                repeat (go_big_quiet_step (first | (go_at_call 82; exact Calls.regrown_of (hc1 _ (below_regrown _ _ _))) | (go_at_call 29; exact Calls.regrown_of (hc2 _))))
                refine wpQuiet_nil ?_
                intro wq hwq
                obtain ⟨⟨dq, osq⟩, rfl⟩ := hwq
                have hbq := btr hbel (below_regrown wr dq osq)
                generalize grow (redrawn wr dq) osq = wz at hbq
                clear q0 q1 hc1 hc2
                go_wp2
                go_roundw
                case rel => exact ⟨1, by omega, by go_num, allTo_step HA.out HS.out, hbq⟩
                case measure => simp [intOf]; omega
              · obtain ⟨m, rfl⟩ : ∃ m, k = m + 1 := ⟨k - 1, by omega⟩
                obtain ⟨b', off', RP, pc, hA', -, hd0, hd1, -, hrow'⟩ := hx'.get m (by omega)
                injection hA' with hA'
                injection hA' with h1 h2
                subst h1
                subst h2
                have hlm : m < es.length := by omega
                have q4 := cgrow ((hbel.cell (p := ⟨b, off + m * 2, none⟩) hbl).trans hd0)
                have q5 := cgrow ((hbel.cell (p := ⟨b, off + m * 2 + 1, none⟩) hbl).trans hd1)
                have hrlm := hr.get hlm
                have hb8 : es[m].1.length * 8 ≤ 140737488351232 := by omega
                have hb9 : es[m + 1].1.length * 8 ≤ 140737488351232 := by omega
                have e1 : IntKind.i64.wrap ((m : Int) + 1 - 1) = m := by rw [IntKind.wrap_i64]; omega
                have e2 : IntKind.i64.wrap (m : Int) = m := by rw [IntKind.wrap_i64]; omega
                have hpos : (0 : Int) < (m : Int) + 1 := by omega
                have hml2 : (m : Int) < es.length := by omega
                have hcl := fun W' (hW : Below wr.heap.size wr W') => rowLess_s RP RA pc rc es[m].1 es[m + 1].1 W' ((hrow'.below hbel).below hW) ((hrow.below hbel).below hW) hb8 hb9
                have hst := stepB_next hlt g3 g2
                clear hd0 hd1
                by_cases g5 : lessB es[m].1 es[m + 1].1 = true
                · have hc3 := fun W' hW => (hcl W' hW).mono fun e w' ⟨he, hb⟩ => (⟨by rw [he, g5], hb⟩ : e = Ending.returned (.bool true) ∧ Below W'.heap.size W' w')
                  have HS := Lib.hid (good_ok hlt g1 g4 (hst.trans g5))
                  clear g1 g2 g3 g4 g5 hcl hst
                  go_wp2_with fail
                  refine wp_region_quiet_below (by kernel_rfl) (by kernel_rfl) ?_
                  repeat (go_big_quiet_step (first | (go_at_call 82; exact Calls.regrown_of (hc1 _ (below_regrown _ _ _))) | (go_at_call 29; exact Calls.regrown_of (hc2 _)) | (go_at_call 66; exact Calls.regrown_of (hc3 _ (below_regrown _ _ _)))))
                  refine wpQuiet_nil ?_
                  intro wq hwq
                  obtain ⟨⟨dq, osq⟩, rfl⟩ := hwq
                  have hbq := btr hbel (below_regrown wr dq osq)
                  generalize grow (redrawn wr dq) osq = wz at hbq
                  clear q0 q1 q2 q3 q4 q5 hc1 hc2 hc3
                  go_wp2
                  go_roundw
                  case rel => exact ⟨m + 1 + 1, by omega, by go_num, allTo_step HA.out HS.out, hbq⟩
                  case measure => simp [intOf]; omega
                · have g5' : lessB es[m].1 es[m + 1].1 = false := by simpa using g5
                  have hc3 := fun W' hW => (hcl W' hW).mono fun e w' ⟨he, hb⟩ => (⟨by rw [he, g5'], hb⟩ : e = Ending.returned (.bool false) ∧ Below W'.heap.size W' w')
                  have HR := Lib.hid (zsB_bad hlt (good_step (hst.trans g5')))
                  clear g1 g2 g3 g4 g5 g5' hcl hst
                  go_wp2_with fail
                  refine wp_region_quiet_below (by kernel_rfl) (by kernel_rfl) ?_
                  repeat (go_big_quiet_step (first | (go_at_call 82; exact Calls.regrown_of (hc1 _ (below_regrown _ _ _))) | (go_at_call 29; exact Calls.regrown_of (hc2 _)) | (go_at_call 66; exact Calls.regrown_of (hc3 _ (below_regrown _ _ _)))))
                  refine wpQuiet_nil ?_
                  intro wq hwq
                  obtain ⟨⟨dq, osq⟩, rfl⟩ := hwq
                  have hbq := btr hbel (below_regrown wr dq osq)
                  generalize grow (redrawn wr dq) osq = wz at hbq
                  clear q0 q1 q2 q3 q4 q5 hc1 hc2 hc3
                  go_wp2
                  go_ret
                  exact ⟨ret_bool HR.out.symm, hbq⟩
            · have g4' : wtB es[k].2 = false := by simpa using g4
              have hc2 := inB_below es[k].2 false g4'
              have HR := Lib.hid (zsB_bad hlt (good_wt hlt g4'))
              clear g1 g2 g3 g4 g4'
              go_wp2_with fail
              refine wp_region_quiet_below (by kernel_rfl) (by kernel_rfl) ?_
              repeat (go_big_quiet_step (first | (go_at_call 82; exact Calls.regrown_of (hc1 _ (below_regrown _ _ _))) | (go_at_call 29; exact Calls.regrown_of (hc2 _))))
              refine wpQuiet_nil ?_
              intro wq hwq
              obtain ⟨⟨dq, osq⟩, rfl⟩ := hwq
              have hbq := btr hbel (below_regrown wr dq osq)
              generalize grow (redrawn wr dq) osq = wz at hbq
              clear q0 q1 q2 q3 hc1 hc2
              go_wp2
              go_ret
              exact ⟨ret_bool HR.out.symm, hbq⟩
        · have hw' : ((es[k].1.length : Int) != (wid es : Int)) = true := by rw [bne_iff_ne]; omega
          have HR := Lib.hid (zsB_bad hlt (good_step (stepB_wid hlt g2)))
          clear g1 g2
          go_wp2_with fail
          refine wp_region_quiet_below (by kernel_rfl) (by kernel_rfl) ?_
          repeat (go_big_quiet_step (first | (go_at_call 82; exact Calls.regrown_of (hc1 _ (below_regrown _ _ _)))))
          refine wpQuiet_nil ?_
          intro wq hwq
          obtain ⟨⟨dq, osq⟩, rfl⟩ := hwq
          have hbq := btr hbel (below_regrown wr dq osq)
          generalize grow (redrawn wr dq) osq = wz at hbq
          clear q0 q1 q2 q3 hc1
          go_wp2
          go_ret
          exact ⟨ret_bool HR.out.symm, hbq⟩
      · have g1' : rowB es[k].1 = false := by simpa using g1
        have hc1 := fun W' hW => (hcv W' hW).mono fun e w' ⟨he, hb⟩ => (⟨by rw [he, g1'], hb⟩ : e = Ending.returned (.bool false) ∧ Below W'.heap.size W' w')
        have HR := Lib.hid (zsB_bad hlt (good_row hlt g1'))
        clear g1 g1' hcv
        go_wp2_with fail
        refine wp_region_quiet_below (by kernel_rfl) (by kernel_rfl) ?_
        repeat (go_big_quiet_step (first | (go_at_call 82; exact Calls.regrown_of (hc1 _ (below_regrown _ _ _)))))
        refine wpQuiet_nil ?_
        intro wq hwq
        obtain ⟨⟨dq, osq⟩, rfl⟩ := hwq
        have hbq := btr hbel (below_regrown wr dq osq)
        generalize grow (redrawn wr dq) osq = wz at hbq
        clear q0 q1 q2 q3 hc1
        go_wp2
        go_ret
        exact ⟨ret_bool HR.out.symm, hbq⟩
    · obtain rfl : k = es.length := by omega
      have HF : Hid (zsB es = decide (es.length ≤ 400)) := by rw [Hid, zsB_good, HA.out]; rfl
      go_wp2
      go_ret
      exact ⟨ret_bool (by rw [HF.out]; by_cases h : es.length ≤ 400 <;> simp [h] <;> omega), hbel⟩
end Go.Proofs.YtifjenleoagefaaGreat

/- HELPER, no statement of the seat: sets, weights: both sides. -/
namespace Go.Proofs.YtifjenleoagefaaGreat
open Go.RowKit Go.Sort
set_option linter.unusedSimpArgs false
set_option linter.unusedVariables false

set_option maxHeartbeats 400000 in
theorem equalInts_s (A B : Option Addr) (c d : Nat) (xs ys : List Int) (w : World) (hx : IntsAt w A xs) (hy : IntsAt w B ys) (hn : xs.length * 8 ≤ 140737488351232) (hm : ys.length * 8 ≤ 140737488351232) :
    Calls Tryz.prog 67 #[.slice A xs.length c, .slice B ys.length d] w fun e w' => e = .returned (.bool (decide (xs = ys))) ∧ Below w.heap.size w w' := by
  by_cases hl : xs.length = ys.length
  · have hb : ((xs.length : Int) != (ys.length : Int)) = false := by simp [hl]
    have HL := Lib.hid hl
    clear hl
    go_enter Tryz.func67, Tryz.ntmps67
    go_wp2
    go_loopw [5] (fun i wr => ∃ k : Nat, k ≤ xs.length ∧ i = .int .i64 k ∧ xs.take k = ys.take k ∧ Below w.heap.size w wr) (fun i _ => xs.length - (intOf i).toNat)
    case atStart => exact ⟨0, by omega, rfl, rfl, Below.refl _ _⟩
    case round =>
      obtain ⟨k, hk, rfl, htk, hbel⟩ := hrel
      have HT := Lib.hid htk
      clear htk
      by_cases hlt : k < xs.length
      · have hlt2 : k < ys.length := by have := HL.out; omega
        obtain ⟨b, off, rfl, hbl, hc⟩ := hx (by omega)
        obtain ⟨b2, off2, rfl, hbl2, hc2⟩ := hy (by omega)
        have hck : wr.cell? ⟨b, off + k, none⟩ = some (.int .i64 xs[k]) := (hbel.cell (p := ⟨b, off + k, none⟩) hbl).trans (by rw [hc k hlt]; simp [hlt])
        have hck2 : wr.cell? ⟨b2, off2 + k, none⟩ = some (.int .i64 ys[k]) := (hbel.cell (p := ⟨b2, off2 + k, none⟩) hbl2).trans (by rw [hc2 k hlt2]; simp [hlt2])
        clear hc hc2
        by_cases he : xs[k] = ys[k]
        · have hne : (xs[k] != ys[k]) = false := by simp [he]
          have HE := Lib.hid he
          clear he
          go_wp2_with fail
          go_quiet (fail)
          go_wp2
          go_roundw
          case rel => exact ⟨k + 1, by omega, by go_num, take_eq_step hlt hlt2 HT.out HE.out, bdn hbel _⟩
          case measure => simp [intOf]; omega
        · have hne : (xs[k] != ys[k]) = true := by simp [he]
          go_wp2_with fail
          go_quiet (fail)
          go_wp2
          go_ret
          exact ⟨ret_bool (by simp; rintro rfl; exact he rfl), bdn hbel _⟩
      · obtain rfl : k = xs.length := by omega
        have hfin : decide (xs = ys) = true := by
          have h1 := HT.out
          have h2 := HL.out
          rw [List.take_length, h2, List.take_length] at h1
          simp [h1]
        have HF := Lib.hid hfin
        clear hfin
        go_wp2
        go_ret
        exact ⟨ret_bool HF.out.symm, hbel⟩
  · have hb : ((xs.length : Int) != (ys.length : Int)) = true := by simp; omega
    have hfin : decide (xs = ys) = false := by simp; rintro rfl; exact hl rfl
    have HF := Lib.hid hfin
    clear hfin
    go_enter Tryz.func67, Tryz.ntmps67
    go_wp2
    go_ret
    exact ⟨ret_bool HF.out.symm, Below.refl _ _⟩


theorem cmpL_zero : ∀ {xs ys : List Int}, cmpL xs ys = 0 ↔ xs = ys
  | [], [] => by simp [cmpL]
  | [], _ :: _ => by simp [cmpL]
  | _ :: _, [] => by simp [cmpL]
  | a :: xs, b :: ys => by
    unfold cmpL
    by_cases h : cmpI a b = 0
    · rw [if_pos h, cmpL_zero]
      have := (cmpI_zero a b).1 h
      subst this
      simp
    · rw [if_neg h]
      constructor
      · intro e; exact absurd e h
      · intro e
        injection e with e1 e2
        exact absurd ((cmpI_zero a b).2 e1) h
theorem one_get {z : List Ent} {k : Nat} (h : k < z.length) : decide ((nth z k).2 = 1) = decide (z[k].2 = 1) := by rw [nth_get h]
theorem setB_bad {z : List Ent} {k : Nat} (h : k < z.length) (e : z[k].2 ≠ 1) : oneB z = false := allTo_bad h (by rw [one_get h]; simp [e])

set_option maxHeartbeats 400000 in
theorem isSet_s (A : Option Addr) (c : Nat) (es : List Ent) (w : World) (hx : EntsAt w A es) (hn : es.length ≤ 4194304) :
    Calls Tryz.prog 61 #[.slice A es.length c] w fun e w' => e = .returned (.bool (oneB es)) ∧ Below w.heap.size w w' := by
  go_enter Tryz.func61, Tryz.ntmps61
  go_wp2
  go_loopw [3] (fun i wr => ∃ k : Nat, k ≤ es.length ∧ i = .int .i64 k ∧ allTo (fun j => decide ((nth es j).2 = 1)) k = true ∧ w = wr) (fun i _ => es.length - (intOf i).toNat)
  case atStart => exact ⟨0, by omega, rfl, rfl, rfl⟩
  case round =>
    obtain ⟨k, hk, rfl, hall, rfl⟩ := hrel
    have HA := Lib.hid hall
    clear hall
    by_cases hlt : k < es.length
    · obtain ⟨b, off, RA, rc, rfl, hbl, hc0, hc1, -, -⟩ := hx.get k hlt
      by_cases h1 : es[k].2 = 1
      · have hne : (es[k].2 != 1) = false := by simp [h1]
        have HS := Lib.hid (allTo_step HA.out (by rw [one_get hlt]; simp [h1]))
        clear h1
        go_wp2
        go_roundw
        case rel => exact ⟨k + 1, by omega, by go_num, HS.out, by trivial⟩
        case measure => simp [intOf]; omega
      · have hne : (es[k].2 != 1) = true := by simp [h1]
        have HR := Lib.hid (setB_bad hlt h1)
        clear h1
        go_wp2
        go_ret
        exact ⟨ret_bool HR.out.symm, Below.refl _ _⟩
    · obtain rfl : k = es.length := by omega
      have HR : Hid (oneB es = true) := HA.out
      go_wp2
      go_ret
      exact ⟨ret_bool HR.out.symm, Below.refl _ _⟩
set_option maxHeartbeats 400000 in
theorem IsSet_i (A : Option Addr) (c : Nat) (es : List Ent) (w : World) (hx : EntsAt w A es) (hn : es.length ≤ 4194304) (hr : rowsIn es 4194304) :
    Calls Tryz.prog 32 #[.slice A es.length c] w fun e w' => e = .returned (.bool (setB es)) ∧ Below w.heap.size w w' := by
  go_enter Tryz.func32, Tryz.ntmps32
  go_wp2
  go_loopw [4, 7] (fun _ i wr => ∃ k : Nat, k ≤ es.length ∧ i = .int .i64 k ∧ allTo (fun j => decide ((nth es j).2 = 1)) k = true ∧ Below w.heap.size w wr) (fun _ i _ => es.length - (intOf i).toNat)
  case atStart => exact ⟨0, by omega, rfl, rfl, Below.refl _ _⟩
  case round =>
    obtain ⟨k, hk, rfl, hall, hbel⟩ := hrel
    have HA := Lib.hid hall
    clear hall
    by_cases hlt : k < es.length
    · obtain ⟨b, off, RA, rc, rfl, hbl, hc0, hc1, -, -⟩ := hx.get k hlt
      have q0 := (hbel.cell (p := ⟨b, off + k * 2, none⟩) hbl).trans hc0
      have q1 := (hbel.cell (p := ⟨b, off + k * 2 + 1, none⟩) hbl).trans hc1
      have hb0 : Below w.heap.size w (wr.alloc (.cells #[.slice RA es[k].1.length rc, .int .i64 es[k].2] 33)) := bal hbel _
      clear hc0 hc1
      by_cases h1 : es[k].2 = 1
      · have hne : (es[k].2 != 1) = false := by simp [h1]
        have HS := Lib.hid (allTo_step HA.out (by rw [one_get hlt]; simp [h1]))
        clear h1
        go_wp2
        go_roundw
        case rel => exact ⟨k + 1, by omega, by go_num, HS.out, hb0⟩
        case measure => simp [intOf]; omega
      · have hne : (es[k].2 != 1) = true := by simp [h1]
        have HR : Hid (setB es = false) := by rw [Hid, setB, setB_bad hlt h1]; simp
        clear h1
        go_wp2
        go_ret
        exact ⟨ret_bool HR.out.symm, hb0⟩
    · obtain rfl : k = es.length := by omega
      have HR : Hid (setB es = zsB es) := by rw [Hid, setB, show oneB es = true from HA.out]; simp
      go_wp2_with (go_at_call 34; refine (ValidZSet_i _ _ _ _ (hx.below entR hbel) hn hr).mono ?_; rintro e w1 ⟨rfl, hb⟩)
      go_ret
      exact ⟨ret_bool HR.out.symm, btr hbel hb⟩

theorem tot_step {es : List Ent} (hz : zsB es = true) {k : Nat} (h : k < es.length) :
    totW (es.take (k + 1)) = totW (es.take k) + es[k].2 ∧ -1000000 * (k : Int) ≤ totW (es.take k) ∧ totW (es.take k) ≤ 1000000 * k ∧ -1000000 ≤ es[k].2 ∧ es[k].2 ≤ 1000000 ∧ (k : Int) ≤ 400 := by
  have hb := totW_bd (z := es) (fun e he => by
    obtain ⟨j, hj, rfl⟩ := List.getElem_of_mem he
    exact zsB_wt hz hj) k
  have := zsB_len hz
  exact ⟨totW_step h, hb.1, hb.2, (zsB_wt hz h).1, (zsB_wt hz h).2, by omega⟩
set_option maxHeartbeats 400000 in
theorem weightOf_s (A : Option Addr) (c : Nat) (es : List Ent) (B : Option Addr) (d : Nat) (r : List Int) (w : World) (hx : EntsAt w A es) (hy : IntsAt w B r) (hn : es.length ≤ 4194304) (hr : rowsIn es 4194304) (hm : r.length ≤ 4194304) :
    Calls Tryz.prog 84 #[.slice A es.length c, .slice B r.length d] w fun e w' => e = .returned (.int .i64 (wOf es r)) ∧ Below w.heap.size w w' := by
  go_enter Tryz.func84, Tryz.ntmps84
  go_wp2
  go_loopw [5] (fun i wr => ∃ k : Nat, k ≤ es.length ∧ i = .int .i64 k ∧ noneTo es r k ∧ Below w.heap.size w wr) (fun i _ => es.length - (intOf i).toNat)
  case atStart => exact ⟨0, by omega, rfl, noneTo_zero _ _, Below.refl _ _⟩
  case round =>
    obtain ⟨k, hk, rfl, hno, hbel⟩ := hrel
    have HN := Lib.hid hno
    clear hno
    by_cases hlt : k < es.length
    · obtain ⟨b, off, RA, rc, rfl, hbl, hc0, hc1, -, hrow⟩ := hx.get k hlt
      have q0 := (hbel.cell (p := ⟨b, off + k * 2, none⟩) hbl).trans hc0
      have q1 := (hbel.cell (p := ⟨b, off + k * 2 + 1, none⟩) hbl).trans hc1
      have hrl := hr.get hlt
      have hcon := equalInts_s RA B rc d es[k].1 r wr (hrow.below hbel) (hy.below hbel) (by omega) (by omega)
      clear hc0 hc1
      by_cases he : es[k].1 = r
      · have HR := Lib.hid (wOf_hit HN.out hlt he)
        rw [show decide (es[k].1 = r) = true by simp [he]] at hcon
        clear he
        go_wp2_with fail
        refine hcon.mono ?_
        rintro e w1 ⟨rfl, hb⟩
        have q2 := (hb.cell (p := ⟨b, off + k * 2 + 1, none⟩) (Nat.lt_of_lt_of_le hbl hbel.size)).trans q1
        clear hcon q0 q1
        go_wp2
        go_ret
        exact ⟨ret_int HR.out.symm, btr hbel hb⟩
      · have HS := Lib.hid (noneTo_step HN.out hlt he)
        rw [show decide (es[k].1 = r) = false by simp [he]] at hcon
        clear he
        go_wp2_with fail
        refine hcon.mono ?_
        rintro e w1 ⟨rfl, hb⟩
        clear hcon q0 q1
        go_wp2
        go_roundw
        case rel => exact ⟨k + 1, by omega, by go_num, HS.out, btr hbel hb⟩
        case measure => simp [intOf]; omega
    · obtain rfl : k = es.length := by omega
      have HR := Lib.hid (wOf_none HN.out)
      go_wp2
      go_ret
      exact ⟨ret_int HR.out.symm, hbel⟩
set_option maxHeartbeats 400000 in
theorem WeightOf_i (A : Option Addr) (c : Nat) (es : List Ent) (B : Option Addr) (d : Nat) (r : List Int) (w : World) (hx : EntsAt w A es) (hy : IntsAt w B r) (hn : es.length ≤ 4194304) (hr : rowsIn es 4194304) (hm : r.length ≤ 4194304) :
    Calls Tryz.prog 11 #[.slice A es.length c, .slice B r.length d] w fun e w' => e = .returned (.int .i64 (WeightF es r)) ∧ Below w.heap.size w w' := by
  have hcon := ValidZSet_i A c es w hx hn hr
  by_cases h : zsB es = true
  · have HR : Hid (WeightF es r = wOf es r) := by simp [Hid, WeightF, h]
    rw [h] at hcon
    clear h
    go_enter Tryz.func11, Tryz.ntmps11
    go_wp2_with fail
    refine hcon.mono ?_
    rintro e w1 ⟨rfl, hb⟩
    clear hcon
    go_wp2
    go_loopw [6, 12] (fun _ i wr => ∃ k : Nat, k ≤ es.length ∧ i = .int .i64 k ∧ noneTo es r k ∧ Below w.heap.size w wr) (fun _ i _ => es.length - (intOf i).toNat)
    case atStart => exact ⟨0, by omega, rfl, noneTo_zero _ _, hb⟩
    case round =>
      obtain ⟨k, hk, rfl, hno, hbel⟩ := hrel
      have HN := Lib.hid hno
      clear hno
      by_cases hlt : k < es.length
      · obtain ⟨b, off, RA, rc, rfl, hbl, hc0, hc1, -, hrow⟩ := hx.get k hlt
        have q0 := (hbel.cell (p := ⟨b, off + k * 2, none⟩) hbl).trans hc0
        have q1 := (hbel.cell (p := ⟨b, off + k * 2 + 1, none⟩) hbl).trans hc1
        have hrl := hr.get hlt
        have hb0 : Below w.heap.size w (wr.alloc (.cells #[.slice RA es[k].1.length rc, .int .i64 es[k].2] 33)) := bal hbel _
        have hcon := compare_i RA B rc d es[k].1 r _ (hrow.below hb0) (hy.below hb0) (by omega) (by omega)
        clear hc0 hc1
        by_cases he : es[k].1 = r
        · have HW := Lib.hid (wOf_hit HN.out hlt he)
          have hz : (cmpL es[k].1 r == 0) = true := by simp [cmpL_zero, he]
          clear he
          go_wp2_with fail
          refine hcon.mono ?_
          rintro e w1 ⟨rfl, hb⟩
          obtain ⟨hcl, hfr⟩ := bcell hb
          have hB := btr hb0 hb
          clear hcon q0 q1 hb
          go_wp2
          go_ret
          exact ⟨ret_int (by rw [HR.out, HW.out]), hB⟩
        · have HS := Lib.hid (noneTo_step HN.out hlt he)
          have hz : (cmpL es[k].1 r == 0) = false := by rw [beq_eq_false_iff_ne]; exact fun e => he (cmpL_zero.1 e)
          clear he
          go_wp2_with fail
          refine hcon.mono ?_
          rintro e w1 ⟨rfl, hb⟩
          clear hcon q0 q1
          go_wp2
          go_roundw
          case rel => exact ⟨k + 1, by omega, by go_num, HS.out, btr hb0 hb⟩
          case measure => simp [intOf]; omega
      · obtain rfl : k = es.length := by omega
        have HW := Lib.hid (wOf_none HN.out)
        go_wp2
        go_ret
        exact ⟨ret_int (by rw [HR.out, HW.out]), hbel⟩
  · have h' : zsB es = false := by simpa using h
    have HR : Hid (WeightF es r = 0) := by simp [Hid, WeightF, h']
    rw [h'] at hcon
    clear h h'
    go_enter Tryz.func11, Tryz.ntmps11
    go_wp2_with fail
    refine hcon.mono ?_
    rintro e w1 ⟨rfl, hb⟩
    clear hcon
    go_wp2_with fail
    go_ret
    exact ⟨ret_int HR.out.symm, hb⟩
end Go.Proofs.YtifjenleoagefaaGreat
