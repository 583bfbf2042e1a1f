/- HELPER, no statement of the seat: the model's test of a trace. -/
import Derived.Test.YtjlpkfcdkmcjnaaUpdW
import Derived.Test.YtjlpkfcdkmcjnaaEntF
namespace Go.Proofs.Ytjlpkfcdkmcjnaa
open Go.RowKit Go.Sort
set_option linter.unusedSimpArgs false
set_option linter.unusedVariables false

theorem cmpT_lt (x y u v : Int) : decide (cmpT x y u v < 0) = bfB x y u v := by
  unfold cmpT orV bfB cmpI
  by_cases h1 : x < u <;> by_cases h2 : u < x <;> by_cases h3 : y < v <;> by_cases h4 : v < y <;> simp [h1, h2, h3, h4] <;> omega
theorem ltU_eq (x y : List Int × (Int × Int)) : ltU x y = (lessB x.1 y.1 || (decide (x.1 = y.1) && bfB x.2.1 x.2.2 y.2.1 y.2.2)) := by
  by_cases h : cmpL x.1 y.1 = 0
  · have he : decide (x.1 = y.1) = true := by simpa using cmpL_zero.1 h
    rw [← cmpT_lt, he, ltU, lessB, orV, if_pos h, h]
    simp
  · have hne : decide (x.1 = y.1) = false := by simpa using fun e => h (cmpL_zero.2 e)
    rw [hne, ltU, lessB, orV, if_neg h]
    simp
theorem inB_below2 (n : Int) (w : World) : Calls Try.prog 86 #[.int .i64 n, .int .i64 (-1000000), .int .i64 1000000] w fun e w' => e = .returned (.bool (wtB n)) ∧ w = w' :=
  (inRange_any n _ _ w).mono fun e w' ⟨he, hw⟩ => ⟨by rw [he]; rfl, hw⟩

set_option maxHeartbeats 800000 in
theorem validUpdate_s (RA : Option Addr) (rc : Nat) (xs : List Int) (p q x : Int) (w : World) (hx : IntsAt w RA xs) (hn : xs.length ≤ 4194304) :
    Calls Try.prog 141 #[.agg #[.slice RA xs.length rc, .int .i64 p, .int .i64 q, .int .i64 x]] w fun e w' => e = .returned (.bool (sumU ((xs, (p, q)), x))) ∧ Below w.heap.size w w' := by
  have hb0 : Below w.heap.size w (w.alloc (.cells #[.slice RA xs.length rc, .int .i64 p, .int .i64 q, .int .i64 x] 102)) := bal (Below.refl _ _) _
  have hcon := fun W (h : IntsAt W RA xs) => validRow_s RA rc xs W h (by omega)
  cases h1 : rowB xs
  · have HR : Hid (sumU ((xs, (p, q)), x) = false) := by simp [Hid, sumU, sumE, h1]
    rw [h1] at hcon
    clear h1
    go_enter Try.func141, Try.ntmps141
    go_wp2_with fail
    refine (hcon _ (hx.below hb0)).mono ?_
    rintro e w1 ⟨rfl, b1⟩
    go_wp2_with fail
    go_ret
    exact ⟨ret_bool HR.out.symm, btr hb0 b1⟩
  · rw [h1] at hcon
    have hcv := fun W => validTime_s p q W
    cases h2 : vtB p q
    · have HR : Hid (sumU ((xs, (p, q)), x) = false) := by simp [Hid, sumU, sumE, h2]
      rw [h2] at hcv
      clear h1 h2
      go_enter Try.func141, Try.ntmps141
      go_wp2_with fail
      refine (hcon _ (hx.below hb0)).mono ?_
      rintro e w1 ⟨rfl, b1⟩
      obtain ⟨hc1, hf1⟩ := bcell b1
      have hB1 := btr hb0 b1
      clear b1 hcon
      go_wp2_with fail
      refine (hcv _).mono ?_
      rintro e w2 ⟨rfl, b2⟩
      go_wp2_with fail
      go_ret
      exact ⟨ret_bool HR.out.symm, btr hB1 b2⟩
    · have HR : Hid (sumU ((xs, (p, q)), x) = wtB x) := by simp [Hid, sumU, sumE, h1, h2]
      rw [h2] at hcv
      clear h1 h2
      go_enter Try.func141, Try.ntmps141
      go_wp2_with fail
      refine (hcon _ (hx.below hb0)).mono ?_
      rintro e w1 ⟨rfl, b1⟩
      obtain ⟨hc1, hf1⟩ := bcell b1
      have hB1 := btr hb0 b1
      have z1 : w.heap.size + 1 ≤ w1.heap.size := by have := b1.size; simpa using this
      clear b1 hcon
      go_wp2_with fail
      refine (hcv _).mono ?_
      rintro e w2 ⟨rfl, b2⟩
      obtain ⟨hc2, hf2⟩ := bcell b2
      have t3 : w2.cell? ⟨w.heap.size, 3, none⟩ = some (.int .i64 x) := by rw [hc2 _ _ (by omega), hc1 _ _ (by simp)]; simp
      have hB2 := btr hB1 b2
      clear hc1 hf1 hc2 hf2 b2 hcv
      go_wp2_with fail
      refine (inB_below2 _ _).mono ?_
      rintro e w3 ⟨rfl, rfl⟩
      go_wp2_with fail
      go_ret
      exact ⟨ret_bool HR.out.symm, hB2⟩
set_option maxHeartbeats 800000 in
theorem updateLess_s (A B : Option Addr) (c d : Nat) (x y : Upd) (w : World) (hx : IntsAt w A x.1.1) (hy : IntsAt w B y.1.1) (hn : x.1.1.length ≤ 4194304) (hm : y.1.1.length ≤ 4194304) :
    Calls Try.prog 142 #[.agg #[.slice A x.1.1.length c, .int .i64 x.1.2.1, .int .i64 x.1.2.2, .int .i64 x.2], .agg #[.slice B y.1.1.length d, .int .i64 y.1.2.1, .int .i64 y.1.2.2, .int .i64 y.2]] w fun e w' => e = .returned (.bool (ltU x.1 y.1)) ∧ Below w.heap.size w w' := by
  have hlt := ltU_eq x.1 y.1
  obtain ⟨⟨xs, p, q⟩, u⟩ := x
  obtain ⟨⟨ys, r, s⟩, v⟩ := y
  simp only at hx hy hn hm hlt ⊢
  have hb0 : Below w.heap.size w ((w.alloc (.cells #[.slice A xs.length c, .int .i64 p, .int .i64 q, .int .i64 u] 102)).alloc (.cells #[.slice B ys.length d, .int .i64 r, .int .i64 s, .int .i64 v] 102)) := bal (bal (Below.refl _ _) _) _
  have hcl := fun W (h : IntsAt W A xs) (h' : IntsAt W B ys) => rowLess_s A B c d xs ys W h h' (by omega) (by omega)
  have hce := fun W (h : IntsAt W A xs) (h' : IntsAt W B ys) => equalInts_s A B c d xs ys W h h' (by omega) (by omega)
  cases h1 : lessB xs ys
  · rw [h1] at hcl hlt
    cases h2 : decide (xs = ys)
    · rw [h2] at hce hlt
      have HR : Hid (ltU (xs, (p, q)) (ys, (r, s)) = false) := by rw [Hid, hlt]; simp
      clear h1 h2 hlt
      go_enter Try.func142, Try.ntmps142
      go_wp2_with fail
      refine (hcl _ (hx.below hb0) (hy.below hb0)).mono ?_
      rintro e w1 ⟨rfl, b1⟩
      obtain ⟨hc1, hf1⟩ := bcell b1
      have hB1 := btr hb0 b1
      clear b1
      go_wp2_with fail
      refine (hce _ (hx.below hB1) (hy.below hB1)).mono ?_
      rintro e w2 ⟨rfl, b2⟩
      go_wp2_with fail
      go_ret
      exact ⟨ret_bool HR.out.symm, btr hB1 b2⟩
    · rw [h2] at hce hlt
      have HR : Hid (ltU (xs, (p, q)) (ys, (r, s)) = bfB p q r s) := by rw [Hid, hlt]; simp
      clear h1 h2 hlt
      go_enter Try.func142, Try.ntmps142
      go_wp2_with fail
      refine (hcl _ (hx.below hb0) (hy.below hb0)).mono ?_
      rintro e w1 ⟨rfl, b1⟩
      obtain ⟨hc1, hf1⟩ := bcell b1
      have hB1 := btr hb0 b1
      have z1 : w.heap.size + 2 ≤ w1.heap.size := by have := b1.size; simpa using this
      clear b1
      go_wp2_with fail
      refine (hce _ (hx.below hB1) (hy.below hB1)).mono ?_
      rintro e w2 ⟨rfl, b2⟩
      obtain ⟨hc2, hf2⟩ := bcell b2
      have t1 : w2.cell? ⟨w.heap.size, 1, none⟩ = some (.int .i64 p) := by rw [hc2 _ _ (by omega), hc1 _ _ (by simp; omega)]; simp
      have t2 : w2.cell? ⟨w.heap.size, 2, none⟩ = some (.int .i64 q) := by rw [hc2 _ _ (by omega), hc1 _ _ (by simp; omega)]; simp
      have t3 : w2.cell? ⟨w.heap.size + 1, 1, none⟩ = some (.int .i64 r) := by rw [hc2 _ _ (by omega), hc1 _ _ (by simp)]; simp
      have t4 : w2.cell? ⟨w.heap.size + 1, 2, none⟩ = some (.int .i64 s) := by rw [hc2 _ _ (by omega), hc1 _ _ (by simp)]; simp
      have hB2 := btr hB1 b2
      clear hc1 hf1 hc2 hf2 b2 hcl hce
      go_wp2_with fail
      refine (timeBefore_s _ _ _ _ _).mono ?_
      rintro e w3 ⟨rfl, b3⟩
      go_wp2_with fail
      go_ret
      exact ⟨ret_bool HR.out.symm, btr hB2 b3⟩
  · rw [h1] at hcl hlt
    have HR : Hid (ltU (xs, (p, q)) (ys, (r, s)) = true) := by rw [Hid, hlt]; simp
    clear h1 hlt
    go_enter Try.func142, Try.ntmps142
    go_wp2_with fail
    refine (hcl _ (hx.below hb0) (hy.below hb0)).mono ?_
    rintro e w1 ⟨rfl, b1⟩
    go_wp2_with fail
    go_ret
    exact ⟨ret_bool HR.out.symm, btr hb0 b1⟩

def goodU (es : List Upd) (k : Nat) : Bool := sumU (nthU es k) && stepU es k
theorem trB_good (es : List Upd) : trB es = (allTo (goodU es) es.length && decide (es.length ≤ 400)) := by
  have : allTo (goodU es) es.length = (sumsU es && ordU es) := allTo_and
  rw [this, trB, Bool.and_comm]
theorem trB_bad {es : List Upd} {k : Nat} (h : k < es.length) (hg : goodU es k = false) : trB es = false := by rw [trB_good, allTo_bad h hg]; rfl
theorem goodU_sum {es : List Upd} {k : Nat} (h : k < es.length) (e : sumU es[k] = false) : goodU es k = false := by simp [goodU, nthU_get h, e]
theorem goodU_step {es : List Upd} {k : Nat} (e : stepU es k = false) : goodU es k = false := by simp [goodU, e]
theorem goodU_ok {es : List Upd} {k : Nat} (h : k < es.length) (e : sumU es[k] = true) (e2 : stepU es k = true) : goodU es k = true := by simp [goodU, nthU_get h, e, e2]

set_option maxHeartbeats 3200000 in
theorem validTrace_s (A : Option Addr) (c : Nat) (es : List Upd) (w : World) (hx : UpdsAt w A es) (hn : es.length ≤ 4194304) (hr : rowsU es 4194304) :
    Calls Try.prog 93 #[.slice A es.length c] w fun e w' => e = .returned (.bool (trB es)) ∧ Below w.heap.size w w' := by
  go_enter Try.func93, Try.ntmps93
  go_wp2
  go_loopw [3] (fun i wr => ∃ k : Nat, k ≤ es.length ∧ i = .int .i64 k ∧ allTo (goodU es) k = true ∧ Below w.heap.size w wr) (fun i _ => es.length - (intOf i).toNat)
  case atStart => exact ⟨0, by omega, rfl, rfl, Below.refl _ _⟩
  case round =>
    obtain ⟨k, hk, rfl, hall, hbel⟩ := hrel
    have HA := Lib.hid hall
    clear hall
    by_cases hlt : k < es.length
    · have hx' := hx
      obtain ⟨b, off, RA, rc, rfl, hbl, hc0, hc1, hc2, hc3, hml, hrow⟩ := hx'.get k hlt
      obtain ⟨b', off', R0, r0, hA', -, hd0, hd1, hd2, hd3, hml0, -⟩ := hx'.get 0 (by omega)
      injection hA' with hA'
      injection hA' with h1 h2
      subst h1
      subst h2
      simp only [Nat.zero_mul, Nat.add_zero] at hd0 hd1 hd2 hd3
      have hp : 0 < es.length := by omega
      have hp' : (0 : Int) < es.length := by omega
      have hlt' : (k : Int) < es.length := by omega
      have q0 := cgrow ((hbel.cell (p := ⟨b, off + k * 4, none⟩) hbl).trans hc0)
      have q1 := cgrow ((hbel.cell (p := ⟨b, off + k * 4 + 1, none⟩) hbl).trans hc1)
      have q2 := cgrow ((hbel.cell (p := ⟨b, off + k * 4 + 2, none⟩) hbl).trans hc2)
      have q3 := cgrow ((hbel.cell (p := ⟨b, off + k * 4 + 3, none⟩) hbl).trans hc3)
      have q4 := cgrow ((hbel.cell (p := ⟨b, off, none⟩) hbl).trans hd0)
      have hrl := hr.get hlt
      have hw0 := widU_get hp
      have hcv := fun W' (hW : Below wr.heap.size wr W') => validUpdate_s RA rc es[k].1.1 es[k].1.2.1 es[k].1.2.2 es[k].2 W' ((hrow.below hbel).below hW) hrl
      rw [show (((es[k].1.1, (es[k].1.2.1, es[k].1.2.2)), es[k].2) : Upd) = es[k] from rfl] at hcv
      rw [← hw0] at hd0 q4
      clear hc0 hc1 hc2 hc3 hd0 hd1 hd2 hd3 hml hml0 hw0
      by_cases g1 : sumU es[k] = true
      · have hc1 := fun W' hW => (hcv W' hW).mono fun e w' ⟨he, hb⟩ => (⟨by rw [he, g1], hb⟩ : e = Ending.returned (.bool true) ∧ Below W'.heap.size W' w')
        clear hcv
        by_cases g2 : es[k].1.1.length = widU es
        · have hw' : ((es[k].1.1.length : Int) != (widU es : Int)) = false := by simp [g2]
          by_cases g3 : es[k].2 = 0
          · have hz : (es[k].2 == 0) = true := by simp [g3]
            have HR := Lib.hid (trB_bad hlt (goodU_step (stepU_zero hlt g3)))
            clear g1 g2 g3
            go_wp2_with fail
            refine wp_region_quiet_below (by kernel_rfl) (by kernel_rfl) ?_
            repeat (go_big_quiet_step (first | (go_at_call 141; exact Calls.regrown_of (hc1 _ (below_regrown _ _ _)))))
            refine wpQuiet_nil ?_
            intro wq hwq
            obtain ⟨⟨dq, osq⟩, rfl⟩ := hwq
            have hbq := btr hbel (below_regrown wr dq osq)
            generalize grow (redrawn wr dq) osq = wz at hbq
            clear q0 q1 q2 q3 q4 hc1
            go_wp2
            go_ret
            exact ⟨ret_bool HR.out.symm, hbq⟩
          · have hz : (es[k].2 == 0) = false := by simp [g3]
            by_cases hk0 : k = 0
            · subst hk0
              have HS := Lib.hid (goodU_ok hlt g1 (stepU_first hlt g3 g2))
              clear g1 g2 g3
              simp only [Nat.zero_mul, Nat.add_zero] at q0 q1 q2 q3
              clear q4 hw'
              have hw2 : ((es[0].1.1.length : Int) != (es[0].1.1.length : Int)) = false := by simp
              go_wp2_with fail
              refine wp_region_quiet_below (by kernel_rfl) (by kernel_rfl) ?_
              repeat (go_big_quiet_step (first | (go_at_call 141; exact Calls.regrown_of (hc1 _ (below_regrown _ _ _)))))
              refine wpQuiet_nil ?_
              intro wq hwq
              obtain ⟨⟨dq, osq⟩, rfl⟩ := hwq
              have hbq := btr hbel (below_regrown wr dq osq)
              generalize grow (redrawn wr dq) osq = wz at hbq
              clear q0 q1 q2 q3 hc1
              go_wp2
              go_roundw
              case rel => exact ⟨1, by omega, by go_num, allTo_step HA.out HS.out, hbq⟩
              case measure => simp [intOf]; omega
            · obtain ⟨m, rfl⟩ : ∃ m, k = m + 1 := ⟨k - 1, by omega⟩
              obtain ⟨b', off', RP, pc, hA', -, hd0, hd1, hd2, hd3, -, hrow'⟩ := hx'.get m (by omega)
              injection hA' with hA'
              injection hA' with h1 h2
              subst h1
              subst h2
              have hlm : m < es.length := by omega
              have q5 := cgrow ((hbel.cell (p := ⟨b, off + m * 4, none⟩) hbl).trans hd0)
              have q6 := cgrow ((hbel.cell (p := ⟨b, off + m * 4 + 1, none⟩) hbl).trans hd1)
              have q7 := cgrow ((hbel.cell (p := ⟨b, off + m * 4 + 2, none⟩) hbl).trans hd2)
              have q8 := cgrow ((hbel.cell (p := ⟨b, off + m * 4 + 3, none⟩) hbl).trans hd3)
              have hrlm := hr.get hlm
              have hcl := fun W' (hW : Below wr.heap.size wr W') => updateLess_s RP RA pc rc es[m] es[m + 1] W' ((hrow'.below hbel).below hW) ((hrow.below hbel).below hW) hrlm hrl
              have e1 : IntKind.i64.wrap ((m : Int) + 1 - 1) = m := by rw [IntKind.wrap_i64]; omega
              have e2 : IntKind.i64.wrap (m : Int) = m := by rw [IntKind.wrap_i64]; omega
              have hpos : (0 : Int) < (m : Int) + 1 := by omega
              have hml2 : (m : Int) < es.length := by omega
              have hst := stepU_next hlt g3 g2
              clear hd0 hd1 hd2 hd3
              by_cases g5 : ltU es[m].1 es[m + 1].1 = true
              · have hc3 := fun W' hW => (hcl W' hW).mono fun e w' ⟨he, hb⟩ => (⟨by rw [he, g5], hb⟩ : e = Ending.returned (.bool true) ∧ Below W'.heap.size W' w')
                have HS := Lib.hid (goodU_ok hlt g1 (hst.trans g5))
                clear g1 g2 g3 g5 hcl hst
                go_wp2_with fail
                refine wp_region_quiet_below (by kernel_rfl) (by kernel_rfl) ?_
                repeat (go_big_quiet_step (first | (go_at_call 141; exact Calls.regrown_of (hc1 _ (below_regrown _ _ _))) | (go_at_call 142; exact Calls.regrown_of (hc3 _ (below_regrown _ _ _)))))
                refine wpQuiet_nil ?_
                intro wq hwq
                obtain ⟨⟨dq, osq⟩, rfl⟩ := hwq
                have hbq := btr hbel (below_regrown wr dq osq)
                generalize grow (redrawn wr dq) osq = wz at hbq
                clear q0 q1 q2 q3 q4 q5 q6 q7 q8 hc1 hc3
                go_wp2
                go_roundw
                case rel => exact ⟨m + 1 + 1, by omega, by go_num, allTo_step HA.out HS.out, hbq⟩
                case measure => simp [intOf]; omega
              · have g5' : ltU es[m].1 es[m + 1].1 = false := by simpa using g5
                have hc3 := fun W' hW => (hcl W' hW).mono fun e w' ⟨he, hb⟩ => (⟨by rw [he, g5'], hb⟩ : e = Ending.returned (.bool false) ∧ Below W'.heap.size W' w')
                have HR := Lib.hid (trB_bad hlt (goodU_step (hst.trans g5')))
                clear g1 g2 g3 g5 g5' hcl hst
                go_wp2_with fail
                refine wp_region_quiet_below (by kernel_rfl) (by kernel_rfl) ?_
                repeat (go_big_quiet_step (first | (go_at_call 141; exact Calls.regrown_of (hc1 _ (below_regrown _ _ _))) | (go_at_call 142; exact Calls.regrown_of (hc3 _ (below_regrown _ _ _)))))
                refine wpQuiet_nil ?_
                intro wq hwq
                obtain ⟨⟨dq, osq⟩, rfl⟩ := hwq
                have hbq := btr hbel (below_regrown wr dq osq)
                generalize grow (redrawn wr dq) osq = wz at hbq
                clear q0 q1 q2 q3 q4 q5 q6 q7 q8 hc1 hc3
                go_wp2
                go_ret
                exact ⟨ret_bool HR.out.symm, hbq⟩
        · have hw' : ((es[k].1.1.length : Int) != (widU es : Int)) = true := by rw [bne_iff_ne]; omega
          have HR := Lib.hid (trB_bad hlt (goodU_step (stepU_wid hlt g2)))
          clear g1 g2
          go_wp2_with fail
          refine wp_region_quiet_below (by kernel_rfl) (by kernel_rfl) ?_
          repeat (go_big_quiet_step (first | (go_at_call 141; exact Calls.regrown_of (hc1 _ (below_regrown _ _ _)))))
          refine wpQuiet_nil ?_
          intro wq hwq
          obtain ⟨⟨dq, osq⟩, rfl⟩ := hwq
          have hbq := btr hbel (below_regrown wr dq osq)
          generalize grow (redrawn wr dq) osq = wz at hbq
          clear q0 q1 q2 q3 q4 hc1
          go_wp2
          go_ret
          exact ⟨ret_bool HR.out.symm, hbq⟩
      · have g1' : sumU es[k] = false := by simpa using g1
        have hc1 := fun W' hW => (hcv W' hW).mono fun e w' ⟨he, hb⟩ => (⟨by rw [he, g1'], hb⟩ : e = Ending.returned (.bool false) ∧ Below W'.heap.size W' w')
        have HR := Lib.hid (trB_bad hlt (goodU_sum hlt g1'))
        clear g1 g1' hcv
        go_wp2_with fail
        refine wp_region_quiet_below (by kernel_rfl) (by kernel_rfl) ?_
        repeat (go_big_quiet_step (first | (go_at_call 141; exact Calls.regrown_of (hc1 _ (below_regrown _ _ _)))))
        refine wpQuiet_nil ?_
        intro wq hwq
        obtain ⟨⟨dq, osq⟩, rfl⟩ := hwq
        have hbq := btr hbel (below_regrown wr dq osq)
        generalize grow (redrawn wr dq) osq = wz at hbq
        clear q0 q1 q2 q3 q4 hc1
        go_wp2
        go_ret
        exact ⟨ret_bool HR.out.symm, hbq⟩
    · obtain rfl : k = es.length := by omega
      have HF : Hid (trB es = decide (es.length ≤ 400)) := by rw [Hid, trB_good, HA.out]; rfl
      go_wp2
      go_ret
      exact ⟨ret_bool (by rw [HF.out]; by_cases h : es.length ≤ 400 <;> simp [h] <;> omega), hbel⟩
end Go.Proofs.Ytjlpkfcdkmcjnaa
