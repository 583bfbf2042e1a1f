/- HELPER, no statement of the seat: the model's tests and simple functions on lists of entries. -/
import Derived.Test.YtjlpkfcdkmcjnaaEntI
namespace Go.Proofs.Ytjlpkfcdkmcjnaa
open Go.RowKit Go.Sort
set_option linter.unusedSimpArgs false
set_option linter.unusedVariables false

theorem inB_below (n : Int) (b : Bool) (h : wtB n = b) (w : World) : Calls Try.prog 86 #[.int .i64 n, .int .i64 (-1000000), .int .i64 1000000] w fun e w' => e = .returned (.bool b) ∧ Below w.heap.size w w' :=
  (inRange_any n _ _ w).mono fun e w' ⟨he, hw⟩ => ⟨by rw [he, ← h]; rfl, hw ▸ Below.refl _ _⟩
/-- The test of the model, of one entry. -/
def goodE (es : List Ent) (k : Nat) : Bool := sumE (nth es k) && stepB es k
theorem zsB_good (es : List Ent) : zsB es = (allTo (goodE es) es.length && decide (es.length ≤ 400)) := zsB_all
theorem zsB_bad {es : List Ent} {k : Nat} (h : k < es.length) (hg : goodE es k = false) : zsB es = false := by rw [zsB_good, allTo_bad h hg]; rfl
theorem good_row {es : List Ent} {k : Nat} (h : k < es.length) (e : rowB es[k].1 = false) : goodE es k = false := by simp [goodE, sumE, nth_get h, e]
theorem good_wt {es : List Ent} {k : Nat} (h : k < es.length) (e : wtB es[k].2 = false) : goodE es k = false := by simp [goodE, sumE, nth_get h, e]
theorem good_step {es : List Ent} {k : Nat} (e : stepB es k = false) : goodE es k = false := by simp [goodE, e]
theorem good_ok {es : List Ent} {k : Nat} (h : k < es.length) (e : rowB es[k].1 = true) (e1 : wtB es[k].2 = true) (e2 : stepB es k = true) : goodE es k = true := by simp [goodE, sumE, nth_get h, e, e1, e2]

set_option maxHeartbeats 3200000 in
theorem validZSet_s (A : Option Addr) (c : Nat) (es : List Ent) (w : World) (hx : EntsAt w A es) (hn : es.length ≤ 4194304) (hr : rowsIn es 4194304) :
    Calls Try.prog 67 #[.slice A es.length c] w fun e w' => e = .returned (.bool (zsB es)) ∧ Below w.heap.size w w' := by
  go_enter Try.func67, Try.ntmps67
  go_wp2
  go_loopw [3] (fun i wr => ∃ k : Nat, k ≤ es.length ∧ i = .int .i64 k ∧ allTo (goodE es) k = true ∧ Below w.heap.size w wr) (fun i _ => es.length - (intOf i).toNat)
  case atStart => exact ⟨0, by omega, rfl, rfl, Below.refl _ _⟩
  case round =>
    obtain ⟨k, hk, rfl, hall, hbel⟩ := hrel
    have HA := Lib.hid hall
    clear hall
    by_cases hlt : k < es.length
    · have hx' := hx
      obtain ⟨b, off, RA, rc, rfl, hbl, hc0, hc1, hml, hrow⟩ := hx'.get k hlt
      obtain ⟨b', off', R0, r0, hA', -, hd0, hd1, hml0, -⟩ := hx'.get 0 (by omega)
      injection hA' with hA'
      injection hA' with h1 h2
      subst h1
      subst h2
      simp only [Nat.zero_mul, Nat.add_zero] at hd0 hd1
      have hp : 0 < es.length := by omega
      have hp' : (0 : Int) < es.length := by omega
      have hlt' : (k : Int) < es.length := by omega
      have q0 := cgrow ((hbel.cell (p := ⟨b, off + k * 2, none⟩) hbl).trans hc0)
      have q1 := cgrow ((hbel.cell (p := ⟨b, off + k * 2 + 1, none⟩) hbl).trans hc1)
      have q2 := cgrow ((hbel.cell (p := ⟨b, off, none⟩) hbl).trans hd0)
      have q3 := cgrow ((hbel.cell (p := ⟨b, off + 1, none⟩) hbl).trans hd1)
      have hrl := hr.get hlt
      have hw0 := wid_get hp
      have hrn : es[k].1.length * 8 ≤ 140737488351232 := by omega
      have hcv := fun W' (hW : Below wr.heap.size wr W') => validRow_s RA rc es[k].1 W' ((hrow.below hbel).below hW) hrn
      rw [← hw0] at hd0 q2
      clear hc0 hc1 hd0 hd1 hml hml0 hw0 hrn
      by_cases g1 : rowB es[k].1 = true
      · have hc1 := fun W' hW => (hcv W' hW).mono fun e w' ⟨he, hb⟩ => (⟨by rw [he, g1], hb⟩ : e = Ending.returned (.bool true) ∧ Below W'.heap.size W' w')
        clear hcv
        by_cases g2 : es[k].1.length = wid es
        · have hw' : ((es[k].1.length : Int) != (wid es : Int)) = false := by simp [g2]
          by_cases g3 : es[k].2 = 0
          · have hz : (es[k].2 == 0) = true := by simp [g3]
            have HR := Lib.hid (zsB_bad hlt (good_step (stepB_zero hlt g3)))
            clear g1 g2 g3
            go_wp2_with fail
            refine wp_region_quiet_below (by kernel_rfl) (by kernel_rfl) ?_
            repeat (go_big_quiet_step (first | (go_at_call 119; exact Calls.regrown_of (hc1 _ (below_regrown _ _ _)))))
            refine wpQuiet_nil ?_
            intro wq hwq
            obtain ⟨⟨dq, osq⟩, rfl⟩ := hwq
            have hbq := btr hbel (below_regrown wr dq osq)
            generalize grow (redrawn wr dq) osq = wz at hbq
            clear q0 q1 q2 q3 hc1
            go_wp2
            go_ret
            exact ⟨ret_bool HR.out.symm, hbq⟩
          · have hz : (es[k].2 == 0) = false := by simp [g3]
            by_cases g4 : wtB es[k].2 = true
            · have hc2 := inB_below es[k].2 true g4
              by_cases hk0 : k = 0
              · subst hk0
                have HS := Lib.hid (good_ok hlt g1 g4 (stepB_first hlt g3 g2))
                clear g1 g2 g3 g4
                simp only [Nat.zero_mul, Nat.add_zero] at q0 q1
                clear q2 q3 hw'
                have hw2 : ((es[0].1.length : Int) != (es[0].1.length : Int)) = false := by simp
                go_wp2_with fail
                refine wp_region_quiet_below (by kernel_rfl) (by kernel_rfl) ?_
                repeat (go_big_quiet_step (first | (go_at_call 119; exact Calls.regrown_of (hc1 _ (below_regrown _ _ _))) | (go_at_call 86; exact Calls.regrown_of (hc2 _))))
                refine wpQuiet_nil ?_
                intro wq hwq
                obtain ⟨⟨dq, osq⟩, rfl⟩ := hwq
                have hbq := btr hbel (below_regrown wr dq osq)
                generalize grow (redrawn wr dq) osq = wz at hbq
                clear q0 q1 hc1 hc2
                go_wp2
                go_roundw
                case rel => exact ⟨1, by omega, by go_num, allTo_step HA.out HS.out, hbq⟩
                case measure => simp [intOf]; omega
              · obtain ⟨m, rfl⟩ : ∃ m, k = m + 1 := ⟨k - 1, by omega⟩
                obtain ⟨b', off', RP, pc, hA', -, hd0, hd1, -, hrow'⟩ := hx'.get m (by omega)
                injection hA' with hA'
                injection hA' with h1 h2
                subst h1
                subst h2
                have hlm : m < es.length := by omega
                have q4 := cgrow ((hbel.cell (p := ⟨b, off + m * 2, none⟩) hbl).trans hd0)
                have q5 := cgrow ((hbel.cell (p := ⟨b, off + m * 2 + 1, none⟩) hbl).trans hd1)
                have hrlm := hr.get hlm
                have hb8 : es[m].1.length * 8 ≤ 140737488351232 := by omega
                have hb9 : es[m + 1].1.length * 8 ≤ 140737488351232 := by omega
                have e1 : IntKind.i64.wrap ((m : Int) + 1 - 1) = m := by rw [IntKind.wrap_i64]; omega
                have e2 : IntKind.i64.wrap (m : Int) = m := by rw [IntKind.wrap_i64]; omega
                have hpos : (0 : Int) < (m : Int) + 1 := by omega
                have hml2 : (m : Int) < es.length := by omega
                have hcl := fun W' (hW : Below wr.heap.size wr W') => rowLess_s RP RA pc rc es[m].1 es[m + 1].1 W' ((hrow'.below hbel).below hW) ((hrow.below hbel).below hW) hb8 hb9
                have hst := stepB_next hlt g3 g2
                clear hd0 hd1
                by_cases g5 : lessB es[m].1 es[m + 1].1 = true
                · have hc3 := fun W' hW => (hcl W' hW).mono fun e w' ⟨he, hb⟩ => (⟨by rw [he, g5], hb⟩ : e = Ending.returned (.bool true) ∧ Below W'.heap.size W' w')
                  have HS := Lib.hid (good_ok hlt g1 g4 (hst.trans g5))
                  clear g1 g2 g3 g4 g5 hcl hst
                  go_wp2_with fail
                  refine wp_region_quiet_below (by kernel_rfl) (by kernel_rfl) ?_
                  repeat (go_big_quiet_step (first | (go_at_call 119; exact Calls.regrown_of (hc1 _ (below_regrown _ _ _))) | (go_at_call 86; exact Calls.regrown_of (hc2 _)) | (go_at_call 120; exact Calls.regrown_of (hc3 _ (below_regrown _ _ _)))))
                  refine wpQuiet_nil ?_
                  intro wq hwq
                  obtain ⟨⟨dq, osq⟩, rfl⟩ := hwq
                  have hbq := btr hbel (below_regrown wr dq osq)
                  generalize grow (redrawn wr dq) osq = wz at hbq
                  clear q0 q1 q2 q3 q4 q5 hc1 hc2 hc3
                  go_wp2
                  go_roundw
                  case rel => exact ⟨m + 1 + 1, by omega, by go_num, allTo_step HA.out HS.out, hbq⟩
                  case measure => simp [intOf]; omega
                · have g5' : lessB es[m].1 es[m + 1].1 = false := by simpa using g5
                  have hc3 := fun W' hW => (hcl W' hW).mono fun e w' ⟨he, hb⟩ => (⟨by rw [he, g5'], hb⟩ : e = Ending.returned (.bool false) ∧ Below W'.heap.size W' w')
                  have HR := Lib.hid (zsB_bad hlt (good_step (hst.trans g5')))
                  clear g1 g2 g3 g4 g5 g5' hcl hst
                  go_wp2_with fail
                  refine wp_region_quiet_below (by kernel_rfl) (by kernel_rfl) ?_
                  repeat (go_big_quiet_step (first | (go_at_call 119; exact Calls.regrown_of (hc1 _ (below_regrown _ _ _))) | (go_at_call 86; exact Calls.regrown_of (hc2 _)) | (go_at_call 120; exact Calls.regrown_of (hc3 _ (below_regrown _ _ _)))))
                  refine wpQuiet_nil ?_
                  intro wq hwq
                  obtain ⟨⟨dq, osq⟩, rfl⟩ := hwq
                  have hbq := btr hbel (below_regrown wr dq osq)
                  generalize grow (redrawn wr dq) osq = wz at hbq
                  clear q0 q1 q2 q3 q4 q5 hc1 hc2 hc3
                  go_wp2
                  go_ret
                  exact ⟨ret_bool HR.out.symm, hbq⟩
            · have g4' : wtB es[k].2 = false := by simpa using g4
              have hc2 := inB_below es[k].2 false g4'
              have HR := Lib.hid (zsB_bad hlt (good_wt hlt g4'))
              clear g1 g2 g3 g4 g4'
              go_wp2_with fail
              refine wp_region_quiet_below (by kernel_rfl) (by kernel_rfl) ?_
              repeat (go_big_quiet_step (first | (go_at_call 119; exact Calls.regrown_of (hc1 _ (below_regrown _ _ _))) | (go_at_call 86; exact Calls.regrown_of (hc2 _))))
              refine wpQuiet_nil ?_
              intro wq hwq
              obtain ⟨⟨dq, osq⟩, rfl⟩ := hwq
              have hbq := btr hbel (below_regrown wr dq osq)
              generalize grow (redrawn wr dq) osq = wz at hbq
              clear q0 q1 q2 q3 hc1 hc2
              go_wp2
              go_ret
              exact ⟨ret_bool HR.out.symm, hbq⟩
        · have hw' : ((es[k].1.length : Int) != (wid es : Int)) = true := by rw [bne_iff_ne]; omega
          have HR := Lib.hid (zsB_bad hlt (good_step (stepB_wid hlt g2)))
          clear g1 g2
          go_wp2_with fail
          refine wp_region_quiet_below (by kernel_rfl) (by kernel_rfl) ?_
          repeat (go_big_quiet_step (first | (go_at_call 119; exact Calls.regrown_of (hc1 _ (below_regrown _ _ _)))))
          refine wpQuiet_nil ?_
          intro wq hwq
          obtain ⟨⟨dq, osq⟩, rfl⟩ := hwq
          have hbq := btr hbel (below_regrown wr dq osq)
          generalize grow (redrawn wr dq) osq = wz at hbq
          clear q0 q1 q2 q3 hc1
          go_wp2
          go_ret
          exact ⟨ret_bool HR.out.symm, hbq⟩
      · have g1' : rowB es[k].1 = false := by simpa using g1
        have hc1 := fun W' hW => (hcv W' hW).mono fun e w' ⟨he, hb⟩ => (⟨by rw [he, g1'], hb⟩ : e = Ending.returned (.bool false) ∧ Below W'.heap.size W' w')
        have HR := Lib.hid (zsB_bad hlt (good_row hlt g1'))
        clear g1 g1' hcv
        go_wp2_with fail
        refine wp_region_quiet_below (by kernel_rfl) (by kernel_rfl) ?_
        repeat (go_big_quiet_step (first | (go_at_call 119; exact Calls.regrown_of (hc1 _ (below_regrown _ _ _)))))
        refine wpQuiet_nil ?_
        intro wq hwq
        obtain ⟨⟨dq, osq⟩, rfl⟩ := hwq
        have hbq := btr hbel (below_regrown wr dq osq)
        generalize grow (redrawn wr dq) osq = wz at hbq
        clear q0 q1 q2 q3 hc1
        go_wp2
        go_ret
        exact ⟨ret_bool HR.out.symm, hbq⟩
    · obtain rfl : k = es.length := by omega
      have HF : Hid (zsB es = decide (es.length ≤ 400)) := by rw [Hid, zsB_good, HA.out]; rfl
      go_wp2
      go_ret
      exact ⟨ret_bool (by rw [HF.out]; by_cases h : es.length ≤ 400 <;> simp [h] <;> omega), hbel⟩
end Go.Proofs.Ytjlpkfcdkmcjnaa
