/- HELPER, no statement of the seat: the model's test of a frontier. -/
import Derived.Test.YtfndglpfhdphiabFrontA
namespace Go.Proofs.Ytfndglpfhdphiab
open Go.RowKit Go.Sort
set_option linter.unusedSimpArgs false
set_option linter.unusedVariables false

set_option maxHeartbeats 1000000 in
theorem validFrontier_s (A : Option Addr) (c : Nat) (xs : List Tm) (w : World) (hx : TimesAt w A xs) (hn : xs.length ≤ 4194304) :
    Calls Try.prog 45 #[.slice A xs.length c] w fun e w' => e = .returned (.bool (frB xs)) ∧ Below w.heap.size w w' := by
  go_enter Try.func45, Try.ntmps45
  go_wp2
  go_loopw [3, 4] (fun i _ wr => ∃ k : Nat, k ≤ xs.length ∧ i = .int .i64 k ∧ okTo xs k ∧ Below w.heap.size w wr) (fun i _ _ => xs.length - (intOf i).toNat)
  case atStart => exact ⟨0, by omega, rfl, fun i hi => by omega, Below.refl _ _⟩
  case round =>
    obtain ⟨k, hk, rfl, hok, hbel⟩ := hrel
    have HO := Lib.hid hok
    clear hok
    by_cases hlt : k < xs.length
    · obtain ⟨b, off, rfl, hbl, hc⟩ := hx (by omega)
      have q1 := cgrow ((hbel.cell (p := ⟨b, off + k * 2, none⟩) hbl).trans (hc k hlt).1)
      have q2 := cgrow ((hbel.cell (p := ⟨b, off + k * 2 + 1, none⟩) hbl).trans (hc k hlt).2)
      change ∀ d os, _ = some (Value.int .i64 (tg xs k).1) at q1
      change ∀ d os, _ = some (Value.int .i64 (tg xs k).2) at q2
      by_cases hv : vtB (tg xs k).1 (tg xs k).2 = true
      · -- the head of the round passes, or not; then the inner loop
        by_cases hk0 : k = 0
        · subst hk0
          have HG : Hid (gd xs 0 = true) := by simp [Hid, gd, hv]
          have hI : (0 : Int) < xs.length := by omega
          simp only [Nat.zero_mul, Nat.add_zero, Nat.zero_add] at q1 q2
          clear hc
          go_wp2_with fail
          refine wp_region_quiet_below (by kernel_rfl) (by kernel_rfl) ?_
          repeat (go_big_quiet_step (first | (go_at_call 47; exact Calls.regrown_of (validTime_s _ _ _)) | (go_at_call 68; exact Calls.regrown_of (timeBefore_s _ _ _ _ _))))
          refine wpQuiet_nil ?_
          intro w3 hw3
          obtain ⟨⟨dq, osq⟩, rfl⟩ := hw3
          have hbq := btr hbel (below_regrown wr dq osq)
          generalize grow (redrawn wr dq) osq = w4 at hbq
          clear q1 q2 hbel
          go_wp2
          refine wp_loop_rounds 1 ?_
          rw [rounds_succ]
          go_wp2
          go_roundw
          case rel => exact ⟨1, by omega, by go_num, okTo_step HO.out HG.out, hbq⟩
          case measure => simp [intOf]; omega
        · obtain ⟨m, rfl⟩ : ∃ m, k = m + 1 := ⟨k - 1, by omega⟩
          have q3 := cgrow ((hbel.cell (p := ⟨b, off + m * 2, none⟩) hbl).trans (hc m (by omega)).1)
          have q4 := cgrow ((hbel.cell (p := ⟨b, off + m * 2 + 1, none⟩) hbl).trans (hc m (by omega)).2)
          change ∀ d os, _ = some (Value.int .i64 (tg xs m).1) at q3
          change ∀ d os, _ = some (Value.int .i64 (tg xs m).2) at q4
          have hpos : (0 : Int) < (m : Int) + 1 := by omega
          have e1 : IntKind.i64.wrap ((m : Int) + 1 - 1) = m := by rw [IntKind.wrap_i64]; omega
          have e2 : IntKind.i64.wrap (m : Int) = m := by rw [IntKind.wrap_i64]; omega
          have hml : (m : Int) < xs.length := by omega
          have hI : (m : Int) + 1 < xs.length := by omega
          have hI0 : (0 : Int) ≤ (m : Int) + 1 := by omega
          have hI1 : ((m : Int) + 1).toNat = m + 1 := by omega
          have HC := Lib.hid hc
          clear hc
          by_cases hB : bfB (tg xs m).1 (tg xs m).2 (tg xs (m + 1)).1 (tg xs (m + 1)).2 = true
          · go_wp2_with fail
            refine wp_region_quiet_below (by kernel_rfl) (by kernel_rfl) ?_
            repeat (go_big_quiet_step (first | (go_at_call 47; exact Calls.regrown_of (validTime_s _ _ _)) | (go_at_call 68; exact Calls.regrown_of (timeBefore_s _ _ _ _ _))))
            refine wpQuiet_nil ?_
            intro w3 hw3
            obtain ⟨⟨dq, osq⟩, rfl⟩ := hw3
            have hbq := btr hbel (below_regrown wr dq osq)
            generalize grow (redrawn wr dq) osq = w4 at hbq
            clear q1 q2 q3 q4 hbel
            go_wp2
            go_loopw [4] (fun kk wq => ∃ j : Nat, j ≤ m + 1 ∧ kk = .int .i64 j ∧ noLe xs (m + 1) j ∧ Below w.heap.size w wq) (fun kk _ => m + 1 - (intOf kk).toNat)
            case atStart => exact ⟨0, by omega, rfl, fun i hi => by omega, hbq⟩
            case round =>
              obtain ⟨j, hj, rfl, hno, hbel⟩ := hrel
              have HN := Lib.hid hno
              clear hno hbq
              by_cases hjl : j < m + 1
              · have q1 := cgrow ((hbel.cell (p := ⟨b, off + j * 2, none⟩) hbl).trans (HC.out j (by omega)).1)
                have q2 := cgrow ((hbel.cell (p := ⟨b, off + j * 2 + 1, none⟩) hbl).trans (HC.out j (by omega)).2)
                have q3 := cgrow ((hbel.cell (p := ⟨b, off + (m + 1) * 2, none⟩) hbl).trans (HC.out (m + 1) (by omega)).1)
                have q4 := cgrow ((hbel.cell (p := ⟨b, off + (m + 1) * 2 + 1, none⟩) hbl).trans (HC.out (m + 1) (by omega)).2)
                change ∀ d os, _ = some (Value.int .i64 (tg xs j).1) at q1
                change ∀ d os, _ = some (Value.int .i64 (tg xs j).2) at q2
                change ∀ d os, _ = some (Value.int .i64 (tg xs (m + 1)).1) at q3
                change ∀ d os, _ = some (Value.int .i64 (tg xs (m + 1)).2) at q4
                have hI2 : (j : Int) < xs.length := by omega
                by_cases hL : leB (tg xs j).1 (tg xs j).2 (tg xs (m + 1)).1 (tg xs (m + 1)).2 = true
                · have HF := Lib.hid (frB_bad hlt (gd_le HO.out hjl hL))
                  go_wp2_with fail
                  refine wp_region_quiet_below (by kernel_rfl) (by kernel_rfl) ?_
                  repeat (go_big_quiet_step (exact Calls.regrown_of (timeLe_s _ _ _ _ _)))
                  refine wpQuiet_nil ?_
                  intro w3 hw3
                  obtain ⟨⟨dq, osq⟩, rfl⟩ := hw3
                  have hbq := btr hbel (below_regrown wr dq osq)
                  generalize grow (redrawn wr dq) osq = w5 at hbq
                  clear q1 q2 q3 q4 hbel
                  go_wp2
                  · go_ret
                    exact ⟨ret_bool HF.out.symm, hbq⟩
                  · exact absurd (hL.symm.trans (by assumption)) (by simp)
                · have hL' : leB (tg xs j).1 (tg xs j).2 (tg xs (m + 1)).1 (tg xs (m + 1)).2 = false := by simpa using hL
                  clear hL
                  go_wp2_with fail
                  refine wp_region_quiet_below (by kernel_rfl) (by kernel_rfl) ?_
                  repeat (go_big_quiet_step (exact Calls.regrown_of (timeLe_s _ _ _ _ _)))
                  refine wpQuiet_nil ?_
                  intro w3 hw3
                  obtain ⟨⟨dq, osq⟩, rfl⟩ := hw3
                  have hbq := btr hbel (below_regrown wr dq osq)
                  generalize grow (redrawn wr dq) osq = w5 at hbq
                  clear q1 q2 q3 q4 hbel
                  have HS := Lib.hid (noLe_step HN.out hL')
                  go_wp2
                  · exact absurd (hL'.symm.trans (by assumption)) (by simp)
                  · go_roundw
                    case rel => exact ⟨j + 1, by omega, by go_num, HS.out, hbq⟩
                    case measure => simp [intOf]; omega
              · obtain rfl : j = m + 1 := by omega
                have HG := Lib.hid (gd_of hv hB (HN.out m (by omega)))
                go_wp2
                go_roundw
                case rel => exact ⟨m + 1 + 1, by omega, by go_num, okTo_step HO.out HG.out, hbel⟩
                case measure => simp [intOf]; omega
          · have hB' : bfB (tg xs m).1 (tg xs m).2 (tg xs (m + 1)).1 (tg xs (m + 1)).2 = false := by simpa using hB
            have HF := Lib.hid (frB_bad hlt (gd_bf hB'))
            clear hB
            go_wp2_with fail
            refine wp_region_quiet_below (by kernel_rfl) (by kernel_rfl) ?_
            repeat (go_big_quiet_step (first | (go_at_call 47; exact Calls.regrown_of (validTime_s _ _ _)) | (go_at_call 68; exact Calls.regrown_of (timeBefore_s _ _ _ _ _))))
            refine wpQuiet_nil ?_
            intro w3 hw3
            obtain ⟨⟨dq, osq⟩, rfl⟩ := hw3
            have hbq := btr hbel (below_regrown wr dq osq)
            generalize grow (redrawn wr dq) osq = w4 at hbq
            clear q1 q2 q3 q4 hbel
            go_wp2
            go_ret
            exact ⟨ret_bool HF.out.symm, hbq⟩
      · have hv' : vtB (tg xs k).1 (tg xs k).2 = false := by simpa using hv
        have HF := Lib.hid (frB_bad hlt (by simp [gd, hv']))
        clear hc hv
        go_wp2_with fail
        refine wp_region_quiet_below (by kernel_rfl) (by kernel_rfl) ?_
        repeat (go_big_quiet_step (first | (go_at_call 47; exact Calls.regrown_of (validTime_s _ _ _)) | (go_at_call 68; exact Calls.regrown_of (timeBefore_s _ _ _ _ _))))
        refine wpQuiet_nil ?_
        intro w3 hw3
        obtain ⟨⟨dq, osq⟩, rfl⟩ := hw3
        have hbq := btr hbel (below_regrown wr dq osq)
        generalize grow (redrawn wr dq) osq = w4 at hbq
        clear q1 q2 hbel
        go_wp2
        go_ret
        exact ⟨ret_bool HF.out.symm, hbq⟩
    · obtain rfl : k = xs.length := by omega
      have HF := Lib.hid (frB_end HO.out)
      go_wp2
      go_ret
      exact ⟨ret_bool (by rw [HF.out]; by_cases h : xs.length ≤ 100 <;> simp [h] <;> omega), hbel⟩
end Go.Proofs.Ytfndglpfhdphiab
