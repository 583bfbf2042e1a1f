/- HELPER, no statement of the seat: isSmallTrace of the laws. -/
import Derived.Test.YtjobecoogjojjaaTrM
namespace Go.Proofs.Ytjobecoogjojjaa
open Go.RowKit Go.Sort
set_option linter.unusedSimpArgs false
set_option linter.unusedVariables false

def smT (z : List Upd) : Bool := allTo (fun j => bdB (-9) 9 (nthU z j).2) z.length && (trB z && decide (z.length ≤ 20))
theorem smT_SmT {z : List Upd} (h : smT z = true) : SmT (widU z) 20 9 z := by
  simp only [smT, Bool.and_eq_true, decide_eq_true_eq] at h
  refine ⟨h.2.1, h.2.2, fun e he => ?_, trB_wid h.2.1⟩
  obtain ⟨j, hj, rfl⟩ := List.getElem_of_mem he
  have := allTo_iff.1 h.1 j hj
  rw [nthU_get hj] at this
  simpa only [bdB, Bool.and_eq_true, decide_eq_true_eq] using this
set_option maxHeartbeats 1600000 in
theorem isSmallTrace_l (A : Option Addr) (c : Nat) (z : List Upd) (w : World) (hx : UpdsAt w A z) (hn : z.length ≤ 4194304) (hr : rowsU z 4194304) :
    Calls Try.prog 25 #[.slice A z.length c] w fun e w' => e = .returned (.bool (smT z)) ∧ Below w.heap.size w w' := by
  have hno : ∀ k (hk : k < z.length), bdB (-9) 9 z[k].2 = false → Hid (smT z = false) := fun k hk hs => by
    have : allTo (fun j => bdB (-9) 9 (nthU z j).2) z.length = false := allTo_bad hk (by rw [nthU_get hk]; exact hs)
    simp [Hid, smT, this]
  have hyes : Hid (allTo (fun j => bdB (-9) 9 (nthU z j).2) z.length = true → smT z = (trB z && decide (z.length ≤ 20))) := fun h => by simp [smT, h]
  have hvz := fun W (h : UpdsAt W A z) => ValidTrace_i A c z W h hn hr
  have HX := Lib.hid hx
  go_enter Try.func25, Try.ntmps25
  go_wp2
  go_loopw [3] (fun i wr => ∃ k : Nat, k ≤ z.length ∧ i = .int .i64 k ∧ allTo (fun j => bdB (-9) 9 (nthU z j).2) k = true ∧ w = wr) (fun i _ => z.length - (intOf i).toNat)
  case atStart => exact ⟨0, by omega, rfl, rfl, rfl⟩
  case round =>
    obtain ⟨k, hk, rfl, hall, rfl⟩ := hrel
    have HA := Lib.hid hall
    clear hall
    by_cases hlt : k < z.length
    · obtain ⟨b, off, RA, rc, rfl, hbl, hc0, hc1, hc2, hc3, hml, hrow⟩ := hx.get k hlt
      have hlt' : (k : Int) < z.length := by omega
      clear hvz hx
      by_cases g1 : (9 : Int) < z[k].2
      · have HR := hno k hlt (by simp [bdB]; omega)
        clear hno hyes HX HA
        go_wp2
        go_ret
        exact ⟨ret_bool HR.out.symm, Below.refl _ _⟩
      · have g1' : z[k].2 ≤ 9 := by omega
        by_cases g2 : z[k].2 < (-9 : Int)
        · have HR := hno k hlt (by simp [bdB]; omega)
          clear hno hyes HX HA
          go_wp2
          go_ret
          exact ⟨ret_bool HR.out.symm, Below.refl _ _⟩
        · have g2' : -9 ≤ z[k].2 := by omega
          have HS : Hid (bdB (-9) 9 (nthU z k).2 = true) := by
            rw [Hid, nthU_get hlt]
            simp only [bdB, Bool.and_eq_true, decide_eq_true_eq]
            omega
          clear hno hyes
          go_wp2
          go_roundw
          case rel => exact ⟨k + 1, by omega, by go_num, allTo_step HA.out HS.out, by trivial⟩
          case measure => simp [intOf]; omega
    · obtain rfl : k = z.length := by omega
      have HR := Lib.hid (hyes.out HA.out)
      have hcv := hvz w HX.out
      clear hno hyes hvz HA
      by_cases h1 : trB z = true
      · rw [h1] at hcv
        have HR2 : Hid (smT z = decide (z.length ≤ 20)) := by rw [Hid, HR.out, h1, Bool.true_and]
        clear h1 HR
        by_cases h12 : z.length ≤ 20
        · have h12' : (z.length : Int) ≤ 20 := by omega
          have HR3 : Hid (smT z = true) := by rw [Hid, HR2.out]; simpa using h12
          go_wp2_with fail
          refine hcv.mono ?_
          rintro e w2 ⟨rfl, b2⟩
          clear hcv
          go_wp2
          go_ret
          exact ⟨ret_bool HR3.out.symm, b2⟩
        · have h12' : ¬ (z.length : Int) ≤ 20 := by omega
          have HR3 : Hid (smT z = false) := by rw [Hid, HR2.out]; simpa using h12
          go_wp2_with fail
          refine hcv.mono ?_
          rintro e w2 ⟨rfl, b2⟩
          clear hcv
          go_wp2
          go_ret
          exact ⟨ret_bool (by first | exact HR3.out.symm | (rw [HR2.out]; exact decide_eq_decide.2 (by omega))), b2⟩
      · have h1' : trB z = false := by simpa using h1
        rw [h1'] at hcv
        have HR2 : Hid (smT z = false) := by rw [Hid, HR.out, h1']; rfl
        clear h1 h1' HR
        go_wp2_with fail
        refine hcv.mono ?_
        rintro e w2 ⟨rfl, b2⟩
        clear hcv
        go_wp2
        go_ret
        exact ⟨ret_bool HR2.out.symm, b2⟩
/-- With the answer written out. -/
theorem smallT {A : Option Addr} {c : Nat} {z : List Upd} {w : World} (r : Bool) (h : smT z = r) (hx : UpdsAt w A z) (hn : z.length ≤ 4194304) (hr : rowsU z 4194304) :
    Calls Try.prog 25 #[.slice A z.length c] w fun e w' => e = .returned (.bool r) ∧ Below w.heap.size w w' := by
  rw [← h]
  exact isSmallTrace_l A c z w hx hn hr
end Go.Proofs.Ytjobecoogjojjaa
