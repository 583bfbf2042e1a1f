/- HELPER, no statement of the seat: isSmall of the laws. -/
import Derived.Test.YtjikdlldochhcabSmM
import Derived.Test.YtjikdlldochhcabZbs
namespace Go.Proofs.Ytjikdlldochhcab
open Go.RowKit Go.Sort
set_option linter.unusedSimpArgs false
set_option linter.unusedVariables false

set_option maxHeartbeats 1600000 in
theorem isSmall_l (A : Option Addr) (c : Nat) (z : List Ent) (w : World) (hx : EntsAt w A z) (hn : z.length ≤ 4194304) (hr : rowsIn z 4194304) :
    Calls Try.prog 62 #[.slice A z.length c] w fun e w' => e = .returned (.bool (smB z)) ∧ Below w.heap.size w w' := by
  have hno : ∀ k (hk : k < z.length), smE z[k] = false → Hid (smB z = false) := fun k hk hs => by
    have : allTo (fun j => smE (nth z j)) z.length = false := allTo_bad hk (by rw [nth_get hk]; exact hs)
    simp [Hid, smB, this]
  have hyes : Hid (allTo (fun j => smE (nth z j)) z.length = true → smB z = (zsB z && decide (z.length ≤ 12))) := fun h => by simp [smB, h]
  have hvz := fun W (h : EntsAt W A z) => ValidZSet_i A c z W h hn hr
  have HX := Lib.hid hx
  go_enter Try.func62, Try.ntmps62
  go_wp2
  go_loopw [3] (fun i wr => ∃ k : Nat, k ≤ z.length ∧ i = .int .i64 k ∧ allTo (fun j => smE (nth z j)) k = true ∧ Below w.heap.size w wr) (fun i _ => z.length - (intOf i).toNat)
  case atStart => exact ⟨0, by omega, rfl, rfl, Below.refl _ _⟩
  case round =>
    obtain ⟨k, hk, rfl, hall, hbel⟩ := hrel
    have HA := Lib.hid hall
    clear hall
    by_cases hlt : k < z.length
    · obtain ⟨b, off, RA, rc, rfl, hbl, hc0, hc1, hml, hrow⟩ := hx.get k hlt
      have hlt' : (k : Int) < z.length := by omega
      have q0 := (hbel.cell (p := ⟨b, off + k * 2, none⟩) hbl).trans hc0
      have q1 := (hbel.cell (p := ⟨b, off + k * 2 + 1, none⟩) hbl).trans hc1
      have hrl := hr.get hlt
      clear hvz hx
      by_cases g1 : (9 : Int) < z[k].2
      · have HR := hno k hlt (by simp [smE, bdB]; omega)
        clear hno hyes HX HA
        go_wp2
        go_ret
        exact ⟨ret_bool HR.out.symm, hbel⟩
      · by_cases g2 : z[k].2 < (-9 : Int)
        · have HR := hno k hlt (by simp [smE, bdB]; omega)
          have g1' : z[k].2 ≤ 9 := by omega
          clear hno hyes HX HA
          go_wp2
          go_ret
          exact ⟨ret_bool HR.out.symm, hbel⟩
        · have hno2 : ∀ m (hm : m < z[k].1.length), bdB (-20) 20 z[k].1[m] = false → Hid (smB z = false) := fun m hm hs => hno k hlt (by
            have : allTo (fun t => bdB (-20) 20 (nthI z[k].1 t)) z[k].1.length = false := allTo_bad hm (by rw [nthI_get hm]; exact hs)
            simp [smE, this])
          have hyes2 : Hid (allTo (fun t => bdB (-20) 20 (nthI z[k].1 t)) z[k].1.length = true → smE (nth z k) = true) := fun h => by
            rw [nth_get hlt, smE, h, Bool.and_true]
            simp only [bdB, Bool.and_eq_true, decide_eq_true_eq]
            omega
          obtain ⟨V, rfl⟩ : ∃ V : World, V = wr := ⟨wr, rfl⟩
          clear hno
          go_wp2
          go_loopw [4] (fun j wr => ∃ m : Nat, m ≤ z[k].1.length ∧ j = .int .i64 m ∧ allTo (fun t => bdB (-20) 20 (nthI z[k].1 t)) m = true ∧ Below V.heap.size V wr) (fun j _ => z[k].1.length - (intOf j).toNat)
          case atStart => exact ⟨0, by omega, rfl, rfl, Below.refl _ _⟩
          case round =>
            obtain ⟨m, hm, rfl, hal2, hb2⟩ := hrel
            have HA2 := Lib.hid hal2
            clear hal2
            have hs := hbel.size
            have q0' := (hb2.cell (p := ⟨b, off + k * 2, none⟩) (Nat.lt_of_lt_of_le hbl hs)).trans q0
            by_cases hmt : m < z[k].1.length
            · obtain ⟨b2, off2, rfl, hbl2, hc⟩ := hrow (by omega)
              have hcm : w.cell? ⟨b2, off2 + m, none⟩ = some (.int .i64 z[k].1[m]) := by rw [hc m hmt]; simp [hmt]
              have p0 := ((btr hbel hb2).cell (p := ⟨b2, off2 + m, none⟩) hbl2).trans hcm
              have hmt' : (m : Int) < z[k].1.length := by omega
              clear hc hcm
              by_cases u1 : (20 : Int) < z[k].1[m]
              · have HR := hno2 m hmt (by simp [bdB]; omega)
                have HB := Lib.hid (btr hbel hb2)
                clear hno2 hyes2 hyes HX HA HA2 hrow
                go_wp2
                go_ret
                exact ⟨ret_bool HR.out.symm, HB.out⟩
              · by_cases u2 : z[k].1[m] < (-20 : Int)
                · have HR := hno2 m hmt (by simp [bdB]; omega)
                  have HB := Lib.hid (btr hbel hb2)
                  have u1' : z[k].1[m] ≤ 20 := by omega
                  clear hno2 hyes2 hyes HX HA HA2 hrow
                  go_wp2
                  go_ret
                  exact ⟨ret_bool HR.out.symm, HB.out⟩
                · have HS : Hid (bdB (-20) 20 (nthI z[k].1 m) = true) := by
                    rw [Hid, nthI_get hmt]
                    simp only [bdB, Bool.and_eq_true, decide_eq_true_eq]
                    omega
                  clear hno2 hyes2 hyes HX HA hrow
                  go_wp2
                  go_roundw
                  case rel => exact ⟨m + 1, by omega, by go_num, allTo_step HA2.out HS.out, hb2⟩
                  case measure => simp [intOf]; omega
            · obtain rfl : m = z[k].1.length := by omega
              have HS := Lib.hid (hyes2.out HA2.out)
              have HB := Lib.hid (btr hbel hb2)
              clear hno2 hyes2 hyes HX HA2 hrow
              go_wp2
              go_roundw
              case rel => exact ⟨k + 1, by omega, by go_num, allTo_step HA.out HS.out, HB.out⟩
              case measure => simp [intOf]; omega
    · obtain rfl : k = z.length := by omega
      have HR := Lib.hid (hyes.out HA.out)
      have hcv := hvz wr (HX.out.below entR hbel)
      clear hno hyes hvz HA
      by_cases h1 : zsB z = true
      · rw [h1] at hcv
        have HR2 : Hid (smB z = decide (z.length ≤ 12)) := by rw [Hid, HR.out, h1, Bool.true_and]
        clear h1 HR
        by_cases h12 : z.length ≤ 12
        · have h12' : (z.length : Int) ≤ 12 := by omega
          have HR3 : Hid (smB z = true) := by rw [Hid, HR2.out]; simpa using h12
          go_wp2_with fail
          refine hcv.mono ?_
          rintro e w2 ⟨rfl, b2⟩
          clear hcv
          go_wp2
          go_ret
          exact ⟨ret_bool HR3.out.symm, btr hbel b2⟩
        · have h12' : ¬ (z.length : Int) ≤ 12 := by omega
          have HR3 : Hid (smB z = false) := by rw [Hid, HR2.out]; simpa using h12
          go_wp2_with fail
          refine hcv.mono ?_
          rintro e w2 ⟨rfl, b2⟩
          clear hcv
          go_wp2
          go_ret
          exact ⟨ret_bool (by first | exact HR3.out.symm | (rw [HR2.out]; exact decide_eq_decide.2 (by omega))), btr hbel b2⟩
      · have h1' : zsB z = false := by simpa using h1
        rw [h1'] at hcv
        have HR2 : Hid (smB z = false) := by rw [Hid, HR.out, h1']; rfl
        clear h1 h1' HR
        go_wp2_with fail
        refine hcv.mono ?_
        rintro e w2 ⟨rfl, b2⟩
        clear hcv
        go_wp2
        go_ret
        exact ⟨ret_bool HR2.out.symm, btr hbel b2⟩
/-- With the answer written out. -/
theorem smallZ {A : Option Addr} {c : Nat} {z : List Ent} {w : World} (r : Bool) (h : smB z = r) (hx : EntsAt w A z) (hn : z.length ≤ 4194304) (hr : rowsIn z 4194304) :
    Calls Try.prog 62 #[.slice A z.length c] w fun e w' => e = .returned (.bool r) ∧ Below w.heap.size w w' := by
  rw [← h]
  exact isSmall_l A c z w hx hn hr
end Go.Proofs.Ytjikdlldochhcab
