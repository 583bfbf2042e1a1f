/- HELPER, no statement of the seat: the generator of the arguments of Consolidate. -/
import Derived.Test.YtjobecoogjojjaaDrawS
namespace Go.Proofs.Ytjobecoogjojjaa
open Go.RowKit Go.Sort
set_option linter.unusedSimpArgs false
set_option linter.unusedVariables false

def OneU (w : World) (e : Ending) (w' : World) : Prop := ∃ (z : List Upd) (A' : Option Addr) (c' : Nat), e = .returned (.slice A' z.length c') ∧ TA w z A' c' w' ∧ Below w.heap.size w w'
set_option maxRecDepth 100000 in
set_option maxHeartbeats 3200000 in
theorem DrawConsolidate_r (A : Option Addr) (n c : Nat) (w : World) (hb : BytesAt w w.heap.size A n) (hc : n ≤ c) (hn : n ≤ 1048576) :
    Calls Try.prog 16 #[.slice A n c] w (OneU w) := by
  go_enter Try.func16, Try.ntmps16
  go_wp2_with fail
  refine (newReader_r _ _ _ _ hb hc hn).mono ?_
  rintro e w1 ⟨A1, m1, c1, rfl, r1, b1⟩
  clear hb
  go_wp2_with fail
  refine (pick_r _ _ _ _ _ _ _ r1 (by omega) (by omega)).mono ?_
  rintro e w2 ⟨j, rfl, b0, j1, r2, g2⟩
  have hj1 := j1 (by omega)
  obtain ⟨k0, rfl⟩ := Int.eq_ofNat_of_zero_le b0
  have hcon := randomUpdates_r w.heap.size A1 m1 c1 _ (1 + k0) 10 w2 r2 (by omega) (by omega) (by omega)
  rw [show ((1 + k0 : Nat) : Int) = 1 + (k0 : Int) by omega] at hcon
  have hB2 := gbelow b1 g2 (Nat.le_refl _)
  have hlt2 := r2.1.lt
  have hs2 := hB2.size
  clear j1 r1 r2 b1 g2
  go_wp2_with fail
  refine hcon.mono ?_
  rintro e w3 ⟨z, B, d, q3, rfl, ho3, hl3, hr3, hw3, hq1, hq2, r3, g3⟩
  have hB3 := gbelow hB2 g3 (Nat.le_refl _)
  have hs3 := g3.size
  clear hcon
  go_wp2_with fail
  refine (pick_r _ _ _ _ _ _ _ r3 (by omega) (by omega)).mono ?_
  rintro e w4 ⟨j4, rfl, d0, d1, r4, g4⟩
  have hs4 := g4.size
  have ho4 : UpdsOw w4 (news w w4) B d z := (updsG ho3 g4 (fun k hk => by have := hk.1; omega)).mono (fun k hk => ⟨by have := hk.1; omega, by have := hk.2; omega⟩) (fun k hk => hk.2)
  have hB4 := gbelow hB3 g4 (Nat.le_refl _)
  have HRW : Hid (rowsU z 10) := fun e he => by have := hr3 e he; omega
  have HW : Hid (wIn z 4000000) := hw3.mono (by omega)
  have HRR : Hid (TA w z B d w4) := ⟨ho4, by omega, HRW.out, HW.out⟩
  have HO : Hid (UpdsOw w4 (news w2 w3) B d z) := updsG ho3 g4 (fun k hk => by have := hk.1; omega)
  have HB := Lib.hid hB4
  have HR4 := Lib.hid r4
  clear ho3 ho4 hr3 hw3 r3 r4 g3 g4 d1 hB2 hB3 hB4
  by_cases hj : j4 = 0
  · subst hj
    rcases Nat.eq_zero_or_pos z.length with h0 | hpos
    · have hb : ¬ 0 < z.length := by omega
      clear HRW HW HR4 HO h0
      go_wp2
      go_ret
      exact ⟨z, B, d, rfl, HRR.out, HB.out⟩
    · have hb : (0 : Int) < z.length := by omega
      obtain ⟨css, F, hF⟩ := HO.out
      obtain ⟨G, rfl, hSG, hGl, -, -⟩ : ∃ G, B = some ⟨G, 0, none⟩ ∧ news w2 w3 G ∧ G < w4.heap.size ∧ z.length ≤ d ∧ d ≤ maxLen := by
        rcases hF.form with ⟨_, _, h⟩ | h
        · rw [h] at hpos; simp at hpos
        · exact h
      have hclen := hF.clen
      have HF := Lib.hid hF
      clear hF HRR HO
      go_wp2_with fail
      refine (pick_r _ _ _ _ _ _ _ HR4.out (by omega) (by omega)).mono ?_
      rintro e w5 ⟨k5, rfl, a0, a1, r5, g5⟩
      have ha1 := a1 (by omega)
      obtain ⟨k, rfl⟩ := Int.eq_ofNat_of_zero_le a0
      have hk : k < z.length := by omega
      have hklt : (k : Int) < z.length := by omega
      have hclt : (0 : Int) ≤ (k : Int) := by omega
      clear a1
      go_wp2_with fail
      refine (anyTime_r w.heap.size A1 m1 c1 _ _ r5 (by omega)).mono ?_
      rintro e w6 ⟨x, y, q6, rfl, hq5, hq6, r6, g6⟩
      have g46 := g5.trans g6
      have hs6 := g46.size
      have h1 : k < css.length := by omega
      have hF6 : SlF UpdO 4 37 w6 (news w2 w3) (some ⟨G, 0, none⟩) d z css F := HF.out.loc updO (fun q hq => g46.block q (by have := hq.2; omega) (fun e => by injection e with e; have := hq.1; omega))
      obtain ⟨RA5, rc5, hcs, hS0, hrow0⟩ := updForm (hF6.elt k h1 hk)
      have hc1 : w6.cell? ⟨G, k * 4 + 1, none⟩ = some (.int .i64 z[k].1.2.1) := by rw [hF6.cell k h1 1 (by decide), hcs]; rfl
      have hc2 : w6.cell? ⟨G, k * 4 + 2, none⟩ = some (.int .i64 z[k].1.2.2) := by rw [hF6.cell k h1 2 (by decide), hcs]; rfl
      have hf1 := hF6.frozen (k * 4 + 1)
      have hf2 := hF6.frozen (k * 4 + 2)
      have hx3 : UpdO w6 (F k) ((css[k]).set 1 (.int .i64 x)) ((z[k].1.1, (x, z[k].1.2.2)), z[k].2) := by
        rw [hcs]
        exact UpdO.mk (fun q hq => hF6.lt q (hF6.sub k q hq).1) hS0 hrow0
      have hst := hF6.store updO hk h1 (i := 1) (by decide) (.int .i64 x) hx3
      have hk2 : k < (z.set k ((z[k].1.1, (x, z[k].1.2.2)), z[k].2)).length := by rw [List.length_set]; exact hk
      have h2 : k < (css.set k ((css[k]).set 1 (.int .i64 x))).length := by rw [List.length_set]; exact h1
      obtain ⟨RA6, rc6, hcs6, hS6, hrow6⟩ := updForm (hst.elt k h2 hk2)
      have hx4 : UpdO (w6.setCell ⟨G, k * 4 + 1, none⟩ (.int .i64 x)) (F k) (((css.set k ((css[k]).set 1 (.int .i64 x)))[k]).set 2 (.int .i64 y)) ((z[k].1.1, (x, y)), z[k].2) := by
        rw [hcs6]
        simp only [List.getElem_set_self] at hS6 hrow6 ⊢
        exact UpdO.mk (fun q hq => hst.lt q (hst.sub k q hq).1) hS6 hrow6
      have hst2 := hst.store updO hk2 h2 (i := 2) (by decide) (.int .i64 y) hx4
      have hzk := HRW.out _ (List.getElem_mem hk)
      have hzw := HW.out _ (List.getElem_mem hk)
      have hB6 := gbelow HB.out g46 (Nat.le_refl _)
      have HFIN : Hid (TA w ((z.set k ((z[k].1.1, (x, z[k].1.2.2)), z[k].2)).set k ((z[k].1.1, (x, y)), z[k].2)) (some ⟨G, 0, none⟩) d ((w6.setCell ⟨G, k * 4 + 1, none⟩ (.int .i64 x)).setCell ⟨G, k * 4 + 2, none⟩ (.int .i64 y)) ∧ Below w.heap.size w ((w6.setCell ⟨G, k * 4 + 1, none⟩ (.int .i64 x)).setCell ⟨G, k * 4 + 2, none⟩ (.int .i64 y))) :=
        ⟨⟨⟨_, _, hst2.mono (fun q hq => ⟨by have := hq.1; omega, by have := hq.2; simp [World.setCell]; omega⟩) (fun q hq => hq.2)⟩, by rw [List.length_set, List.length_set]; omega, rowsU_set (rowsU_set HRW.out (Nat.le_refl 10) (by simp only; omega)) (by omega) (by simp only; omega), wInU_set (wInU_set HW.out (Int.le_refl _) (by simp only; omega)) (by omega) (by simp only; omega)⟩, bset (bset hB6 (by have := hSG.1; simp; omega) _) (by have := hSG.1; simp; omega) _⟩
      have hll : ((z.set k ((z[k].1.1, (x, z[k].1.2.2)), z[k].2)).set k ((z[k].1.1, (x, y)), z[k].2)).length = z.length := by rw [List.length_set, List.length_set]
      clear r5 g5 r6 g6 g46 hF6 hcs hS0 hrow0 hx3 hst hcs6 hS6 hrow6 hx4 hst2 HRW HW HF HB HR4 hB6 hk2 h2
      go_wp2
      go_ret
      exact ⟨_, some ⟨G, 0, none⟩, d, by rw [hll]; rfl, HFIN.out⟩
  · have hj' : (j4 == 0) = false := by rw [beq_eq_false_iff_ne]; exact hj
    clear HRW HW HR4 HO hj
    go_wp2
    go_ret
    exact ⟨z, B, d, rfl, HRR.out, HB.out⟩
end Go.Proofs.Ytjobecoogjojjaa
