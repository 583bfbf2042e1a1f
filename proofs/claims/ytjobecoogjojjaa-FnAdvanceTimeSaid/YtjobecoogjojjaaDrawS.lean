/- HELPER, no statement of the seat: the generator of traces. -/
import Derived.Test.YtjobecoogjojjaaDrawR
namespace Go.Proofs.Ytjobecoogjojjaa
open Go.RowKit Go.Sort
set_option linter.unusedSimpArgs false
set_option linter.unusedVariables false

theorem addLU_le (b : List Upd) : ∀ a : List Upd, (AddLU a b).length ≤ a.length + b.length := by
  induction b with
  | nil => intro a; simp [AddLU]
  | cons x b ih =>
    intro a
    have h1 := ih (insK ltU a x.1 x.2)
    have h2 := insK_length (lt := ltU) a x.1 x.2
    show (AddLU (insK ltU a x.1 x.2) b).length ≤ _
    simp only [List.length_cons]
    omega
theorem consL_le (l : List Upd) : (chkT (nz (NormLU l))).length ≤ l.length := by
  have h1 := drT_len (nz (NormLU l))
  have h2 : (nz (NormLU l)).length ≤ (NormLU l).length := List.length_filter_le _ _
  have h3 := addLU_le l []
  have h4 : (NormLU l).length = (AddLU [] l).length := rfl
  simp only [List.length_nil] at h3
  omega
theorem updForm {w : World} {S : Fp} {cs : List Value} {u : Upd} (h : UpdO w S cs u) : ∃ RA rc, cs = [.slice RA u.1.1.length rc, .int .i64 u.1.2.1, .int .i64 u.1.2.2, .int .i64 u.2] ∧ (∀ k, blk RA = some k → S k) ∧ IntsOwn w 0 RA rc u.1.1 := by
  obtain ⟨hl, c1, c2, S1, S2, rfl, i1, i2, d, ⟨hl1, d1, d2, T1, T2, rfl, j1, j2, e, ⟨hl3, A, c, rfl, hS, h⟩, ⟨_, f1, f2, U1, U2, rfl, _, _, _, h1, h2⟩⟩, h3⟩ := h
  rw [h1.1, h2.1, h3.1]
  exact ⟨A, c, rfl, fun k hk => i1 k (j1 k (hS k hk)), h⟩

set_option maxRecDepth 100000 in
set_option maxHeartbeats 6400000 in
theorem anyTrace_r (g : Nat) (A : Option Addr) (n c : Nat) (p : Int) (m : Nat) (w : World) (hr : Rdr w g A n c p) (hp : p + 300 ≤ 1000000000) (hm : m ≤ 7) :
    Calls Try.prog 80 #[.pointer (some ⟨g, 0, none⟩), .int .i64 (m : Int)] w (TAny w g A n c p 230) := by
  have hlt := hr.1.lt
  go_enter Try.func80, Try.ntmps80
  go_wp2_with fail
  refine (randomUpdates_r g A n c p m 9 w hr (by omega) hm (by omega)).mono ?_
  rintro e w1 ⟨z0, A1, c1, q1, rfl, ho1, hl1, hr1, hw1, hq1, hq2, r1, g1⟩
  have hs1 := g1.size
  have hat1 : UpdsAt w1 A1 z0 := SlOw.at_ updO ho1
  have hl2 := consL_le z0
  have hr2 := drT_row (nz (NormLU z0))
  have hw2 := drT_wt (nz (NormLU z0))
  have hcon := consolidate_w A1 c1 z0 w1 hat1 (by omega) (fun e he => by have := hr1 e he; omega) (hw1.mono (by omega))
  have HG1 := Lib.hid g1
  have HR1 := Lib.hid r1
  clear ho1 hat1 hr1 hw1 hr g1 r1
  go_wp2_with fail
  refine hcon.mono ?_
  clear hcon
  generalize chkT (nz (NormLU z0)) = z at *
  rintro e w2 ⟨B, d, rfl, ho2, b2⟩
  have hs2 := b2.size
  have hl9 : z.length ≤ 9 := by omega
  have ho2' : UpdsOw w2 (news w w2) B d z := ho2.mono (fun k hk => ⟨by have := hk.1; omega, hk.2⟩) (fun k hk => hk.2)
  have HG := Lib.hid (gB HG1.out b2)
  have HR := Lib.hid (HR1.out.below b2)
  have HRW := Lib.hid hr2
  have HW := Lib.hid hw2
  clear HG1 HR1 hr2 hw2 ho2
  rcases Nat.eq_zero_or_pos z.length with h0 | hpos
  · have hb : ¬ 0 < z.length := by omega
    have HRR : Hid (TAny w g A n c p 230 (.returned (.slice B z.length d)) w2) :=
      ⟨z, B, d, q1, rfl, ⟨ho2', by omega, fun e he => by have := HRW.out e he; omega, HW.out.mono (by omega)⟩, hq1, by omega, HR.out, HG.out⟩
    clear HG HR HRW HW ho2' h0
    go_wp2
    go_ret
    exact HRR.out
  · have hb : (0 : Int) < z.length := by omega
    obtain ⟨css, F, hF⟩ := ho2'
    obtain ⟨G, rfl, hSG, hGl, -, -⟩ : ∃ G, B = some ⟨G, 0, none⟩ ∧ news w w2 G ∧ G < w2.heap.size ∧ z.length ≤ d ∧ d ≤ maxLen := by
      rcases hF.form with ⟨_, _, h⟩ | h
      · rw [h] at hpos; simp at hpos
      · exact h
    have hclen := hF.clen
    have HF := Lib.hid hF
    clear hF
    go_wp2_with fail
    refine (pick_r _ _ _ _ _ _ _ HR.out (by omega) (by omega)).mono ?_
    rintro e w3 ⟨k0, rfl, a0, a1, r3, g3⟩
    have ha1 := a1 (by omega)
    obtain ⟨k, rfl⟩ := Int.eq_ofNat_of_zero_le a0
    have hk : k < z.length := by omega
    go_wp2_with fail
    refine (pick_r _ _ _ _ _ _ _ r3 (by omega) (by omega)).mono ?_
    rintro e w4 ⟨j, rfl, b0, b1, r4, g4⟩
    have hg4 := g3.trans g4
    have hs4 := hg4.size
    have h1 : k < css.length := by omega
    have hF4 : SlF UpdO 4 37 w4 (news w w2) (some ⟨G, 0, none⟩) d z css F := HF.out.loc updO (fun q hq => hg4.block q hq.2 (fun e => by injection e with e; have := hq.1; omega))
    obtain ⟨RA, rc, hcs, hS0, hrow0⟩ := updForm (hF4.elt k h1 hk)
    have hc0 : w4.cell? ⟨G, k * 4, none⟩ = some (.slice RA z[k].1.1.length rc) := by
      have := hF4.cell k h1 0 (by decide)
      rw [Nat.add_zero] at this
      rw [this, hcs]; rfl
    have hc1 : w4.cell? ⟨G, k * 4 + 1, none⟩ = some (.int .i64 z[k].1.2.1) := by rw [hF4.cell k h1 1 (by decide), hcs]; rfl
    have hc2 : w4.cell? ⟨G, k * 4 + 2, none⟩ = some (.int .i64 z[k].1.2.2) := by rw [hF4.cell k h1 2 (by decide), hcs]; rfl
    have hc3 : w4.cell? ⟨G, k * 4 + 3, none⟩ = some (.int .i64 z[k].2) := by rw [hF4.cell k h1 3 (by decide), hcs]; rfl
    have hf0 := hF4.frozen (k * 4)
    have hf1 := hF4.frozen (k * 4 + 1)
    have hf2 := hF4.frozen (k * 4 + 2)
    have hf3 := hF4.frozen (k * 4 + 3)
    have hG4 : G < w4.heap.size := by omega
    have hwG : w.heap.size ≤ G := hSG.1
    have hgG : g < G := by omega
    have hzk := HRW.out _ (List.getElem_mem hk)
    have hzw := HW.out _ (List.getElem_mem hk)
    have H4 := Lib.hid (And.intro hF4 (And.intro r4 (HG.out.trans hg4)))
    have HI := Lib.hid hrow0.at_
    have hclt : (0 : Int) ≤ (k : Int) := by omega
    have hklt : (k : Int) < z.length := by omega
    clear HR HG HF a1 r3 g3 b1 r4 g4 hF4 hg4 hcs hS0 hrow0 ha1
    by_cases hj0 : j = 0
    · -- the weight
      subst hj0
      have hB : Blk (w4.alloc (.cells #[.int .i64 0, .int .i64 1000001] 3)) w4.heap.size 3 (ints [0, 1000001]) := Blk.newAt rfl
      have hgl := H4.out.2.1.1.lt
      clear hc0 hc1 hc2 hc3 hf0 hf1 hf2 hf3
      go_wp2_with fail
      refine (oneL_r g w4.heap.size A n c _ [0, 1000001] _ (H4.out.2.1.alloc _) (by omega) hB (by omega) (by decide) (by decide)).mono ?_
      rintro e w5 ⟨x, rfl, hx, r5, g5⟩
      have hx2 : -4000000 ≤ x ∧ x ≤ 4000000 := by simp at hx; omega
      have g45 : w4.grownBy w5 (some g) := (World.grownBy_alloc _ _ _).trans g5
      have hF5 : SlF UpdO 4 37 w5 (news w w2) (some ⟨G, 0, none⟩) d z css F := H4.out.1.loc updO (fun q hq => g45.block q (by have := hq.2; omega) (fun e => by injection e with e; have := hq.1; omega))
      obtain ⟨RA5, rc5, hcs, hS0, hrow0⟩ := updForm (hF5.elt k h1 hk)
      have hc3 : w5.cell? ⟨G, k * 4 + 3, none⟩ = some (.int .i64 z[k].2) := by rw [hF5.cell k h1 3 (by decide), hcs]; rfl
      have hf3 := hF5.frozen (k * 4 + 3)
      have hx3 : UpdO w5 (F k) ((css[k]).set 3 (.int .i64 x)) ((z[k].1.1, (z[k].1.2.1, z[k].1.2.2)), x) := by
        rw [hcs]
        exact UpdO.mk (fun q hq => hF5.lt q (hF5.sub k q hq).1) hS0 hrow0
      have hst := hF5.store updO hk h1 (i := 3) (by decide) (.int .i64 x) hx3
      have hs5 := g45.size
      have HRR : Hid (TAny w g A n c p 230 (.returned (.slice (some ⟨G, 0, none⟩) z.length d)) (w5.setCell ⟨G, k * 4 + 3, none⟩ (.int .i64 x))) := by
        refine ⟨z.set k ((z[k].1.1, (z[k].1.2.1, z[k].1.2.2)), x), some ⟨G, 0, none⟩, d, _, by rw [List.length_set], ⟨⟨_, _, hst.mono (fun q hq => ⟨hq.1, by have := hq.2; simp [World.setCell]; omega⟩) (fun q hq => hq.2)⟩, by rw [List.length_set]; omega, rowsU_set HRW.out (by omega) (by simp only; omega), wInU_set HW.out (by omega) hx2⟩, ?_, ?_, r5.far (by simp; omega) _, gset (H4.out.2.2.trans g45) (by simp; omega) _⟩ <;> omega
      clear hB hx r5 g5 g45 hF5 hcs hS0 hrow0 hx3 hst H4 HRW HW HI
      go_wp2
      go_ret
      exact HRR.out
    · have e0 : (j == 0) = false := by rw [beq_eq_false_iff_ne]; exact hj0
      by_cases hj1 : j = 1
      · -- the time
        subst hj1
        have hgl := H4.out.2.1.1.lt
        clear hc0 hc1 hc2 hc3 hf0 hf1 hf2 hf3 hj0
        go_wp2_with fail
        refine (anyTime_r g A n c _ _ H4.out.2.1 (by omega)).mono ?_
        rintro e w5 ⟨x, y, q5, rfl, hq5, hq6, r5, g45⟩
        have hF5 : SlF UpdO 4 37 w5 (news w w2) (some ⟨G, 0, none⟩) d z css F := H4.out.1.loc updO (fun q hq => g45.block q (by have := hq.2; omega) (fun e => by injection e with e; have := hq.1; omega))
        obtain ⟨RA5, rc5, hcs, hS0, hrow0⟩ := updForm (hF5.elt k h1 hk)
        have hc1 : w5.cell? ⟨G, k * 4 + 1, none⟩ = some (.int .i64 z[k].1.2.1) := by rw [hF5.cell k h1 1 (by decide), hcs]; rfl
        have hc2 : w5.cell? ⟨G, k * 4 + 2, none⟩ = some (.int .i64 z[k].1.2.2) := by rw [hF5.cell k h1 2 (by decide), hcs]; rfl
        have hf1 := hF5.frozen (k * 4 + 1)
        have hf2 := hF5.frozen (k * 4 + 2)
        have hx3 : UpdO w5 (F k) ((css[k]).set 1 (.int .i64 x)) ((z[k].1.1, (x, z[k].1.2.2)), z[k].2) := by
          rw [hcs]
          exact UpdO.mk (fun q hq => hF5.lt q (hF5.sub k q hq).1) hS0 hrow0
        have hst := hF5.store updO hk h1 (i := 1) (by decide) (.int .i64 x) hx3
        have hk2 : k < (z.set k ((z[k].1.1, (x, z[k].1.2.2)), z[k].2)).length := by rw [List.length_set]; exact hk
        have h2 : k < (css.set k ((css[k]).set 1 (.int .i64 x))).length := by rw [List.length_set]; exact h1
        obtain ⟨RA6, rc6, hcs6, hS6, hrow6⟩ := updForm (hst.elt k h2 hk2)
        have hx4 : UpdO (w5.setCell ⟨G, k * 4 + 1, none⟩ (.int .i64 x)) (F k) (((css.set k ((css[k]).set 1 (.int .i64 x)))[k]).set 2 (.int .i64 y)) ((z[k].1.1, (x, y)), z[k].2) := by
          rw [hcs6]
          simp only [List.getElem_set_self] at hS6 hrow6 ⊢
          exact UpdO.mk (fun q hq => hst.lt q (hst.sub k q hq).1) hS6 hrow6
        have hst2 := hst.store updO hk2 h2 (i := 2) (by decide) (.int .i64 y) hx4
        have hs5 := g45.size
        have HRR : Hid (TAny w g A n c p 230 (.returned (.slice (some ⟨G, 0, none⟩) z.length d)) ((w5.setCell ⟨G, k * 4 + 1, none⟩ (.int .i64 x)).setCell ⟨G, k * 4 + 2, none⟩ (.int .i64 y))) := by
          refine ⟨(z.set k ((z[k].1.1, (x, z[k].1.2.2)), z[k].2)).set k ((z[k].1.1, (x, y)), z[k].2), some ⟨G, 0, none⟩, d, q5, by rw [List.length_set, List.length_set], ⟨⟨_, _, hst2.mono (fun q hq => ⟨hq.1, by have := hq.2; simp [World.setCell]; omega⟩) (fun q hq => hq.2)⟩, by rw [List.length_set, List.length_set]; omega, rowsU_set (rowsU_set HRW.out (Nat.le_refl 6) (by simp only; omega)) (by omega) (by simp only; omega), wInU_set (wInU_set HW.out (Int.le_refl _) (by simp only; omega)) (by omega) (by simp only; omega)⟩, ?_, ?_, (r5.far (by simp; omega) _).far (by simp; omega) _, gset (gset (H4.out.2.2.trans g45) (by simp; omega) _) (by simp; omega) _⟩ <;> omega
        clear r5 g45 hF5 hcs hS0 hrow0 hx3 hst hcs6 hS6 hrow6 hx4 hst2 H4 HRW HW HI
        go_wp2
        go_ret
        exact HRR.out
      · have e1 : (j == 1) = false := by rw [beq_eq_false_iff_ne]; exact hj1
        by_cases hj2 : j = 2
        · -- one column more
          subst hj2
          obtain ⟨i0, hi, hz0, hz1, hz2⟩ := info_parts Try.infoInt
          clear hc1 hc2 hc3 hf1 hf2 hf3 hj0 hj1
          go_wp2_with fail
          refine (copyInts_s _ _ _ _ HI.out (by omega)).mono ?_
          rintro e w5 ⟨A5, c5, rfl, ho5, b5⟩
          have hs5 := b5.size
          have HO5 : Hid (w5.ownsRow w4.heap.size 3 1 (.slice A5 z[k].1.1.length c5) z[k].1.1.length (z[k].1.1.map (Value.int .i64))) := ho5
          clear ho5
          go_wp2_with (at_builtin; refine wpList_append_src _ rfl _ _ 23 rfl w4.heap.size 3 i0 (.int .i64 0) 1 8 Try.underlying23 hi hz0 hz1 hz2 rfl (by decide) _ _ _ rfl (HO5.out.alloc _) (some ⟨w5.heap.size, 0, none⟩) 1 1 [.int .i64 1] rfl rfl (fun h => by cases h) (intZ_srcs _) (intZ_ones _) (by unfold maxLen; omega) (by omega) (by simp; omega) ?_)
          intro v' w6 hown' hgrow hloc
          obtain ⟨A6, c6, rfl⟩ := own_slice hown'
          have hrow : ∀ q, (Value.slice A5 z[k].1.1.length c5).ownBlock = some q → w4.heap.size ≤ q := fun q hq => (World.ownsRow.lt HO5.out q hq).1
          have hb6 : Below w4.heap.size w4 w6 := (bal b5 _).grown hgrow (by simp; omega) hrow
          have hrow6 : IntsOwn w6 w4.heap.size A6 c6 (z[k].1.1 ++ [1]) := by
            have : w6.ownsRow w4.heap.size 3 1 (.slice A6 (z[k].1.1 ++ [1]).length c6) (z[k].1.1 ++ [1]).length ((z[k].1.1 ++ [1]).map (Value.int .i64)) := by simpa using hown'
            exact this
          have hc6 := (hb6.cell (p := ⟨G, k * 4, none⟩) hG4).trans hc0
          have hf6 := (hb6.frozen (p := ⟨G, k * 4, none⟩) hG4).trans hf0
          have HRR : Hid (TAny w g A n c p 230 (.returned (.slice (some ⟨G, 0, none⟩) z.length d)) (w6.setCell ⟨G, k * 4, none⟩ (.slice A6 (z[k].1.1.length + 1) c6))) := by
            have hs6 := hb6.size
            have hF6 : SlF UpdO 4 37 w6 (news w w2) (some ⟨G, 0, none⟩) d z css F := H4.out.1.loc updO (fun q hq => hb6.block q (by have := hq.2; omega))
            obtain ⟨RA7, rc7, hcs, hS0, hrow0⟩ := updForm (hF6.elt k h1 hk)
            have hx : UpdO w6 (fun q => w4.heap.size ≤ q ∧ q < w6.heap.size) ((css[k]).set 0 (.slice A6 (z[k].1.1 ++ [1]).length c6)) ((z[k].1.1 ++ [1], (z[k].1.2.1, z[k].1.2.2)), z[k].2) := by
              rw [hcs]
              exact UpdO.mk (fun q hq => hq.2) (fun q e => by
                rcases hrow6.form with ⟨h1, _⟩ | ⟨g', h1, h2, h3⟩
                · rw [h1] at e; cases e
                · rw [h1] at e; simp [blk] at e; subst e; exact ⟨h2, h3⟩) (hrow6.mono (Nat.zero_le _))
            have hsw := hF6.swap updO hk h1 (i := 0) (by decide) (.slice A6 (z[k].1.1 ++ [1]).length c6) (U := news w w6) hx (fun q hq e => by have := e.2; have := hq.1; omega) (fun q hq => by
              rcases hq with hq | hq
              · exact ⟨hq.1, by have := hq.2; omega⟩
              · exact ⟨by have := hq.1; have := H4.out.2.2.size; omega, hq.2⟩) (fun q hq => hq.2)
            rw [Nat.add_zero] at hsw
            have hll : (z[k].1.1 ++ [1]).length = z[k].1.1.length + 1 := by simp
            rw [hll] at hsw
            refine ⟨z.set k ((z[k].1.1 ++ [1], (z[k].1.2.1, z[k].1.2.2)), z[k].2), some ⟨G, 0, none⟩, d, _, by rw [List.length_set], ⟨⟨_, _, hsw.mono (fun q hq => ⟨hq.1, by have := hq.2; simp [World.setCell]; omega⟩) (fun q hq => hq.2)⟩, by rw [List.length_set]; omega, rowsU_set HRW.out (by omega) (by simp; omega), wInU_set HW.out (by omega) (by simp only; omega)⟩, ?_, ?_, (H4.out.2.1.below hb6).far (by simp; omega) _, gset (gB H4.out.2.2 hb6) (by simp; have := hSG.1; omega) _⟩ <;> omega
          clear hown' hgrow hloc hrow hb6 hrow6 b5 HO5 hc0 hf0 H4 HRW HW HI
          go_wp2
          go_ret
          exact HRR.out
        · have e2 : (j == 2) = false := by rw [beq_eq_false_iff_ne]; exact hj2
          have HRR : Hid (TAny w g A n c p 230 (.returned (.slice (some ⟨G, 0, none⟩) z.length d)) w4) :=
            ⟨z, _, d, _, rfl, ⟨⟨_, _, H4.out.1.mono (fun q hq => ⟨hq.1, by have := hq.2; omega⟩) (fun q hq => hq.2)⟩, by omega, fun e he => by have := HRW.out e he; omega, HW.out.mono (by omega)⟩, by omega, by omega, H4.out.2.1, H4.out.2.2⟩
          clear hc0 hc1 hc2 hc3 hf0 hf1 hf2 hf3 hj0 hj1 hj2 H4 HRW HW HI
          go_wp2
          go_ret
          exact HRR.out
end Go.Proofs.Ytjobecoogjojjaa
