/- HELPER, no statement of the seat: Filter of both sides. -/
import Derived.Test.YtjobecoogjojjaaTst
import Derived.Test.YtjobecoogjojjaaBldM
namespace Go.Proofs.Ytjobecoogjojjaa
open Go.RowKit Go.Sort
set_option linter.unusedSimpArgs false
set_option linter.unusedVariables false


set_option maxRecDepth 100000 in
set_option maxHeartbeats 1600000 in
theorem itemsFil_e (B C m : Nat) (kd v : Int) (A : Option Addr) (c : Nat) (es : List Ent) (w : World) (hx : EntsAt w A es) (hn : es.length ≤ 4194303) (hr : rowsIn es 4194304) (hT : TestAt w B C m kd v) (hm : ∀ e ∈ es, m < e.1.length) (h1 : 1 ≤ kd) (h4 : kd ≤ 4) :
    Calls Try.prog 102 #[.slice A es.length c, .func (.func 156) #[] #[.pointer (some ⟨C, 0, none⟩), .pointer (some ⟨B, 0, none⟩)]] w fun e w' => ∃ A' c', e = .returned (.slice A' (es.filter (fun e : Ent => holdP m kd v e.1)).length c') ∧ EntsAt w' A' (es.filter (fun e : Ent => holdP m kd v e.1)) ∧ Below w.heap.size w w' := by
  obtain ⟨i0, hi, hz0, hz1, hz2⟩ := info_parts Try.infoEnt
  obtain ⟨pr, hPR⟩ : ∃ pr : Ent → Bool, ((fun e : Ent => holdP m kd v e.1) : Ent → Bool) = pr := ⟨_, rfl⟩
  rw [hPR]
  have HCON : Hid (∀ k (hlt : k < es.length) RA rc W, IntsAt w RA es[k].1 → Below w.heap.size w W → Calls Try.prog 156 #[.slice RA es[k].1.length rc, .pointer (some ⟨C, 0, none⟩), .pointer (some ⟨B, 0, none⟩)] W fun e w' => e = .returned (.bool (pr es[k])) ∧ Below W.heap.size W w') := fun k hlt RA rc W hrow hW => by
    have hrl := hr.get hlt
    subst hPR
    exact rowTest_c B C m kd v RA rc es[k].1 W (hT.below hW) (hrow.below hW) (hm _ (List.getElem_mem hlt)) hrl h1 h4
  clear hT hm h1 h4 hPR
  go_enter Try.func102, Try.ntmps102
  go_wp2
  go_loopw [5, 7, 10] (fun v _ i wr => ∃ k A' c' css, k ≤ es.length ∧ i = .int .i64 (k : Nat) ∧ v = .slice A' ((es.take k).filter pr).length c' ∧ wr.ownsRow w.heap.size 100 2 (.slice A' ((es.take k).filter pr).length c') ((es.take k).filter pr).length css.flatten ∧ RdL EntR w css ((es.take k).filter pr) ∧ Below w.heap.size w wr) (fun _ _ i _ => es.length - (intOf i).toNat)
  case atStart => exact ⟨0, none, 0, [], by omega, rfl, rfl, World.ownsRow_nil _ _ _ _, RdL.nil, Below.refl _ _⟩
  case round =>
    obtain ⟨k, A', c', css, hk, rfl, rfl, hown, hrd, hbel⟩ := hrel
    by_cases hlt : k < es.length
    · obtain ⟨b, off, RA, rc, rfl, hbl, hc0, hc1, hml, hrow⟩ := hx.get k hlt
      have q0 := (hbel.cell (p := ⟨b, off + k * 2, none⟩) hbl).trans hc0
      have q1 := (hbel.cell (p := ⟨b, off + k * 2 + 1, none⟩) hbl).trans hc1
      have hdl : ((es.take k).filter pr).length ≤ k := Nat.le_trans (List.length_filter_le _ _) (by simp; omega)
      have hst : (es.take (k + 1)).filter pr = (es.take k).filter pr ++ if pr es[k] = true then [es[k]] else [] := by
        rw [List.take_succ_eq_append_getElem hlt, List.filter_append]
        congr 1
        by_cases h : pr es[k] = true <;> simp [h]
      have hs1 := hbel.size
      have hm := m_row
      have hcon := fun W hW => HCON.out k hlt RA rc W hrow hW
      clear hc0 hc1 HCON
      by_cases hp : pr es[k] = true
      · rw [if_pos hp] at hst
        have hsn := hrd.snoc (EntR.mk (c := rc) (x := es[k].2) hml hrow)
        rw [show (es[k].1, es[k].2) = es[k] from rfl, ← hst] at hsn
        have HSN := Lib.hid hsn
        have HST := Lib.hid hst
        have HCON := Lib.hid hcon
        rw [hp] at hcon
        have HCON2 := Lib.hid hcon
        clear hst hrd hsn hcon HCON hp
        generalize hM : (es.take k).filter pr = M at *
        clear hM
        have hb0 : Below w.heap.size w (wr.alloc (.cells #[.slice RA es[k].1.length rc, .int .i64 es[k].2] 100)) := bal hbel _
        have HO := Lib.hid (hown.alloc (.cells #[.slice RA es[k].1.length rc, .int .i64 es[k].2] 100))
        clear hown
        go_wp2_with fail
        refine (row_e _ _ _ _ _).mono ?_
        rintro e w1 ⟨rfl, b1⟩
        go_wp2_with fail
        refine (HCON2.out _ (hb0.trans (b1.mono (by simp; omega)))).mono ?_
        rintro e w2 ⟨rfl, b2⟩
        have b12 := btr b1 b2
        obtain ⟨hcl, hfr⟩ := bcell b12
        have t0 : w2.cell? ⟨wr.heap.size, 0, none⟩ = some (.slice RA es[k].1.length rc) := by rw [hcl _ _ (by simp)]; simp
        have t1 : w2.cell? ⟨wr.heap.size, 1, none⟩ = some (.int .i64 es[k].2) := by rw [hcl _ _ (by simp)]; simp
        have hown2 := ownsRow_below HO.out b12
        have hB2 := hb0.trans (b12.mono (by simp; omega))
        have hs2 := hB2.size
        have hsrc := ent_srcs (w1 := w2) (RA := RA) (n := es[k].1.length) (rc := rc) (x := es[k].2) (E := 100)
        clear hcl hfr b1 b2 b12 HO q0 q1
        go_wp2_with (at_builtin; refine wpList_append_src _ rfl _ _ 41 rfl w.heap.size 100 i0 (.agg #[.slice none 0 0, .int .i64 0]) 2 32 Try.underlying41 hi hz0 hz1 hz2 rfl (by decide) _ _ _ rfl (hown2.alloc _) (some ⟨w2.heap.size, 0, none⟩) 1 1 [.slice RA es[k].1.length rc, .int .i64 es[k].2] rfl rfl (fun h => by cases h) hsrc ent_ones (by unfold maxLen; omega) (by omega) (by simp; omega) ?_)
        intro v' w3 hown' hgrow hloc
        obtain ⟨A3, c3, rfl⟩ := own_slice hown'
        have hb3 : Below w.heap.size w w3 := (bal hB2 _).grown hgrow (by simp; omega) (fun q hq => (World.ownsRow.lt hown2 q hq).1)
        have HL : Hid (M.length + 1 = ((es.take (k + 1)).filter pr).length) := by rw [HST.out]; simp [Hid]
        have HR : Hid (w3.ownsRow w.heap.size 100 2 (.slice A3 ((es.take (k + 1)).filter pr).length c3) ((es.take (k + 1)).filter pr).length (css ++ [[Value.slice RA es[k].1.length rc, Value.int .i64 es[k].2]]).flatten) := by rw [← HL.out]; simpa [Hid] using hown'
        clear hown' hgrow hloc hown2 hB2 hbel t0 t1 hb0
        go_wp2
        go_roundw
        case rel => exact ⟨k + 1, A3, c3, _, by omega, by go_num, by rw [HL.out], HR.out, HSN.out, hb3⟩
        case measure => simp [intOf]; omega
      · rw [if_neg hp, List.append_nil] at hst
        have hp' : pr es[k] = false := by simpa using hp
        rw [hp'] at hcon
        have HCON2 := Lib.hid hcon
        have HST := Lib.hid hst
        have HRD := Lib.hid hrd
        clear hst hrd hp hp' hcon
        generalize hM : (es.take k).filter pr = M at *
        clear hM
        have hb0 : Below w.heap.size w (wr.alloc (.cells #[.slice RA es[k].1.length rc, .int .i64 es[k].2] 100)) := bal hbel _
        have HO := Lib.hid (hown.alloc (.cells #[.slice RA es[k].1.length rc, .int .i64 es[k].2] 100))
        clear hown
        go_wp2_with fail
        refine (row_e _ _ _ _ _).mono ?_
        rintro e w1 ⟨rfl, b1⟩
        go_wp2_with fail
        refine (HCON2.out _ (hb0.trans (b1.mono (by simp; omega)))).mono ?_
        rintro e w2 ⟨rfl, b2⟩
        have b12 := btr b1 b2
        have hB2 := hb0.trans (b12.mono (by simp; omega))
        have HO2 := Lib.hid (ownsRow_below HO.out b12)
        clear b1 b2 b12 HO q0 q1 hbel hb0
        go_wp2
        go_roundw
        case rel => exact ⟨k + 1, A', c', css, by omega, by go_num, by rw [HST.out], by rw [HST.out]; exact HO2.out, by rw [HST.out]; exact HRD.out, hB2⟩
        case measure => simp [intOf]; omega
    · obtain rfl : k = es.length := by omega
      rw [List.take_length] at hown hrd
      have hat : EntsAt wr A' (es.filter pr) := (hrd.below entR hbel).at_ entR rfl hown
      have HA := Lib.hid hat
      have HT := Lib.hid (List.take_length (l := es))
      clear hown hrd hat
      go_wp2
      go_ret
      exact ⟨A', c', by rw [HT.out]; rfl, HA.out, hbel⟩
end Go.Proofs.Ytjobecoogjojjaa
