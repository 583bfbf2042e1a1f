/- HELPER, no statement of the seat: Group of both sides. -/
import Derived.Test.YtifjenleoagefaaGreatCap
import Derived.Test.YtifjenleoagefaaGreatZbn
namespace Go.Proofs.YtifjenleoagefaaGreat
open Go.RowKit Go.Sort
set_option linter.unusedSimpArgs false
set_option linter.unusedVariables false


/-- The row begins with the key. -/
def grpB (key r : List Int) : Bool := decide (r.take key.length = key)
def GrpF (z : List Ent) (key : List Int) : List Ent := if (zsB z && decide (1 ≤ key.length ∧ key.length ≤ wid z)) = true then z.filter (fun e => grpB key e.1) else []
theorem GrpF_len (z : List Ent) (key : List Int) : (GrpF z key).length ≤ 400 := by
  unfold GrpF
  split
  · rename_i h
    simp only [Bool.and_eq_true] at h
    exact Nat.le_trans (List.length_filter_le _ _) (zsB_len h.1)
  · simp
theorem GrpF_row (z : List Ent) (key : List Int) : rowsIn (GrpF z key) 6 := by
  unfold GrpF
  split
  · rename_i h
    simp only [Bool.and_eq_true] at h
    exact fun e he => zsB_row h.1 e (List.mem_filter.1 he).1
  · intro e he; cases he

set_option maxHeartbeats 1600000 in
theorem grp_c (B : Nat) (KA : Option Addr) (kc : Nat) (key : List Int) (RA : Option Addr) (rc : Nat) (xs : List Int) (w : World) (hk : Blk w B 31 #[.slice KA key.length kc]) (hK : IntsAt w KA key) (hx : IntsAt w RA xs) (hm : key.length ≤ xs.length) (hl : xs.length ≤ 4194304) (hc : xs.length ≤ rc) (hcm : rc ≤ maxLen) (h1 : 1 ≤ key.length) :
    Calls Tryz.prog 39 #[.slice RA xs.length rc, .pointer (some ⟨B, 0, none⟩)] w fun e w' => e = .returned (.bool (grpB key xs)) ∧ Below w.heap.size w w' := by
  obtain ⟨b, off, rfl, hbl, -⟩ := hx (by omega)
  have hlt : (xs.take key.length).length = key.length := by simp; omega
  have HP : Hid (grpB key xs = decide (xs.take key.length = key)) := rfl
  have r1 := cgrow (hk.cell 0)
  simp at r1
  have g0 : (0 : Int) ≤ key.length := by omega
  have g1 : (key.length : Int) ≤ rc := by omega
  have g2 : (rc : Int) ≤ 9223372036854775807 := by unfold maxLen at hcm; omega
  have hcon := fun W (hW : Below w.heap.size w W) => equalSl_i (some ⟨b, off, none⟩) KA rc kc (xs.take key.length) key W ((hx.take _).below hW) (hK.below hW) (by omega) (by omega)
  rw [hlt] at hcon
  clear hx hK hk hlt hcm
  go_enter Tryz.func39, Tryz.ntmps39
  go_wp2_with fail
  refine wp_region_quiet_below (by kernel_rfl) (by kernel_rfl) ?_
  repeat (go_big_quiet_step (exact Calls.regrown_of (hcon _ (below_regrown _ _ _))))
  refine wpQuiet_nil ?_
  intro wq hwq
  obtain ⟨⟨dq, osq⟩, rfl⟩ := hwq
  have hbq := below_regrown w dq osq
  generalize grow (redrawn w dq) osq = wz at hbq
  clear r1 hcon
  go_wp2
  go_ret
  exact ⟨ret_bool HP.out.symm, hbq⟩

set_option maxRecDepth 100000 in
set_option maxHeartbeats 1600000 in
theorem itemsGrp_e (B : Nat) (KA : Option Addr) (kc : Nat) (key : List Int) (A : Option Addr) (c : Nat) (es : List Ent) (w : World) (hx : EntsAt w A es) (hn : es.length ≤ 4194303) (hr : rowsIn es 4194304) (hk : Blk w B 31 #[.slice KA key.length kc]) (hK : IntsAt w KA key) (hm : ∀ e ∈ es, key.length ≤ e.1.length) (h1 : 1 ≤ key.length) (hC : EntsC w A es) :
    Calls Tryz.prog 38 #[.slice A es.length c, .func (.func 39) #[] #[.pointer (some ⟨B, 0, none⟩)]] w fun e w' => ∃ A' c', e = .returned (.slice A' (es.filter (fun e : Ent => grpB key e.1)).length c') ∧ EntsAt w' A' (es.filter (fun e : Ent => grpB key e.1)) ∧ Below w.heap.size w w' := by
  obtain ⟨i0, hi, hz0, hz1, hz2⟩ := info_parts Tryz.infoEnt
  obtain ⟨pr, hPR⟩ : ∃ pr : Ent → Bool, ((fun e : Ent => grpB key e.1) : Ent → Bool) = pr := ⟨_, rfl⟩
  rw [hPR]
  have HCON : Hid (∀ k (hlt : k < es.length) RA rc W, IntsAt w RA es[k].1 → es[k].1.length ≤ rc ∧ rc ≤ maxLen → Below w.heap.size w W → Calls Tryz.prog 39 #[.slice RA es[k].1.length rc, .pointer (some ⟨B, 0, none⟩)] W fun e w' => e = .returned (.bool (pr es[k])) ∧ Below W.heap.size W w') := fun k hlt RA rc W hrow hcap hW => by
    have hrl := hr.get hlt
    subst hPR
    exact grp_c B KA kc key RA rc es[k].1 W (hk.below hW) (hK.below hW) (hrow.below hW) (hm _ (List.getElem_mem hlt)) hrl hcap.1 hcap.2 h1
  clear hk hK hm h1 hPR
  go_enter Tryz.func38, Tryz.ntmps38
  go_wp2
  go_loopw [5, 7, 10] (fun v _ i wr => ∃ k A' c' css, k ≤ es.length ∧ i = .int .i64 (k : Nat) ∧ v = .slice A' ((es.take k).filter pr).length c' ∧ wr.ownsRow w.heap.size 33 2 (.slice A' ((es.take k).filter pr).length c') ((es.take k).filter pr).length css.flatten ∧ RdL EntR w css ((es.take k).filter pr) ∧ Below w.heap.size w wr) (fun _ _ i _ => es.length - (intOf i).toNat)
  case atStart => exact ⟨0, none, 0, [], by omega, rfl, rfl, World.ownsRow_nil _ _ _ _, RdL.nil, Below.refl _ _⟩
  case round =>
    obtain ⟨k, A', c', css, hk, rfl, rfl, hown, hrd, hbel⟩ := hrel
    by_cases hlt : k < es.length
    · obtain ⟨b, off, RA, rc, rfl, hbl, hc0, hc1, hcap1, hcap2, hrow⟩ := hC.get k hlt
      have hml : es[k].1.length ≤ maxLen := Nat.le_trans hcap1 hcap2
      have q0 := (hbel.cell (p := ⟨b, off + k * 2, none⟩) hbl).trans hc0
      have q1 := (hbel.cell (p := ⟨b, off + k * 2 + 1, none⟩) hbl).trans hc1
      have hdl : ((es.take k).filter pr).length ≤ k := Nat.le_trans (List.length_filter_le _ _) (by simp; omega)
      have hst : (es.take (k + 1)).filter pr = (es.take k).filter pr ++ if pr es[k] = true then [es[k]] else [] := by
        rw [List.take_succ_eq_append_getElem hlt, List.filter_append]
        congr 1
        by_cases h : pr es[k] = true <;> simp [h]
      have hs1 := hbel.size
      have hm := m_row
      have hcon := fun W hW => HCON.out k hlt RA rc W hrow ⟨hcap1, hcap2⟩ hW
      have HC1 := Lib.hid hcap1
      have HC2 := Lib.hid hcap2
      clear hcap1 hcap2
      clear hc0 hc1 HCON
      by_cases hp : pr es[k] = true
      · rw [if_pos hp] at hst
        have hsn := hrd.snoc (EntR.mk (c := rc) (x := es[k].2) hml hrow)
        rw [show (es[k].1, es[k].2) = es[k] from rfl, ← hst] at hsn
        have HSN := Lib.hid hsn
        have HST := Lib.hid hst
        have HCON := Lib.hid hcon
        rw [hp] at hcon
        have HCON2 := Lib.hid hcon
        clear hst hrd hsn hcon HCON hp
        generalize hM : (es.take k).filter pr = M at *
        clear hM
        have hb0 : Below w.heap.size w (wr.alloc (.cells #[.slice RA es[k].1.length rc, .int .i64 es[k].2] 33)) := bal hbel _
        have HO := Lib.hid (hown.alloc (.cells #[.slice RA es[k].1.length rc, .int .i64 es[k].2] 33))
        clear hown
        go_wp2_with fail
        refine (row_e _ _ _ _ _).mono ?_
        rintro e w1 ⟨rfl, b1⟩
        go_wp2_with fail
        refine (HCON2.out _ (hb0.trans (b1.mono (by simp; omega)))).mono ?_
        rintro e w2 ⟨rfl, b2⟩
        have b12 := btr b1 b2
        obtain ⟨hcl, hfr⟩ := bcell b12
        have t0 : w2.cell? ⟨wr.heap.size, 0, none⟩ = some (.slice RA es[k].1.length rc) := by rw [hcl _ _ (by simp)]; simp
        have t1 : w2.cell? ⟨wr.heap.size, 1, none⟩ = some (.int .i64 es[k].2) := by rw [hcl _ _ (by simp)]; simp
        have hown2 := ownsRow_below HO.out b12
        have hB2 := hb0.trans (b12.mono (by simp; omega))
        have hs2 := hB2.size
        have hsrc := ent_srcs (w1 := w2) (RA := RA) (n := es[k].1.length) (rc := rc) (x := es[k].2) (E := 33)
        clear hcl hfr b1 b2 b12 HO q0 q1
        go_wp2_with (at_builtin; refine wpList_append_src _ rfl _ _ 23 rfl w.heap.size 33 i0 (.agg #[.slice none 0 0, .int .i64 0]) 2 32 Tryz.underlying23 hi hz0 hz1 hz2 rfl (by decide) _ _ _ rfl (hown2.alloc _) (some ⟨w2.heap.size, 0, none⟩) 1 1 [.slice RA es[k].1.length rc, .int .i64 es[k].2] rfl rfl (fun h => by cases h) hsrc ent_ones (by unfold maxLen; omega) (by omega) (by simp; omega) ?_)
        intro v' w3 hown' hgrow hloc
        obtain ⟨A3, c3, rfl⟩ := own_slice hown'
        have hb3 : Below w.heap.size w w3 := (bal hB2 _).grown hgrow (by simp; omega) (fun q hq => (World.ownsRow.lt hown2 q hq).1)
        have HL : Hid (M.length + 1 = ((es.take (k + 1)).filter pr).length) := by rw [HST.out]; simp [Hid]
        have HR : Hid (w3.ownsRow w.heap.size 33 2 (.slice A3 ((es.take (k + 1)).filter pr).length c3) ((es.take (k + 1)).filter pr).length (css ++ [[Value.slice RA es[k].1.length rc, Value.int .i64 es[k].2]]).flatten) := by rw [← HL.out]; simpa [Hid] using hown'
        clear hown' hgrow hloc hown2 hB2 hbel t0 t1 hb0
        go_wp2
        go_roundw
        case rel => exact ⟨k + 1, A3, c3, _, by omega, by go_num, by rw [HL.out], HR.out, HSN.out, hb3⟩
        case measure => simp [intOf]; omega
      · rw [if_neg hp, List.append_nil] at hst
        have hp' : pr es[k] = false := by simpa using hp
        rw [hp'] at hcon
        have HCON2 := Lib.hid hcon
        have HST := Lib.hid hst
        have HRD := Lib.hid hrd
        clear hst hrd hp hp' hcon
        generalize hM : (es.take k).filter pr = M at *
        clear hM
        have hb0 : Below w.heap.size w (wr.alloc (.cells #[.slice RA es[k].1.length rc, .int .i64 es[k].2] 33)) := bal hbel _
        have HO := Lib.hid (hown.alloc (.cells #[.slice RA es[k].1.length rc, .int .i64 es[k].2] 33))
        clear hown
        go_wp2_with fail
        refine (row_e _ _ _ _ _).mono ?_
        rintro e w1 ⟨rfl, b1⟩
        go_wp2_with fail
        refine (HCON2.out _ (hb0.trans (b1.mono (by simp; omega)))).mono ?_
        rintro e w2 ⟨rfl, b2⟩
        have b12 := btr b1 b2
        have hB2 := hb0.trans (b12.mono (by simp; omega))
        have HO2 := Lib.hid (ownsRow_below HO.out b12)
        clear b1 b2 b12 HO q0 q1 hbel hb0
        go_wp2
        go_roundw
        case rel => exact ⟨k + 1, A', c', css, by omega, by go_num, by rw [HST.out], by rw [HST.out]; exact HO2.out, by rw [HST.out]; exact HRD.out, hB2⟩
        case measure => simp [intOf]; omega
    · obtain rfl : k = es.length := by omega
      rw [List.take_length] at hown hrd
      have hat : EntsAt wr A' (es.filter pr) := (hrd.below entR hbel).at_ entR rfl hown
      have HA := Lib.hid hat
      have HT := Lib.hid (List.take_length (l := es))
      clear hown hrd hat
      go_wp2
      go_ret
      exact ⟨A', c', by rw [HT.out]; rfl, HA.out, hbel⟩

set_option maxRecDepth 100000 in
set_option maxHeartbeats 1600000 in
theorem Group_i (A : Option Addr) (cc : Nat) (z : List Ent) (KA : Option Addr) (kc : Nat) (key : List Int) (w : World) (hC : EntsC w A z) (hK : IntsAt w KA key) (hn : z.length ≤ 4194304) (hr : rowsIn z 4194304) (hkn : key.length ≤ 4194304) :
    Calls Tryz.prog 12 #[.slice A z.length cc, .slice KA key.length kc] w fun e w' => ∃ A' c', e = .returned (.slice A' (GrpF z key).length c') ∧ EntsOw w' (news w w') A' c' (GrpF z key) ∧ Below w.heap.size w w' := by
  have hx := hC.at_
  have hvz := fun W (h : EntsAt W A z) => ValidZSet_i A cc z W h hn hr
  have hwd := fun W (h : EntsAt W A z) => widthOf_e A cc z W h hn
  by_cases h1 : zsB z = true
  · rw [h1] at hvz
    by_cases h2 : 1 ≤ key.length
    · have h2i : (1 : Int) ≤ key.length := by omega
      by_cases h3 : key.length ≤ wid z
      · have h3i : (key.length : Int) ≤ wid z := by omega
        have hd1 : decide ((key.length : Int) < 1) = false := by simp; omega
        have hd2 : decide ((wid z : Int) < (key.length : Int)) = false := by simp; omega
        have hd3 : decide (wid z < key.length) = false := by simp; omega
        have HR : Hid (GrpF z key = z.filter (fun e => grpB key e.1)) := by simp [Hid, GrpF, h1, h2, h3]
        have HC := Lib.hid (chkF_filter (fun e => grpB key e.1) h1)
        have hlen := zsB_len h1
        have hfl : (z.filter (fun e => grpB key e.1)).length ≤ z.length := List.length_filter_le _ _
        have HFR : Hid (rowsIn (z.filter (fun e => grpB key e.1)) 4194304) := fun e he => hr e (List.mem_filter.1 he).1
        have HM : Hid (∀ e ∈ z, key.length ≤ e.1.length) := fun e he => by have := zsB_wid h1 e he; omega
        clear h1
        go_enter Tryz.func12, Tryz.ntmps12
        go_wp2_with fail
        refine abs_world (fun W => Below w.heap.size w W ∧ Blk W w.heap.size 31 #[.slice KA key.length kc]) ⟨bal (Below.refl _ _) _, Blk.newAt rfl⟩ ?_
        rintro W ⟨hB, hkP⟩
        have r0 := cgrow (hkP.cell 0)
        simp at r0
        refine wp_region_quiet_below (by kernel_rfl) (by kernel_rfl) ?_
        repeat (go_big_quiet_step (first | (go_at_call 34; exact Calls.regrown_of (hvz _ ((hx.below entR hB).below entR (below_regrown _ _ _)))) | (go_at_call 36; exact Calls.regrown_of (hwd _ ((hx.below entR hB).below entR (below_regrown _ _ _))))))
        refine wpQuiet_nil ?_
        intro wq hwq
        obtain ⟨⟨dq, osq⟩, rfl⟩ := hwq
        have hbq := below_regrown W dq osq
        generalize grow (redrawn W dq) osq = W2 at hbq
        have hB2 := btr hB hbq
        have hkP2 := hkP.below hbq
        clear r0 hkP hbq hB hvz hwd
        have c0 := hkP2.cell 0
        simp at c0
        have hs0 := hB2.size
        go_wp2_with fail
        refine (itemsGrp_e w.heap.size KA kc key _ _ _ _ (hx.below entR hB2) (by omega) hr hkP2 (hK.below hB2) HM.out h2 (hC.below entC hB2)).mono ?_
        rintro e W4 ⟨A4, c4, rfl, ha4, b4⟩
        have hB4 := btr hB2 b4
        clear c0
        go_wp2_with fail
        refine (copyZSet_i _ _ _ _ ha4 (by omega) HFR.out).mono ?_
        rintro e W5 ⟨A5, c5, rfl, ho5, b5⟩
        have hs := hB4.size
        rw [HC.out] at ho5
        go_wp2_with fail
        go_ret
        exact ⟨A5, c5, by rw [HR.out, HC.out]; rfl, by rw [HR.out]; exact ho5.mono (fun q hq => ⟨by have := hq.1; omega, hq.2⟩) (fun q hq => hq.2), btr hB4 b5⟩
      · have h3i : (wid z : Int) < key.length := by omega
        have hd1 : decide ((key.length : Int) < 1) = false := by simp; omega
        have hd2 : decide ((wid z : Int) < (key.length : Int)) = true := by simp; omega
        have hd3 : decide (wid z < key.length) = true := by simp; omega
        have HR : Hid (GrpF z key = []) := by simp [Hid, GrpF, h3]
        clear h1 h3
        go_enter Tryz.func12, Tryz.ntmps12
        go_wp2_with fail
        refine abs_world (fun W => Below w.heap.size w W ∧ Blk W w.heap.size 31 #[.slice KA key.length kc]) ⟨bal (Below.refl _ _) _, Blk.newAt rfl⟩ ?_
        rintro W ⟨hB, hkP⟩
        have r0 := cgrow (hkP.cell 0)
        simp at r0
        refine wp_region_quiet_below (by kernel_rfl) (by kernel_rfl) ?_
        repeat (go_big_quiet_step (first | (go_at_call 34; exact Calls.regrown_of (hvz _ ((hx.below entR hB).below entR (below_regrown _ _ _)))) | (go_at_call 36; exact Calls.regrown_of (hwd _ ((hx.below entR hB).below entR (below_regrown _ _ _))))))
        refine wpQuiet_nil ?_
        intro wq hwq
        obtain ⟨⟨dq, osq⟩, rfl⟩ := hwq
        have hbq := below_regrown W dq osq
        generalize grow (redrawn W dq) osq = W2 at hbq
        have hB2 := btr hB hbq
        have hkP2 := hkP.below hbq
        clear r0 hkP hbq hB hvz hwd
        go_wp2
        go_ret
        exact ⟨none, 0, by rw [HR.out]; rfl, by rw [HR.out]; exact SlOw.nil (fun k hk => hk.2), hB2⟩
    · have h2i : (key.length : Int) < 1 := by omega
      have hd1 : decide ((key.length : Int) < 1) = true := by simp; omega
      have HR : Hid (GrpF z key = []) := by simp [Hid, GrpF, h2]
      clear h1 h2
      go_enter Tryz.func12, Tryz.ntmps12
      go_wp2_with fail
      refine abs_world (fun W => Below w.heap.size w W ∧ Blk W w.heap.size 31 #[.slice KA key.length kc]) ⟨bal (Below.refl _ _) _, Blk.newAt rfl⟩ ?_
      rintro W ⟨hB, hkP⟩
      have r0 := cgrow (hkP.cell 0)
      simp at r0
      refine wp_region_quiet_below (by kernel_rfl) (by kernel_rfl) ?_
      repeat (go_big_quiet_step (first | (go_at_call 34; exact Calls.regrown_of (hvz _ ((hx.below entR hB).below entR (below_regrown _ _ _)))) | (go_at_call 36; exact Calls.regrown_of (hwd _ ((hx.below entR hB).below entR (below_regrown _ _ _))))))
      refine wpQuiet_nil ?_
      intro wq hwq
      obtain ⟨⟨dq, osq⟩, rfl⟩ := hwq
      have hbq := below_regrown W dq osq
      generalize grow (redrawn W dq) osq = W2 at hbq
      have hB2 := btr hB hbq
      have hkP2 := hkP.below hbq
      clear r0 hkP hbq hB hvz hwd
      go_wp2
      go_ret
      exact ⟨none, 0, by rw [HR.out]; rfl, by rw [HR.out]; exact SlOw.nil (fun k hk => hk.2), hB2⟩
  · have h1' : zsB z = false := by simpa using h1
    rw [h1'] at hvz
    have HR : Hid (GrpF z key = []) := by simp [Hid, GrpF, h1']
    clear h1 h1'
    go_enter Tryz.func12, Tryz.ntmps12
    go_wp2_with fail
    refine abs_world (fun W => Below w.heap.size w W ∧ Blk W w.heap.size 31 #[.slice KA key.length kc]) ⟨bal (Below.refl _ _) _, Blk.newAt rfl⟩ ?_
    rintro W ⟨hB, hkP⟩
    have r0 := cgrow (hkP.cell 0)
    simp at r0
    refine wp_region_quiet_below (by kernel_rfl) (by kernel_rfl) ?_
    repeat (go_big_quiet_step (first | (go_at_call 34; exact Calls.regrown_of (hvz _ ((hx.below entR hB).below entR (below_regrown _ _ _)))) | (go_at_call 36; exact Calls.regrown_of (hwd _ ((hx.below entR hB).below entR (below_regrown _ _ _))))))
    refine wpQuiet_nil ?_
    intro wq hwq
    obtain ⟨⟨dq, osq⟩, rfl⟩ := hwq
    have hbq := below_regrown W dq osq
    generalize grow (redrawn W dq) osq = W2 at hbq
    have hB2 := btr hB hbq
    have hkP2 := hkP.below hbq
    clear r0 hkP hbq hB hvz hwd
    go_wp2
    go_ret
    exact ⟨none, 0, by rw [HR.out]; rfl, by rw [HR.out]; exact SlOw.nil (fun k hk => hk.2), hB2⟩


end Go.Proofs.YtifjenleoagefaaGreat
