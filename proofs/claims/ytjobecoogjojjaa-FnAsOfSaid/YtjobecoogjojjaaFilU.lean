/- HELPER, no statement of the seat: FilterTrace of both sides. -/
import Derived.Test.YtjobecoogjojjaaFilI
import Derived.Test.YtjobecoogjojjaaBlu
namespace Go.Proofs.Ytjobecoogjojjaa
open Go.RowKit Go.Sort
set_option linter.unusedSimpArgs false
set_option linter.unusedVariables false

set_option maxRecDepth 100000 in
set_option maxHeartbeats 1600000 in
theorem itemsFil_u (B C m : Nat) (kd v : Int) (A : Option Addr) (c : Nat) (es : List Upd) (w : World) (hx : UpdsAt w A es) (hn : es.length ≤ 4194303) (hr : rowsU es 4194304) (hT : TestAt w B C m kd v) (hm : ∀ e ∈ es, m < e.1.1.length) (h1 : 1 ≤ kd) (h4 : kd ≤ 4) :
    Calls Try.prog 96 #[.slice A es.length c, .func (.func 156) #[] #[.pointer (some ⟨C, 0, none⟩), .pointer (some ⟨B, 0, none⟩)]] w fun e w' => ∃ A' c', e = .returned (.slice A' (es.filter (fun e : Upd => holdP m kd v e.1.1)).length c') ∧ UpdsAt w' A' (es.filter (fun e : Upd => holdP m kd v e.1.1)) ∧ Below w.heap.size w w' := by
  obtain ⟨i0, hi, hz0, hz1, hz2⟩ := info_parts Try.infoUpd
  obtain ⟨pr, hPR⟩ : ∃ pr : Upd → Bool, ((fun e : Upd => holdP m kd v e.1.1) : Upd → Bool) = pr := ⟨_, rfl⟩
  rw [hPR]
  have HCON : Hid (∀ k (hlt : k < es.length) RA rc W, IntsAt w RA es[k].1.1 → Below w.heap.size w W → Calls Try.prog 156 #[.slice RA es[k].1.1.length rc, .pointer (some ⟨C, 0, none⟩), .pointer (some ⟨B, 0, none⟩)] W fun e w' => e = .returned (.bool (pr es[k])) ∧ Below W.heap.size W w') := fun k hlt RA rc W hrow hW => by
    have hrl := hr.get hlt
    subst hPR
    exact rowTest_c B C m kd v RA rc es[k].1.1 W (hT.below hW) (hrow.below hW) (hm _ (List.getElem_mem hlt)) hrl h1 h4
  clear hT hm h1 h4 hPR
  go_enter Try.func96, Try.ntmps96
  go_wp2
  go_loopw [5, 7, 10] (fun v _ i wr => ∃ k A' c' css, k ≤ es.length ∧ i = .int .i64 (k : Nat) ∧ v = .slice A' ((es.take k).filter pr).length c' ∧ wr.ownsRow w.heap.size 37 4 (.slice A' ((es.take k).filter pr).length c') ((es.take k).filter pr).length css.flatten ∧ RdL UpdR w css ((es.take k).filter pr) ∧ Below w.heap.size w wr) (fun _ _ i _ => es.length - (intOf i).toNat)
  case atStart => exact ⟨0, none, 0, [], by omega, rfl, rfl, World.ownsRow_nil _ _ _ _, RdL.nil, Below.refl _ _⟩
  case round =>
    obtain ⟨k, A', c', css, hk, rfl, rfl, hown, hrd, hbel⟩ := hrel
    by_cases hlt : k < es.length
    · obtain ⟨b, off, RA, rc, rfl, hbl, hc0, hc1, hc2, hc3, hml, hrow⟩ := hx.get k hlt
      have q0 := (hbel.cell (p := ⟨b, off + k * 4, none⟩) hbl).trans hc0
      have q1 := (hbel.cell (p := ⟨b, off + k * 4 + 1, none⟩) hbl).trans hc1
      have q2 := (hbel.cell (p := ⟨b, off + k * 4 + 2, none⟩) hbl).trans hc2
      have q3 := (hbel.cell (p := ⟨b, off + k * 4 + 3, none⟩) hbl).trans hc3
      have hdl : ((es.take k).filter pr).length ≤ k := Nat.le_trans (List.length_filter_le _ _) (by simp; omega)
      have hst : (es.take (k + 1)).filter pr = (es.take k).filter pr ++ if pr es[k] = true then [es[k]] else [] := by
        rw [List.take_succ_eq_append_getElem hlt, List.filter_append]
        congr 1
        by_cases h : pr es[k] = true <;> simp [h]
      have hs1 := hbel.size
      have hm := m_rowU
      have hcon := fun W hW => HCON.out k hlt RA rc W hrow hW
      clear hc0 hc1 hc2 hc3 HCON
      by_cases hp : pr es[k] = true
      · rw [if_pos hp] at hst
        have hsn := hrd.snoc (UpdR.of (c := rc) es[k] (x := es[k].2) hml hrow)
        rw [show (es[k].1, es[k].2) = es[k] from rfl, ← hst] at hsn
        have HSN := Lib.hid hsn
        have HST := Lib.hid hst
        have HCON := Lib.hid hcon
        rw [hp] at hcon
        have HCON2 := Lib.hid hcon
        clear hst hrd hsn hcon HCON hp
        generalize hM : (es.take k).filter pr = M at *
        clear hM
        have hb0 : Below w.heap.size w (wr.alloc (.cells #[.slice RA es[k].1.1.length rc, .int .i64 es[k].1.2.1, .int .i64 es[k].1.2.2, .int .i64 es[k].2] 37)) := bal hbel _
        have HO := Lib.hid (hown.alloc (.cells #[.slice RA es[k].1.1.length rc, .int .i64 es[k].1.2.1, .int .i64 es[k].1.2.2, .int .i64 es[k].2] 37))
        clear hown
        go_wp2_with fail
        refine (row_u _ _ _ _ _ _ _).mono ?_
        rintro e w1 ⟨rfl, b1⟩
        go_wp2_with fail
        refine (HCON2.out _ (hb0.trans (b1.mono (by simp; omega)))).mono ?_
        rintro e w2 ⟨rfl, b2⟩
        have b12 := btr b1 b2
        obtain ⟨hcl, hfr⟩ := bcell b12
        have t0 : w2.cell? ⟨wr.heap.size, 0, none⟩ = some (.slice RA es[k].1.1.length rc) := by rw [hcl _ _ (by simp)]; simp
        have t1 : w2.cell? ⟨wr.heap.size, 1, none⟩ = some (.int .i64 es[k].1.2.1) := by rw [hcl _ _ (by simp)]; simp
        have t2 : w2.cell? ⟨wr.heap.size, 2, none⟩ = some (.int .i64 es[k].1.2.2) := by rw [hcl _ _ (by simp)]; simp
        have t3 : w2.cell? ⟨wr.heap.size, 3, none⟩ = some (.int .i64 es[k].2) := by rw [hcl _ _ (by simp)]; simp
        have hown2 := ownsRow_below HO.out b12
        have hB2 := hb0.trans (b12.mono (by simp; omega))
        have hs2 := hB2.size
        have hsrc := upd_srcs (w1 := w2) (RA := RA) (n := es[k].1.1.length) (rc := rc) (p := es[k].1.2.1) (q := es[k].1.2.2) (x := es[k].2) (E := 37)
        clear hcl hfr b1 b2 b12 HO q0 q1 q2 q3
        go_wp2_with (at_builtin; refine wpList_append_src _ rfl _ _ 30 rfl w.heap.size 37 i0 (.agg #[.slice none 0 0, .int .i64 0, .int .i64 0, .int .i64 0]) 4 48 Try.underlying30 hi hz0 hz1 hz2 rfl (by decide) _ _ _ rfl (hown2.alloc _) (some ⟨w2.heap.size, 0, none⟩) 1 1 [.slice RA es[k].1.1.length rc, .int .i64 es[k].1.2.1, .int .i64 es[k].1.2.2, .int .i64 es[k].2] rfl rfl (fun h => by cases h) hsrc upd_ones (by unfold maxLen; omega) (by omega) (by simp; omega) ?_)
        intro v' w3 hown' hgrow hloc
        obtain ⟨A3, c3, rfl⟩ := own_slice hown'
        have hb3 : Below w.heap.size w w3 := (bal hB2 _).grown hgrow (by simp; omega) (fun q hq => (World.ownsRow.lt hown2 q hq).1)
        have HL : Hid (M.length + 1 = ((es.take (k + 1)).filter pr).length) := by rw [HST.out]; simp [Hid]
        have HR : Hid (w3.ownsRow w.heap.size 37 4 (.slice A3 ((es.take (k + 1)).filter pr).length c3) ((es.take (k + 1)).filter pr).length (css ++ [[Value.slice RA es[k].1.1.length rc, Value.int .i64 es[k].1.2.1, Value.int .i64 es[k].1.2.2, Value.int .i64 es[k].2]]).flatten) := by rw [← HL.out]; simpa [Hid] using hown'
        clear hown' hgrow hloc hown2 hB2 hbel t0 t1 t2 t3 hb0
        go_wp2
        go_roundw
        case rel => exact ⟨k + 1, A3, c3, _, by omega, by go_num, by rw [HL.out], HR.out, HSN.out, hb3⟩
        case measure => simp [intOf]; omega
      · rw [if_neg hp, List.append_nil] at hst
        have hp' : pr es[k] = false := by simpa using hp
        rw [hp'] at hcon
        have HCON2 := Lib.hid hcon
        have HST := Lib.hid hst
        have HRD := Lib.hid hrd
        clear hst hrd hp hp' hcon
        generalize hM : (es.take k).filter pr = M at *
        clear hM
        have hb0 : Below w.heap.size w (wr.alloc (.cells #[.slice RA es[k].1.1.length rc, .int .i64 es[k].1.2.1, .int .i64 es[k].1.2.2, .int .i64 es[k].2] 37)) := bal hbel _
        have HO := Lib.hid (hown.alloc (.cells #[.slice RA es[k].1.1.length rc, .int .i64 es[k].1.2.1, .int .i64 es[k].1.2.2, .int .i64 es[k].2] 37))
        clear hown
        go_wp2_with fail
        refine (row_u _ _ _ _ _ _ _).mono ?_
        rintro e w1 ⟨rfl, b1⟩
        go_wp2_with fail
        refine (HCON2.out _ (hb0.trans (b1.mono (by simp; omega)))).mono ?_
        rintro e w2 ⟨rfl, b2⟩
        have b12 := btr b1 b2
        have hB2 := hb0.trans (b12.mono (by simp; omega))
        have HO2 := Lib.hid (ownsRow_below HO.out b12)
        clear b1 b2 b12 HO q0 q1 q2 q3 hbel hb0
        go_wp2
        go_roundw
        case rel => exact ⟨k + 1, A', c', css, by omega, by go_num, by rw [HST.out], by rw [HST.out]; exact HO2.out, by rw [HST.out]; exact HRD.out, hB2⟩
        case measure => simp [intOf]; omega
    · obtain rfl : k = es.length := by omega
      rw [List.take_length] at hown hrd
      have hat : UpdsAt wr A' (es.filter pr) := (hrd.below updR hbel).at_ updR rfl hown
      have HA := Lib.hid hat
      have HT := Lib.hid (List.take_length (l := es))
      clear hown hrd hat
      go_wp2
      go_ret
      exact ⟨A', c', by rw [HT.out]; rfl, HA.out, hbel⟩

theorem trB_filter {l : List Upd} (p : Upd → Bool) (h : trB l = true) : trB (l.filter p) = true := trB_sub List.filter_sublist h
theorem chkT_filter {l : List Upd} (p : Upd → Bool) (h : trB l = true) : chkT (l.filter p) = l.filter p := by simp [chkT, trB_filter p h]
theorem widU_row {l : List Upd} (h : trB l = true) (hp : 0 < l.length) : 1 ≤ widU l ∧ widU l ≤ 6 := by
  have h1 := trB_wid h _ (List.getElem_mem hp)
  have h2 := (sumU_parts (trB_sum h _ (List.getElem_mem hp))).1
  rw [← h1]
  simp only [rowB, decide_eq_true_eq] at h2
  exact ⟨h2.1, h2.2.1⟩
/-- What FilterTrace gives. -/
def FilFU (z : List Upd) (c k v : Int) : List Upd := if (trB z && pvB c k v (widU z)) = true then z.filter (fun e => holdP c.toNat k v e.1.1) else []
theorem FilFU_len (z : List Upd) (c k v : Int) : (FilFU z c k v).length ≤ 400 := by
  unfold FilFU
  split
  · rename_i h
    simp only [Bool.and_eq_true] at h
    exact Nat.le_trans (List.length_filter_le _ _) ((trB_parts h.1).1)
  · simp
theorem FilFU_row (z : List Upd) (c k v : Int) : rowsU (FilFU z c k v) 6 := by
  unfold FilFU
  split
  · rename_i h
    simp only [Bool.and_eq_true] at h
    exact fun e he => trB_row h.1 e (List.mem_filter.1 he).1
  · intro e he; cases he
set_option maxRecDepth 100000 in
set_option maxHeartbeats 1600000 in
theorem FilterTrace_i (A : Option Addr) (cc : Nat) (z : List Upd) (c k v : Int) (w : World) (hx : UpdsAt w A z) (hn : z.length ≤ 4194304) (hr : rowsU z 4194304) :
    Calls Try.prog 31 #[.slice A z.length cc, .agg #[.int .i64 c, .int .i64 k, .int .i64 v]] w fun e w' => ∃ A' c', e = .returned (.slice A' (FilFU z c k v).length c') ∧ UpdsOw w' (news w w') A' c' (FilFU z c k v) ∧ Below w.heap.size w w' := by
  have hvz := fun W (h : UpdsAt W A z) => ValidTrace_i A cc z W h hn hr
  have hwd := fun W (h : UpdsAt W A z) => widthOf_u A cc z W h hn
  have hvp := fun W => ValidPredicate_i c k v (widU z) W
  by_cases h1 : trB z = true
  · rw [h1] at hvz
    by_cases h2 : pvB c k v (widU z) = true
    · rw [h2] at hvp
      have HR : Hid (FilFU z c k v = z.filter (fun e => holdP c.toNat k v e.1.1)) := by simp [Hid, FilFU, h1, h2]
      have HC := Lib.hid (chkT_filter (fun e => holdP c.toNat k v e.1.1) h1)
      have hlen := (trB_parts h1).1
      have hfl : (z.filter (fun e => holdP c.toNat k v e.1.1)).length ≤ z.length := List.length_filter_le _ _
      have HFR : Hid (rowsU (z.filter (fun e => holdP c.toNat k v e.1.1)) 4194304) := fun e he => hr e (List.mem_filter.1 he).1
      obtain ⟨hw1, hc1, hk1, hv1⟩ := pvB_iff.1 h2
      obtain ⟨m, rfl⟩ : ∃ m : Nat, c = m := ⟨c.toNat, by omega⟩
      have hmm : ∀ e ∈ z, m < e.1.1.length := fun e he => by have := trB_wid h1 e he; omega
      have HM := Lib.hid hmm
      simp only [Int.toNat_natCast] at HR HC hfl HFR
      clear h1 h2 hmm
      go_enter Try.func31, Try.ntmps31
      go_wp2_with fail
      refine abs_world (fun W => Below w.heap.size w W ∧ Blk W w.heap.size 49 #[.int .i64 m, .int .i64 k, .int .i64 v]) ⟨bal (Below.refl _ _) _, Blk.newAt rfl⟩ ?_
      rintro W ⟨hB, hkP⟩
      have r0 := cgrow (hkP.cell 0)
      have r1 := cgrow (hkP.cell 1)
      have r2 := cgrow (hkP.cell 2)
      simp at r0 r1 r2
      refine wp_region_quiet_below (by kernel_rfl) (by kernel_rfl) ?_
      repeat (go_big_quiet_step (first | (go_at_call 20; exact Calls.regrown_of (hvz _ ((hx.below updR hB).below updR (below_regrown _ _ _)))) | (go_at_call 95; exact Calls.regrown_of (hwd _ ((hx.below updR hB).below updR (below_regrown _ _ _)))) | (go_at_call 94; exact Calls.regrown_of (hvp _))))
      refine wpQuiet_nil ?_
      intro wq hwq
      obtain ⟨⟨dq, osq⟩, rfl⟩ := hwq
      have hbq := below_regrown W dq osq
      generalize grow (redrawn W dq) osq = W2 at hbq
      have hB2 := btr hB hbq
      have hkP2 := hkP.below hbq
      clear r0 r1 r2 hkP hbq hB hvz hwd hvp
      have c0 := hkP2.cell 0
      have c1 := hkP2.cell 1
      have c2 := hkP2.cell 2
      simp at c0 c1 c2
      go_wp2_with fail
      refine (rowTest_i m k v _ hk1.1 hk1.2).mono ?_
      rintro e W3 ⟨B, C, rfl, hT, b3⟩
      have hB3 := btr hB2 b3
      clear c0 c1 c2
      go_wp2_with fail
      refine (itemsFil_u B C m k v _ _ _ _ (hx.below updR hB3) (by omega) hr hT HM.out hk1.1 hk1.2).mono ?_
      rintro e W4 ⟨A4, c4, rfl, ha4, b4⟩
      have hB4 := btr hB3 b4
      go_wp2_with fail
      refine (copyTrace_i _ _ _ _ ha4 (by omega) HFR.out).mono ?_
      rintro e W5 ⟨A5, c5, rfl, ho5, b5⟩
      have hs := hB4.size
      rw [HC.out] at ho5
      go_wp2_with fail
      go_ret
      exact ⟨A5, c5, by rw [HR.out, HC.out]; rfl, by rw [HR.out]; exact ho5.mono (fun q hq => ⟨by have := hq.1; omega, hq.2⟩) (fun q hq => hq.2), btr hB4 b5⟩
    · have h2' : pvB c k v (widU z) = false := by simpa using h2
      rw [h2'] at hvp
      have HR : Hid (FilFU z c k v = []) := by simp [Hid, FilFU, h2']
      clear h1 h2 h2'
      go_enter Try.func31, Try.ntmps31
      go_wp2_with fail
      refine abs_world (fun W => Below w.heap.size w W ∧ Blk W w.heap.size 49 #[.int .i64 c, .int .i64 k, .int .i64 v]) ⟨bal (Below.refl _ _) _, Blk.newAt rfl⟩ ?_
      rintro W ⟨hB, hkP⟩
      have r0 := cgrow (hkP.cell 0)
      have r1 := cgrow (hkP.cell 1)
      have r2 := cgrow (hkP.cell 2)
      simp at r0 r1 r2
      refine wp_region_quiet_below (by kernel_rfl) (by kernel_rfl) ?_
      repeat (go_big_quiet_step (first | (go_at_call 20; exact Calls.regrown_of (hvz _ ((hx.below updR hB).below updR (below_regrown _ _ _)))) | (go_at_call 95; exact Calls.regrown_of (hwd _ ((hx.below updR hB).below updR (below_regrown _ _ _)))) | (go_at_call 94; exact Calls.regrown_of (hvp _))))
      refine wpQuiet_nil ?_
      intro wq hwq
      obtain ⟨⟨dq, osq⟩, rfl⟩ := hwq
      have hbq := below_regrown W dq osq
      generalize grow (redrawn W dq) osq = W2 at hbq
      have hB2 := btr hB hbq
      clear r0 r1 r2 hkP hbq hB hvz hwd hvp
      go_wp2
      go_ret
      exact ⟨none, 0, by rw [HR.out]; rfl, by rw [HR.out]; exact SlOw.nil (fun k hk => hk.2), hB2⟩
  · have h1' : trB z = false := by simpa using h1
    rw [h1'] at hvz
    have HR : Hid (FilFU z c k v = []) := by simp [Hid, FilFU, h1']
    clear h1 h1'
    go_enter Try.func31, Try.ntmps31
    go_wp2_with fail
    refine abs_world (fun W => Below w.heap.size w W ∧ Blk W w.heap.size 49 #[.int .i64 c, .int .i64 k, .int .i64 v]) ⟨bal (Below.refl _ _) _, Blk.newAt rfl⟩ ?_
    rintro W ⟨hB, hkP⟩
    refine wp_region_quiet_below (by kernel_rfl) (by kernel_rfl) ?_
    repeat (go_big_quiet_step (first | (go_at_call 20; exact Calls.regrown_of (hvz _ ((hx.below updR hB).below updR (below_regrown _ _ _))))))
    refine wpQuiet_nil ?_
    intro wq hwq
    obtain ⟨⟨dq, osq⟩, rfl⟩ := hwq
    have hbq := below_regrown W dq osq
    generalize grow (redrawn W dq) osq = W2 at hbq
    have hB2 := btr hB hbq
    clear hkP hbq hB hvz hwd hvp
    go_wp2
    go_ret
    exact ⟨none, 0, by rw [HR.out]; rfl, by rw [HR.out]; exact SlOw.nil (fun k hk => hk.2), hB2⟩


/-! ### The model's -/
set_option maxRecDepth 100000 in
set_option maxHeartbeats 3200000 in
theorem FilterTrace_s (A : Option Addr) (cc : Nat) (z : List Upd) (c kd v : Int) (w : World) (hx : UpdsAt w A z) (hn : z.length ≤ 4194304) (hr : rowsU z 4194304) :
    Calls Try.prog 32 #[.slice A z.length cc, .agg #[.int .i64 c, .int .i64 kd, .int .i64 v]] w fun e w' => ∃ A' c', e = .returned (.slice A' (FilFU z c kd v).length c') ∧ UpdsOw w' (news w w') A' c' (FilFU z c kd v) ∧ Below w.heap.size w w' := by
  obtain ⟨i0, hi, hz0, hz1, hz2⟩ := info_parts Try.infoUpd
  have hvz := fun W (h : UpdsAt W A z) => validTrace_s A cc z W h hn hr
  have hm0 := SlF.made UpdO 4 37 (w.alloc (.cells #[.int .i64 c, .int .i64 kd, .int .i64 v] 49)) #[] 0 (by simp [maxLen]) (by simp) (S := news w ((w.alloc (.cells #[.int .i64 c, .int .i64 kd, .int .i64 v] 49)).alloc (.cells #[] 37))) ⟨by simp, by simp⟩ (fun k hk => by have := hk.2; simpa using this)
  rw [show (w.alloc (.cells #[.int .i64 c, .int .i64 kd, .int .i64 v] 49)).heap.size = w.heap.size + 1 by simp] at hm0
  have HM0 : Hid (UpdsOw ((w.alloc (.cells #[.int .i64 c, .int .i64 kd, .int .i64 v] 49)).alloc (.cells #[] 37)) (news w ((w.alloc (.cells #[.int .i64 c, .int .i64 kd, .int .i64 v] 49)).alloc (.cells #[] 37))) (some ⟨w.heap.size + 1, 0, none⟩) 0 []) := ⟨_, _, hm0⟩
  clear hm0
  by_cases h1 : trB z = true
  · rw [h1] at hvz
    rcases Nat.eq_zero_or_pos z.length with h0 | hp
    · obtain rfl := List.eq_nil_of_length_eq_zero h0
      have HR : Hid (FilFU [] c kd v = []) := by simp [Hid, FilFU]
      clear h1 h0
      go_enter Try.func32, Try.ntmps32
      go_wp2_with fail
      refine abs_world (fun W => Below w.heap.size w W ∧ w.heap.size < W.heap.size ∧ Blk W w.heap.size 49 #[.int .i64 c, .int .i64 kd, .int .i64 v] ∧ UpdsOw W (news w W) (some ⟨w.heap.size + 1, 0, none⟩) 0 []) ⟨bal (bal (Below.refl _ _) _) _, by simp; omega, (Blk.newAt rfl).alloc _, HM0.out⟩ ?_
      rintro W ⟨hB, hltW, hkP, hmade⟩
      have HMW := Lib.hid hmade
      clear hmade HM0
      refine wp_region_quiet_below (by kernel_rfl) (by kernel_rfl) ?_
      repeat (go_big_quiet_step (first | (go_at_call 87; exact Calls.regrown_of (hvz _ ((hx.below updR hB).below updR (below_regrown _ _ _))))))
      refine wpQuiet_nil ?_
      intro wq hwq
      obtain ⟨⟨dq, osq⟩, rfl⟩ := hwq
      have hbq := below_regrown W dq osq
      generalize grow (redrawn W dq) osq = W2 at hbq
      have hB2 := btr hB hbq
      have hsW := hbq.size
      have HM2 : Hid (UpdsOw W2 (news w W2) (some ⟨w.heap.size + 1, 0, none⟩) 0 []) := (HMW.out.below updO hbq).mono (fun q hq => ⟨hq.1, by have := hq.2; omega⟩) (fun q hq => hq.2)
      have hkP2 := hkP.below hbq
      clear hkP hbq hB hvz HMW
      go_wp2
      go_ret
      exact ⟨_, 0, by rw [HR.out]; rfl, by rw [HR.out]; exact HM2.out, hB2⟩
    · have hwr := widU_row h1 hp
      obtain ⟨b, off, RA0, rc0, hAe, hbl, hzc0, -⟩ := hx.get 0 hp
      simp only [Nat.zero_mul, Nat.add_zero] at hzc0
      have hwz := widU_get hp
      have hzl := hr.get hp
      have hvp := fun W => validPredicate_s c kd v (z[0].1.1.length : Int) W (by omega) (by omega)
      have hpe : ((z.length : Int) == 0) = false := by rw [beq_eq_false_iff_ne]; omega
      have hp' : (0 : Int) < z.length := by omega
      have hpv : (inB c 0 ((z[0].1.1.length : Int) - 1) && (inB kd 1 4 && inB v (-9999) 9999)) = pvB c kd v (widU z) := by
        rw [hwz]
        rw [hwz] at hwr
        have : inB (z[0].1.1.length : Int) 1 6 = true := by simp [inB]; omega
        simp [pvB, this]
      rw [hpv] at hvp
      clear hpv hwz
      subst hAe
      by_cases h2 : pvB c kd v (widU z) = true
      · rw [h2] at hvp
        have HR : Hid (FilFU z c kd v = z.filter (fun e => holdP c.toNat kd v e.1.1)) := by simp [Hid, FilFU, h1, h2]
        obtain ⟨hw1, hc1, hk1, hv1⟩ := pvB_iff.1 h2
        obtain ⟨m, rfl⟩ : ∃ m : Nat, c = m := ⟨c.toNat, by omega⟩
        have hlen := (trB_parts h1).1
        have hcon : ∀ j (hlt : j < z.length) RA rc W, IntsAt w RA z[j].1.1 → Below w.heap.size w W → Calls Try.prog 99 #[.agg #[.int .i64 m, .int .i64 kd, .int .i64 v], .slice RA z[j].1.1.length rc] W fun e w' => e = .returned (.bool ((fun e : Upd => holdP m kd v e.1.1) z[j])) ∧ Below W.heap.size W w' :=
          fun j hlt RA rc W hrow hW => holds_s m kd v RA rc z[j].1.1 W (hrow.below hW) (by have := trB_wid h1 _ (List.getElem_mem hlt); omega) (hr.get hlt) hk1.1 hk1.2
        have HCON := Lib.hid hcon
        simp only [Int.toNat_natCast] at HR
        clear h1 h2 hcon
        generalize hPR : (fun e : Upd => holdP m kd v e.1.1) = pr at *
        clear hPR
        go_enter Try.func32, Try.ntmps32
        go_wp2_with fail
        refine abs_world (fun W => Below w.heap.size w W ∧ w.heap.size < W.heap.size ∧ Blk W w.heap.size 49 #[.int .i64 m, .int .i64 kd, .int .i64 v] ∧ UpdsOw W (news w W) (some ⟨w.heap.size + 1, 0, none⟩) 0 []) ⟨bal (bal (Below.refl _ _) _) _, by simp; omega, (Blk.newAt rfl).alloc _, HM0.out⟩ ?_
        rintro W ⟨hB, hltW, hkP, hmade⟩
        have HMW := Lib.hid hmade
        clear hmade HM0
        have r0 := cgrow (hkP.cell 0)
        have r1 := cgrow (hkP.cell 1)
        have r2 := cgrow (hkP.cell 2)
        simp at r0 r1 r2
        have z0 := cgrow ((hB.cell (p := ⟨b, off, none⟩) hbl).trans hzc0)
        refine wp_region_quiet_below (by kernel_rfl) (by kernel_rfl) ?_
        repeat (go_big_quiet_step (first | (go_at_call 87; exact Calls.regrown_of (hvz _ ((hx.below updR hB).below updR (below_regrown _ _ _)))) | (go_at_call 98; exact Calls.regrown_of (hvp _))))
        refine wpQuiet_nil ?_
        intro wq hwq
        obtain ⟨⟨dq, osq⟩, rfl⟩ := hwq
        have hbq := below_regrown W dq osq
        generalize grow (redrawn W dq) osq = W2 at hbq
        have hB2 := btr hB hbq
        have hsW := hbq.size
        have HM2 : Hid (UpdsOw W2 (news w W2) (some ⟨w.heap.size + 1, 0, none⟩) 0 []) := (HMW.out.below updO hbq).mono (fun q hq => ⟨hq.1, by have := hq.2; omega⟩) (fun q hq => hq.2)
        have hkP2 := hkP.below hbq
        clear r0 r1 r2 z0
        clear hkP hbq hB hvz HMW
        clear hvp
        have HM := HM2
        clear HM2
        have hlt0 : w.heap.size < W2.heap.size := by omega
        go_wp2
        go_loopw [5, 6] (fun vv i wr => ∃ k A' c', k ≤ z.length ∧ i = .int .i64 (k : Nat) ∧ vv = .slice A' ((z.take k).filter pr).length c' ∧ UpdsOw wr (news w wr) A' c' ((z.take k).filter pr) ∧ Blk wr w.heap.size 49 #[.int .i64 m, .int .i64 kd, .int .i64 v] ∧ (∀ q, blk A' = some q → w.heap.size < q) ∧ Below w.heap.size w wr) (fun _ i _ => z.length - (intOf i).toNat)
        case atStart => exact ⟨0, _, _, by omega, rfl, rfl, HM.out, hkP2, fun q hq => by simp [blk] at hq; omega, hB2⟩
        case round =>
          obtain ⟨k, A', c', hk, rfl, rfl, ⟨css, F, hown⟩, hkP, hA', hbel⟩ := hrel
          by_cases hlt : k < z.length
          · obtain ⟨b2, off2, RA, rc, hbe, -, hc0, hc1, hc2, hc3, -, hrow⟩ := hx.get k hlt
            injection hbe with hbe
            injection hbe with hbe1 hbe2
            subst hbe1
            subst hbe2
            have q0 := cgrow ((hbel.cell (p := ⟨b, off + k * 4, none⟩) hbl).trans hc0)
            have q1 := cgrow ((hbel.cell (p := ⟨b, off + k * 4 + 1, none⟩) hbl).trans hc1)
            have r0 := cgrow (hkP.cell 0)
            have r1 := cgrow (hkP.cell 1)
            have r2 := cgrow (hkP.cell 2)
            simp at r0 r1 r2
            have hlt' : (k : Int) < z.length := by omega
            have hrl := hr.get hlt
            have hdl : ((z.take k).filter pr).length ≤ k := Nat.le_trans (List.length_filter_le _ _) (by simp; omega)
            have hst : (z.take (k + 1)).filter pr = (z.take k).filter pr ++ if pr z[k] = true then [z[k]] else [] := by
              rw [List.take_succ_eq_append_getElem hlt, List.filter_append]
              congr 1
              by_cases h : pr z[k] = true <;> simp [h]
            have hcon := fun W hW => HCON.out k hlt RA rc W hrow (btr hbel hW)
            have HF := Lib.hid hown
            have hs1 := hbel.size
            clear hown HCON HM
            by_cases hp : pr z[k] = true
            · rw [if_pos hp] at hst
              rw [hp] at hcon
              have HST := Lib.hid hst
              clear hst hp
              generalize hM : (z.take k).filter pr = M at *
              clear hM
              go_wp2_with fail
              refine wp_region_quiet_below (by kernel_rfl) (by kernel_rfl) ?_
              repeat (go_big_quiet_step (exact Calls.regrown_of (hcon _ (below_regrown _ _ _))))
              refine wpQuiet_nil ?_
              intro wq hwq
              obtain ⟨⟨dq, osq⟩, rfl⟩ := hwq
              have hbq := below_regrown wr dq osq
              generalize grow (redrawn wr dq) osq = w1 at hbq
              have hB1 := btr hbel hbq
              have q0' := (hB1.cell (p := ⟨b, off + k * 4, none⟩) hbl).trans hc0
              have q1' := (hB1.cell (p := ⟨b, off + k * 4 + 1, none⟩) hbl).trans hc1
              have q2' := (hB1.cell (p := ⟨b, off + k * 4 + 2, none⟩) hbl).trans hc2
              have q3' := (hB1.cell (p := ⟨b, off + k * 4 + 3, none⟩) hbl).trans hc3
              clear q0 q1 r0 r1 r2 hcon
              go_wp2_with fail
              refine (copyUpdate_s _ _ _ _ _ _ _ (hrow.below hB1) hrl).mono ?_
              rintro e w2 ⟨RA', rc', rfl, ho, hb2⟩
              have hb12 := btr hbq hb2
              have hF1 := HF.out.loc updO (fun q hq => hbq.block q hq.2)
              have hrow2 := (HF.out.loc updO (fun q hq => hb12.block q hq.2)).row
              have hbase : ∀ q, blk A' = some q → w.heap.size ≤ q := fun q hq => Nat.le_of_lt (hA' q hq)
              have hs2 := hb2.size
              have hsq := hbq.size
              have hl0 := hkP.lt
              have hF1' : SlF UpdO 4 37 w1 (news w w1) A' c' M css F := hF1.mono (fun q hq => ⟨hq.1, by have := hq.2; omega⟩) (fun q hq => hq.2)
              go_wp2_with (at_builtin; refine wpList_append_src _ rfl _ _ 30 rfl w.heap.size 37 i0 (.agg #[.slice none 0 0, .int .i64 0, .int .i64 0, .int .i64 0]) 4 48 Try.underlying30 hi hz0 hz1 hz2 rfl (by decide) _ _ _ rfl ((ownsRow_base hrow2 hbase).alloc _) (some ⟨w2.heap.size, 0, none⟩) 1 1 [.slice RA' z[k].1.1.length rc', .int .i64 z[k].1.2.1, .int .i64 z[k].1.2.2, .int .i64 z[k].2] rfl rfl (fun h => by cases h) upd_srcs upd_ones (by unfold maxLen; omega) (by omega) (by simp; omega) ?_)
              intro v' w3 hown' hgrow hloc
              rw [ownBlock_slice] at hgrow hloc
              have hkP3 : Blk w3 w.heap.size 49 #[.int .i64 m, .int .i64 kd, .int .i64 v] := by
                have h2 := hkP.below hb12
                exact (hgrow.block w.heap.size (by simp; omega) (fun e => by have := hA' _ e.symm; omega)).trans ((Below.heap_alloc _ _ _ (by omega)).trans h2)
              have hp := hF1'.pushU (w2 := w3) hB1 hb2 ho hown' hgrow hloc
              rw [show M ++ [((z[k].1.1, (z[k].1.2.1, z[k].1.2.2)), z[k].2)] = (z.take (k + 1)).filter pr from HST.out.symm] at hp
              have HL : Hid (M.length + 1 = ((z.take (k + 1)).filter pr).length) := by rw [HST.out]; simp [Hid]
              obtain ⟨A3, c3, rfl, ho3, hb3⟩ := hp
              have hA3 : ∀ q, blk A3 = some q → w.heap.size < q := fun q hq => by
                rw [ownBlock_slice] at hloc
                rcases hloc q hq with h | h
                · exact hA' q h
                · omega
              have HO := Lib.hid ho3
              have HB := Lib.hid hb3
              have HK := Lib.hid hkP3
              have HA3 := Lib.hid hA3
              clear hown' hgrow hloc ho3 hb3 hrow2 hbase ho hb2 hbel hrow HF hkP hkP3 hA' hA3 hF1 hF1' hb12 hbq hB1 q0' q1' q2' q3' hc0 hc1 hc2 hc3
              go_wp2
              go_roundw
              case rel => exact ⟨k + 1, A3, c3, by omega, by go_num, by rw [HL.out], HO.out, HK.out, HA3.out, HB.out⟩
              case measure => simp [intOf]; omega
            · rw [if_neg hp, List.append_nil] at hst
              have hp' : pr z[k] = false := by simpa using hp
              rw [hp'] at hcon
              have HST := Lib.hid hst
              clear hst hp hp'
              generalize hM : (z.take k).filter pr = M at *
              clear hM
              go_wp2_with fail
              refine wp_region_quiet_below (by kernel_rfl) (by kernel_rfl) ?_
              repeat (go_big_quiet_step (exact Calls.regrown_of (hcon _ (below_regrown _ _ _))))
              refine wpQuiet_nil ?_
              intro wq hwq
              obtain ⟨⟨dq, osq⟩, rfl⟩ := hwq
              have hbq := below_regrown wr dq osq
              generalize grow (redrawn wr dq) osq = w1 at hbq
              have hB1 := btr hbel hbq
              have hsq := hbq.size
              have HO : Hid (UpdsOw w1 (news w w1) A' c' ((z.take (k + 1)).filter pr)) := by
                rw [Hid, HST.out]
                exact ⟨css, F, (HF.out.loc updO (fun q hq => hbq.block q hq.2)).mono (fun q hq => ⟨hq.1, by have := hq.2; omega⟩) (fun q hq => hq.2)⟩
              have HK := Lib.hid (hkP.below hbq)
              clear q0 q1 r0 r1 r2 hcon hbq hbel hkP HF hc0 hc1 hc2 hc3
              go_wp2
              go_roundw
              case rel => exact ⟨k + 1, A', c', by omega, by go_num, by rw [HST.out], HO.out, HK.out, hA', hB1⟩
              case measure => simp [intOf]; omega
          · obtain rfl : k = z.length := by omega
            rw [List.take_length] at hown
            have HO : Hid (UpdsOw wr (news w wr) A' c' (z.filter pr)) := ⟨_, _, hown⟩
            have HB := Lib.hid hbel
            have HT := Lib.hid (List.take_length (l := z))
            clear hown hbel hkP
            go_wp2
            go_ret
            exact ⟨A', c', by rw [HR.out, HT.out]; rfl, by rw [HR.out]; exact HO.out, HB.out⟩
      · have h2' : pvB c kd v (widU z) = false := by simpa using h2
        rw [h2'] at hvp
        have HR : Hid (FilFU z c kd v = []) := by simp [Hid, FilFU, h2']
        clear h1 h2 h2'
        go_enter Try.func32, Try.ntmps32
        go_wp2_with fail
        refine abs_world (fun W => Below w.heap.size w W ∧ w.heap.size < W.heap.size ∧ Blk W w.heap.size 49 #[.int .i64 c, .int .i64 kd, .int .i64 v] ∧ UpdsOw W (news w W) (some ⟨w.heap.size + 1, 0, none⟩) 0 []) ⟨bal (bal (Below.refl _ _) _) _, by simp; omega, (Blk.newAt rfl).alloc _, HM0.out⟩ ?_
        rintro W ⟨hB, hltW, hkP, hmade⟩
        have HMW := Lib.hid hmade
        clear hmade HM0
        have r0 := cgrow (hkP.cell 0)
        have r1 := cgrow (hkP.cell 1)
        have r2 := cgrow (hkP.cell 2)
        simp at r0 r1 r2
        have z0 := cgrow ((hB.cell (p := ⟨b, off, none⟩) hbl).trans hzc0)
        refine wp_region_quiet_below (by kernel_rfl) (by kernel_rfl) ?_
        repeat (go_big_quiet_step (first | (go_at_call 87; exact Calls.regrown_of (hvz _ ((hx.below updR hB).below updR (below_regrown _ _ _)))) | (go_at_call 98; exact Calls.regrown_of (hvp _))))
        refine wpQuiet_nil ?_
        intro wq hwq
        obtain ⟨⟨dq, osq⟩, rfl⟩ := hwq
        have hbq := below_regrown W dq osq
        generalize grow (redrawn W dq) osq = W2 at hbq
        have hB2 := btr hB hbq
        have hsW := hbq.size
        have HM2 : Hid (UpdsOw W2 (news w W2) (some ⟨w.heap.size + 1, 0, none⟩) 0 []) := (HMW.out.below updO hbq).mono (fun q hq => ⟨hq.1, by have := hq.2; omega⟩) (fun q hq => hq.2)
        have hkP2 := hkP.below hbq
        clear r0 r1 r2 z0
        clear hkP hbq hB hvz HMW
        clear hvp
        go_wp2
        go_ret
        exact ⟨_, 0, by rw [HR.out]; rfl, by rw [HR.out]; exact HM2.out, hB2⟩
  · have h1' : trB z = false := by simpa using h1
    rw [h1'] at hvz
    have HR : Hid (FilFU z c kd v = []) := by simp [Hid, FilFU, h1']
    clear h1 h1'
    go_enter Try.func32, Try.ntmps32
    go_wp2_with fail
    refine abs_world (fun W => Below w.heap.size w W ∧ w.heap.size < W.heap.size ∧ Blk W w.heap.size 49 #[.int .i64 c, .int .i64 kd, .int .i64 v] ∧ UpdsOw W (news w W) (some ⟨w.heap.size + 1, 0, none⟩) 0 []) ⟨bal (bal (Below.refl _ _) _) _, by simp; omega, (Blk.newAt rfl).alloc _, HM0.out⟩ ?_
    rintro W ⟨hB, hltW, hkP, hmade⟩
    have HMW := Lib.hid hmade
    clear hmade HM0
    refine wp_region_quiet_below (by kernel_rfl) (by kernel_rfl) ?_
    repeat (go_big_quiet_step (first | (go_at_call 87; exact Calls.regrown_of (hvz _ ((hx.below updR hB).below updR (below_regrown _ _ _))))))
    refine wpQuiet_nil ?_
    intro wq hwq
    obtain ⟨⟨dq, osq⟩, rfl⟩ := hwq
    have hbq := below_regrown W dq osq
    generalize grow (redrawn W dq) osq = W2 at hbq
    have hB2 := btr hB hbq
    have hsW := hbq.size
    have HM2 : Hid (UpdsOw W2 (news w W2) (some ⟨w.heap.size + 1, 0, none⟩) 0 []) := (HMW.out.below updO hbq).mono (fun q hq => ⟨hq.1, by have := hq.2; omega⟩) (fun q hq => hq.2)
    have hkP2 := hkP.below hbq
    clear hkP hbq hB hvz HMW
    go_wp2
    go_ret
    exact ⟨_, 0, by rw [HR.out]; rfl, by rw [HR.out]; exact HM2.out, hB2⟩
end Go.Proofs.Ytjobecoogjojjaa
