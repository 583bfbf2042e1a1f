/- HELPER, no statement of the seat: Filter of both sides. -/
import Derived.Test.YtjlpkfcdkmcjnaaFilE
import Derived.Test.YtjlpkfcdkmcjnaaEntN
namespace Go.Proofs.Ytjlpkfcdkmcjnaa
open Go.RowKit Go.Sort
set_option linter.unusedSimpArgs false
set_option linter.unusedVariables false


/-- What Filter gives. -/
def FilF (z : List Ent) (c k v : Int) : List Ent := if (zsB z && pvB c k v (wid z)) = true then z.filter (fun e => holdP c.toNat k v e.1) else []
theorem FilF_len (z : List Ent) (c k v : Int) : (FilF z c k v).length ≤ 400 := by
  unfold FilF
  split
  · rename_i h
    simp only [Bool.and_eq_true] at h
    exact Nat.le_trans (List.length_filter_le _ _) (zsB_len h.1)
  · simp
theorem FilF_row (z : List Ent) (c k v : Int) : rowsIn (FilF z c k v) 6 := by
  unfold FilF
  split
  · rename_i h
    simp only [Bool.and_eq_true] at h
    exact fun e he => zsB_row h.1 e (List.mem_filter.1 he).1
  · intro e he; cases he
theorem pvB_iff {c k v n : Int} : pvB c k v n = true ↔ (1 ≤ n ∧ n ≤ 6) ∧ (0 ≤ c ∧ c < n) ∧ (1 ≤ k ∧ k ≤ 4) ∧ (-9999 ≤ v ∧ v ≤ 9999) := by
  simp only [pvB, inB, Bool.and_eq_true, decide_eq_true_eq]
  constructor <;> (intro h; omega)

set_option maxRecDepth 100000 in
set_option maxHeartbeats 1600000 in
theorem Filter_i (A : Option Addr) (cc : Nat) (z : List Ent) (c k v : Int) (w : World) (hx : EntsAt w A z) (hn : z.length ≤ 4194304) (hr : rowsIn z 4194304) :
    Calls Try.prog 14 #[.slice A z.length cc, .agg #[.int .i64 c, .int .i64 k, .int .i64 v]] w fun e w' => ∃ A' c', e = .returned (.slice A' (FilF z c k v).length c') ∧ EntsOw w' (news w w') A' c' (FilF z c k v) ∧ Below w.heap.size w w' := by
  have hvz := fun W (h : EntsAt W A z) => ValidZSet_i A cc z W h hn hr
  have hwd := fun W (h : EntsAt W A z) => widthOf_e A cc z W h hn
  have hvp := fun W => ValidPredicate_i c k v (wid z) W
  by_cases h1 : zsB z = true
  · rw [h1] at hvz
    by_cases h2 : pvB c k v (wid z) = true
    · rw [h2] at hvp
      have HR : Hid (FilF z c k v = z.filter (fun e => holdP c.toNat k v e.1)) := by simp [Hid, FilF, h1, h2]
      have HC := Lib.hid (chkF_filter (fun e => holdP c.toNat k v e.1) h1)
      have hlen := zsB_len h1
      have hfl : (z.filter (fun e => holdP c.toNat k v e.1)).length ≤ z.length := List.length_filter_le _ _
      have HFR : Hid (rowsIn (z.filter (fun e => holdP c.toNat k v e.1)) 4194304) := fun e he => hr e (List.mem_filter.1 he).1
      obtain ⟨hw1, hc1, hk1, hv1⟩ := pvB_iff.1 h2
      obtain ⟨m, rfl⟩ : ∃ m : Nat, c = m := ⟨c.toNat, by omega⟩
      have hmm : ∀ e ∈ z, m < e.1.length := fun e he => by have := zsB_wid h1 e he; omega
      have HM := Lib.hid hmm
      simp only [Int.toNat_natCast] at HR HC hfl HFR
      clear h1 h2 hmm
      go_enter Try.func14, Try.ntmps14
      go_wp2_with fail
      refine abs_world (fun W => Below w.heap.size w W ∧ Blk W w.heap.size 25 #[.int .i64 m, .int .i64 k, .int .i64 v]) ⟨bal (Below.refl _ _) _, Blk.newAt rfl⟩ ?_
      rintro W ⟨hB, hkP⟩
      have r0 := cgrow (hkP.cell 0)
      have r1 := cgrow (hkP.cell 1)
      have r2 := cgrow (hkP.cell 2)
      simp at r0 r1 r2
      refine wp_region_quiet_below (by kernel_rfl) (by kernel_rfl) ?_
      repeat (go_big_quiet_step (first | (go_at_call 17; exact Calls.regrown_of (hvz _ ((hx.below entR hB).below entR (below_regrown _ _ _)))) | (go_at_call 62; exact Calls.regrown_of (hwd _ ((hx.below entR hB).below entR (below_regrown _ _ _)))) | (go_at_call 18; exact Calls.regrown_of (hvp _))))
      refine wpQuiet_nil ?_
      intro wq hwq
      obtain ⟨⟨dq, osq⟩, rfl⟩ := hwq
      have hbq := below_regrown W dq osq
      generalize grow (redrawn W dq) osq = W2 at hbq
      have hB2 := btr hB hbq
      have hkP2 := hkP.below hbq
      clear r0 r1 r2 hkP hbq hB hvz hwd hvp
      have c0 := hkP2.cell 0
      have c1 := hkP2.cell 1
      have c2 := hkP2.cell 2
      simp at c0 c1 c2
      go_wp2_with fail
      refine (rowTest_i m k v _ hk1.1 hk1.2).mono ?_
      rintro e W3 ⟨B, C, rfl, hT, b3⟩
      have hB3 := btr hB2 b3
      clear c0 c1 c2
      go_wp2_with fail
      refine (itemsFil_e B C m k v _ _ _ _ (hx.below entR hB3) (by omega) hr hT HM.out hk1.1 hk1.2).mono ?_
      rintro e W4 ⟨A4, c4, rfl, ha4, b4⟩
      have hB4 := btr hB3 b4
      go_wp2_with fail
      refine (copyZSet_i _ _ _ _ ha4 (by omega) HFR.out).mono ?_
      rintro e W5 ⟨A5, c5, rfl, ho5, b5⟩
      have hs := hB4.size
      rw [HC.out] at ho5
      go_wp2_with fail
      go_ret
      exact ⟨A5, c5, by rw [HR.out, HC.out]; rfl, by rw [HR.out]; exact ho5.mono (fun q hq => ⟨by have := hq.1; omega, hq.2⟩) (fun q hq => hq.2), btr hB4 b5⟩
    · have h2' : pvB c k v (wid z) = false := by simpa using h2
      rw [h2'] at hvp
      have HR : Hid (FilF z c k v = []) := by simp [Hid, FilF, h2']
      clear h1 h2 h2'
      go_enter Try.func14, Try.ntmps14
      go_wp2_with fail
      refine abs_world (fun W => Below w.heap.size w W ∧ Blk W w.heap.size 25 #[.int .i64 c, .int .i64 k, .int .i64 v]) ⟨bal (Below.refl _ _) _, Blk.newAt rfl⟩ ?_
      rintro W ⟨hB, hkP⟩
      have r0 := cgrow (hkP.cell 0)
      have r1 := cgrow (hkP.cell 1)
      have r2 := cgrow (hkP.cell 2)
      simp at r0 r1 r2
      refine wp_region_quiet_below (by kernel_rfl) (by kernel_rfl) ?_
      repeat (go_big_quiet_step (first | (go_at_call 17; exact Calls.regrown_of (hvz _ ((hx.below entR hB).below entR (below_regrown _ _ _)))) | (go_at_call 62; exact Calls.regrown_of (hwd _ ((hx.below entR hB).below entR (below_regrown _ _ _)))) | (go_at_call 18; exact Calls.regrown_of (hvp _))))
      refine wpQuiet_nil ?_
      intro wq hwq
      obtain ⟨⟨dq, osq⟩, rfl⟩ := hwq
      have hbq := below_regrown W dq osq
      generalize grow (redrawn W dq) osq = W2 at hbq
      have hB2 := btr hB hbq
      clear r0 r1 r2 hkP hbq hB hvz hwd hvp
      go_wp2
      go_ret
      exact ⟨none, 0, by rw [HR.out]; rfl, by rw [HR.out]; exact SlOw.nil (fun k hk => hk.2), hB2⟩
  · have h1' : zsB z = false := by simpa using h1
    rw [h1'] at hvz
    have HR : Hid (FilF z c k v = []) := by simp [Hid, FilF, h1']
    clear h1 h1'
    go_enter Try.func14, Try.ntmps14
    go_wp2_with fail
    refine abs_world (fun W => Below w.heap.size w W ∧ Blk W w.heap.size 25 #[.int .i64 c, .int .i64 k, .int .i64 v]) ⟨bal (Below.refl _ _) _, Blk.newAt rfl⟩ ?_
    rintro W ⟨hB, hkP⟩
    refine wp_region_quiet_below (by kernel_rfl) (by kernel_rfl) ?_
    repeat (go_big_quiet_step (first | (go_at_call 17; exact Calls.regrown_of (hvz _ ((hx.below entR hB).below entR (below_regrown _ _ _))))))
    refine wpQuiet_nil ?_
    intro wq hwq
    obtain ⟨⟨dq, osq⟩, rfl⟩ := hwq
    have hbq := below_regrown W dq osq
    generalize grow (redrawn W dq) osq = W2 at hbq
    have hB2 := btr hB hbq
    clear hkP hbq hB hvz hwd hvp
    go_wp2
    go_ret
    exact ⟨none, 0, by rw [HR.out]; rfl, by rw [HR.out]; exact SlOw.nil (fun k hk => hk.2), hB2⟩

/-! ### The model's -/
theorem widthOf_s (A : Option Addr) (c : Nat) (z : List Ent) (w : World) (hx : EntsAt w A z) (hp : 0 < z.length) (hr : rowsIn z 4194304) :
    Calls Try.prog 69 #[.slice A z.length c] w fun e w' => e = .returned (.int .i64 (wid z)) ∧ Below w.heap.size w w' := by
  obtain ⟨b, off, RA, rc, rfl, hbl, hc0, -, -, -⟩ := hx.get 0 hp
  simp only [Nat.zero_mul, Nat.add_zero] at hc0
  have hp' : (0 : Int) < z.length := by omega
  have HW := Lib.hid (wid_get hp)
  go_enter Try.func69, Try.ntmps69
  go_wp2
  go_ret
  exact ⟨ret_int (by rw [HW.out]), Below.refl _ _⟩

set_option maxRecDepth 100000 in
set_option maxHeartbeats 1600000 in
theorem filter_s (A : Option Addr) (c : Nat) (es : List Ent) (m : Nat) (kd v : Int) (w : World) (hx : EntsAt w A es) (hn : es.length ≤ 4194303) (hr : rowsIn es 4194304) (hm : ∀ e ∈ es, m < e.1.length) (h1 : 1 ≤ kd) (h4 : kd ≤ 4) :
    Calls Try.prog 70 #[.slice A es.length c, .agg #[.int .i64 m, .int .i64 kd, .int .i64 v]] w fun e w' => ∃ A' c', e = .returned (.slice A' (es.filter (fun e => holdP m kd v e.1)).length c') ∧ EntsOw w' (news w w') A' c' (es.filter (fun e => holdP m kd v e.1)) ∧ Below w.heap.size w w' := by
  obtain ⟨i0, hi, hz0, hz1, hz2⟩ := info_parts Try.infoEnt
  have hcon : ∀ k (hlt : k < es.length) RA rc W, IntsAt w RA es[k].1 → Below w.heap.size w W → Calls Try.prog 121 #[.agg #[.int .i64 m, .int .i64 kd, .int .i64 v], .slice RA es[k].1.length rc] W fun e w' => e = .returned (.bool ((fun e : Ent => holdP m kd v e.1) es[k])) ∧ Below W.heap.size W w' :=
    fun k hlt RA rc W hrow hW => holds_s m kd v RA rc es[k].1 W (hrow.below hW) (hm _ (List.getElem_mem hlt)) (hr.get hlt) h1 h4
  have HCON := Lib.hid hcon
  clear hcon hm
  generalize hPR : (fun e : Ent => holdP m kd v e.1) = pr at *
  clear hPR
  have hm0 := SlF.made EntO 2 34 (w.alloc (.cells #[.int .i64 m, .int .i64 kd, .int .i64 v] 25)) #[] 0 (by simp [maxLen]) (by simp) (S := news w ((w.alloc (.cells #[.int .i64 m, .int .i64 kd, .int .i64 v] 25)).alloc (.cells #[] 34))) ⟨by simp, by simp⟩ (fun k hk => by have := hk.2; simpa using this)
  rw [show (w.alloc (.cells #[.int .i64 m, .int .i64 kd, .int .i64 v] 25)).heap.size = w.heap.size + 1 by simp] at hm0
  have HM0 : Hid (EntsOw ((w.alloc (.cells #[.int .i64 m, .int .i64 kd, .int .i64 v] 25)).alloc (.cells #[] 34)) (news w ((w.alloc (.cells #[.int .i64 m, .int .i64 kd, .int .i64 v] 25)).alloc (.cells #[] 34))) (some ⟨w.heap.size + 1, 0, none⟩) 0 []) := ⟨_, _, hm0⟩
  clear hm0
  go_enter Try.func70, Try.ntmps70
  go_wp2_with fail
  refine abs_world (fun W => Below w.heap.size w W ∧ w.heap.size < W.heap.size ∧ Blk W w.heap.size 25 #[.int .i64 m, .int .i64 kd, .int .i64 v] ∧ EntsOw W (news w W) (some ⟨w.heap.size + 1, 0, none⟩) 0 []) ⟨bal (bal (Below.refl _ _) _) _, by simp; omega, (Blk.newAt rfl).alloc _, HM0.out⟩ ?_
  rintro W0 ⟨hB0, hlt0, hkP, hmade⟩
  have HM := Lib.hid hmade
  clear hmade
  go_wp2
  go_loopw [5, 6] (fun vv i wr => ∃ k A' c', k ≤ es.length ∧ i = .int .i64 (k : Nat) ∧ vv = .slice A' ((es.take k).filter pr).length c' ∧ EntsOw wr (news w wr) A' c' ((es.take k).filter pr) ∧ Blk wr w.heap.size 25 #[.int .i64 m, .int .i64 kd, .int .i64 v] ∧ (∀ q, blk A' = some q → w.heap.size < q) ∧ Below w.heap.size w wr) (fun _ i _ => es.length - (intOf i).toNat)
  case atStart => exact ⟨0, _, _, by omega, rfl, rfl, HM.out, hkP, fun q hq => by simp [blk] at hq; omega, hB0⟩
  case round =>
    obtain ⟨k, A', c', hk, rfl, rfl, ⟨css, F, hown⟩, hkP, hA', hbel⟩ := hrel
    by_cases hlt : k < es.length
    · obtain ⟨b, off, RA, rc, rfl, hbl, hc0, hc1, -, hrow⟩ := hx.get k hlt
      have q0 := cgrow ((hbel.cell (p := ⟨b, off + k * 2, none⟩) hbl).trans hc0)
      have q1 := cgrow ((hbel.cell (p := ⟨b, off + k * 2 + 1, none⟩) hbl).trans hc1)
      have r0 := cgrow (hkP.cell 0)
      have r1 := cgrow (hkP.cell 1)
      have r2 := cgrow (hkP.cell 2)
      simp at r0 r1 r2
      have hlt' : (k : Int) < es.length := by omega
      have hrl := hr.get hlt
      have hdl : ((es.take k).filter pr).length ≤ k := Nat.le_trans (List.length_filter_le _ _) (by simp; omega)
      have hst : (es.take (k + 1)).filter pr = (es.take k).filter pr ++ if pr es[k] = true then [es[k]] else [] := by
        rw [List.take_succ_eq_append_getElem hlt, List.filter_append]
        congr 1
        by_cases h : pr es[k] = true <;> simp [h]
      have hcon := fun W hW => HCON.out k hlt RA rc W hrow (btr hbel hW)
      have HF := Lib.hid hown
      have hs1 := hbel.size
      clear hown HCON HM
      by_cases hp : pr es[k] = true
      · rw [if_pos hp] at hst
        rw [hp] at hcon
        have HST := Lib.hid hst
        clear hst hp
        generalize hM : (es.take k).filter pr = M at *
        clear hM
        go_wp2_with fail
        refine wp_region_quiet_below (by kernel_rfl) (by kernel_rfl) ?_
        repeat (go_big_quiet_step (exact Calls.regrown_of (hcon _ (below_regrown _ _ _))))
        refine wpQuiet_nil ?_
        intro wq hwq
        obtain ⟨⟨dq, osq⟩, rfl⟩ := hwq
        have hbq := below_regrown wr dq osq
        generalize grow (redrawn wr dq) osq = w1 at hbq
        have hB1 := btr hbel hbq
        have q0' := (hB1.cell (p := ⟨b, off + k * 2, none⟩) hbl).trans hc0
        have q1' := (hB1.cell (p := ⟨b, off + k * 2 + 1, none⟩) hbl).trans hc1
        clear q0 q1 r0 r1 r2 hcon
        go_wp2_with fail
        refine (copyEntry_s _ _ _ _ _ (hrow.below hB1) hrl).mono ?_
        rintro e w2 ⟨RA', rc', rfl, ho, hb2⟩
        have hb12 := btr hbq hb2
        have hF1 := HF.out.loc entO (fun q hq => hbq.block q hq.2)
        have hrow2 := (HF.out.loc entO (fun q hq => hb12.block q hq.2)).row
        have hbase : ∀ q, blk A' = some q → w.heap.size ≤ q := fun q hq => Nat.le_of_lt (hA' q hq)
        have hs2 := hb2.size
        have hsq := hbq.size
        have hl0 := hkP.lt
        have hF1' : SlF EntO 2 34 w1 (news w w1) A' c' M css F := hF1.mono (fun q hq => ⟨hq.1, by have := hq.2; omega⟩) (fun q hq => hq.2)
        go_wp2_with (at_builtin; refine wpList_append_src _ rfl _ _ 23 rfl w.heap.size 34 i0 (.agg #[.slice none 0 0, .int .i64 0]) 2 32 Try.underlying23 hi hz0 hz1 hz2 rfl (by decide) _ _ _ rfl ((ownsRow_base hrow2 hbase).alloc _) (some ⟨w2.heap.size, 0, none⟩) 1 1 [.slice RA' es[k].1.length rc', .int .i64 es[k].2] rfl rfl (fun h => by cases h) ent_srcs ent_ones (by unfold maxLen; omega) (by omega) (by simp; omega) ?_)
        intro v' w3 hown' hgrow hloc
        rw [ownBlock_slice] at hgrow hloc
        have hkP3 : Blk w3 w.heap.size 25 #[.int .i64 m, .int .i64 kd, .int .i64 v] := by
          have h2 := hkP.below hb12
          exact (hgrow.block w.heap.size (by simp; omega) (fun e => by have := hA' _ e.symm; omega)).trans ((Below.heap_alloc _ _ _ (by omega)).trans h2)
        have hp := hF1'.pushE (w2 := w3) hB1 hb2 ho hown' hgrow hloc
        rw [show M ++ [(es[k].1, es[k].2)] = (es.take (k + 1)).filter pr from HST.out.symm] at hp
        have HL : Hid (M.length + 1 = ((es.take (k + 1)).filter pr).length) := by rw [HST.out]; simp [Hid]
        obtain ⟨A3, c3, rfl, ho3, hb3⟩ := hp
        have hA3 : ∀ q, blk A3 = some q → w.heap.size < q := fun q hq => by
          rw [ownBlock_slice] at hloc
          rcases hloc q hq with h | h
          · exact hA' q h
          · omega
        have HO := Lib.hid ho3
        have HB := Lib.hid hb3
        have HK := Lib.hid hkP3
        have HA3 := Lib.hid hA3
        clear hown' hgrow hloc ho3 hb3 hrow2 hbase ho hb2 hbel hrow HF hkP hkP3 hA' hA3 hF1 hF1' hb12 hbq hB1 q0' q1' hc0 hc1
        go_wp2
        go_roundw
        case rel => exact ⟨k + 1, A3, c3, by omega, by go_num, by rw [HL.out], HO.out, HK.out, HA3.out, HB.out⟩
        case measure => simp [intOf]; omega
      · rw [if_neg hp, List.append_nil] at hst
        have hp' : pr es[k] = false := by simpa using hp
        rw [hp'] at hcon
        have HST := Lib.hid hst
        clear hst hp hp'
        generalize hM : (es.take k).filter pr = M at *
        clear hM
        go_wp2_with fail
        refine wp_region_quiet_below (by kernel_rfl) (by kernel_rfl) ?_
        repeat (go_big_quiet_step (exact Calls.regrown_of (hcon _ (below_regrown _ _ _))))
        refine wpQuiet_nil ?_
        intro wq hwq
        obtain ⟨⟨dq, osq⟩, rfl⟩ := hwq
        have hbq := below_regrown wr dq osq
        generalize grow (redrawn wr dq) osq = w1 at hbq
        have hB1 := btr hbel hbq
        have hsq := hbq.size
        have HO : Hid (EntsOw w1 (news w w1) A' c' ((es.take (k + 1)).filter pr)) := by
          rw [Hid, HST.out]
          exact ⟨css, F, (HF.out.loc entO (fun q hq => hbq.block q hq.2)).mono (fun q hq => ⟨hq.1, by have := hq.2; omega⟩) (fun q hq => hq.2)⟩
        have HK := Lib.hid (hkP.below hbq)
        clear q0 q1 r0 r1 r2 hcon hbq hbel hkP HF hc0 hc1
        go_wp2
        go_roundw
        case rel => exact ⟨k + 1, A', c', by omega, by go_num, by rw [HST.out], HO.out, HK.out, hA', hB1⟩
        case measure => simp [intOf]; omega
    · obtain rfl : k = es.length := by omega
      rw [List.take_length] at hown
      have HO : Hid (EntsOw wr (news w wr) A' c' (es.filter pr)) := ⟨_, _, hown⟩
      have HB := Lib.hid hbel
      have HT := Lib.hid (List.take_length (l := es))
      clear hown hbel hkP
      go_wp2
      go_ret
      exact ⟨A', c', by rw [HT.out]; rfl, HO.out, HB.out⟩

set_option maxRecDepth 100000 in
set_option maxHeartbeats 1600000 in
theorem Filter_s (A : Option Addr) (cc : Nat) (z : List Ent) (c k v : Int) (w : World) (hx : EntsAt w A z) (hn : z.length ≤ 4194304) (hr : rowsIn z 4194304) :
    Calls Try.prog 16 #[.slice A z.length cc, .agg #[.int .i64 c, .int .i64 k, .int .i64 v]] w fun e w' => ∃ A' c', e = .returned (.slice A' (FilF z c k v).length c') ∧ EntsOw w' (news w w') A' c' (FilF z c k v) ∧ Below w.heap.size w w' := by
  have hvz := fun W (h : EntsAt W A z) => validZSet_s A cc z W h hn hr
  have endNo : Hid (FilF z c k v = []) → ∀ W, Below w.heap.size w W → Hid (EntsOw (W.alloc (.cells #[] 34)) (news w (W.alloc (.cells #[] 34))) (some ⟨W.heap.size, 0, none⟩) 0 (FilF z c k v)) := fun hF W hW => by
    rw [Hid, hF.out]
    exact ⟨_, _, SlF.made EntO 2 34 W #[] 0 (by simp [maxLen]) (by simp) ⟨hW.size, by simp⟩ (fun q hq => by have := hq.2; simpa using this)⟩
  by_cases h1 : zsB z = true
  · rw [h1] at hvz
    rcases Nat.eq_zero_or_pos z.length with h0 | hp
    · obtain rfl := List.eq_nil_of_length_eq_zero h0
      have HR : Hid (FilF [] c k v = []) := by simp [Hid, FilF]
      have hno := endNo HR
      clear h1 h0 endNo
      go_enter Try.func16, Try.ntmps16
      go_wp2_with fail
      refine abs_world (fun W => Below w.heap.size w W ∧ Blk W w.heap.size 25 #[.int .i64 c, .int .i64 k, .int .i64 v]) ⟨bal (Below.refl _ _) _, Blk.newAt rfl⟩ ?_
      rintro W ⟨hB, hkP⟩
      refine wp_region_quiet_below (by kernel_rfl) (by kernel_rfl) ?_
      repeat (go_big_quiet_step (first | (go_at_call 67; exact Calls.regrown_of (hvz _ ((hx.below entR hB).below entR (below_regrown _ _ _))))))
      refine wpQuiet_nil ?_
      intro wq hwq
      obtain ⟨⟨dq, osq⟩, rfl⟩ := hwq
      have hbq := below_regrown W dq osq
      generalize grow (redrawn W dq) osq = W2 at hbq
      have hB2 := btr hB hbq
      have HE := hno W2 hB2
      clear hkP hbq hB hvz hno
      go_wp2
      go_ret
      exact ⟨_, 0, by rw [HR.out]; rfl, HE.out, bal hB2 _⟩
    · have hwr := wid_row h1 hp
      have hwd := fun W (h : EntsAt W A z) => widthOf_s A cc z W h hp hr
      have hvp := fun W => validPredicate_s c k v (wid z) W (by omega) (by omega)
      have hpe : ((z.length : Int) == 0) = false := by rw [beq_eq_false_iff_ne]; omega
      have hpv : (inB c 0 ((wid z : Int) - 1) && (inB k 1 4 && inB v (-9999) 9999)) = pvB c k v (wid z) := by
        have : inB (wid z : Int) 1 6 = true := by simp [inB]; omega
        simp [pvB, this]
      rw [hpv] at hvp
      clear hpv
      by_cases h2 : pvB c k v (wid z) = true
      · rw [h2] at hvp
        have HR : Hid (FilF z c k v = z.filter (fun e => holdP c.toNat k v e.1)) := by simp [Hid, FilF, h1, h2]
        obtain ⟨hw1, hc1, hk1, hv1⟩ := pvB_iff.1 h2
        obtain ⟨m, rfl⟩ : ∃ m : Nat, c = m := ⟨c.toNat, by omega⟩
        have hmm : ∀ e ∈ z, m < e.1.length := fun e he => by have := zsB_wid h1 e he; omega
        have HM := Lib.hid hmm
        have hlen := zsB_len h1
        simp only [Int.toNat_natCast] at HR
        clear h1 h2 hmm endNo
        go_enter Try.func16, Try.ntmps16
        go_wp2_with fail
        refine abs_world (fun W => Below w.heap.size w W ∧ Blk W w.heap.size 25 #[.int .i64 m, .int .i64 k, .int .i64 v]) ⟨bal (Below.refl _ _) _, Blk.newAt rfl⟩ ?_
        rintro W ⟨hB, hkP⟩
        have r0 := cgrow (hkP.cell 0)
        have r1 := cgrow (hkP.cell 1)
        have r2 := cgrow (hkP.cell 2)
        simp at r0 r1 r2
        refine wp_region_quiet_below (by kernel_rfl) (by kernel_rfl) ?_
        repeat (go_big_quiet_step (first | (go_at_call 67; exact Calls.regrown_of (hvz _ ((hx.below entR hB).below entR (below_regrown _ _ _)))) | (go_at_call 69; exact Calls.regrown_of (hwd _ ((hx.below entR hB).below entR (below_regrown _ _ _)))) | (go_at_call 68; exact Calls.regrown_of (hvp _))))
        refine wpQuiet_nil ?_
        intro wq hwq
        obtain ⟨⟨dq, osq⟩, rfl⟩ := hwq
        have hbq := below_regrown W dq osq
        generalize grow (redrawn W dq) osq = W2 at hbq
        have hB2 := btr hB hbq
        have hkP2 := hkP.below hbq
        clear r0 r1 r2 hkP hbq hB hvz hwd hvp
        have c0 := hkP2.cell 0
        have c1 := hkP2.cell 1
        have c2 := hkP2.cell 2
        simp at c0 c1 c2
        have hs := hB2.size
        go_wp2_with fail
        refine (filter_s _ _ _ m k v _ (hx.below entR hB2) (by omega) hr HM.out hk1.1 hk1.2).mono ?_
        rintro e W3 ⟨A3, c3, rfl, ho3, b3⟩
        clear c0 c1 c2
        go_wp2_with fail
        go_ret
        exact ⟨A3, c3, by rw [HR.out]; rfl, by rw [HR.out]; exact ho3.mono (fun q hq => ⟨by have := hq.1; omega, hq.2⟩) (fun q hq => hq.2), btr hB2 b3⟩
      · have h2' : pvB c k v (wid z) = false := by simpa using h2
        rw [h2'] at hvp
        have HR : Hid (FilF z c k v = []) := by simp [Hid, FilF, h2']
        have hno := endNo HR
        clear h1 h2 h2' endNo
        go_enter Try.func16, Try.ntmps16
        go_wp2_with fail
        refine abs_world (fun W => Below w.heap.size w W ∧ Blk W w.heap.size 25 #[.int .i64 c, .int .i64 k, .int .i64 v]) ⟨bal (Below.refl _ _) _, Blk.newAt rfl⟩ ?_
        rintro W ⟨hB, hkP⟩
        have r0 := cgrow (hkP.cell 0)
        have r1 := cgrow (hkP.cell 1)
        have r2 := cgrow (hkP.cell 2)
        simp at r0 r1 r2
        refine wp_region_quiet_below (by kernel_rfl) (by kernel_rfl) ?_
        repeat (go_big_quiet_step (first | (go_at_call 67; exact Calls.regrown_of (hvz _ ((hx.below entR hB).below entR (below_regrown _ _ _)))) | (go_at_call 69; exact Calls.regrown_of (hwd _ ((hx.below entR hB).below entR (below_regrown _ _ _)))) | (go_at_call 68; exact Calls.regrown_of (hvp _))))
        refine wpQuiet_nil ?_
        intro wq hwq
        obtain ⟨⟨dq, osq⟩, rfl⟩ := hwq
        have hbq := below_regrown W dq osq
        generalize grow (redrawn W dq) osq = W2 at hbq
        have hB2 := btr hB hbq
        have HE := hno W2 hB2
        clear r0 r1 r2 hkP hbq hB hvz hwd hvp hno
        go_wp2
        go_ret
        exact ⟨_, 0, by rw [HR.out]; rfl, HE.out, bal hB2 _⟩
  · have h1' : zsB z = false := by simpa using h1
    rw [h1'] at hvz
    have HR : Hid (FilF z c k v = []) := by simp [Hid, FilF, h1']
    have hno := endNo HR
    clear h1 h1' endNo
    go_enter Try.func16, Try.ntmps16
    go_wp2_with fail
    refine abs_world (fun W => Below w.heap.size w W ∧ Blk W w.heap.size 25 #[.int .i64 c, .int .i64 k, .int .i64 v]) ⟨bal (Below.refl _ _) _, Blk.newAt rfl⟩ ?_
    rintro W ⟨hB, hkP⟩
    refine wp_region_quiet_below (by kernel_rfl) (by kernel_rfl) ?_
    repeat (go_big_quiet_step (first | (go_at_call 67; exact Calls.regrown_of (hvz _ ((hx.below entR hB).below entR (below_regrown _ _ _))))))
    refine wpQuiet_nil ?_
    intro wq hwq
    obtain ⟨⟨dq, osq⟩, rfl⟩ := hwq
    have hbq := below_regrown W dq osq
    generalize grow (redrawn W dq) osq = W2 at hbq
    have hB2 := btr hB hbq
    have HE := hno W2 hB2
    clear hkP hbq hB hvz hno
    go_wp2
    go_ret
    exact ⟨_, 0, by rw [HR.out]; rfl, HE.out, bal hB2 _⟩
end Go.Proofs.Ytjlpkfcdkmcjnaa
