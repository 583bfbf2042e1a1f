/- HELPER, no statement of the seat: negation, and the distinct rows: both sides. -/
import Derived.Test.YtfppahfoipeecaaEntN
namespace Go.Proofs.Ytfppahfoipeecaa
open Go.RowKit Go.Sort
set_option linter.unusedSimpArgs false
set_option linter.unusedVariables false

theorem NegF_len (es : List Ent) : (NegF es).length ≤ 400 := by
  unfold NegF
  split
  · rename_i h; simpa [negL] using zsB_len h
  · simp
theorem NegF_row (es : List Ent) : rowsIn (NegF es) 6 := by
  unfold NegF
  split
  · rename_i h
    intro e he
    obtain ⟨x, hx, rfl⟩ := List.mem_map.1 he
    exact zsB_row h x hx
  · intro e he; cases he
set_option maxHeartbeats 800000 in
theorem Negate_i (A : Option Addr) (c : Nat) (es : List Ent) (w : World) (hx : EntsAt w A es) (hn : es.length ≤ 4194304) (hr : rowsIn es 4194304) :
    Calls Try.prog 171 #[.slice A es.length c] w fun e w' => ∃ A' c', e = .returned (.slice A' (NegF es).length c') ∧ EntsOw w' (news w w') A' c' (NegF es) ∧ Below w.heap.size w w' := by
  have hcon := copyZSet_i A c es w hx hn hr
  by_cases h : zsB es = true
  · have HR : Hid (NegF es = negL es) := by simp [Hid, NegF, h]
    have HZ := Lib.hid h
    rw [show chkF es = es by simp [chkF, h]] at hcon
    clear h
    go_enter Try.func171, Try.ntmps171
    go_wp2_with fail
    refine hcon.mono ?_
    rintro e w1 ⟨A', c', rfl, ⟨css, F, hown⟩, hb⟩
    clear hcon
    rcases hown.form with ⟨rfl, rfl, rfl⟩ | ⟨g, rfl, hSg, hlt, _, _⟩
    · have HO := Lib.hid hown
      clear hown
      go_wp2
      refine wp_loop_rounds 1 ?_
      rw [rounds_succ]
      go_wp2
      go_ret
      exact ⟨none, 0, by rw [HR.out]; rfl, by rw [HR.out]; exact ⟨_, _, HO.out⟩, hb⟩
    · have HX := Lib.hid hown
      have HB := Lib.hid hb
      have hgw : w.heap.size ≤ g := hSg.1
      clear hown hb
      go_wp2
      go_loopw [4, 9] (fun _ i wr => ∃ k : Nat, k ≤ es.length ∧ i = .int .i64 k ∧ (∃ css', SlF EntO 2 75 wr (news w w1) (some ⟨g, 0, none⟩) c' (negTo es k) css' F) ∧ GrownS w1 wr (news w w1) ∧ wr.heap.size = w1.heap.size) (fun _ i _ => es.length - (intOf i).toNat)
      case atStart => exact ⟨0, by omega, rfl, ⟨css, by simpa [negTo, negL] using HX.out⟩, GrownS.refl _ _, rfl⟩
      case round =>
        obtain ⟨j, hj, rfl, ⟨css', hown⟩, hgr, hsz⟩ := hrel
        by_cases hjl : j < es.length
        · have hcl : j < css'.length := by rw [hown.clen, negTo_length]; exact hjl
          have hml : j < (negTo es j).length := by rw [negTo_length]; exact hjl
          have hel := hown.elt j hcl hml
          rw [negTo_get hjl] at hel
          obtain ⟨RA, rc, hcs, hFb, hrow⟩ := hel.form
          have hc0 := hown.cell j hcl 0 (by omega)
          have hc1 := hown.cell j hcl 1 (by omega)
          rw [hcs] at hc0 hc1
          simp at hc0 hc1
          have hf1 := hown.frozen (j * 2 + 1)
          have hwt := zsB_wt HZ.out hjl
          have hw1 := hwt.1
          have hw2 := hwt.2
          have hst := hown.store entO (i := 1) (j := j) hml hcl (by omega) (.int .i64 (-es[j].2)) (x' := (es[j].1, -es[j].2)) (by rw [hcs]; exact EntO.mk (entO.lt hel) hFb hrow)
          rw [negTo_step hjl] at hst
          have HT := Lib.hid hst
          have HG := Lib.hid hgr
          have HSz := Lib.hid hsz
          clear hst hgr hrow hFb hel hml hcs hown hwt hsz
          go_wp2
          go_roundw
          case rel => exact ⟨j + 1, by omega, by go_num, ⟨_, HT.out⟩, HG.out.set_ (p := ⟨g, j * 2 + 1, none⟩) hSg _, by rw [← HSz.out]; simp [World.setCell]⟩
          case measure => simp [intOf]; omega
        · obtain rfl : j = es.length := by omega
          rw [negTo_end] at hown
          have hB : Below w.heap.size w wr := hgr.below HB.out (fun k hk => hk.1)
          have hO : EntsOw wr (news w wr) (some ⟨g, 0, none⟩) c' (negL es) := ⟨_, _, hown.mono (fun k hk => ⟨hk.1, by have := hk.2; omega⟩) (fun k hk => hk.2)⟩
          have HO := Lib.hid hO
          have HB2 := Lib.hid hB
          have HL : Hid ((negL es).length = es.length) := by simp [Hid, negL]
          clear hown hgr hsz hB hO
          go_wp2
          go_ret
          exact ⟨_, c', by rw [HR.out, HL.out]; rfl, by rw [HR.out]; exact HO.out, HB2.out⟩
  · have h' : zsB es = false := by simpa using h
    have HR : Hid (NegF es = []) := by simp [Hid, NegF, h']
    rw [show chkF es = [] by simp [chkF, h']] at hcon
    clear h h'
    go_enter Try.func171, Try.ntmps171
    go_wp2_with fail
    refine hcon.mono ?_
    rintro e w1 ⟨A', c', rfl, hown, hb⟩
    clear hcon
    simp only [List.length_nil]
    go_wp2
    refine wp_loop_rounds 1 ?_
    rw [rounds_succ]
    go_wp2
    go_ret
    exact ⟨A', c', by rw [HR.out]; rfl, by rw [HR.out]; exact hown, hb⟩

/-! ### The distinct rows -/
theorem DisF_len (es : List Ent) : (DisF es).length ≤ 400 := by
  unfold DisF
  split
  · rename_i h
    have h1 := zsB_len h
    have : (disL es).length ≤ es.length := by simp only [disL, List.length_map]; exact List.length_filter_le _ _
    omega
  · simp
theorem DisF_row (es : List Ent) : rowsIn (DisF es) 6 := by
  unfold DisF
  split
  · rename_i h
    intro e he
    obtain ⟨x, hx, rfl⟩ := List.mem_map.1 he
    exact zsB_row h x (List.mem_filter.1 hx).1
  · intro e he; cases he
theorem disL_len (es : List Ent) (k : Nat) : (disL (es.take k)).length ≤ k := by
  have : (disL (es.take k)).length ≤ (es.take k).length := by simp only [disL, List.length_map]; exact List.length_filter_le _ _
  simp at this
  omega
set_option maxHeartbeats 1600000 in
theorem distinct_s (A : Option Addr) (c : Nat) (es : List Ent) (w : World) (hx : EntsAt w A es) (hn : es.length ≤ 4194304) (hr : rowsIn es 4194304) :
    Calls Try.prog 126 #[.slice A es.length c] w fun e w' => ∃ A' c', e = .returned (.slice A' (disL es).length c') ∧ EntsOw w' (news w w') A' c' (disL es) ∧ Below w.heap.size w w' := by
  obtain ⟨i0, hi, hz0, hz1, hz2⟩ := info_parts Try.infoEnt
  go_enter Try.func126, Try.ntmps126
  go_wp2
  go_loopw [3, 4] (fun v i wr => ∃ k A' c', k ≤ es.length ∧ i = .int .i64 (k : Nat) ∧ v = .slice A' (disL (es.take k)).length c' ∧ EntsOw wr (news w wr) A' c' (disL (es.take k)) ∧ Below w.heap.size w wr) (fun _ i _ => es.length - (intOf i).toNat)
  case atStart => exact ⟨0, _, _, by omega, rfl, rfl, ⟨_, _, SlF.made EntO 2 75 w #[] 0 (by simp [maxLen]) (by simp) ⟨Nat.le_refl _, by simp⟩ (fun k hk => by have := hk.2; simpa using this)⟩, bal (Below.refl _ _) _⟩
  case round =>
    obtain ⟨k, A', c', hk, rfl, rfl, ⟨css, F, hown⟩, hbel⟩ := hrel
    by_cases hlt : k < es.length
    · obtain ⟨b, off, RA, rc, rfl, hbl, hc0, hc1, -, hrow⟩ := hx.get k hlt
      have q0 := (hbel.cell (p := ⟨b, off + k * 2, none⟩) hbl).trans hc0
      have q1 := (hbel.cell (p := ⟨b, off + k * 2 + 1, none⟩) hbl).trans hc1
      have hrl := hr.get hlt
      have hdl := disL_len es k
      have hst := disL_step hlt
      have HF := Lib.hid hown
      clear hc0 hc1 hown
      by_cases hp : 0 < es[k].2
      · rw [if_pos hp] at hst
        have HST := Lib.hid hst
        clear hst
        generalize hM : disL (es.take k) = M at *
        clear hM
        go_wp2_with fail
        refine (copyInts_s _ _ _ _ (hrow.below hbel) hrl).mono ?_
        rintro e w2 ⟨RA', rc', rfl, ho, hb2⟩
        have hrow2 := (HF.out.loc entO (fun k hk => hb2.block k hk.2)).row
        have hbase : ∀ q, blk A' = some q → w.heap.size ≤ q := fun q hq => (HF.out.top q hq).1
        have hs2 := hb2.size
        have hs1 := hbel.size
        go_wp2_with (at_builtin; refine wpList_append_src _ rfl _ _ 24 rfl w.heap.size 75 i0 (.agg #[.slice none 0 0, .int .i64 0]) 2 32 Try.underlying24 hi hz0 hz1 hz2 rfl (by decide) _ _ _ rfl ((ownsRow_base hrow2 hbase).alloc _) (some ⟨w2.heap.size, 0, none⟩) 1 1 [.slice RA' es[k].1.length rc', .int .i64 1] rfl rfl (fun h => by cases h) ent_srcs ent_ones (by unfold maxLen; omega) (by omega) (by simp; omega) ?_)
        intro v' w3 hown' hgrow hloc
        rw [ownBlock_slice] at hgrow hloc
        have hp2 := HF.out.pushE (w2 := w3) hbel hb2 ho hown' hgrow hloc
        obtain ⟨A3, c3, rfl, ho3, hb3⟩ := hp2
        rw [← HST.out] at ho3
        have HO := Lib.hid ho3
        have HB := Lib.hid hb3
        have HL : Hid (M.length + 1 = (disL (es.take (k + 1))).length) := by rw [HST.out]; simp [Hid]
        clear hown' hgrow hloc ho3 hb3 hrow2 hbase ho hb2 hbel hrow q0 q1 HF
        go_wp2
        go_roundw
        case rel => exact ⟨k + 1, A3, c3, by omega, by go_num, by rw [HL.out], HO.out, HB.out⟩
        case measure => simp [intOf]; omega
      · rw [if_neg hp, List.append_nil] at hst
        have HST := Lib.hid hst
        have HB := Lib.hid hbel
        clear hst hbel
        generalize hM : disL (es.take k) = M at *
        clear hM
        go_wp2
        go_roundw
        case rel => exact ⟨k + 1, A', c', by omega, by go_num, by rw [HST.out], by rw [HST.out]; exact ⟨_, _, HF.out⟩, HB.out⟩
        case measure => simp [intOf]; omega
    · obtain rfl : k = es.length := by omega
      rw [List.take_length] at hown
      have HO : Hid (EntsOw wr (news w wr) A' c' (disL es)) := ⟨_, _, hown⟩
      have HB := Lib.hid hbel
      have HT := Lib.hid (List.take_length (l := es))
      clear hown hbel
      go_wp2
      go_ret
      exact ⟨A', c', by rw [HT.out]; rfl, HO.out, HB.out⟩
end Go.Proofs.Ytfppahfoipeecaa
