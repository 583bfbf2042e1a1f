/- HELPER, no statement of the seat: negation, and the distinct rows: both sides. -/
import Derived.Test.YtjlpkfcdkmcjnaaEntN
namespace Go.Proofs.Ytjlpkfcdkmcjnaa
open Go.RowKit Go.Sort
set_option linter.unusedSimpArgs false
set_option linter.unusedVariables false

theorem NegF_len (es : List Ent) : (NegF es).length ≤ 400 := by
  unfold NegF
  split
  · rename_i h; simpa [negL] using zsB_len h
  · simp
theorem NegF_row (es : List Ent) : rowsIn (NegF es) 6 := by
  unfold NegF
  split
  · rename_i h
    intro e he
    obtain ⟨x, hx, rfl⟩ := List.mem_map.1 he
    exact zsB_row h x hx
  · intro e he; cases he
/-! ### The distinct rows -/
theorem DisF_len (es : List Ent) : (DisF es).length ≤ 400 := by
  unfold DisF
  split
  · rename_i h
    have h1 := zsB_len h
    have : (disL es).length ≤ es.length := by simp only [disL, List.length_map]; exact List.length_filter_le _ _
    omega
  · simp
theorem DisF_row (es : List Ent) : rowsIn (DisF es) 6 := by
  unfold DisF
  split
  · rename_i h
    intro e he
    obtain ⟨x, hx, rfl⟩ := List.mem_map.1 he
    exact zsB_row h x (List.mem_filter.1 hx).1
  · intro e he; cases he
theorem disL_len (es : List Ent) (k : Nat) : (disL (es.take k)).length ≤ k := by
  have : (disL (es.take k)).length ≤ (es.take k).length := by simp only [disL, List.length_map]; exact List.length_filter_le _ _
  simp at this
  omega
set_option maxHeartbeats 1600000 in
theorem distinct_s (A : Option Addr) (c : Nat) (es : List Ent) (w : World) (hx : EntsAt w A es) (hn : es.length ≤ 4194304) (hr : rowsIn es 4194304) :
    Calls Try.prog 137 #[.slice A es.length c] w fun e w' => ∃ A' c', e = .returned (.slice A' (disL es).length c') ∧ EntsOw w' (news w w') A' c' (disL es) ∧ Below w.heap.size w w' := by
  obtain ⟨i0, hi, hz0, hz1, hz2⟩ := info_parts Try.infoEnt
  go_enter Try.func137, Try.ntmps137
  go_wp2
  go_loopw [3, 4] (fun v i wr => ∃ k A' c', k ≤ es.length ∧ i = .int .i64 (k : Nat) ∧ v = .slice A' (disL (es.take k)).length c' ∧ EntsOw wr (news w wr) A' c' (disL (es.take k)) ∧ Below w.heap.size w wr) (fun _ i _ => es.length - (intOf i).toNat)
  case atStart => exact ⟨0, _, _, by omega, rfl, rfl, ⟨_, _, SlF.made EntO 2 34 w #[] 0 (by simp [maxLen]) (by simp) ⟨Nat.le_refl _, by simp⟩ (fun k hk => by have := hk.2; simpa using this)⟩, bal (Below.refl _ _) _⟩
  case round =>
    obtain ⟨k, A', c', hk, rfl, rfl, ⟨css, F, hown⟩, hbel⟩ := hrel
    by_cases hlt : k < es.length
    · obtain ⟨b, off, RA, rc, rfl, hbl, hc0, hc1, -, hrow⟩ := hx.get k hlt
      have q0 := (hbel.cell (p := ⟨b, off + k * 2, none⟩) hbl).trans hc0
      have q1 := (hbel.cell (p := ⟨b, off + k * 2 + 1, none⟩) hbl).trans hc1
      have hrl := hr.get hlt
      have hdl := disL_len es k
      have hst := disL_step hlt
      have HF := Lib.hid hown
      clear hc0 hc1 hown
      by_cases hp : 0 < es[k].2
      · rw [if_pos hp] at hst
        have HST := Lib.hid hst
        clear hst
        generalize hM : disL (es.take k) = M at *
        clear hM
        go_wp2_with fail
        refine (copyInts_s _ _ _ _ (hrow.below hbel) hrl).mono ?_
        rintro e w2 ⟨RA', rc', rfl, ho, hb2⟩
        have hrow2 := (HF.out.loc entO (fun k hk => hb2.block k hk.2)).row
        have hbase : ∀ q, blk A' = some q → w.heap.size ≤ q := fun q hq => (HF.out.top q hq).1
        have hs2 := hb2.size
        have hs1 := hbel.size
        go_wp2_with (at_builtin; refine wpList_append_src _ rfl _ _ 23 rfl w.heap.size 34 i0 (.agg #[.slice none 0 0, .int .i64 0]) 2 32 Try.underlying23 hi hz0 hz1 hz2 rfl (by decide) _ _ _ rfl ((ownsRow_base hrow2 hbase).alloc _) (some ⟨w2.heap.size, 0, none⟩) 1 1 [.slice RA' es[k].1.length rc', .int .i64 1] rfl rfl (fun h => by cases h) ent_srcs ent_ones (by unfold maxLen; omega) (by omega) (by simp; omega) ?_)
        intro v' w3 hown' hgrow hloc
        rw [ownBlock_slice] at hgrow hloc
        have hp2 := HF.out.pushE (w2 := w3) hbel hb2 ho hown' hgrow hloc
        obtain ⟨A3, c3, rfl, ho3, hb3⟩ := hp2
        rw [← HST.out] at ho3
        have HO := Lib.hid ho3
        have HB := Lib.hid hb3
        have HL : Hid (M.length + 1 = (disL (es.take (k + 1))).length) := by rw [HST.out]; simp [Hid]
        clear hown' hgrow hloc ho3 hb3 hrow2 hbase ho hb2 hbel hrow q0 q1 HF
        go_wp2
        go_roundw
        case rel => exact ⟨k + 1, A3, c3, by omega, by go_num, by rw [HL.out], HO.out, HB.out⟩
        case measure => simp [intOf]; omega
      · rw [if_neg hp, List.append_nil] at hst
        have HST := Lib.hid hst
        have HB := Lib.hid hbel
        clear hst hbel
        generalize hM : disL (es.take k) = M at *
        clear hM
        go_wp2
        go_roundw
        case rel => exact ⟨k + 1, A', c', by omega, by go_num, by rw [HST.out], by rw [HST.out]; exact ⟨_, _, HF.out⟩, HB.out⟩
        case measure => simp [intOf]; omega
    · obtain rfl : k = es.length := by omega
      rw [List.take_length] at hown
      have HO : Hid (EntsOw wr (news w wr) A' c' (disL es)) := ⟨_, _, hown⟩
      have HB := Lib.hid hbel
      have HT := Lib.hid (List.take_length (l := es))
      clear hown hbel
      go_wp2
      go_ret
      exact ⟨A', c', by rw [HT.out]; rfl, HO.out, HB.out⟩
end Go.Proofs.Ytjlpkfcdkmcjnaa
