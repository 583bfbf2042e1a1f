/- HELPER, no statement of the seat: the program's Distinct. -/
import Derived.Test.YtageodemjlgdcaaBldM
namespace Go.Proofs.Ytageodemjlgdcaa
open Go.RowKit Go.Sort
set_option linter.unusedSimpArgs false
set_option linter.unusedVariables false

set_option maxRecDepth 100000 in
set_option maxHeartbeats 1600000 in
theorem positiveRows_i (A : Option Addr) (c : Nat) (es : List Ent) (w : World) (hx : EntsAt w A es) (hn : es.length ≤ 4194303) :
    Calls Try.prog 83 #[.slice A es.length c] w fun e w' => ∃ A' c', e = .returned (.slice A' (disL es).length c') ∧ EntsAt w' A' (disL es) ∧ Below w.heap.size w w' := by
  obtain ⟨i0, hi, hz0, hz1, hz2⟩ := info_parts Try.infoEnt
  go_enter Try.func83, Try.ntmps83
  go_wp2
  go_loopw [3, 5, 8] (fun v _ i wr => ∃ k A' c' css, k ≤ es.length ∧ i = .int .i64 (k : Nat) ∧ v = .slice A' (disL (es.take k)).length c' ∧ wr.ownsRow w.heap.size 39 2 (.slice A' (disL (es.take k)).length c') (disL (es.take k)).length css.flatten ∧ RdL EntR w css (disL (es.take k)) ∧ Below w.heap.size w wr) (fun _ _ i _ => es.length - (intOf i).toNat)
  case atStart => exact ⟨0, none, 0, [], by omega, rfl, rfl, World.ownsRow_nil _ _ _ _, RdL.nil, Below.refl _ _⟩
  case round =>
    obtain ⟨k, A', c', css, hk, rfl, rfl, hown, hrd, hbel⟩ := hrel
    by_cases hlt : k < es.length
    · obtain ⟨b, off, RA, rc, rfl, hbl, hc0, hc1, hml, hrow⟩ := hx.get k hlt
      have q0 := (hbel.cell (p := ⟨b, off + k * 2, none⟩) hbl).trans hc0
      have q1 := (hbel.cell (p := ⟨b, off + k * 2 + 1, none⟩) hbl).trans hc1
      have hdl := disL_len es k
      have hst := disL_step hlt
      have hs1 := hbel.size
      clear hc0 hc1
      by_cases hp : 0 < es[k].2
      · rw [if_pos hp] at hst
        have hsn := hrd.snoc (EntR.mk (c := rc) (x := 1) hml hrow)
        rw [← hst] at hsn
        have HSN := Lib.hid hsn
        have HST := Lib.hid hst
        clear hst hrd hsn
        generalize hM : disL (es.take k) = M at *
        clear hM
        have hbw : Below wr.heap.size wr (wr.alloc (.cells #[.slice RA es[k].1.length rc, .int .i64 es[k].2] 39)) := bal (Below.refl _ _) _
        have hown0 := hown.alloc (.cells #[.slice RA es[k].1.length rc, .int .i64 es[k].2] 39)
        have hbel0 := btr hbel hbw
        have hs0 := hbel0.size
        have hsrc := ent_srcs (w1 := wr.alloc (.cells #[.slice RA es[k].1.length rc, .int .i64 es[k].2] 39)) (RA := RA) (n := es[k].1.length) (rc := rc) (x := 1) (E := 39)
        rw [show (wr.alloc (.cells #[.slice RA es[k].1.length rc, .int .i64 es[k].2] 39)).heap.size = wr.heap.size + 1 by simp] at hsrc
        clear hown
        go_wp2_with (at_builtin; refine wpList_append_src _ rfl _ _ 23 rfl w.heap.size 39 i0 (.agg #[.slice none 0 0, .int .i64 0]) 2 32 Try.underlying23 hi hz0 hz1 hz2 rfl (by decide) _ _ _ rfl (hown0.alloc _) (some ⟨wr.heap.size + 1, 0, none⟩) 1 1 [.slice RA es[k].1.length rc, .int .i64 1] rfl rfl (fun h => by cases h) hsrc ent_ones (by unfold maxLen; omega) (by omega) (by simp; omega) ?_)
        intro v' w3 hown' hgrow hloc
        obtain ⟨A3, c3, rfl⟩ := own_slice hown'
        have hb3 : Below w.heap.size w w3 := (bal hbel0 _).grown hgrow (by simp; omega) (fun q hq => (World.ownsRow.lt hown0 q hq).1)
        have HL : Hid (M.length + 1 = (disL (es.take (k + 1))).length) := by rw [HST.out]; simp [Hid]
        have HR : Hid (w3.ownsRow w.heap.size 39 2 (.slice A3 (disL (es.take (k + 1))).length c3) (disL (es.take (k + 1))).length (css ++ [[Value.slice RA es[k].1.length rc, Value.int .i64 1]]).flatten) := by rw [← HL.out]; simpa [Hid] using hown'
        clear hown' hgrow hloc hown0 hbel0 hbw hbel q0 q1
        go_wp2
        go_roundw
        case rel => exact ⟨k + 1, A3, c3, _, by omega, by go_num, by rw [HL.out], HR.out, HSN.out, hb3⟩
        case measure => simp [intOf]; omega
      · rw [if_neg hp, List.append_nil] at hst
        have HST := Lib.hid hst
        have HO := Lib.hid hown
        have HRD := Lib.hid hrd
        clear hst hown hrd
        generalize hM : disL (es.take k) = M at *
        clear hM
        go_wp2
        go_roundw
        case rel => exact ⟨k + 1, A', c', css, by omega, by go_num, by rw [HST.out], by rw [HST.out]; exact ownsRow_below HO.out (by repeat (first | exact Below.refl _ _ | refine bal ?_ _ | refine bset ?_ (by simp) _)), by rw [HST.out]; exact HRD.out, btr hbel (by repeat (first | exact Below.refl _ _ | refine bal ?_ _ | refine bset ?_ (by simp) _))⟩
        case measure => simp [intOf]; omega
    · obtain rfl : k = es.length := by omega
      rw [List.take_length] at hown hrd
      have hat : EntsAt wr A' (disL es) := (hrd.below entR hbel).at_ entR rfl hown
      have HA := Lib.hid hat
      have HT := Lib.hid (List.take_length (l := es))
      clear hown hrd hat
      go_wp2
      go_ret
      exact ⟨A', c', by rw [HT.out]; rfl, HA.out, hbel⟩
set_option maxHeartbeats 1600000 in
theorem Distinct_i (A : Option Addr) (c : Nat) (es : List Ent) (w : World) (hx : EntsAt w A es) (hn : es.length ≤ 4194304) (hr : rowsIn es 4194304) :
    Calls Try.prog 35 #[.slice A es.length c] w fun e w' => ∃ A' c', e = .returned (.slice A' (DisF es).length c') ∧ EntsOw w' (news w w') A' c' (DisF es) ∧ Below w.heap.size w w' := by
  have hcon := ValidZSet_i A c es w hx hn hr
  by_cases h : zsB es = true
  · have HR : Hid (DisF es = disL es) := by simp [Hid, DisF, h]
    have h4 := zsB_len h
    have hdl := disL_len es es.length
    rw [List.take_length] at hdl
    have hdr : rowsIn (disL es) 4194304 := fun e he => by
      have := DisF_row es e (by rw [HR.out]; exact he)
      omega
    have HDR := Lib.hid hdr
    rw [h] at hcon
    clear h hdr
    go_enter Try.func35, Try.ntmps35
    go_wp2_with fail
    refine hcon.mono ?_
    rintro e w1 ⟨rfl, b1⟩
    clear hcon
    go_wp2_with fail
    refine (positiveRows_i _ _ _ _ (hx.below entR b1) (by omega)).mono ?_
    rintro e w2 ⟨A2, c2, rfl, hat2, b2⟩
    go_wp2_with fail
    refine (copyItems_e _ _ _ _ hat2 (by omega) HDR.out).mono ?_
    rintro e w3 ⟨A3, c3, rfl, ho3, b3⟩
    have hs := (btr b1 b2).size
    go_wp2_with fail
    go_ret
    exact ⟨A3, c3, by rw [HR.out]; rfl, by rw [HR.out]; exact ho3.mono (fun q hq => ⟨by have := hq.1; omega, hq.2⟩) (fun q hq => hq.2), btr (btr b1 b2) b3⟩
  · have h' : zsB es = false := by simpa using h
    have HR : Hid (DisF es = []) := by simp [Hid, DisF, h']
    rw [h'] at hcon
    clear h h'
    go_enter Try.func35, Try.ntmps35
    go_wp2_with fail
    refine hcon.mono ?_
    rintro e w1 ⟨rfl, hb⟩
    clear hcon
    go_wp2_with fail
    go_ret
    exact ⟨none, 0, by rw [HR.out]; rfl, by rw [HR.out]; exact SlOw.nil (fun k hk => hk.2), hb⟩
end Go.Proofs.Ytageodemjlgdcaa
