/- HELPER, no statement of the seat: the model's Normalize. -/
import Derived.Test.YthbphdaklkaeaaaAddZ
namespace Go.Proofs.Ythbphdaklkaeaaa
open Go.RowKit Go.Sort
set_option linter.unusedSimpArgs false
set_option linter.unusedVariables false


theorem sums_wts_s {es : List Ent} (h : sumsB es = true) : wts es 1000000 := fun e he => by
  obtain ⟨j, hj, rfl⟩ := List.getElem_of_mem he
  have := allTo_iff.1 h j hj
  simp only [sumE, Bool.and_eq_true, nth_get hj] at this
  have := this.2
  simpa [wtB, inB] using this
theorem sums_rows_s {es : List Ent} (h : sumsB es = true) : rowsIn es 6 := fun e he => by
  obtain ⟨j, hj, rfl⟩ := List.getElem_of_mem he
  have := allTo_iff.1 h j hj
  simp only [sumE, Bool.and_eq_true, nth_get hj] at this
  exact row_len this.1

set_option maxRecDepth 100000 in
set_option maxHeartbeats 3200000 in
theorem normalize_s (B : Option Addr) (d : Nat) (b : List Ent) (w : World) (hy : EntsAt w B b) (hb4 : b.length ≤ 400) (hb : sumsB b = true) :
    Calls Try.prog 62 #[.slice B b.length d] w fun e w' => ∃ A' c', e = .returned (.slice A' (chkF (nz (AddL [] b))).length c') ∧ EntsOw w' (news w w') A' c' (chkF (nz (AddL [] b))) ∧ Below w.heap.size w w' := by
  have hbr : rowsIn b 6 := sums_rows_s hb
  have hbw := sums_wts_s hb
  have HAA : Hid (Asc lessB ([] : List Ent)) := List.Pairwise.nil
  have hmade := SlF.made EntO 2 33 w #[] 0 (by simp [maxLen]) (by simp) (S := news w (w.alloc (.cells #[] 33))) ⟨Nat.le_refl _, by simp⟩ (fun k hk => by have := hk.2; simpa using this)
  have HM : Hid (EntsOw (w.alloc (.cells #[] 33)) (news w (w.alloc (.cells #[] 33))) (some ⟨w.heap.size, 0, none⟩) 0 []) := ⟨_, _, hmade⟩
  clear hb hmade
  go_enter Try.func62, Try.ntmps62
  go_wp2
  go_loopw [3, 4] (fun v i wr => ∃ k A' c', k ≤ b.length ∧ i = .int .i64 (k : Nat) ∧ v = .slice A' (AddL [] (b.take k)).length c' ∧ A' ≠ none ∧ EntsOw wr (news w wr) A' c' (AddL [] (b.take k)) ∧ (AddL [] (b.take k)).length ≤ k ∧ rowsIn (AddL [] (b.take k)) 4194304 ∧ wts (AddL [] (b.take k)) (1000000 + k * 1000000) ∧ Below w.heap.size w wr) (fun _ i _ => b.length - (intOf i).toNat)
  case atStart => exact ⟨0, some ⟨w.heap.size, 0, none⟩, 0, by omega, rfl, rfl, by simp, HM.out, by simp [AddL], (fun e he => by cases he), (fun e he => by cases he), bal (Below.refl _ _) _⟩
  case round =>
    obtain ⟨k, A', c', hk, rfl, rfl, hA', hown, hlen, hrows, hwts, hbel⟩ := hrel
    have hs1 := hbel.size
    by_cases hlt : k < b.length
    · obtain ⟨bb, off, RB, rd, rfl, hbl', hc0, hc1, -, hrow⟩ := hy.get k hlt
      have q0 := (hbel.cell (p := ⟨bb, off + k * 2, none⟩) hbl').trans hc0
      have q1 := (hbel.cell (p := ⟨bb, off + k * 2 + 1, none⟩) hbl').trans hc1
      have hlt' : (k : Int) < b.length := by omega
      have hst := AddL_take (a := []) hlt
      have hwk := hbw.get hlt
      have hrk := hbr.get hlt
      have hasc := AddL_asc HAA.out (b.take k)
      have hl2 := insK_length (lt := lessB) (AddL [] (b.take k)) b[k].1 b[k].2
      have hp2 := insK_pos (AddL [] (b.take k)) b[k].1 b[k].2
      have hr2 := rows_ins hrows (r := b[k].1) (by omega) b[k].2
      have hw2 := wts_ins hwts ⟨hwk.1, hwk.2⟩ (by omega) (by omega) b[k].1
      have hw3 : wts (AddL [] (b.take k)) 1099511627776 := fun e he => by have := hwts e he; omega
      have hwk1 : -1099511627776 ≤ b[k].2 := by omega
      have hwk2 : b[k].2 ≤ 1099511627776 := by omega
      have HST := Lib.hid hst
      have HO := Lib.hid hown
      have HR2 := Lib.hid hr2
      have HW2 := Lib.hid hw2
      have HW3 := Lib.hid hw3
      have HASC := Lib.hid hasc
      have HR := Lib.hid hrows
      have HL2 := Lib.hid hl2
      have HP2 := Lib.hid hp2
      clear hst hown hr2 hw2 hw3 hasc hrows hwts hl2 hp2 hc0 hc1
      generalize hM : AddL [] (b.take k) = M at *
      clear hM
      go_wp2_with fail
      refine wp_region_facts [[], [], [], [1, 2], [1, 2, 3], [1, 2, 3, 4], [], [], [6, 7], [6, 7, 8], [6, 7, 8, 9]]
        [fun v' _ => v' = .slice A' M.length c', fun v' _ => v' = .slice (some ⟨bb, off, none⟩) b.length d, fun v' _ => v' = .int .i64 (k : Int), fun v' _ => v' = .pointer (some ⟨bb, off + k * 2, none⟩), fun v' _ => v' = .pointer (some ⟨bb, off + k * 2, none⟩), fun v' _ => v' = .slice RB b[k].1.length rd, fun v' _ => v' = .slice (some ⟨bb, off, none⟩) b.length d, fun v' _ => v' = .int .i64 (k : Int), fun v' _ => v' = .pointer (some ⟨bb, off + k * 2, none⟩), fun v' _ => v' = .pointer (some ⟨bb, off + k * 2 + 1, none⟩), fun v' _ => v' = .int .i64 b[k].2]
        (by kernel_rfl) (by kernel_rfl) rfl ⟨stable_pure _, stable_pure _, stable_pure _, stable_pure _, stable_pure _, stable_pure _, stable_pure _, stable_pure _, stable_pure _, stable_pure _, stable_pure _, trivial⟩ ?_
      refine wf_step (fun wf hb hf => ?_) (fun t0 => ?_)
      · go_wp2
        exact ⟨rfl, _, rfl, Below.refl _ _, rfl⟩
      refine wf_step (fun wf hb hf => ?_) (fun t1 => ?_)
      · go_wp2
        exact ⟨rfl, _, rfl, Below.refl _ _, rfl⟩
      refine wf_step (fun wf hb hf => ?_) (fun t2 => ?_)
      · go_wp2
        exact ⟨rfl, _, rfl, Below.refl _ _, rfl⟩
      refine wf_step (fun wf hb hf => ?_) (fun t3 => ?_)
      · obtain ⟨rfl, rfl, -⟩ := hf
        go_wp2
        exact ⟨rfl, _, rfl, Below.refl _ _, rfl⟩
      refine wf_step (fun wf hb hf => ?_) (fun t4 => ?_)
      · obtain ⟨rfl, rfl, rfl, -⟩ := hf
        go_wp2
        exact ⟨rfl, _, rfl, Below.refl _ _, rfl⟩
      refine wf_step (fun wf hb hf => ?_) (fun t5 => ?_)
      · obtain ⟨rfl, rfl, rfl, rfl, -⟩ := hf
        have c0 := (hb.cell (p := ⟨bb, off + k * 2, none⟩) (Nat.lt_of_lt_of_le hbl' hs1)).trans q0
        go_wp2
        exact ⟨rfl, _, rfl, Below.refl _ _, rfl⟩
      refine wf_step (fun wf hb hf => ?_) (fun t6 => ?_)
      · go_wp2
        exact ⟨rfl, _, rfl, Below.refl _ _, rfl⟩
      refine wf_step (fun wf hb hf => ?_) (fun t7 => ?_)
      · go_wp2
        exact ⟨rfl, _, rfl, Below.refl _ _, rfl⟩
      refine wf_step (fun wf hb hf => ?_) (fun t8 => ?_)
      · obtain ⟨rfl, rfl, -⟩ := hf
        go_wp2
        exact ⟨rfl, _, rfl, Below.refl _ _, rfl⟩
      refine wf_step (fun wf hb hf => ?_) (fun t9 => ?_)
      · obtain ⟨rfl, rfl, rfl, -⟩ := hf
        go_wp2
        exact ⟨rfl, _, rfl, Below.refl _ _, rfl⟩
      refine wf_step (fun wf hb hf => ?_) (fun t10 => ?_)
      · obtain ⟨rfl, rfl, rfl, rfl, -⟩ := hf
        have c1 := (hb.cell (p := ⟨bb, off + k * 2 + 1, none⟩) (Nat.lt_of_lt_of_le hbl' hs1)).trans q1
        go_wp2
        exact ⟨rfl, _, rfl, Below.refl _ _, rfl⟩
      refine wf_done (fun wC hb hf => ?_)
      obtain ⟨rfl, rfl, rfl, rfl, rfl, rfl, rfl, rfl, rfl, rfl, rfl, -⟩ := hf
      show wpList _ _ _ [_, _] _ _
      refine wpList_frame (by simp [Act.put]; rfl) ?_
      have hbC := btr hbel hb
      have hsC := hb.size
      go_wp2_with fail
      refine (addEntry_s (news w wC) _ _ _ _ _ _ _ _ ((HO.out.below entO hb).mono (fun q hq => ⟨hq.1, by have := hq.2; omega⟩) (fun q hq => hq.2)) hA' HASC.out (((hrow.below hbel)).below hb) (by omega) HR.out (by omega) HW3.out hwk1 hwk2).mono ?_
      rintro e w2 ⟨A2, c2, rfl, ho2, g2⟩
      have hs2 := g2.size
      have hb2 := g2.below hbC (fun q hq => hq.1)
      have ho3 : EntsOw w2 (news w w2) A2 c2 (insK lessB M b[k].1 b[k].2) := ho2.mono (fun q hq => by
        rcases hq with hq | hq
        · exact ⟨hq.1, by have := hq.2; omega⟩
        · exact ⟨by have := hq.1; omega, hq.2⟩) (fun q hq => hq.2)
      have hA2 := some_of_pos ho3 HP2.out
      have HO3 := Lib.hid ho3
      clear ho2 ho3 g2 hbel hb hrow q0 q1 hbC HO
      go_wp2
      go_roundw
      case rel => exact ⟨k + 1, A2, c2, by omega, by go_num, by rw [HST.out], hA2, by rw [HST.out]; exact HO3.out, by rw [HST.out]; have := HL2.out; omega, by rw [HST.out]; exact HR2.out, by rw [HST.out]; exact wts_next HW2.out, hb2⟩
      case measure => simp [intOf]; omega
    · obtain rfl : k = b.length := by omega
      rw [List.take_length] at hown hlen hrows hwts
      have HO := Lib.hid hown
      have HR := Lib.hid hrows
      have HT := Lib.hid (List.take_length (l := b))
      clear hown hrows hwts
      simp only [HT.out]
      go_wp2_with fail
      refine (withoutZeros_s _ _ _ _ _ HO.out (by omega)).mono ?_
      rintro e w2 ⟨A2, c2, rfl, ho2, b2⟩
      have hnl : (nz (AddL [] b)).length ≤ (AddL [] b).length := List.length_filter_le _ _
      have hnr : rowsIn (nz (AddL [] b)) 4194304 := fun e he => HR.out e (List.mem_filter.1 he).1
      go_wp2_with fail
      refine (checked_s _ _ _ _ _ ho2 (by omega) hnr).mono ?_
      rintro e w3 ⟨A3, c3, rfl, ho3, b3⟩
      have hs2 := b2.size
      have hs3 := b3.size
      have ho4 : EntsOw w3 (news w w3) A3 c3 (chkF (nz (AddL [] b))) := ho3.mono (fun q hq => by
        rcases hq with hq | hq
        · rcases hq with hq | hq
          · exact ⟨hq.1, by have := hq.2; omega⟩
          · exact ⟨by have := hq.1; omega, by have := hq.2; omega⟩
        · exact ⟨by have := hq.1; omega, hq.2⟩) (fun q hq => hq.2)
      have HO4 := Lib.hid ho4
      clear ho2 ho3 ho4
      go_wp2_with fail
      go_ret
      exact ⟨A3, c3, rfl, HO4.out, btr hbel (btr b2 b3)⟩

set_option maxHeartbeats 3200000 in
theorem Normalize_s (A : Option Addr) (c : Nat) (es : List Ent) (w : World) (hx : EntsAt w A es) (hn : es.length ≤ 4194304) (hr : rowsIn es 4194304) :
    Calls Try.prog 23 #[.slice A es.length c] w fun e w' => ∃ A' c', e = .returned (.slice A' (NormF es).length c') ∧ EntsOw w' (news w w') A' c' (NormF es) ∧ Below w.heap.size w w' := by
  by_cases h4 : es.length ≤ 400
  · have h4' : (es.length : Int) ≤ 400 := by omega
    have hno : ∀ k (hk : k < es.length), sumE es[k] = false → Hid (NormF es = []) := fun k hk hs => by
      have : sumsB es = false := allTo_bad hk (by rw [nth_get hk]; exact hs)
      simp [Hid, NormF, this]
    have hyes : Hid (sumsB es = true → NormF es = chkF (nz (AddL [] es))) := fun h => by
      simp only [NormF, h, h4, decide_true, Bool.and_true, if_true]
      rfl
    have HX := Lib.hid hx
    go_enter Try.func23, Try.ntmps23
    go_wp2
    go_loopw [3] (fun i wr => ∃ k : Nat, k ≤ es.length ∧ i = .int .i64 k ∧ allTo (fun j => sumE (nth es j)) k = true ∧ Below w.heap.size w wr) (fun i _ => es.length - (intOf i).toNat)
    case atStart => exact ⟨0, by omega, rfl, rfl, Below.refl _ _⟩
    case round =>
      obtain ⟨k, hk, rfl, hall, hbel⟩ := hrel
      have HA := Lib.hid hall
      clear hall
      by_cases hlt : k < es.length
      · obtain ⟨b, off, RA, rc, rfl, hbl, hc0, hc1, hml, hrow⟩ := hx.get k hlt
        have hlt' : (k : Int) < es.length := by omega
        have q0 := (hbel.cell (p := ⟨b, off + k * 2, none⟩) hbl).trans hc0
        have q1 := (hbel.cell (p := ⟨b, off + k * 2 + 1, none⟩) hbl).trans hc1
        have hbl' := Nat.lt_of_lt_of_le hbl hbel.size
        have hrl := hr.get hlt
        have hrn : es[k].1.length * 8 ≤ 140737488351232 := by omega
        have hcv := fun W' (hW : Below wr.heap.size wr W') => validRow_s RA rc es[k].1 W' ((hrow.below hbel).below hW) hrn
        clear hc0 hc1 hml hrn hx
        by_cases g1 : rowB es[k].1 = true
        · have hc1 := fun W' hW => (hcv W' hW).mono fun e w' ⟨he, hb⟩ => (⟨by rw [he, g1], hb⟩ : e = Ending.returned (.bool true) ∧ Below W'.heap.size W' w')
          clear hcv
          by_cases g4 : wtB es[k].2 = true
          · have hc2 := inB_below es[k].2 true g4
            have HS : Hid (sumE (nth es k) = true) := by simp [Hid, nth_get hlt, sumE, g1, g4]
            clear g1 g4
            go_wp2_with fail
            refine (hc1 _ (Below.refl _ _)).mono ?_
            rintro e wa ⟨rfl, ba⟩
            have q1' := (ba.cell (p := ⟨b, off + k * 2 + 1, none⟩) hbl').trans q1
            clear q0 q1 hc1
            go_wp2_with fail
            refine (hc2 _).mono ?_
            rintro e wz ⟨rfl, bz⟩
            have hbq := btr hbel (btr ba bz)
            clear q1' hc2
            go_wp2
            go_roundw
            case rel => exact ⟨k + 1, by omega, by go_num, allTo_step HA.out HS.out, hbq⟩
            case measure => simp [intOf]; omega
          · have g4' : wtB es[k].2 = false := by simpa using g4
            have hc2 := inB_below es[k].2 false g4'
            have HR := (hno k hlt (by simp [sumE, g4']))
            clear g1 g4 g4' hno hyes
            go_wp2_with fail
            refine (hc1 _ (Below.refl _ _)).mono ?_
            rintro e wa ⟨rfl, ba⟩
            have q1' := (ba.cell (p := ⟨b, off + k * 2 + 1, none⟩) hbl').trans q1
            clear q0 q1 hc1
            go_wp2_with fail
            refine (hc2 _).mono ?_
            rintro e wz ⟨rfl, bz⟩
            have hbq := btr hbel (btr ba bz)
            have hs := hbq.size
            have HM := Lib.hid (SlF.made EntO 2 33 wz #[] 0 (by simp [maxLen]) (by simp) (S := news w (wz.alloc (.cells #[] 33))) ⟨hs, by simp⟩ (fun k hk => by have := hk.2; simpa using this))
            clear q1' hc2
            go_wp2
            go_ret
            exact ⟨_, 0, by rw [HR.out]; rfl, by rw [HR.out]; exact ⟨_, _, HM.out⟩, bal hbq _⟩
        · have g1' : rowB es[k].1 = false := by simpa using g1
          have hc1 := fun W' hW => (hcv W' hW).mono fun e w' ⟨he, hb⟩ => (⟨by rw [he, g1'], hb⟩ : e = Ending.returned (.bool false) ∧ Below W'.heap.size W' w')
          have HR := (hno k hlt (by simp [sumE, g1']))
          clear g1 g1' hcv hno hyes
          go_wp2_with fail
          refine (hc1 _ (Below.refl _ _)).mono ?_
          rintro e wz ⟨rfl, bz⟩
          have hbq := btr hbel bz
          have hs := hbq.size
          have HM := Lib.hid (SlF.made EntO 2 33 wz #[] 0 (by simp [maxLen]) (by simp) (S := news w (wz.alloc (.cells #[] 33))) ⟨hs, by simp⟩ (fun k hk => by have := hk.2; simpa using this))
          clear q0 q1 hc1
          go_wp2
          go_ret
          exact ⟨_, 0, by rw [HR.out]; rfl, by rw [HR.out]; exact ⟨_, _, HM.out⟩, bal hbq _⟩
      · obtain rfl : k = es.length := by omega
        have hs := hbel.size
        have hsum : sumsB es = true := HA.out
        have HR := Lib.hid (hyes.out hsum)
        have HS := Lib.hid hsum
        clear hsum hyes hno
        go_wp2_with fail
        refine (normalize_s _ _ _ _ (HX.out.below entR hbel) h4 HS.out).mono ?_
        rintro e w2 ⟨A2, c2, rfl, ho2, b2⟩
        go_wp2_with fail
        go_ret
        exact ⟨A2, c2, by rw [HR.out]; rfl, by rw [HR.out]; exact ho2.mono (fun q hq => ⟨by have := hq.1; omega, hq.2⟩) (fun q hq => hq.2), btr hbel b2⟩
  · have h4' : (400 : Int) < es.length := by omega
    have HR : Hid (NormF es = []) := by simp [Hid, NormF, h4]
    have HM := Lib.hid (SlF.made EntO 2 33 w #[] 0 (by simp [maxLen]) (by simp) (S := news w (w.alloc (.cells #[] 33))) ⟨Nat.le_refl _, by simp⟩ (fun k hk => by have := hk.2; simpa using this))
    clear h4
    go_enter Try.func23, Try.ntmps23
    go_wp2
    go_ret
    exact ⟨_, 0, by rw [HR.out]; rfl, by rw [HR.out]; exact ⟨_, _, HM.out⟩, bal (Below.refl _ _) _⟩
end Go.Proofs.Ythbphdaklkaeaaa
