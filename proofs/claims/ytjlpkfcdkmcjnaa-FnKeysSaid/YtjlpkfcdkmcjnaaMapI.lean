/- HELPER, no statement of the seat: MapColumns of both sides. -/
import Derived.Test.YtjlpkfcdkmcjnaaNormI
import Derived.Test.YtjlpkfcdkmcjnaaNormS
import Derived.Test.YtjlpkfcdkmcjnaaZmk
namespace Go.Proofs.Ytjlpkfcdkmcjnaa
open Go.RowKit Go.Sort
set_option linter.unusedSimpArgs false
set_option linter.unusedVariables false


def mapE (cols : List Int) (e : Ent) : Ent := (projL e.1 cols, e.2)
def MapF (z : List Ent) (cols : List Int) : List Ent := if (zsB z && colB cols (wid z)) = true then NormF (z.map (mapE cols)) else []
theorem MapF_len (z : List Ent) (cols : List Int) : (MapF z cols).length ≤ 400 := by
  unfold MapF
  split
  · exact NormF_len _
  · simp
theorem MapF_row (z : List Ent) (cols : List Int) : rowsIn (MapF z cols) 6 := by
  unfold MapF
  split
  · exact NormF_row _
  · intro e he; cases he
theorem rowB_proj {xs cols : List Int} (h : rowB xs = true) (hc : colB cols xs.length = true) : rowB (projL xs cols) = true := by
  obtain ⟨h1, h2, h3⟩ := col_in hc
  simp only [rowB, decide_eq_true_eq] at h ⊢
  refine ⟨by rw [projL_length]; exact h3, by rw [projL_length]; exact h2, fun x hx => ?_⟩
  obtain ⟨c, hcm, rfl⟩ := List.mem_map.1 hx
  have := h1 c hcm
  have hl : c.toNat < xs.length := by omega
  rw [show xs.getD c.toNat 0 = xs[c.toNat] by simp [hl]]
  exact h.2.2 _ (List.getElem_mem hl)
theorem sums_map {z : List Ent} {cols : List Int} (h : zsB z = true) (hc : colB cols (wid z) = true) : sumsB (z.map (mapE cols)) = true := allTo_iff.2 (fun k hk => by
  have hk' : k < z.length := by simpa using hk
  rw [nth_get hk, List.getElem_map]
  have h1 := zsB_get h hk'
  simp only [sumE, mapE, Bool.and_eq_true]
  exact ⟨rowB_proj h1.1 (by rw [h1.2.2.2]; exact hc), h1.2.1⟩)
theorem MapF_eq {z : List Ent} {cols : List Int} (h : zsB z = true) (hc : colB cols (wid z) = true) : MapF z cols = chkF (nz (AddL [] (z.map (mapE cols)))) := by
  have h4 := zsB_len h
  simp only [MapF, h, hc, Bool.and_self, if_true, NormF, sums_map h hc, List.length_map, h4, decide_true]
  rfl
theorem MapF_no {z : List Ent} {cols : List Int} (h : colB cols (wid z) = false) : MapF z cols = [] := by simp [MapF, h]
theorem colB_zero (cols : List Int) : colB cols 0 = false := by
  simp only [colB, decide_eq_false_iff_not]
  rintro ⟨h1, _, h⟩
  obtain ⟨x, hx⟩ : ∃ x, x ∈ cols := ⟨cols[0], List.getElem_mem _⟩
  have := h x hx
  omega
theorem map_rows {z : List Ent} {cols : List Int} (hc : cols.length ≤ 6) : rowsIn (z.map (mapE cols)) 6 := fun e he => by
  obtain ⟨q, _, rfl⟩ := List.mem_map.1 he
  simp only [mapE, projL_length]
  exact hc

set_option maxRecDepth 100000 in
set_option maxHeartbeats 1600000 in
theorem projectItems_e (A : Option Addr) (c : Nat) (es : List Ent) (B : Option Addr) (d : Nat) (cols : List Int) (w : World) (hx : EntsAt w A es) (hy : IntsAt w B cols) (hn : es.length ≤ 4194303) (hz : zsB es = true) (hm : cols.length ≤ 4194304) (hc : colB cols (wid es) = true) :
    Calls Try.prog 78 #[.slice A es.length c, .slice B cols.length d] w fun e w' => ∃ A' c', e = .returned (.slice A' (es.map (mapE cols)).length c') ∧ EntsOw w' (news w w') A' c' (es.map (mapE cols)) ∧ Below w.heap.size w w' := by
  obtain ⟨i0, hi, hz0, hz1, hz2⟩ := info_parts Try.infoEnt
  have HPB : Hid (∀ e ∈ es, projB e.1 cols = true) := fun e he => by
    obtain ⟨j, hj, rfl⟩ := List.getElem_of_mem he
    have h1 := zsB_get hz hj
    simp only [projB, Bool.and_eq_true]
    exact ⟨h1.1, by rw [h1.2.2.2]; exact hc⟩
  have HRW : Hid (rowsIn es 6) := zsB_row hz
  have HST : Hid (∀ k (h : k < es.length), (es.map (mapE cols)).take (k + 1) = (es.map (mapE cols)).take k ++ [mapE cols es[k]]) := fun k h => by
    rw [List.take_succ_eq_append_getElem (by simpa using h), List.getElem_map]
  have HML : Hid ((es.map (mapE cols)).length = es.length) := by simp [Hid]
  clear hz hc
  generalize hMM : es.map (mapE cols) = MM at *
  clear hMM
  go_enter Try.func78, Try.ntmps78
  go_wp2
  go_loopw [5, 7, 12] (fun v _ i wr => ∃ k A' c', k ≤ es.length ∧ i = .int .i64 (k : Nat) ∧ v = .slice A' k c' ∧ EntsOw wr (news w wr) A' c' (MM.take k) ∧ Below w.heap.size w wr) (fun _ _ i _ => es.length - (intOf i).toNat)
  case atStart => exact ⟨0, none, 0, by omega, rfl, rfl, by rw [List.take_zero]; exact SlOw.nil (fun k hk => hk.2), Below.refl _ _⟩
  case round =>
    obtain ⟨k, A', c', hk, rfl, rfl, ⟨css, F, hown⟩, hbel⟩ := hrel
    by_cases hlt : k < es.length
    · obtain ⟨b, off, RA, rc, rfl, hbl, hc0, hc1, -, hrow⟩ := hx.get k hlt
      have q0 := (hbel.cell (p := ⟨b, off + k * 2, none⟩) hbl).trans hc0
      have q1 := (hbel.cell (p := ⟨b, off + k * 2 + 1, none⟩) hbl).trans hc1
      have hrl := HRW.out _ (List.getElem_mem hlt)
      have hpb := HPB.out _ (List.getElem_mem hlt)
      have hkl : (MM.take k).length = k := by have := HML.out; simp; omega
      have hst := HST.out k hlt
      have hmr := m_row
      have hmw := m_withRow
      have hpr : projR es[k].1 cols = projL es[k].1 cols := by simp [projR, hpb]
      have hb0 : Below wr.heap.size wr (wr.alloc (.cells #[.slice RA es[k].1.length rc, .int .i64 es[k].2] 34)) := bal (Below.refl _ _) _
      have hcon := fun W (hW : Below wr.heap.size wr W) => ProjectRow_i RA B rc d es[k].1 cols W ((hrow.below hbel).below hW) ((hy.below hbel).below hW) (by omega) hm
      rw [hpb, hpr] at hcon
      have HF := Lib.hid hown
      have HS := Lib.hid hst
      have hs1 := hbel.size
      clear hc0 hc1 hown hst hpb hpr
      go_wp2_with fail
      refine (row_e _ _ _ _ _).mono ?_
      rintro e w1 ⟨rfl, b1⟩
      have hb1 := btr hb0 b1
      go_wp2_with fail
      refine (hcon _ hb1).mono ?_
      rintro e w2 ⟨RP, rp, rfl, hop, b2⟩
      have hb2 := btr hb1 b2
      obtain ⟨hcl, hfr⟩ := bcell (btr b1 b2)
      have t0 : w2.cell? ⟨wr.heap.size, 0, none⟩ = some (.slice RA es[k].1.length rc) := by rw [hcl _ _ (by simp)]; simp
      have t1 : w2.cell? ⟨wr.heap.size, 1, none⟩ = some (.int .i64 es[k].2) := by rw [hcl _ _ (by simp)]; simp
      have hop2 : IntsOwn w2 wr.heap.size RP rp (projL es[k].1 cols) := hop.mono hb1.size
      clear hcl hfr q0 q1 hcon hb0 hb1 b1 b2 hop
      go_wp2_with fail
      refine (withRow_e _ _ _ _ _ _).mono ?_
      rintro e w3 ⟨rfl, b3⟩
      have hb3 := btr hb2 b3
      have hop3 := hop2.below b3
      have hs3 := hb3.size
      have hrow3 := (HF.out.loc entO (fun q hq => hb3.block q hq.2)).row
      rw [hkl] at hrow3
      have hbase : ∀ q, blk A' = some q → w.heap.size ≤ q := fun q hq => (HF.out.top q hq).1
      clear t0 t1 hb2 b3 hop2
      go_wp2_with (at_builtin; refine wpList_append_src _ rfl _ _ 23 rfl w.heap.size 34 i0 (.agg #[.slice none 0 0, .int .i64 0]) 2 32 Try.underlying23 hi hz0 hz1 hz2 rfl (by decide) _ _ _ rfl ((ownsRow_base hrow3 hbase).alloc _) (some ⟨w3.heap.size, 0, none⟩) 1 1 [.slice RP (projL es[k].1 cols).length rp, .int .i64 es[k].2] rfl rfl (fun h => by cases h) ent_srcs ent_ones (by unfold maxLen; omega) (by omega) (by simp; omega) ?_)
      intro v' w4 hown' hgrow hloc
      rw [ownBlock_slice] at hgrow hloc
      have hp := HF.out.pushE (w2 := w4) hbel hb3 hop3 (by rw [hkl]; exact hown') hgrow hloc
      rw [hkl, show MM.take k ++ [(projL es[k].1 cols, es[k].2)] = MM.take (k + 1) from HS.out.symm] at hp
      obtain ⟨A3, c3, rfl, ho3, hb4⟩ := hp
      have HO := Lib.hid ho3
      have HB := Lib.hid hb4
      clear hown' hgrow hloc ho3 hb4 hrow3 hbase hop3 hb3 hbel hrow HF
      go_wp2
      go_roundw
      case rel => exact ⟨k + 1, A3, c3, by omega, by go_num, rfl, HO.out, HB.out⟩
      case measure => simp [intOf]; omega
    · obtain rfl : k = es.length := by omega
      have HO : Hid (EntsOw wr (news w wr) A' c' MM) := by
        have := HML.out
        rw [List.take_of_length_le (by omega)] at hown
        exact ⟨_, _, hown⟩
      have HB := Lib.hid hbel
      clear hown hbel
      go_wp2
      go_ret
      exact ⟨A', c', by rw [HML.out]; rfl, HO.out, HB.out⟩
set_option maxHeartbeats 800000 in
theorem projectItems_no (A : Option Addr) (c : Nat) (es : List Ent) (B : Option Addr) (d : Nat) (cols : List Int) (w : World) (hx : EntsAt w A es) (hy : IntsAt w B cols) (hn : es.length ≤ 4194303) (hz : zsB es = true) (hm : cols.length ≤ 4194304) (hc : colB cols (wid es) = false) :
    Calls Try.prog 78 #[.slice A es.length c, .slice B cols.length d] w fun e w' => ∃ A' c', e = .returned (.slice A' 0 c') ∧ Below w.heap.size w w' := by
  rcases Nat.eq_zero_or_pos es.length with h0 | hp
  · obtain rfl := List.eq_nil_of_length_eq_zero h0
    clear hz hc
    go_enter Try.func78, Try.ntmps78
    go_wp2
    refine wp_loop_rounds 1 ?_
    rw [rounds_succ]
    go_wp2
    go_ret
    exact ⟨none, 0, rfl, Below.refl _ _⟩
  · obtain ⟨b, off, RA, rc, rfl, hbl, q0, q1, -, hrow⟩ := hx.get 0 hp
    simp only [Nat.zero_mul, Nat.add_zero] at q0 q1
    have hrl := zsB_row hz _ (List.getElem_mem hp)
    have h1 := zsB_get hz hp
    have hpb : projB es[0].1 cols = false := by simp only [projB]; rw [h1.2.2.2, hc]; simp
    have hmr := m_row
    have hp' : (0 : Int) < es.length := by omega
    have hb0 : Below w.heap.size w (w.alloc (.cells #[.slice RA es[0].1.length rc, .int .i64 es[0].2] 34)) := bal (Below.refl _ _) _
    have hcon := fun W (hW : Below w.heap.size w W) => ProjectRow_i RA B rc d es[0].1 cols W (hrow.below hW) (hy.below hW) (by omega) hm
    rw [hpb] at hcon
    clear hpb h1 hz hc
    go_enter Try.func78, Try.ntmps78
    go_wp2
    refine wp_loop_rounds 1 ?_
    rw [rounds_succ]
    go_wp2_with fail
    refine (row_e _ _ _ _ _).mono ?_
    rintro e w1 ⟨rfl, b1⟩
    have hb1 := btr hb0 b1
    go_wp2_with fail
    refine (hcon _ hb1).mono ?_
    rintro e w2 ⟨RP, rp, rfl, hop, b2⟩
    have hb2 := btr hb1 b2
    go_wp2
    go_ret
    exact ⟨none, 0, rfl, hb2⟩

set_option maxHeartbeats 800000 in
theorem MapColumns_i (A : Option Addr) (c : Nat) (z : List Ent) (B : Option Addr) (d : Nat) (cols : List Int) (w : World) (hx : EntsAt w A z) (hy : IntsAt w B cols) (hn : z.length ≤ 4194304) (hr : rowsIn z 4194304) (hm : cols.length ≤ 4194304) :
    Calls Try.prog 23 #[.slice A z.length c, .slice B cols.length d] w fun e w' => ∃ A' c', e = .returned (.slice A' (MapF z cols).length c') ∧ EntsOw w' (news w w') A' c' (MapF z cols) ∧ Below w.heap.size w w' := by
  have hvz := ValidZSet_i A c z w hx hn hr
  by_cases h1 : zsB z = true
  · rw [h1] at hvz
    have h4 := zsB_len h1
    by_cases h2 : colB cols (wid z) = true
    · have HR : Hid (MapF z cols = NormF (z.map (mapE cols))) := by simp [Hid, MapF, h1, h2]
      have hc6 := (col_in h2).2.1
      have HMR : Hid (rowsIn (z.map (mapE cols)) 6) := map_rows hc6
      have HZ := Lib.hid h1
      have HC := Lib.hid h2
      have HL : Hid ((z.map (mapE cols)).length = z.length) := by simp [Hid]
      clear h1 h2
      go_enter Try.func23, Try.ntmps23
      go_wp2_with fail
      refine hvz.mono ?_
      rintro e w1 ⟨rfl, b1⟩
      clear hvz
      go_wp2_with fail
      refine (projectItems_e _ _ _ _ _ _ _ (hx.below entR b1) (hy.below b1) (by omega) HZ.out hm HC.out).mono ?_
      rintro e w2 ⟨A2, c2, rfl, ho2, b2⟩
      have hat2 : EntsAt w2 A2 (z.map (mapE cols)) := SlOw.at_ entO ho2
      generalize z.map (mapE cols) = MM at *
      go_wp2_with fail
      refine (Normalize_i _ _ _ _ hat2 (by have := HL.out; omega) (fun e he => by have := HMR.out e he; omega)).mono ?_
      rintro e w3 ⟨A3, c3, rfl, ho3, b3⟩
      have hs := (btr b1 b2).size
      go_wp2_with fail
      go_ret
      exact ⟨A3, c3, by rw [HR.out]; rfl, by rw [HR.out]; exact ho3.mono (fun q hq => ⟨by have := hq.1; omega, hq.2⟩) (fun q hq => hq.2), btr (btr b1 b2) b3⟩
    · have h2' : colB cols (wid z) = false := by simpa using h2
      have HR := Lib.hid (MapF_no h2')
      have HZ := Lib.hid h1
      have HC := Lib.hid h2'
      have HN : Hid (NormF [] = []) := by simp [Hid, NormF, NormL, nz, chkF]
      clear h1 h2 h2'
      go_enter Try.func23, Try.ntmps23
      go_wp2_with fail
      refine hvz.mono ?_
      rintro e w1 ⟨rfl, b1⟩
      clear hvz
      go_wp2_with fail
      refine (projectItems_no _ _ _ _ _ _ _ (hx.below entR b1) (hy.below b1) (by omega) HZ.out hm HC.out).mono ?_
      rintro e w2 ⟨A2, c2, rfl, b2⟩
      go_wp2_with fail
      refine (Normalize_i A2 c2 [] _ SlAt.nil (by simp) (fun e he => by cases he)).mono ?_
      rintro e w3 ⟨A3, c3, rfl, ho3, b3⟩
      rw [HN.out] at ho3
      have hs := (btr b1 b2).size
      go_wp2_with fail
      go_ret
      exact ⟨A3, c3, by rw [HR.out, HN.out]; rfl, by rw [HR.out]; exact ho3.mono (fun q hq => ⟨by have := hq.1; omega, hq.2⟩) (fun q hq => hq.2), btr (btr b1 b2) b3⟩
  · have h1' : zsB z = false := by simpa using h1
    rw [h1'] at hvz
    have HR : Hid (MapF z cols = []) := by simp [Hid, MapF, h1']
    clear h1 h1'
    go_enter Try.func23, Try.ntmps23
    go_wp2_with fail
    refine hvz.mono ?_
    rintro e w1 ⟨rfl, b1⟩
    clear hvz
    go_wp2_with fail
    go_ret
    exact ⟨none, 0, by rw [HR.out]; rfl, by rw [HR.out]; exact SlOw.nil (fun k hk => hk.2), b1⟩
set_option maxRecDepth 100000 in
set_option maxHeartbeats 3200000 in
theorem mapColumns_s (B : Option Addr) (d : Nat) (b : List Ent) (CA : Option Addr) (cc : Nat) (cols : List Int) (w : World) (hy : EntsAt w B b) (hcol : IntsAt w CA cols) (hb : zsB b = true) (hc6 : cols.length ≤ 6) (hci : ∀ k (h : k < b.length), colsIn cols b[k].1.length) :
    Calls Try.prog 80 #[.slice B b.length d, .slice CA cols.length cc] w fun e w' => ∃ A' c', e = .returned (.slice A' (chkF (nz (AddL [] (b.map (mapE cols))))).length c') ∧ EntsOw w' (news w w') A' c' (chkF (nz (AddL [] (b.map (mapE cols))))) ∧ Below w.heap.size w w' := by
  have hb4 := zsB_len hb
  have hbr : rowsIn b 6 := zsB_row hb
  have hbw : wts b 1000000 := wts_zs hb
  have hcn : cols.length ≤ 4194304 := by omega
  have HCOL : Hid (∀ k (h : k < b.length), colsIn cols b[k].1.length) := hci
  have HSTP : Hid (∀ k (h : k < b.length), AddL [] ((b.map (mapE cols)).take (k + 1)) = insK lessB (AddL [] ((b.map (mapE cols)).take k)) (projL b[k].1 cols) b[k].2) := fun k h => by
    have := AddL_take (a := []) (b := b.map (mapE cols)) (k := k) (by simpa using h)
    rw [List.getElem_map] at this
    exact this
  have HMLN : Hid ((b.map (mapE cols)).length = b.length) := by simp [Hid]
  clear hci
  have HAA : Hid (Asc lessB ([] : List Ent)) := List.Pairwise.nil
  have hmade := SlF.made EntO 2 34 w #[] 0 (by simp [maxLen]) (by simp) (S := news w (w.alloc (.cells #[] 34))) ⟨Nat.le_refl _, by simp⟩ (fun k hk => by have := hk.2; simpa using this)
  have HM : Hid (EntsOw (w.alloc (.cells #[] 34)) (news w (w.alloc (.cells #[] 34))) (some ⟨w.heap.size, 0, none⟩) 0 []) := ⟨_, _, hmade⟩
  clear hb hmade
  go_enter Try.func80, Try.ntmps80
  go_wp2
  go_loopw [5, 6] (fun v i wr => ∃ k A' c', k ≤ b.length ∧ i = .int .i64 (k : Nat) ∧ v = .slice A' (AddL [] ((b.map (mapE cols)).take k)).length c' ∧ A' ≠ none ∧ EntsOw wr (news w wr) A' c' (AddL [] ((b.map (mapE cols)).take k)) ∧ (AddL [] ((b.map (mapE cols)).take k)).length ≤ k ∧ rowsIn (AddL [] ((b.map (mapE cols)).take k)) 4194304 ∧ wts (AddL [] ((b.map (mapE cols)).take k)) (1000000 + k * 1000000) ∧ Below w.heap.size w wr) (fun _ i _ => b.length - (intOf i).toNat)
  case atStart => exact ⟨0, some ⟨w.heap.size, 0, none⟩, 0, by omega, rfl, rfl, by simp, HM.out, by simp [AddL], (fun e he => by cases he), (fun e he => by cases he), bal (Below.refl _ _) _⟩
  case round =>
    obtain ⟨k, A', c', hk, rfl, rfl, hA', hown, hlen, hrows, hwts, hbel⟩ := hrel
    have hs1 := hbel.size
    by_cases hlt : k < b.length
    · obtain ⟨bb, off, RB, rd, rfl, hbl', hc0, hc1, -, hrow⟩ := hy.get k hlt
      have q0 := (hbel.cell (p := ⟨bb, off + k * 2, none⟩) hbl').trans hc0
      have q1 := (hbel.cell (p := ⟨bb, off + k * 2 + 1, none⟩) hbl').trans hc1
      have hlt' : (k : Int) < b.length := by omega
      have hst := HSTP.out k hlt
      have HCI : colsIn cols b[k].1.length := HCOL.out k hlt
      have hpl : (projL b[k].1 cols).length ≤ 6 := by rw [projL_length]; exact hc6
      have hwk := hbw.get hlt
      have hrk := hbr.get hlt
      have hasc := AddL_asc HAA.out ((b.map (mapE cols)).take k)
      have hl2 := insK_length (lt := lessB) (AddL [] ((b.map (mapE cols)).take k)) (projL b[k].1 cols) b[k].2
      have hp2 := insK_pos (AddL [] ((b.map (mapE cols)).take k)) (projL b[k].1 cols) b[k].2
      have hr2 := rows_ins hrows (r := projL b[k].1 cols) (by omega) b[k].2
      have hw2 := wts_ins hwts ⟨hwk.1, hwk.2⟩ (by omega) (by omega) (projL b[k].1 cols)
      have hw3 : wts (AddL [] ((b.map (mapE cols)).take k)) 1099511627776 := fun e he => by have := hwts e he; omega
      have hwk1 : -1099511627776 ≤ b[k].2 := by omega
      have hwk2 : b[k].2 ≤ 1099511627776 := by omega
      have HST := Lib.hid hst
      have HO := Lib.hid hown
      have HR2 := Lib.hid hr2
      have HW2 := Lib.hid hw2
      have HW3 := Lib.hid hw3
      have HASC := Lib.hid hasc
      have HR := Lib.hid hrows
      have HL2 := Lib.hid hl2
      have HP2 := Lib.hid hp2
      clear hst hown hr2 hw2 hw3 hasc hrows hwts hl2 hp2 hc0 hc1
      generalize hM : AddL [] ((b.map (mapE cols)).take k) = M at *
      clear hM
      go_wp2_with fail
      refine wp_region_facts [[], [], [], [1, 2], [1, 2, 3], [1, 2, 3, 4], [], [1, 2, 3, 4, 5, 6], [], [], [8, 9], [8, 9, 10], [8, 9, 10, 11]]
        [fun v' _ => v' = .slice A' M.length c', fun v' _ => v' = .slice (some ⟨bb, off, none⟩) b.length d, fun v' _ => v' = .int .i64 (k : Int), fun v' _ => v' = .pointer (some ⟨bb, off + k * 2, none⟩), fun v' _ => v' = .pointer (some ⟨bb, off + k * 2, none⟩), fun v' _ => v' = .slice RB b[k].1.length rd, fun v' _ => v' = .slice CA cols.length cc, RowV wr.heap.size (projL b[k].1 cols), fun v' _ => v' = .slice (some ⟨bb, off, none⟩) b.length d, fun v' _ => v' = .int .i64 (k : Int), fun v' _ => v' = .pointer (some ⟨bb, off + k * 2, none⟩), fun v' _ => v' = .pointer (some ⟨bb, off + k * 2 + 1, none⟩), fun v' _ => v' = .int .i64 b[k].2]
        (by kernel_rfl) (by kernel_rfl) rfl ⟨stable_pure _, stable_pure _, stable_pure _, stable_pure _, stable_pure _, stable_pure _, stable_pure _, stable_rowV _ _, stable_pure _, stable_pure _, stable_pure _, stable_pure _, stable_pure _, trivial⟩ ?_
      refine wf_step (fun wf hb hf => ?_) (fun tN => ?_)
      · go_wp2
        exact ⟨rfl, _, rfl, Below.refl _ _, rfl⟩
      refine wf_step (fun wf hb hf => ?_) (fun tN => ?_)
      · go_wp2
        exact ⟨rfl, _, rfl, Below.refl _ _, rfl⟩
      refine wf_step (fun wf hb hf => ?_) (fun tN => ?_)
      · go_wp2
        exact ⟨rfl, _, rfl, Below.refl _ _, rfl⟩
      refine wf_step (fun wf hb hf => ?_) (fun tN => ?_)
      · obtain ⟨rfl, rfl, -⟩ := hf
        go_wp2
        exact ⟨rfl, _, rfl, Below.refl _ _, rfl⟩
      refine wf_step (fun wf hb hf => ?_) (fun tN => ?_)
      · obtain ⟨rfl, rfl, rfl, -⟩ := hf
        go_wp2
        exact ⟨rfl, _, rfl, Below.refl _ _, rfl⟩
      refine wf_step (fun wf hb hf => ?_) (fun tN => ?_)
      · obtain ⟨rfl, rfl, rfl, rfl, -⟩ := hf
        have c0 := (hb.cell (p := ⟨bb, off + k * 2, none⟩) (Nat.lt_of_lt_of_le hbl' hs1)).trans q0
        go_wp2
        exact ⟨rfl, _, rfl, Below.refl _ _, rfl⟩
      refine wf_step (fun wf hb hf => ?_) (fun tN => ?_)
      · go_wp2
        exact ⟨rfl, _, rfl, Below.refl _ _, rfl⟩
      refine wf_step (fun wf hb hf => ?_) (fun tN => ?_)
      · obtain ⟨-, -, -, -, rfl, rfl, -⟩ := hf
        go_wp2_with (go_at_call 94; refine (project_s _ _ _ _ _ _ _ ((hrow.below hbel).below hb) ((hcol.below hbel).below hb) HCI (by omega) hcn).mono ?_; rintro e w2 ⟨AP, cP, rfl, hop, hb2⟩)
        exact ⟨rfl, _, rfl, hb2, AP, cP, rfl, hop.mono hb.size⟩
      refine wf_step (fun wf hb hf => ?_) (fun tN => ?_)
      · go_wp2
        exact ⟨rfl, _, rfl, Below.refl _ _, rfl⟩
      refine wf_step (fun wf hb hf => ?_) (fun tN => ?_)
      · go_wp2
        exact ⟨rfl, _, rfl, Below.refl _ _, rfl⟩
      refine wf_step (fun wf hb hf => ?_) (fun tN => ?_)
      · obtain ⟨rfl, rfl, -⟩ := hf
        go_wp2
        exact ⟨rfl, _, rfl, Below.refl _ _, rfl⟩
      refine wf_step (fun wf hb hf => ?_) (fun tN => ?_)
      · obtain ⟨rfl, rfl, rfl, -⟩ := hf
        go_wp2
        exact ⟨rfl, _, rfl, Below.refl _ _, rfl⟩
      refine wf_step (fun wf hb hf => ?_) (fun tN => ?_)
      · obtain ⟨rfl, rfl, rfl, rfl, -⟩ := hf
        have c1 := (hb.cell (p := ⟨bb, off + k * 2 + 1, none⟩) (Nat.lt_of_lt_of_le hbl' hs1)).trans q1
        go_wp2
        exact ⟨rfl, _, rfl, Below.refl _ _, rfl⟩
      refine wf_done (fun wC hb hf => ?_)
      obtain ⟨rfl, rfl, rfl, rfl, rfl, rfl, rfl, ⟨AP, cP, rfl, hop⟩, rfl, rfl, rfl, rfl, rfl, -⟩ := hf
      show wpList _ _ _ [_, _] _ _
      refine wpList_frame (by simp [Act.put]; rfl) ?_
      have hbC := btr hbel hb
      have hsC := hb.size
      go_wp2_with fail
      refine (addEntry_s (news w wC) _ _ _ _ _ _ _ _ ((HO.out.below entO hb).mono (fun q hq => ⟨hq.1, by have := hq.2; omega⟩) (fun q hq => hq.2)) hA' HASC.out hop.at_ (by omega) HR.out (by omega) HW3.out hwk1 hwk2).mono ?_
      rintro e w2 ⟨A2, c2, rfl, ho2, g2⟩
      have hs2 := g2.size
      have hb2 := g2.below hbC (fun q hq => hq.1)
      have ho3 : EntsOw w2 (news w w2) A2 c2 (insK lessB M (projL b[k].1 cols) b[k].2) := ho2.mono (fun q hq => by
        rcases hq with hq | hq
        · exact ⟨hq.1, by have := hq.2; omega⟩
        · exact ⟨by have := hq.1; omega, hq.2⟩) (fun q hq => hq.2)
      have hA2 := some_of_pos ho3 HP2.out
      have HO3 := Lib.hid ho3
      clear ho2 ho3 g2 hbel hb hrow q0 q1 hbC HO hop
      go_wp2
      go_roundw
      case rel => exact ⟨k + 1, A2, c2, by omega, by go_num, by rw [HST.out], hA2, by rw [HST.out]; exact HO3.out, by rw [HST.out]; have := HL2.out; omega, by rw [HST.out]; exact HR2.out, by rw [HST.out]; exact wts_next HW2.out, hb2⟩
      case measure => simp [intOf]; omega
    · obtain rfl : k = b.length := by omega
      rw [show b.length = (b.map (mapE cols)).length from HMLN.out.symm, List.take_length] at hown hlen hrows hwts
      have HO := Lib.hid hown
      have HR := Lib.hid hrows
      have HT : Hid ((b.map (mapE cols)).take b.length = b.map (mapE cols)) := List.take_of_length_le (by have := HMLN.out; omega)
      have hmln := HMLN.out
      rw [hmln] at hlen
      clear hown hrows hwts
      simp only [HT.out]
      go_wp2_with fail
      refine (withoutZeros_s _ _ _ _ _ HO.out (by omega)).mono ?_
      rintro e w2 ⟨A2, c2, rfl, ho2, b2⟩
      have hnl : (nz (AddL [] (b.map (mapE cols)))).length ≤ (AddL [] (b.map (mapE cols))).length := List.length_filter_le _ _
      have hnr : rowsIn (nz (AddL [] (b.map (mapE cols)))) 4194304 := fun e he => HR.out e (List.mem_filter.1 he).1
      go_wp2_with fail
      refine (checked_s _ _ _ _ _ ho2 (by omega) hnr).mono ?_
      rintro e w3 ⟨A3, c3, rfl, ho3, b3⟩
      have hs2 := b2.size
      have hs3 := b3.size
      have ho4 : EntsOw w3 (news w w3) A3 c3 (chkF (nz (AddL [] (b.map (mapE cols))))) := ho3.mono (fun q hq => by
        rcases hq with hq | hq
        · rcases hq with hq | hq
          · exact ⟨hq.1, by have := hq.2; omega⟩
          · exact ⟨by have := hq.1; omega, by have := hq.2; omega⟩
        · exact ⟨by have := hq.1; omega, hq.2⟩) (fun q hq => hq.2)
      have HO4 := Lib.hid ho4
      clear ho2 ho3 ho4
      go_wp2_with fail
      go_ret
      exact ⟨A3, c3, rfl, HO4.out, btr hbel (btr b2 b3)⟩


theorem widthOf_sM (A : Option Addr) (c : Nat) (z : List Ent) (w : World) (hx : EntsAt w A z) (hp : 0 < z.length) (hr : rowsIn z 4194304) :
    Calls Try.prog 69 #[.slice A z.length c] w fun e w' => e = .returned (.int .i64 (wid z)) ∧ Below w.heap.size w w' := by
  obtain ⟨b, off, RA, rc, rfl, hbl, hc0, -, -, -⟩ := hx.get 0 hp
  simp only [Nat.zero_mul, Nat.add_zero] at hc0
  have hp' : (0 : Int) < z.length := by omega
  have HW := Lib.hid (wid_get hp)
  go_enter Try.func69, Try.ntmps69
  go_wp2
  go_ret
  exact ⟨ret_int (by rw [HW.out]), Below.refl _ _⟩


set_option maxHeartbeats 1600000 in
theorem MapColumns_s (A : Option Addr) (c : Nat) (z : List Ent) (B : Option Addr) (d : Nat) (cols : List Int) (w : World) (hx : EntsAt w A z) (hy : IntsAt w B cols) (hn : z.length ≤ 4194304) (hr : rowsIn z 4194304) (hm : cols.length ≤ 4194304) :
    Calls Try.prog 24 #[.slice A z.length c, .slice B cols.length d] w fun e w' => ∃ A' c', e = .returned (.slice A' (MapF z cols).length c') ∧ EntsOw w' (news w w') A' c' (MapF z cols) ∧ Below w.heap.size w w' := by
  have hvz := validZSet_s A c z w hx hn hr
  have endNo : Hid (MapF z cols = []) → ∀ W, Below w.heap.size w W → Hid (EntsOw (W.alloc (.cells #[] 34)) (news w (W.alloc (.cells #[] 34))) (some ⟨W.heap.size, 0, none⟩) 0 (MapF z cols)) := fun hF W hW => by
    rw [Hid, hF.out]
    exact ⟨_, _, SlF.made EntO 2 34 W #[] 0 (by simp [maxLen]) (by simp) ⟨hW.size, by simp⟩ (fun q hq => by have := hq.2; simpa using this)⟩
  by_cases h1 : zsB z = true
  · rw [h1] at hvz
    rcases Nat.eq_zero_or_pos z.length with h0 | hp
    · obtain rfl := List.eq_nil_of_length_eq_zero h0
      have HR : Hid (MapF [] cols = []) := MapF_no (colB_zero cols)
      have hno := endNo HR
      clear h1 h0 endNo
      go_enter Try.func24, Try.ntmps24
      go_wp2_with fail
      refine hvz.mono ?_
      rintro e W2 ⟨rfl, hB2⟩
      have HE := hno W2 hB2
      clear hvz hno
      go_wp2
      go_ret
      exact ⟨_, 0, by rw [HR.out]; rfl, HE.out, bal hB2 _⟩
    · have hwd := fun W (h : EntsAt W A z) => widthOf_sM A c z W h hp hr
      have hwr := wid_row h1 hp
      have hpe : ((z.length : Int) == 0) = false := by rw [beq_eq_false_iff_ne]; omega
      have hvc := fun W (h : IntsAt W B cols) => validColumns_s B d cols (wid z) W h (by omega) (by omega)
      by_cases h2 : colB cols (wid z) = true
      · rw [h2] at hvc
        have HR := Lib.hid (MapF_eq h1 h2)
        have HZ := Lib.hid h1
        have HC := Lib.hid h2
        clear h1 h2 endNo
        go_enter Try.func24, Try.ntmps24
        go_wp2_with fail
        refine hvz.mono ?_
        rintro e W1 ⟨rfl, hB1⟩
        clear hvz
        go_wp2_with fail
        refine (hwd _ (hx.below entR hB1)).mono ?_
        rintro e W2 ⟨rfl, b2⟩
        have hB2 := btr hB1 b2
        clear hwd
        go_wp2_with fail
        refine (hvc _ (hy.below hB2)).mono ?_
        rintro e W2' ⟨rfl, rfl⟩
        clear hvc
        have hs := hB2.size
        go_wp2_with fail
        refine (mapColumns_s _ _ _ _ _ _ _ (hx.below entR hB2) (hy.below hB2) HZ.out (col_in HC.out).2.1 (fun k h => by rw [zsB_wid HZ.out _ (List.getElem_mem h)]; exact (col_in HC.out).1)).mono ?_
        rintro e W3 ⟨A3, c3, rfl, ho3, b3⟩
        go_wp2_with fail
        go_ret
        exact ⟨A3, c3, by rw [HR.out]; rfl, by rw [HR.out]; exact ho3.mono (fun q hq => ⟨by have := hq.1; omega, hq.2⟩) (fun q hq => hq.2), btr hB2 b3⟩
      · have h2' : colB cols (wid z) = false := by simpa using h2
        rw [h2'] at hvc
        have HR := Lib.hid (MapF_no h2')
        have hno := endNo HR
        clear h1 h2 h2' endNo
        go_enter Try.func24, Try.ntmps24
        go_wp2_with fail
        refine hvz.mono ?_
        rintro e W1 ⟨rfl, hB1⟩
        clear hvz
        go_wp2_with fail
        refine (hwd _ (hx.below entR hB1)).mono ?_
        rintro e W2 ⟨rfl, b2⟩
        have hB2 := btr hB1 b2
        clear hwd
        go_wp2_with fail
        refine (hvc _ (hy.below hB2)).mono ?_
        rintro e W2' ⟨rfl, rfl⟩
        clear hvc
        have HE := hno _ hB2
        clear hno
        go_wp2
        go_ret
        exact ⟨_, 0, by rw [HR.out]; rfl, HE.out, bal hB2 _⟩
  · have h1' : zsB z = false := by simpa using h1
    rw [h1'] at hvz
    have HR : Hid (MapF z cols = []) := by simp [Hid, MapF, h1']
    have hno := endNo HR
    clear h1 h1' endNo
    go_enter Try.func24, Try.ntmps24
    go_wp2_with fail
    refine hvz.mono ?_
    rintro e W2 ⟨rfl, hB2⟩
    have HE := hno W2 hB2
    clear hvz hno
    go_wp2
    go_ret
    exact ⟨_, 0, by rw [HR.out]; rfl, HE.out, bal hB2 _⟩
end Go.Proofs.Ytjlpkfcdkmcjnaa
