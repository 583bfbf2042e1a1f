/- HELPER, no statement of the seat: several texts in one file. -/
import Derived.Test.YtifjenleoagefaaGreatSre
import Derived.Test.YtifjenleoagefaaGreatAddI
import Derived.Test.YtifjenleoagefaaGreatAddZ
import Derived.Test.YtifjenleoagefaaGreatZbx
/- HELPER, no statement of the seat: the program's Normalize. -/
namespace Go.Proofs.YtifjenleoagefaaGreat
open Go.RowKit Go.Sort
set_option linter.unusedSimpArgs false
set_option linter.unusedVariables false


theorem ents_src {w : World} {A : Option Addr} {es : List Ent} (h : EntsAt w A es) : ∃ css : List (List Value), RdL EntR w css es ∧ (A = none → es.length = 0) ∧ (∀ a, A = some a → ∀ j u, css.flatten[j]? = some u → w.cell? (a.add j) = some u) ∧ ∀ u ∈ css.flatten, u.oneCell' = true := by
  rcases Nat.eq_zero_or_pos es.length with h0 | hp
  · obtain rfl := List.eq_nil_of_length_eq_zero h0
    exact ⟨[], RdL.nil, fun _ => rfl, fun a _ j u hu => by simp at hu, fun u hu => by simp at hu⟩
  · obtain ⟨b, off, rfl, hlt, hc⟩ := h hp
    let q := fun i : Fin es.length => Classical.choose (hc i.1 i.2)
    have hq := fun i : Fin es.length => Classical.choose_spec (hc i.1 i.2)
    have hlen : ((List.finRange es.length).map q).length = es.length := by simp
    have hget : ∀ i (hi : i < es.length), ((List.finRange es.length).map q)[i]'(by rw [hlen]; exact hi) = q ⟨i, hi⟩ := fun i hi => by simp
    have hel : ∀ cs ∈ (List.finRange es.length).map q, cs.length = 2 := fun cs hcs => by
      obtain ⟨i, _, rfl⟩ := List.mem_map.1 hcs
      exact (hq i).1
    refine ⟨(List.finRange es.length).map q, ⟨hlen, fun j h1 h2 => by rw [hget j h2]; exact (hq ⟨j, h2⟩).2.2⟩, fun e => (by cases e), fun a e j u hu => ?_, fun u hu => ?_⟩
    · injection e with e
      subst e
      have hj : j < ((List.finRange es.length).map q).flatten.length := by
        rcases Nat.lt_or_ge j ((List.finRange es.length).map q).flatten.length with hj | hj
        · exact hj
        · rw [List.getElem?_eq_none hj] at hu; cases hu
      rw [flat_len hel, hlen] at hj
      have hq2 : j / 2 < es.length := by omega
      have hfl := flat_get hel (j / 2) (by rw [hlen]; exact hq2) (j % 2) (Nat.mod_lt _ (by omega))
      rw [show j / 2 * 2 + j % 2 = j by omega, hget _ hq2] at hfl
      have hcell := (hq ⟨j / 2, hq2⟩).2.1 (j % 2) (Nat.mod_lt _ (by omega))
      have ha : (⟨b, off, none⟩ : Addr).add j = ⟨b, off + j, none⟩ := by unfold Addr.add; by_cases h0 : j = 0 <;> simp [h0]
      simp only at hcell
      rw [ha, show off + j = off + j / 2 * 2 + j % 2 by omega, hcell, ← hu, hfl]
    · obtain ⟨cs, hcs, hu⟩ := List.mem_flatten.1 hu
      obtain ⟨i, _, rfl⟩ := List.mem_map.1 hcs
      obtain ⟨RA, rc, he, _⟩ := (hq i).2.2.form
      have : q i = [.slice RA es[i.1].1.length rc, .int .i64 es[i.1].2] := he
      rw [this] at hu
      exact ent_ones u hu

set_option maxHeartbeats 800000 in
theorem cloneEnt_e (A : Option Addr) (c : Nat) (es : List Ent) (w : World) (hx : EntsAt w A es) (hn : es.length ≤ 4194304) :
    Calls Tryz.prog 77 #[.slice A es.length c] w fun e w' => ∃ A' c' css, e = .returned (.slice A' es.length c') ∧ w'.ownsRow w.heap.size 33 2 (.slice A' es.length c') es.length css.flatten ∧ RdL EntR w css es ∧ Below w.heap.size w w' := by
  have qT : ∀ (w : World) (a : Option Addr) (n c n' c' : Nat), (binOp .eql 23 (.slice a n c) (.slice none n' c')).run Tryz.prog w = .ok (.bool a.isNone) w := fun w a n c n' c' => Lib.run_eql_slice_nil w _ _ a n c n' c' Tryz.underlying23
  obtain ⟨css, hrd, h0, hsrc, hone⟩ := ents_src hx
  cases A with
  | none =>
    obtain rfl := List.eq_nil_of_length_eq_zero (h0 rfl)
    clear hx h0 hsrc hone hrd
    go_enter Tryz.func77, Tryz.ntmps77
    go_wp2
    go_ret
    exact ⟨none, 0, [], rfl, World.ownsRow_nil _ _ _ _, RdL.nil, Below.refl _ _⟩
  | some a =>
    obtain ⟨i0, hi, hz0, hz1, hz2⟩ := info_parts Tryz.infoEnt
    have hb0 : Below w.heap.size w (w.alloc (.cells #[] 33)) := bal (Below.refl _ _) _
    have hs : ∀ b, some a = some b → ∀ j u, css.flatten[j]? = some u → (w.alloc (.cells #[] 33)).cell? (b.add j) = some u := fun b e j u hu => by
      have := hsrc b e j u hu
      rw [hb0.cell (block_lt_of_cell this)]
      exact this
    have hfl : css.flatten.length = es.length * 2 := by rw [flat_len (hrd.elen entR), hrd.len]
    have hown := World.ownsRow_lit (base := w.heap.size) (size := 2) (e := 33) w #[] 0 (Nat.le_refl _) (by simp [maxLen]) (by simp)
    have HFL := Lib.hid hfl
    clear hfl
    go_enter Tryz.func77, Tryz.ntmps77
    go_wp2_with (at_builtin; refine wpList_append_src _ rfl _ _ 23 rfl w.heap.size 33 i0 (.agg #[.slice none 0 0, .int .i64 0]) 2 32 Tryz.underlying23 hi hz0 hz1 hz2 rfl (by decide) _ _ _ rfl hown (some a) es.length c css.flatten rfl HFL.out (fun e => by cases e) hs hone (by unfold maxLen; omega) (by omega) (by simp) ?_)
    intro v' w1 hown' hgrow _
    obtain ⟨A', c', hv⟩ := own_slice hown'
    have HO : Hid (w1.ownsRow w.heap.size 33 2 (.slice A' es.length c') es.length css.flatten) := by rw [hv] at hown'; simpa [Hid] using hown'
    have HB := Lib.hid (hb0.grown hgrow (by simp) (fun k hk => by simp [Value.ownBlock] at hk; omega))
    have HV := Lib.hid hv
    have HRD := Lib.hid hrd
    clear hown' hgrow hv hown hs hb0 hrd hsrc hone h0
    go_wp2
    go_ret
    exact ⟨A', c', css, by rw [HV.out]; simp, HO.out, HRD.out, HB.out⟩

theorem nz_norm {zs es : List Ent} (hp : zs.Perm es) (hu : Up lessB zs) : nz (sumM [] zs) = nz (NormL es) :=
  nz_ext rowTot (sumM_asc rowTot zs [] List.Pairwise.nil hu (fun _ _ _ h => by cases h)) (NormL_asc es) (fun r => by rw [sumM_wsum, wsum_nil, NormL_wsum, wsum_perm hp]; omega)
theorem NormL_length (es : List Ent) : (NormL es).length ≤ es.length := by
  have := AddL_length [] es
  show (AddL [] es).length ≤ es.length
  simpa using this
theorem NormL_rows {es : List Ent} {n : Nat} (h : rowsIn es n) : rowsIn (NormL es) n := AddL_rows (a := []) (fun e he => by cases he) h
theorem sums_wts {es : List Ent} (h : sumsB es = true) : wIn es 1000000 := fun e he => by
  obtain ⟨j, hj, rfl⟩ := List.getElem_of_mem he
  have := allTo_iff.1 h j hj
  simp only [sumE, Bool.and_eq_true, nth_get hj] at this
  have := this.2
  simpa [wtB, inB] using this
theorem sums_rows {es : List Ent} (h : sumsB es = true) : rowsIn es 6 := fun e he => by
  obtain ⟨j, hj, rfl⟩ := List.getElem_of_mem he
  have := allTo_iff.1 h j hj
  simp only [sumE, Bool.and_eq_true, nth_get hj] at this
  exact row_len this.1

set_option maxHeartbeats 1600000 in
theorem sumOfList_e (A : Option Addr) (c : Nat) (es : List Ent) (w : World) (hx : EntsAt w A es) (hn : es.length ≤ 400) (hr : rowsIn es 4194304) (hw : wIn es 1000000) :
    Calls Tryz.prog 59 #[.slice A es.length c] w fun e w' => ∃ A' c', e = .returned (.slice A' (nz (NormL es)).length c') ∧ EntsAt w' A' (nz (NormL es)) ∧ Below w.heap.size w w' := by
  have HR := Lib.hid hr
  have HW := Lib.hid hw
  clear hr hw
  have tail : ∀ (A1 : Option Addr) (c1 : Nat) (zs : List Ent) (w2 : World), zs.Perm es → Up lessB zs → EntsAt w2 A1 zs → Below w.heap.size w w2 → Hid (∃ hl : zs.length = es.length, nz (sumM [] zs) = nz (NormL es) ∧ rowsIn zs 4194304 ∧ wIn zs 1000000) := fun A1 c1 zs w2 hp hu _ _ =>
    ⟨hp.length_eq, nz_norm hp hu, fun e he => HR.out e (hp.mem_iff.1 he), fun e he => HW.out e (hp.mem_iff.1 he)⟩
  by_cases h0 : es.length = 0
  · obtain rfl := List.eq_nil_of_length_eq_zero h0
    have hnone := fun (A' : Option Addr) (c' : Nat) (W : World) => sortE_none A' c' W
    clear h0 tail
    go_enter Tryz.func59, Tryz.ntmps59
    go_wp2_with fail
    refine (cloneEnt_e _ _ _ _ hx (by simp)).mono ?_
    rintro e w1 ⟨A1, c1, css, rfl, -, -, b1⟩
    go_wp2_with fail
    refine (hnone _ _ _).mono ?_
    rintro e w2 ⟨rfl, rfl⟩
    have HB0 := Lib.hid (BAt.new w1)
    go_wp2_with fail
    refine (addAllB_e w1 _ none 0 [] [] HB0.out A1 c1 [] SlAt.nil (by simp) (fun e he => by cases he) (fun e he => by cases he) (fun e he => by cases he) (fun e he => by cases he) (by simp)).mono ?_
    rintro r w3 ⟨rfl, A3, c3, css3, hB3⟩
    go_wp2_with fail
    refine (sumB_e w1 w3 A3 c3 _ css3 hB3 (by simp [sumM])).mono ?_
    rintro e w4 ⟨A4, c4, rfl, ha4, hb4⟩
    go_wp2_with fail
    go_ret
    exact ⟨A4, c4, rfl, ha4, btr b1 hb4⟩
  · go_enter Tryz.func59, Tryz.ntmps59
    go_wp2_with fail
    refine (cloneEnt_e _ _ _ _ hx (by omega)).mono ?_
    rintro e w1 ⟨A1, c1, css, rfl, hown, hrd, b1⟩
    obtain ⟨g, rfl, hg, hgl⟩ : ∃ g, A1 = some ⟨g, 0, none⟩ ∧ w.heap.size ≤ g ∧ g < w1.heap.size := by
      rcases ownsRow_form hown with ⟨_, _, h⟩ | ⟨g, h1, h2, h3, _⟩
      · omega
      · exact ⟨g, h1, h2, h3⟩
    have hcon := sortE w w1 w.heap.size g c1 es css b1 hg hown hrd HR.out (by omega)
    clear hown hrd
    go_wp2_with fail
    refine hcon.mono ?_
    rintro e w2 ⟨rfl, zs, hp, hu, ha2, b2⟩
    obtain ⟨hl, hnz, hzr, hzw⟩ := (tail _ c1 zs w2 hp hu ha2 b2).out
    have HNZ := Lib.hid hnz
    have HZR := Lib.hid hzr
    have HZW := Lib.hid hzw
    have HL := Lib.hid hl
    have HB0 := Lib.hid (BAt.new w2)
    have hal := addAllB_e w2 _ none 0 [] [] HB0.out (some ⟨g, 0, none⟩) c1 zs ha2 (by simp; omega) (fun e he => by cases he) HZR.out (fun e he => by cases he) HZW.out (by omega)
    rw [hl] at hal
    have hsl := sumM_length zs []
    clear hcon hnz hzr hzw hp hu tail hl ha2
    go_wp2_with fail
    refine hal.mono ?_
    rintro r w3 ⟨rfl, A3, c3, css3, hB3⟩
    clear hal
    go_wp2_with fail
    refine (sumB_e w2 w3 A3 c3 _ css3 hB3 (by have := HL.out; simp at hsl; omega)).mono ?_
    rintro e w4 ⟨A4, c4, rfl, ha4, hb4⟩
    go_wp2_with fail
    go_ret
    exact ⟨A4, c4, by rw [← HNZ.out]; rfl, by rw [← HNZ.out]; exact ha4, btr b2 hb4⟩

set_option maxHeartbeats 400000 in
theorem Normalize_i (A : Option Addr) (c : Nat) (es : List Ent) (w : World) (hx : EntsAt w A es) (hn : es.length ≤ 4194304) (hr : rowsIn es 4194304) :
    Calls Tryz.prog 26 #[.slice A es.length c] w fun e w' => ∃ A' c', e = .returned (.slice A' (NormF es).length c') ∧ EntsOw w' (news w w') A' c' (NormF es) ∧ Below w.heap.size w w' := by
  have hcon := areSummands_e A c es w hx hn hr
  by_cases h : (decide (es.length ≤ 400) && sumsB es) = true
  · have HR : Hid (NormF es = chkF (nz (NormL es))) := by simp only [Hid, NormF]; rw [if_pos h]
    rw [h] at hcon
    simp only [Bool.and_eq_true, decide_eq_true_eq] at h
    obtain ⟨h4, hs⟩ := h
    have HW := Lib.hid (sums_wts hs)
    have hl := NormL_length es
    have hnl : (nz (NormL es)).length ≤ (NormL es).length := List.length_filter_le _ _
    have HNR : Hid (rowsIn (nz (NormL es)) 4194304) := fun e he => NormL_rows hr e (List.mem_filter.1 he).1
    clear hs
    go_enter Tryz.func26, Tryz.ntmps26
    go_wp2_with fail
    refine hcon.mono ?_
    rintro e w1 ⟨rfl, b1⟩
    clear hcon
    go_wp2_with fail
    refine (sumOfList_e _ _ _ _ (hx.below entR b1) h4 hr HW.out).mono ?_
    rintro e w2 ⟨A2, c2, rfl, ha2, b2⟩
    go_wp2_with fail
    refine (copyZSet_i _ _ _ _ ha2 (by omega) HNR.out).mono ?_
    rintro e w3 ⟨A3, c3, rfl, ho3, b3⟩
    have hs := (btr b1 b2).size
    go_wp2_with fail
    go_ret
    exact ⟨A3, c3, by rw [HR.out]; rfl, by rw [HR.out]; exact ho3.mono (fun q hq => ⟨by have := hq.1; omega, hq.2⟩) (fun q hq => hq.2), btr (btr b1 b2) b3⟩
  · have h' : (decide (es.length ≤ 400) && sumsB es) = false := by simpa using h
    have HR : Hid (NormF es = []) := by simp only [Hid, NormF]; rw [if_neg h]
    rw [h'] at hcon
    clear h h'
    go_enter Tryz.func26, Tryz.ntmps26
    go_wp2_with fail
    refine hcon.mono ?_
    rintro e w1 ⟨rfl, b1⟩
    clear hcon
    go_wp2_with fail
    go_ret
    exact ⟨none, 0, by rw [HR.out]; rfl, by rw [HR.out]; exact SlOw.nil (fun k hk => hk.2), b1⟩
end Go.Proofs.YtifjenleoagefaaGreat

/- HELPER, no statement of the seat: the model's Normalize. -/
namespace Go.Proofs.YtifjenleoagefaaGreat
open Go.RowKit Go.Sort
set_option linter.unusedSimpArgs false
set_option linter.unusedVariables false


theorem sums_wts_s {es : List Ent} (h : sumsB es = true) : wts es 1000000 := fun e he => by
  obtain ⟨j, hj, rfl⟩ := List.getElem_of_mem he
  have := allTo_iff.1 h j hj
  simp only [sumE, Bool.and_eq_true, nth_get hj] at this
  have := this.2
  simpa [wtB, inB] using this
theorem sums_rows_s {es : List Ent} (h : sumsB es = true) : rowsIn es 6 := fun e he => by
  obtain ⟨j, hj, rfl⟩ := List.getElem_of_mem he
  have := allTo_iff.1 h j hj
  simp only [sumE, Bool.and_eq_true, nth_get hj] at this
  exact row_len this.1

end Go.Proofs.YtifjenleoagefaaGreat

/- HELPER, no statement of the seat: MapColumns of both sides. -/
namespace Go.Proofs.YtifjenleoagefaaGreat
open Go.RowKit Go.Sort
set_option linter.unusedSimpArgs false
set_option linter.unusedVariables false


def mapE (cols : List Int) (e : Ent) : Ent := (projL e.1 cols, e.2)
def MapF (z : List Ent) (cols : List Int) : List Ent := if (zsB z && colB cols (wid z)) = true then NormF (z.map (mapE cols)) else []
theorem MapF_len (z : List Ent) (cols : List Int) : (MapF z cols).length ≤ 400 := by
  unfold MapF
  split
  · exact NormF_len _
  · simp
theorem MapF_row (z : List Ent) (cols : List Int) : rowsIn (MapF z cols) 6 := by
  unfold MapF
  split
  · exact NormF_row _
  · intro e he; cases he
theorem rowB_proj {xs cols : List Int} (h : rowB xs = true) (hc : colB cols xs.length = true) : rowB (projL xs cols) = true := by
  obtain ⟨h1, h2, h3⟩ := col_in hc
  simp only [rowB, decide_eq_true_eq] at h ⊢
  refine ⟨by rw [projL_length]; exact h3, by rw [projL_length]; exact h2, fun x hx => ?_⟩
  obtain ⟨c, hcm, rfl⟩ := List.mem_map.1 hx
  have := h1 c hcm
  have hl : c.toNat < xs.length := by omega
  rw [show xs.getD c.toNat 0 = xs[c.toNat] by simp [hl]]
  exact h.2.2 _ (List.getElem_mem hl)
theorem sums_map {z : List Ent} {cols : List Int} (h : zsB z = true) (hc : colB cols (wid z) = true) : sumsB (z.map (mapE cols)) = true := allTo_iff.2 (fun k hk => by
  have hk' : k < z.length := by simpa using hk
  rw [nth_get hk, List.getElem_map]
  have h1 := zsB_get h hk'
  simp only [sumE, mapE, Bool.and_eq_true]
  exact ⟨rowB_proj h1.1 (by rw [h1.2.2.2]; exact hc), h1.2.1⟩)
theorem MapF_eq {z : List Ent} {cols : List Int} (h : zsB z = true) (hc : colB cols (wid z) = true) : MapF z cols = chkF (nz (AddL [] (z.map (mapE cols)))) := by
  have h4 := zsB_len h
  simp only [MapF, h, hc, Bool.and_self, if_true, NormF, sums_map h hc, List.length_map, h4, decide_true]
  rfl
theorem MapF_no {z : List Ent} {cols : List Int} (h : colB cols (wid z) = false) : MapF z cols = [] := by simp [MapF, h]
theorem colB_zero (cols : List Int) : colB cols 0 = false := by
  simp only [colB, decide_eq_false_iff_not]
  rintro ⟨h1, _, h⟩
  obtain ⟨x, hx⟩ : ∃ x, x ∈ cols := ⟨cols[0], List.getElem_mem _⟩
  have := h x hx
  omega
theorem map_rows {z : List Ent} {cols : List Int} (hc : cols.length ≤ 6) : rowsIn (z.map (mapE cols)) 6 := fun e he => by
  obtain ⟨q, _, rfl⟩ := List.mem_map.1 he
  simp only [mapE, projL_length]
  exact hc

set_option maxRecDepth 100000 in
set_option maxHeartbeats 1600000 in
theorem projectItems_e (A : Option Addr) (c : Nat) (es : List Ent) (B : Option Addr) (d : Nat) (cols : List Int) (w : World) (hx : EntsAt w A es) (hy : IntsAt w B cols) (hn : es.length ≤ 4194303) (hz : zsB es = true) (hm : cols.length ≤ 4194304) (hc : colB cols (wid es) = true) :
    Calls Tryz.prog 47 #[.slice A es.length c, .slice B cols.length d] w fun e w' => ∃ A' c', e = .returned (.slice A' (es.map (mapE cols)).length c') ∧ EntsOw w' (news w w') A' c' (es.map (mapE cols)) ∧ Below w.heap.size w w' := by
  obtain ⟨i0, hi, hz0, hz1, hz2⟩ := info_parts Tryz.infoEnt
  have HPB : Hid (∀ e ∈ es, projB e.1 cols = true) := fun e he => by
    obtain ⟨j, hj, rfl⟩ := List.getElem_of_mem he
    have h1 := zsB_get hz hj
    simp only [projB, Bool.and_eq_true]
    exact ⟨h1.1, by rw [h1.2.2.2]; exact hc⟩
  have HRW : Hid (rowsIn es 6) := zsB_row hz
  have HST : Hid (∀ k (h : k < es.length), (es.map (mapE cols)).take (k + 1) = (es.map (mapE cols)).take k ++ [mapE cols es[k]]) := fun k h => by
    rw [List.take_succ_eq_append_getElem (by simpa using h), List.getElem_map]
  have HML : Hid ((es.map (mapE cols)).length = es.length) := by simp [Hid]
  clear hz hc
  generalize hMM : es.map (mapE cols) = MM at *
  clear hMM
  go_enter Tryz.func47, Tryz.ntmps47
  go_wp2
  go_loopw [5, 7, 12] (fun v _ i wr => ∃ k A' c', k ≤ es.length ∧ i = .int .i64 (k : Nat) ∧ v = .slice A' k c' ∧ EntsOw wr (news w wr) A' c' (MM.take k) ∧ Below w.heap.size w wr) (fun _ _ i _ => es.length - (intOf i).toNat)
  case atStart => exact ⟨0, none, 0, by omega, rfl, rfl, by rw [List.take_zero]; exact SlOw.nil (fun k hk => hk.2), Below.refl _ _⟩
  case round =>
    obtain ⟨k, A', c', hk, rfl, rfl, ⟨css, F, hown⟩, hbel⟩ := hrel
    by_cases hlt : k < es.length
    · obtain ⟨b, off, RA, rc, rfl, hbl, hc0, hc1, -, hrow⟩ := hx.get k hlt
      have q0 := (hbel.cell (p := ⟨b, off + k * 2, none⟩) hbl).trans hc0
      have q1 := (hbel.cell (p := ⟨b, off + k * 2 + 1, none⟩) hbl).trans hc1
      have hrl := HRW.out _ (List.getElem_mem hlt)
      have hpb := HPB.out _ (List.getElem_mem hlt)
      have hkl : (MM.take k).length = k := by have := HML.out; simp; omega
      have hst := HST.out k hlt
      have hmr := m_row
      have hmw := m_withRow
      have hpr : projR es[k].1 cols = projL es[k].1 cols := by simp [projR, hpb]
      have hb0 : Below wr.heap.size wr (wr.alloc (.cells #[.slice RA es[k].1.length rc, .int .i64 es[k].2] 33)) := bal (Below.refl _ _) _
      have hcon := fun W (hW : Below wr.heap.size wr W) => ProjectRow_i RA B rc d es[k].1 cols W ((hrow.below hbel).below hW) ((hy.below hbel).below hW) (by omega) hm
      rw [hpb, hpr] at hcon
      have HF := Lib.hid hown
      have HS := Lib.hid hst
      have hs1 := hbel.size
      clear hc0 hc1 hown hst hpb hpr
      go_wp2_with fail
      refine (row_e _ _ _ _ _).mono ?_
      rintro e w1 ⟨rfl, b1⟩
      have hb1 := btr hb0 b1
      go_wp2_with fail
      refine (hcon _ hb1).mono ?_
      rintro e w2 ⟨RP, rp, rfl, hop, b2⟩
      have hb2 := btr hb1 b2
      obtain ⟨hcl, hfr⟩ := bcell (btr b1 b2)
      have t0 : w2.cell? ⟨wr.heap.size, 0, none⟩ = some (.slice RA es[k].1.length rc) := by rw [hcl _ _ (by simp)]; simp
      have t1 : w2.cell? ⟨wr.heap.size, 1, none⟩ = some (.int .i64 es[k].2) := by rw [hcl _ _ (by simp)]; simp
      have hop2 : IntsOwn w2 wr.heap.size RP rp (projL es[k].1 cols) := hop.mono hb1.size
      clear hcl hfr q0 q1 hcon hb0 hb1 b1 b2 hop
      go_wp2_with fail
      refine (withRow_e _ _ _ _ _ _).mono ?_
      rintro e w3 ⟨rfl, b3⟩
      have hb3 := btr hb2 b3
      have hop3 := hop2.below b3
      have hs3 := hb3.size
      have hrow3 := (HF.out.loc entO (fun q hq => hb3.block q hq.2)).row
      rw [hkl] at hrow3
      have hbase : ∀ q, blk A' = some q → w.heap.size ≤ q := fun q hq => (HF.out.top q hq).1
      clear t0 t1 hb2 b3 hop2
      go_wp2_with (at_builtin; refine wpList_append_src _ rfl _ _ 23 rfl w.heap.size 33 i0 (.agg #[.slice none 0 0, .int .i64 0]) 2 32 Tryz.underlying23 hi hz0 hz1 hz2 rfl (by decide) _ _ _ rfl ((ownsRow_base hrow3 hbase).alloc _) (some ⟨w3.heap.size, 0, none⟩) 1 1 [.slice RP (projL es[k].1 cols).length rp, .int .i64 es[k].2] rfl rfl (fun h => by cases h) ent_srcs ent_ones (by unfold maxLen; omega) (by omega) (by simp; omega) ?_)
      intro v' w4 hown' hgrow hloc
      rw [ownBlock_slice] at hgrow hloc
      have hp := HF.out.pushE (w2 := w4) hbel hb3 hop3 (by rw [hkl]; exact hown') hgrow hloc
      rw [hkl, show MM.take k ++ [(projL es[k].1 cols, es[k].2)] = MM.take (k + 1) from HS.out.symm] at hp
      obtain ⟨A3, c3, rfl, ho3, hb4⟩ := hp
      have HO := Lib.hid ho3
      have HB := Lib.hid hb4
      clear hown' hgrow hloc ho3 hb4 hrow3 hbase hop3 hb3 hbel hrow HF
      go_wp2
      go_roundw
      case rel => exact ⟨k + 1, A3, c3, by omega, by go_num, rfl, HO.out, HB.out⟩
      case measure => simp [intOf]; omega
    · obtain rfl : k = es.length := by omega
      have HO : Hid (EntsOw wr (news w wr) A' c' MM) := by
        have := HML.out
        rw [List.take_of_length_le (by omega)] at hown
        exact ⟨_, _, hown⟩
      have HB := Lib.hid hbel
      clear hown hbel
      go_wp2
      go_ret
      exact ⟨A', c', by rw [HML.out]; rfl, HO.out, HB.out⟩
set_option maxHeartbeats 800000 in
theorem projectItems_no (A : Option Addr) (c : Nat) (es : List Ent) (B : Option Addr) (d : Nat) (cols : List Int) (w : World) (hx : EntsAt w A es) (hy : IntsAt w B cols) (hn : es.length ≤ 4194303) (hz : zsB es = true) (hm : cols.length ≤ 4194304) (hc : colB cols (wid es) = false) :
    Calls Tryz.prog 47 #[.slice A es.length c, .slice B cols.length d] w fun e w' => ∃ A' c', e = .returned (.slice A' 0 c') ∧ Below w.heap.size w w' := by
  rcases Nat.eq_zero_or_pos es.length with h0 | hp
  · obtain rfl := List.eq_nil_of_length_eq_zero h0
    clear hz hc
    go_enter Tryz.func47, Tryz.ntmps47
    go_wp2
    refine wp_loop_rounds 1 ?_
    rw [rounds_succ]
    go_wp2
    go_ret
    exact ⟨none, 0, rfl, Below.refl _ _⟩
  · obtain ⟨b, off, RA, rc, rfl, hbl, q0, q1, -, hrow⟩ := hx.get 0 hp
    simp only [Nat.zero_mul, Nat.add_zero] at q0 q1
    have hrl := zsB_row hz _ (List.getElem_mem hp)
    have h1 := zsB_get hz hp
    have hpb : projB es[0].1 cols = false := by simp only [projB]; rw [h1.2.2.2, hc]; simp
    have hmr := m_row
    have hp' : (0 : Int) < es.length := by omega
    have hb0 : Below w.heap.size w (w.alloc (.cells #[.slice RA es[0].1.length rc, .int .i64 es[0].2] 33)) := bal (Below.refl _ _) _
    have hcon := fun W (hW : Below w.heap.size w W) => ProjectRow_i RA B rc d es[0].1 cols W (hrow.below hW) (hy.below hW) (by omega) hm
    rw [hpb] at hcon
    clear hpb h1 hz hc
    go_enter Tryz.func47, Tryz.ntmps47
    go_wp2
    refine wp_loop_rounds 1 ?_
    rw [rounds_succ]
    go_wp2_with fail
    refine (row_e _ _ _ _ _).mono ?_
    rintro e w1 ⟨rfl, b1⟩
    have hb1 := btr hb0 b1
    go_wp2_with fail
    refine (hcon _ hb1).mono ?_
    rintro e w2 ⟨RP, rp, rfl, hop, b2⟩
    have hb2 := btr hb1 b2
    go_wp2
    go_ret
    exact ⟨none, 0, rfl, hb2⟩

set_option maxHeartbeats 800000 in
theorem MapColumns_i (A : Option Addr) (c : Nat) (z : List Ent) (B : Option Addr) (d : Nat) (cols : List Int) (w : World) (hx : EntsAt w A z) (hy : IntsAt w B cols) (hn : z.length ≤ 4194304) (hr : rowsIn z 4194304) (hm : cols.length ≤ 4194304) :
    Calls Tryz.prog 18 #[.slice A z.length c, .slice B cols.length d] w fun e w' => ∃ A' c', e = .returned (.slice A' (MapF z cols).length c') ∧ EntsOw w' (news w w') A' c' (MapF z cols) ∧ Below w.heap.size w w' := by
  have hvz := ValidZSet_i A c z w hx hn hr
  by_cases h1 : zsB z = true
  · rw [h1] at hvz
    have h4 := zsB_len h1
    by_cases h2 : colB cols (wid z) = true
    · have HR : Hid (MapF z cols = NormF (z.map (mapE cols))) := by simp [Hid, MapF, h1, h2]
      have hc6 := (col_in h2).2.1
      have HMR : Hid (rowsIn (z.map (mapE cols)) 6) := map_rows hc6
      have HZ := Lib.hid h1
      have HC := Lib.hid h2
      have HL : Hid ((z.map (mapE cols)).length = z.length) := by simp [Hid]
      clear h1 h2
      go_enter Tryz.func18, Tryz.ntmps18
      go_wp2_with fail
      refine hvz.mono ?_
      rintro e w1 ⟨rfl, b1⟩
      clear hvz
      go_wp2_with fail
      refine (projectItems_e _ _ _ _ _ _ _ (hx.below entR b1) (hy.below b1) (by omega) HZ.out hm HC.out).mono ?_
      rintro e w2 ⟨A2, c2, rfl, ho2, b2⟩
      have hat2 : EntsAt w2 A2 (z.map (mapE cols)) := SlOw.at_ entO ho2
      generalize z.map (mapE cols) = MM at *
      go_wp2_with fail
      refine (Normalize_i _ _ _ _ hat2 (by have := HL.out; omega) (fun e he => by have := HMR.out e he; omega)).mono ?_
      rintro e w3 ⟨A3, c3, rfl, ho3, b3⟩
      have hs := (btr b1 b2).size
      go_wp2_with fail
      go_ret
      exact ⟨A3, c3, by rw [HR.out]; rfl, by rw [HR.out]; exact ho3.mono (fun q hq => ⟨by have := hq.1; omega, hq.2⟩) (fun q hq => hq.2), btr (btr b1 b2) b3⟩
    · have h2' : colB cols (wid z) = false := by simpa using h2
      have HR := Lib.hid (MapF_no h2')
      have HZ := Lib.hid h1
      have HC := Lib.hid h2'
      have HN : Hid (NormF [] = []) := by simp [Hid, NormF, NormL, nz, chkF]
      clear h1 h2 h2'
      go_enter Tryz.func18, Tryz.ntmps18
      go_wp2_with fail
      refine hvz.mono ?_
      rintro e w1 ⟨rfl, b1⟩
      clear hvz
      go_wp2_with fail
      refine (projectItems_no _ _ _ _ _ _ _ (hx.below entR b1) (hy.below b1) (by omega) HZ.out hm HC.out).mono ?_
      rintro e w2 ⟨A2, c2, rfl, b2⟩
      go_wp2_with fail
      refine (Normalize_i A2 c2 [] _ SlAt.nil (by simp) (fun e he => by cases he)).mono ?_
      rintro e w3 ⟨A3, c3, rfl, ho3, b3⟩
      rw [HN.out] at ho3
      have hs := (btr b1 b2).size
      go_wp2_with fail
      go_ret
      exact ⟨A3, c3, by rw [HR.out, HN.out]; rfl, by rw [HR.out]; exact ho3.mono (fun q hq => ⟨by have := hq.1; omega, hq.2⟩) (fun q hq => hq.2), btr (btr b1 b2) b3⟩
  · have h1' : zsB z = false := by simpa using h1
    rw [h1'] at hvz
    have HR : Hid (MapF z cols = []) := by simp [Hid, MapF, h1']
    clear h1 h1'
    go_enter Tryz.func18, Tryz.ntmps18
    go_wp2_with fail
    refine hvz.mono ?_
    rintro e w1 ⟨rfl, b1⟩
    clear hvz
    go_wp2_with fail
    go_ret
    exact ⟨none, 0, by rw [HR.out]; rfl, by rw [HR.out]; exact SlOw.nil (fun k hk => hk.2), b1⟩
end Go.Proofs.YtifjenleoagefaaGreat
