/- HELPER, no statement of the seat: the program's Consolidate. -/
import Derived.Test.YtnfffgpjgkhjlaaGreatSru
import Derived.Test.YtnfffgpjgkhjlaaGreatBlu
namespace Go.Proofs.YtnfffgpjgkhjlaaGreat
open Go.RowKit Go.Sort
set_option linter.unusedSimpArgs false
set_option linter.unusedVariables false


/-! ### Sums of updates -/
def AddLU (a b : List Upd) : List Upd := b.foldl (fun z e => insK ltU z e.1 e.2) a
def NormLU (es : List Upd) : List Upd := AddLU [] es
def ConsF (es : List Upd) : List Upd := if (decide (es.length ≤ 400) && sumsU es) = true then chkT (nz (NormLU es)) else []
theorem AddLU_asc {a : List Upd} (h : Asc ltU a) : ∀ b : List Upd, Asc ltU (AddLU a b) := by
  intro b
  induction b generalizing a with
  | nil => exact h
  | cons x b ih => exact ih (insK_asc updTot h x.1 x.2)
theorem AddLU_wsum (b : List Upd) : ∀ (a : List Upd) (r : KeyU), wsum (AddLU a b) r = wsum a r + wsum b r := by
  induction b with
  | nil => intro a r; simp [AddLU, wsum_nil]
  | cons x b ih => intro a r; show wsum (AddLU (insK ltU a x.1 x.2) b) r = _; rw [ih, insK_wsum, wsum_cons]; omega
theorem AddLU_length (b : List Upd) : ∀ a : List Upd, (AddLU a b).length ≤ a.length + b.length := by
  induction b with
  | nil => intro a; simp [AddLU]
  | cons x b ih =>
    intro a
    have h1 := ih (insK ltU a x.1 x.2)
    have h2 := insK_length (lt := ltU) a x.1 x.2
    show (AddLU (insK ltU a x.1 x.2) b).length ≤ _
    simp only [List.length_cons]
    omega
theorem AddLU_all {p : KeyU → Prop} (b : List Upd) : ∀ a : List Upd, (∀ e ∈ a, p e.1) → (∀ e ∈ b, p e.1) → ∀ e ∈ AddLU a b, p e.1 := by
  induction b with
  | nil => intro a ha _; exact ha
  | cons x b ih =>
    intro a ha hb
    refine ih (insK ltU a x.1 x.2) (fun e he => ?_) (fun e he => hb e (by simp [he]))
    rcases insK_key he with h1 | ⟨q, hq, h1⟩
    · rw [h1]; exact hb x (by simp)
    · rw [h1]; exact ha q hq
theorem NormLU_asc (es : List Upd) : Asc ltU (NormLU es) := AddLU_asc List.Pairwise.nil es
theorem NormLU_wsum (es : List Upd) (r : KeyU) : wsum (NormLU es) r = wsum es r := by
  have := AddLU_wsum es [] r
  rw [wsum_nil] at this
  show wsum (AddLU [] es) r = _
  omega
theorem chkT_len (es : List Upd) : (chkT es).length ≤ 400 := by
  unfold chkT
  split
  · rename_i h; exact (trB_parts h).1
  · simp
theorem chkT_row (es : List Upd) : rowsU (chkT es) 6 := by
  unfold chkT
  split
  · rename_i h; exact trB_row h
  · intro e he; cases he
theorem ConsF_len (es : List Upd) : (ConsF es).length ≤ 400 := by
  unfold ConsF
  split
  · exact chkT_len _
  · simp
theorem ConsF_row (es : List Upd) : rowsU (ConsF es) 6 := by
  unfold ConsF
  split
  · exact chkT_row _
  · intro e he; cases he

theorem upds_src {w : World} {A : Option Addr} {es : List Upd} (h : UpdsAt w A es) : ∃ css : List (List Value), RdL UpdR w css es ∧ (A = none → es.length = 0) ∧ (∀ a, A = some a → ∀ j u, css.flatten[j]? = some u → w.cell? (a.add j) = some u) ∧ ∀ u ∈ css.flatten, u.oneCell' = true := by
  rcases Nat.eq_zero_or_pos es.length with h0 | hp
  · obtain rfl := List.eq_nil_of_length_eq_zero h0
    exact ⟨[], RdL.nil, fun _ => rfl, fun a _ j u hu => by simp at hu, fun u hu => by simp at hu⟩
  · obtain ⟨b, off, rfl, hlt, hc⟩ := h hp
    let q := fun i : Fin es.length => Classical.choose (hc i.1 i.2)
    have hq := fun i : Fin es.length => Classical.choose_spec (hc i.1 i.2)
    have hlen : ((List.finRange es.length).map q).length = es.length := by simp
    have hget : ∀ i (hi : i < es.length), ((List.finRange es.length).map q)[i]'(by rw [hlen]; exact hi) = q ⟨i, hi⟩ := fun i hi => by simp
    have hel : ∀ cs ∈ (List.finRange es.length).map q, cs.length = 4 := fun cs hcs => by
      obtain ⟨i, _, rfl⟩ := List.mem_map.1 hcs
      exact (hq i).1
    refine ⟨(List.finRange es.length).map q, ⟨hlen, fun j h1 h2 => by rw [hget j h2]; exact (hq ⟨j, h2⟩).2.2⟩, fun e => (by cases e), fun a e j u hu => ?_, fun u hu => ?_⟩
    · injection e with e
      subst e
      have hj : j < ((List.finRange es.length).map q).flatten.length := by
        rcases Nat.lt_or_ge j ((List.finRange es.length).map q).flatten.length with hj | hj
        · exact hj
        · rw [List.getElem?_eq_none hj] at hu; cases hu
      rw [flat_len hel, hlen] at hj
      have hq2 : j / 4 < es.length := by omega
      have hfl := flat_get hel (j / 4) (by rw [hlen]; exact hq2) (j % 4) (Nat.mod_lt _ (by omega))
      rw [show j / 4 * 4 + j % 4 = j by omega, hget _ hq2] at hfl
      have hcell := (hq ⟨j / 4, hq2⟩).2.1 (j % 4) (Nat.mod_lt _ (by omega))
      have ha : (⟨b, off, none⟩ : Addr).add j = ⟨b, off + j, none⟩ := by unfold Addr.add; by_cases h0 : j = 0 <;> simp [h0]
      simp only at hcell
      rw [ha, show off + j = off + j / 4 * 4 + j % 4 by omega, hcell, ← hu, hfl]
    · obtain ⟨cs, hcs, hu⟩ := List.mem_flatten.1 hu
      obtain ⟨i, _, rfl⟩ := List.mem_map.1 hcs
      obtain ⟨RA, rc, he, _⟩ := (hq i).2.2.form
      have : q i = [.slice RA es[i.1].1.1.length rc, .int .i64 es[i.1].1.2.1, .int .i64 es[i.1].1.2.2, .int .i64 es[i.1].2] := he
      rw [this] at hu
      exact upd_ones u hu

set_option maxHeartbeats 800000 in
theorem cloneUpd_u (A : Option Addr) (c : Nat) (es : List Upd) (w : World) (hx : UpdsAt w A es) (hn : es.length ≤ 4194304) :
    Calls Tryz.prog 121 #[.slice A es.length c] w fun e w' => ∃ A' c' css, e = .returned (.slice A' es.length c') ∧ w'.ownsRow w.heap.size 63 4 (.slice A' es.length c') es.length css.flatten ∧ RdL UpdR w css es ∧ Below w.heap.size w w' := by
  have qT : ∀ (w : World) (a : Option Addr) (n c n' c' : Nat), (binOp .eql 30 (.slice a n c) (.slice none n' c')).run Tryz.prog w = .ok (.bool a.isNone) w := fun w a n c n' c' => Lib.run_eql_slice_nil w _ _ a n c n' c' Tryz.underlying30
  obtain ⟨css, hrd, h0, hsrc, hone⟩ := upds_src hx
  cases A with
  | none =>
    obtain rfl := List.eq_nil_of_length_eq_zero (h0 rfl)
    clear hx h0 hsrc hone hrd
    go_enter Tryz.func121, Tryz.ntmps121
    go_wp2
    go_ret
    exact ⟨none, 0, [], rfl, World.ownsRow_nil _ _ _ _, RdL.nil, Below.refl _ _⟩
  | some a =>
    obtain ⟨i0, hi, hz0, hz1, hz2⟩ := info_parts Tryz.infoUpd
    have hb0 : Below w.heap.size w (w.alloc (.cells #[] 63)) := bal (Below.refl _ _) _
    have hs : ∀ b, some a = some b → ∀ j u, css.flatten[j]? = some u → (w.alloc (.cells #[] 63)).cell? (b.add j) = some u := fun b e j u hu => by
      have := hsrc b e j u hu
      rw [hb0.cell (block_lt_of_cell this)]
      exact this
    have hfl : css.flatten.length = es.length * 4 := by rw [flat_len (hrd.elen updR), hrd.len]
    have hown := World.ownsRow_lit (base := w.heap.size) (size := 4) (e := 63) w #[] 0 (Nat.le_refl _) (by simp [maxLen]) (by simp)
    have HFL := Lib.hid hfl
    clear hfl
    go_enter Tryz.func121, Tryz.ntmps121
    go_wp2_with (at_builtin; refine wpList_append_src _ rfl _ _ 30 rfl w.heap.size 63 i0 (.agg #[.slice none 0 0, .int .i64 0, .int .i64 0, .int .i64 0]) 4 48 Tryz.underlying30 hi hz0 hz1 hz2 rfl (by decide) _ _ _ rfl hown (some a) es.length c css.flatten rfl HFL.out (fun e => by cases e) hs hone (by unfold maxLen; omega) (by omega) (by simp) ?_)
    intro v' w1 hown' hgrow _
    obtain ⟨A', c', hv⟩ := own_slice hown'
    have HO : Hid (w1.ownsRow w.heap.size 63 4 (.slice A' es.length c') es.length css.flatten) := by rw [hv] at hown'; simpa [Hid] using hown'
    have HB := Lib.hid (hb0.grown hgrow (by simp) (fun k hk => by simp [Value.ownBlock] at hk; omega))
    have HV := Lib.hid hv
    have HRD := Lib.hid hrd
    clear hown' hgrow hv hown hs hb0 hrd hsrc hone h0
    go_wp2
    go_ret
    exact ⟨A', c', css, by rw [HV.out]; simp, HO.out, HRD.out, HB.out⟩

theorem nz_normU {zs es : List Upd} (hp : zs.Perm es) (hu : Up ltU zs) : nz (sumM [] zs) = nz (NormLU es) :=
  nz_ext updTot (sumM_asc updTot zs [] List.Pairwise.nil hu (fun _ _ _ h => by cases h)) (NormLU_asc es) (fun r => by rw [sumM_wsum, wsum_nil, NormLU_wsum, wsum_perm hp]; omega)
theorem NormLU_length (es : List Upd) : (NormLU es).length ≤ es.length := by
  have := AddLU_length es []
  show (AddLU [] es).length ≤ es.length
  simpa using this
theorem NormLU_rows {es : List Upd} {n : Nat} (h : rowsU es n) : rowsU (NormLU es) n := AddLU_all (p := fun r : KeyU => r.1.length ≤ n) es [] (fun e he => by cases he) h
theorem sumsU_mem {es : List Upd} (h : sumsU es = true) : ∀ e ∈ es, sumU e = true := fun e he => by
  obtain ⟨j, hj, rfl⟩ := List.getElem_of_mem he
  have := allTo_iff.1 h j hj
  simpa only [nthU_get hj] using this
theorem sums_wtsU {es : List Upd} (h : sumsU es = true) : wIn es 1000000 := fun e he => (sumU_parts (sumsU_mem h e he)).2.1
theorem sums_rowsU {es : List Upd} (h : sumsU es = true) : rowsU es 6 := fun e he => row_len (sumU_parts (sumsU_mem h e he)).1

set_option maxHeartbeats 1600000 in
theorem sumOfList_u (A : Option Addr) (c : Nat) (es : List Upd) (w : World) (hx : UpdsAt w A es) (hn : es.length ≤ 400) (hr : rowsU es 4194304) (hw : wIn es 1000000) :
    Calls Tryz.prog 115 #[.slice A es.length c] w fun e w' => ∃ A' c', e = .returned (.slice A' (nz (NormLU es)).length c') ∧ UpdsAt w' A' (nz (NormLU es)) ∧ Below w.heap.size w w' := by
  have HR := Lib.hid hr
  have HW := Lib.hid hw
  clear hr hw
  have tail : ∀ (A1 : Option Addr) (c1 : Nat) (zs : List Upd) (w2 : World), zs.Perm es → Up ltU zs → UpdsAt w2 A1 zs → Below w.heap.size w w2 → Hid (∃ hl : zs.length = es.length, nz (sumM [] zs) = nz (NormLU es) ∧ rowsU zs 4194304 ∧ wIn zs 1000000) := fun A1 c1 zs w2 hp hu _ _ =>
    ⟨hp.length_eq, nz_normU hp hu, fun e he => HR.out e (hp.mem_iff.1 he), fun e he => HW.out e (hp.mem_iff.1 he)⟩
  by_cases h0 : es.length = 0
  · obtain rfl := List.eq_nil_of_length_eq_zero h0
    have hnone := fun (A' : Option Addr) (c' : Nat) (W : World) => sortU_none A' c' W
    clear h0 tail
    go_enter Tryz.func115, Tryz.ntmps115
    go_wp2_with fail
    refine (cloneUpd_u _ _ _ _ hx (by simp)).mono ?_
    rintro e w1 ⟨A1, c1, css, rfl, -, -, b1⟩
    go_wp2_with fail
    refine (hnone _ _ _).mono ?_
    rintro e w2 ⟨rfl, rfl⟩
    have HB0 := Lib.hid (BAtU.new w1)
    go_wp2_with fail
    refine (addAllB_u w1 _ none 0 [] [] HB0.out A1 c1 [] SlAt.nil (by simp) (fun e he => by cases he) (fun e he => by cases he) (fun e he => by cases he) (fun e he => by cases he) (by simp)).mono ?_
    rintro r w3 ⟨rfl, A3, c3, css3, hB3⟩
    go_wp2_with fail
    refine (sumB_u w1 w3 A3 c3 _ css3 hB3 (by simp [sumM])).mono ?_
    rintro e w4 ⟨A4, c4, rfl, ha4, hb4⟩
    go_wp2_with fail
    go_ret
    exact ⟨A4, c4, rfl, ha4, btr b1 hb4⟩
  · go_enter Tryz.func115, Tryz.ntmps115
    go_wp2_with fail
    refine (cloneUpd_u _ _ _ _ hx (by omega)).mono ?_
    rintro e w1 ⟨A1, c1, css, rfl, hown, hrd, b1⟩
    obtain ⟨g, rfl, hg, hgl⟩ : ∃ g, A1 = some ⟨g, 0, none⟩ ∧ w.heap.size ≤ g ∧ g < w1.heap.size := by
      rcases ownsRow_form hown with ⟨_, _, h⟩ | ⟨g, h1, h2, h3, _⟩
      · omega
      · exact ⟨g, h1, h2, h3⟩
    have hcon := sortU w w1 w.heap.size g c1 es css b1 hg hown hrd HR.out (by omega)
    clear hown hrd
    go_wp2_with fail
    refine hcon.mono ?_
    rintro e w2 ⟨rfl, zs, hp, hu, ha2, b2⟩
    obtain ⟨hl, hnz, hzr, hzw⟩ := (tail _ c1 zs w2 hp hu ha2 b2).out
    have HNZ := Lib.hid hnz
    have HZR := Lib.hid hzr
    have HZW := Lib.hid hzw
    have HL := Lib.hid hl
    have HB0 := Lib.hid (BAtU.new w2)
    have hal := addAllB_u w2 _ none 0 [] [] HB0.out (some ⟨g, 0, none⟩) c1 zs ha2 (by simp; omega) (fun e he => by cases he) HZR.out (fun e he => by cases he) HZW.out (by omega)
    rw [hl] at hal
    have hsl := sumM_length zs []
    clear hcon hnz hzr hzw hp hu tail hl ha2
    go_wp2_with fail
    refine hal.mono ?_
    rintro r w3 ⟨rfl, A3, c3, css3, hB3⟩
    clear hal
    go_wp2_with fail
    refine (sumB_u w2 w3 A3 c3 _ css3 hB3 (by have := HL.out; simp at hsl; omega)).mono ?_
    rintro e w4 ⟨A4, c4, rfl, ha4, hb4⟩
    go_wp2_with fail
    go_ret
    exact ⟨A4, c4, by rw [← HNZ.out]; rfl, by rw [← HNZ.out]; exact ha4, btr b2 hb4⟩

set_option maxHeartbeats 400000 in
theorem Consolidate_i (A : Option Addr) (c : Nat) (es : List Upd) (w : World) (hx : UpdsAt w A es) (hn : es.length ≤ 4194304) (hr : rowsU es 4194304) :
    Calls Tryz.prog 96 #[.slice A es.length c] w fun e w' => ∃ A' c', e = .returned (.slice A' (ConsF es).length c') ∧ UpdsOw w' (news w w') A' c' (ConsF es) ∧ Below w.heap.size w w' := by
  have hcon := areSummands_u A c es w hx hn hr
  by_cases h : (decide (es.length ≤ 400) && sumsU es) = true
  · have HR : Hid (ConsF es = chkT (nz (NormLU es))) := by simp only [Hid, ConsF]; rw [if_pos h]
    rw [h] at hcon
    simp only [Bool.and_eq_true, decide_eq_true_eq] at h
    obtain ⟨h4, hs⟩ := h
    have HW := Lib.hid (sums_wtsU hs)
    have hl := NormLU_length es
    have hnl : (nz (NormLU es)).length ≤ (NormLU es).length := List.length_filter_le _ _
    have HNR : Hid (rowsU (nz (NormLU es)) 4194304) := fun e he => NormLU_rows hr e (List.mem_filter.1 he).1
    clear hs
    go_enter Tryz.func96, Tryz.ntmps96
    go_wp2_with fail
    refine hcon.mono ?_
    rintro e w1 ⟨rfl, b1⟩
    clear hcon
    go_wp2_with fail
    refine (sumOfList_u _ _ _ _ (hx.below updR b1) h4 hr HW.out).mono ?_
    rintro e w2 ⟨A2, c2, rfl, ha2, b2⟩
    go_wp2_with fail
    refine (copyTrace_i _ _ _ _ ha2 (by omega) HNR.out).mono ?_
    rintro e w3 ⟨A3, c3, rfl, ho3, b3⟩
    have hs := (btr b1 b2).size
    go_wp2_with fail
    go_ret
    exact ⟨A3, c3, by rw [HR.out]; rfl, by rw [HR.out]; exact ho3.mono (fun q hq => ⟨by have := hq.1; omega, hq.2⟩) (fun q hq => hq.2), btr (btr b1 b2) b3⟩
  · have h' : (decide (es.length ≤ 400) && sumsU es) = false := by simpa using h
    have HR : Hid (ConsF es = []) := by simp only [Hid, ConsF]; rw [if_neg h]
    rw [h'] at hcon
    clear h h'
    go_enter Tryz.func96, Tryz.ntmps96
    go_wp2_with fail
    refine hcon.mono ?_
    rintro e w1 ⟨rfl, b1⟩
    clear hcon
    go_wp2_with fail
    go_ret
    exact ⟨none, 0, by rw [HR.out]; rfl, by rw [HR.out]; exact SlOw.nil (fun k hk => hk.2), b1⟩
end Go.Proofs.YtnfffgpjgkhjlaaGreat
