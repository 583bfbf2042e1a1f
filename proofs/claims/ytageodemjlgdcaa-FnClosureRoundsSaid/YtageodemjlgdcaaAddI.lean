/- HELPER, no statement of the seat: the program's Add. -/
import Derived.Test.YtageodemjlgdcaaBld
namespace Go.Proofs.Ytageodemjlgdcaa
open Go.RowKit Go.Sort
set_option linter.unusedSimpArgs false
set_option linter.unusedVariables false

theorem EntsOw.cap {w : World} {S : Fp} {A : Option Addr} {c : Nat} {es : List Ent} (h : EntsOw w S A c es) : es.length ≤ c := by
  obtain ⟨css, F, h⟩ := h
  rcases h.form with ⟨_, _, rfl⟩ | ⟨g, _, _, _, h1, _⟩
  · simp
  · exact h1
theorem chkF_len (es : List Ent) : (chkF es).length ≤ 400 := by
  unfold chkF
  split
  · rename_i h; exact zsB_len h
  · simp
theorem chkF_row (es : List Ent) : rowsIn (chkF es) 6 := by
  unfold chkF
  split
  · rename_i h; exact zsB_row h
  · intro e he; cases he
theorem AddF_len (a b : List Ent) : (AddF a b).length ≤ 400 := by
  unfold AddF
  split
  · exact chkF_len _
  · simp
theorem AddF_row (a b : List Ent) : rowsIn (AddF a b) 6 := by
  unfold AddF
  split
  · exact chkF_row _
  · intro e he; cases he
theorem NormF_len (a : List Ent) : (NormF a).length ≤ 400 := by
  unfold NormF
  split
  · exact chkF_len _
  · simp
theorem NormF_row (a : List Ent) : rowsIn (NormF a) 6 := by
  unfold NormF
  split
  · exact chkF_row _
  · intro e he; cases he

theorem AddL_length (a : List Ent) : ∀ b : List Ent, (AddL a b).length ≤ a.length + b.length := by
  intro b
  induction b generalizing a with
  | nil => simp [AddL]
  | cons x b ih =>
    have h1 := ih (insK lessB a x.1 x.2)
    have h2 := insK_length (lt := lessB) a x.1 x.2
    show (AddL (insK lessB a x.1 x.2) b).length ≤ _
    rw [List.length_cons]
    omega
theorem AddL_rows {n : Nat} {a : List Ent} (h : rowsIn a n) : ∀ {b : List Ent}, rowsIn b n → rowsIn (AddL a b) n := by
  intro b hb
  induction b generalizing a with
  | nil => exact h
  | cons x b ih => exact ih (rows_ins h (hb x (by simp)) x.2) (fun e he => hb e (by simp [he]))
/-- es is the sum of what has come of a and b, and nothing that is still to come lies below any of it. -/
structure Merged (a b : List Ent) (i j : Nat) (es : List Ent) : Prop where
  asc : Asc lessB es
  sum : ∀ r, wsum es r = wsum (a.take i) r + wsum (b.take j) r
  overA : Over lessB es (a.drop i)
  overB : Over lessB es (b.drop j)
  len : es.length ≤ i + j
  wts : wIn es ((i + j) * 1000000)
  rows : rowsIn es 4194304
theorem Merged.start (a b : List Ent) : Merged a b 0 0 [] :=
  ⟨List.Pairwise.nil, fun r => by simp [wsum_nil], over_nil _, over_nil _, by simp, (fun e he => by cases he), (fun e he => by cases he)⟩
theorem less_total {x y : List Int} (h : cmpL x y ≤ 0) : lessB y x = false := by
  rw [lessB_not]
  have := cmpL_anti x y
  omega
theorem drop_mem {a : List Ent} {i : Nat} {x : Ent} (h : x ∈ a.drop (i + 1)) (hi : i < a.length) : x ∈ a.drop i := by
  rw [List.drop_eq_getElem_cons hi]
  exact List.mem_cons_of_mem _ h
theorem Merged.left {a b es : List Ent} {i j : Nat} (h : Merged a b i j es) (ha : zsB a = true) (hb : zsB b = true) (hi : i < a.length) (hj : j < b.length) (hc : cmpL a[i].1 b[j].1 ≤ 0) : Merged a b (i + 1) j (addM es a[i]) := by
  have ia : a[i] ∈ a.drop i := by rw [List.drop_eq_getElem_cons hi]; exact List.mem_cons_self
  have hA := zsB_asc ha
  have hB := zsB_asc hb
  have hle := less_total hc
  refine ⟨addM_asc rowTot h.asc (fun y hy => h.overA _ ia y hy), fun r => ?_, over_add rowTot (fun x hx y hy => h.overA x (drop_mem hx hi) y hy) (fun y hy => ?_), over_add rowTot h.overB (fun y hy => ?_), by have := addM_length es a[i]; have := h.len; omega, ?_, ?_⟩
  · rw [addM_wsum, h.sum, List.take_succ_eq_append_getElem hi, wsum_append, wsum_cons, wsum_nil]; omega
  · obtain ⟨k, hk, rfl⟩ := List.getElem_of_mem hy
    rw [List.getElem_drop]
    exact rowTot.asymm (asc_lt hA hi (by simp at hk; omega) (by omega))
  · obtain ⟨k, hk, rfl⟩ := List.getElem_of_mem hy
    rw [List.getElem_drop]
    by_cases h0 : k = 0
    · subst h0; exact hle
    · exact ge_trans rowTot hle (rowTot.asymm (asc_lt hB hj (by simp at hk; omega) (by omega)))
  · have := addM_in h.wts (by omega) (by omega : (0 : Int) ≤ 1000000) (zsB_wt ha hi)
    refine this.mono ?_
    push_cast; omega
  · exact addM_all (p := fun r : List Int => r.length ≤ 4194304) h.rows (by have := zsB_row ha a[i] (List.getElem_mem hi); omega)
theorem Merged.right {a b es : List Ent} {i j : Nat} (h : Merged a b i j es) (ha : zsB a = true) (hb : zsB b = true) (hi : i < a.length) (hj : j < b.length) (hc : 0 < cmpL a[i].1 b[j].1) : Merged a b i (j + 1) (addM es b[j]) := by
  have ib : b[j] ∈ b.drop j := by rw [List.drop_eq_getElem_cons hj]; exact List.mem_cons_self
  have hA := zsB_asc ha
  have hB := zsB_asc hb
  have hle : lessB a[i].1 b[j].1 = false := by rw [lessB_not]; omega
  refine ⟨addM_asc rowTot h.asc (fun y hy => h.overB _ ib y hy), fun r => ?_, over_add rowTot h.overA (fun y hy => ?_), over_add rowTot (fun x hx y hy => h.overB x (drop_mem hx hj) y hy) (fun y hy => ?_), by have := addM_length es b[j]; have := h.len; omega, ?_, ?_⟩
  · rw [addM_wsum, h.sum, List.take_succ_eq_append_getElem hj, wsum_append, wsum_cons, wsum_nil]; omega
  · obtain ⟨k, hk, rfl⟩ := List.getElem_of_mem hy
    rw [List.getElem_drop]
    by_cases h0 : k = 0
    · subst h0; exact hle
    · exact ge_trans rowTot hle (rowTot.asymm (asc_lt hA hi (by simp at hk; omega) (by omega)))
  · obtain ⟨k, hk, rfl⟩ := List.getElem_of_mem hy
    rw [List.getElem_drop]
    exact rowTot.asymm (asc_lt hB hj (by simp at hk; omega) (by omega))
  · have := addM_in h.wts (by omega) (by omega : (0 : Int) ≤ 1000000) (zsB_wt hb hj)
    refine this.mono ?_
    push_cast; omega
  · exact addM_all (p := fun r : List Int => r.length ≤ 4194304) h.rows (by have := zsB_row hb b[j] (List.getElem_mem hj); omega)
/-- The rest behind what was merged: the sum of both. -/
theorem Merged.done {a b es : List Ent} {i j : Nat} (h : Merged a b i j es) (ha : zsB a = true) (hb : zsB b = true) (hend : a.length ≤ i ∨ b.length ≤ j) : nz (sumM (sumM es (a.drop i)) (b.drop j)) = nz (AddL a b) := by
  have hA := asc_up rowTot (zsB_asc ha)
  have hB := asc_up rowTot (zsB_asc hb)
  refine nz_ext rowTot ?_ (AddL_asc (zsB_asc ha) b) (fun r => ?_)
  · refine sumM_asc rowTot _ _ (sumM_asc rowTot _ _ h.asc (up_drop hA i) h.overA) (up_drop hB j) ?_
    refine over_sum rowTot _ _ h.overB (fun x hx y hy => ?_)
    rcases hend with he | he
    · rw [List.drop_eq_nil_of_le he] at hy; cases hy
    · rw [List.drop_eq_nil_of_le he] at hx; cases hx
  · have h1 : wsum a r = wsum (a.take i) r + wsum (a.drop i) r := by rw [← wsum_append, List.take_append_drop]
    have h2 : wsum b r = wsum (b.take j) r + wsum (b.drop j) r := by rw [← wsum_append, List.take_append_drop]
    rw [sumM_wsum, sumM_wsum, h.sum, AddL_wsum]
    omega

theorem sumB_e (w0 w : World) (A : Option Addr) (c : Nat) (es : List Ent) (css : List (List Value)) (h : BAt w0 w A c es css) (hn : es.length ≤ 4194304) :
    Calls Try.prog 107 #[.pointer (some ⟨w0.heap.size, 0, none⟩)] w fun e w' => ∃ A' c', e = .returned (.slice A' (nz es).length c') ∧ EntsAt w' A' (nz es) ∧ Below w0.heap.size w0 w' := by
  have q0 := h.bk.one
  have H := Lib.hid h
  clear h
  go_enter Try.func107, Try.ntmps107
  go_wp2_with fail
  refine (delZ_e w0 w (w0.heap.size + 1) A c es css H.out.bel (by omega) H.out.row H.out.rd hn).mono ?_
  rintro e w1 ⟨A1, c1, rfl, ha, hb⟩
  go_wp2_with fail
  go_ret
  exact ⟨A1, c1, rfl, ha, hb⟩

def lenVA : Value → Nat
  | .slice _ n _ => n
  | _ => 0
theorem EntsAt.tail {w : World} {b off : Nat} {x : Ent} {xs : List Ent} (h : EntsAt w (some ⟨b, off, none⟩) (x :: xs)) : EntsAt w (some ⟨b, off + 2, none⟩) xs := fun hp => by
  obtain ⟨b', off', e, hl, hc⟩ := h (by simp)
  injection e with e
  injection e with e1 e2
  subst e1
  subst e2
  refine ⟨b, off + 2, rfl, hl, fun j hj => ?_⟩
  obtain ⟨cs, hl2, hcell, hr⟩ := hc (j + 1) (by simp; omega)
  refine ⟨cs, hl2, fun i hi => ?_, by simpa using hr⟩
  rw [← hcell i hi, show off + 2 + j * 2 + i = off + (j + 1) * 2 + i by omega]
theorem drop_cons {α : Type} {x : α} {xs a : List α} {i : Nat} (h : x :: xs = a.drop i) : ∃ hi : i < a.length, x = a[i] ∧ xs = a.drop (i + 1) := by
  have hi : i < a.length := by
    rcases Nat.lt_or_ge i a.length with h' | h'
    · exact h'
    · rw [List.drop_eq_nil_of_le h'] at h; cases h
  rw [List.drop_eq_getElem_cons hi] at h
  injection h with h1 h2
  exact ⟨hi, h1, h2⟩

set_option maxRecDepth 100000 in
set_option maxHeartbeats 6400000 in
theorem sumOfSorted_e (A : Option Addr) (c : Nat) (a : List Ent) (B : Option Addr) (d : Nat) (b : List Ent) (w : World) (hx : EntsAt w A a) (hy : EntsAt w B b) (hca : a.length ≤ c) (hcb : b.length ≤ d) (ha : zsB a = true) (hb : zsB b = true) :
    Calls Try.prog 66 #[.slice A a.length c, .slice B b.length d] w fun e w' => ∃ A' c', e = .returned (.slice A' (nz (AddL a b)).length c') ∧ EntsAt w' A' (nz (AddL a b)) ∧ Below w.heap.size w w' := by
  have HM0 := Lib.hid (Merged.start a b)
  have HB0 := Lib.hid (BAt.new w)
  go_enter Try.func66, Try.ntmps66
  go_wp2
  go_loopw [0, 1] (fun va vb wr => ∃ (i j : Nat) (xs ys : List Ent) (A1 B1 : Option Addr) (c1 d1 : Nat) (es : List Ent) (A' : Option Addr) (c' : Nat) (css : List (List Value)), va = .slice A1 xs.length c1 ∧ vb = .slice B1 ys.length d1 ∧ xs.length ≤ c1 ∧ ys.length ≤ d1 ∧ Hid (xs = a.drop i) ∧ Hid (ys = b.drop j) ∧ i ≤ a.length ∧ j ≤ b.length ∧ EntsAt w A1 xs ∧ EntsAt w B1 ys ∧ Hid (Merged a b i j es) ∧ BAt w wr A' c' es css) (fun va vb _ => lenVA va + lenVA vb)
  case atStart => exact ⟨0, 0, a, b, A, B, c, d, [], none, 0, [], rfl, rfl, hca, hcb, rfl, rfl, by omega, by omega, hx, hy, HM0, HB0.out⟩
  case round =>
    obtain ⟨i, j, xs, ys, A1, B1, c1, d1, es, A', c', css, rfl, rfl, hc1, hd1, HX, HY, hi, hj, hxa, hyb, HM, hB⟩ := hrel
    clear hx hy HM0 HB0
    cases xs with
    | nil =>
      have hal := zsB_len ha
      have hbl := zsB_len hb
      have hM := HM.out
      have hsum : Hid (nz (sumM (sumM es ([] : List Ent)) ys) = nz (AddL a b)) := by
        have := hM.done ha hb (.inl (by have := congrArg List.length HX.out; simp at this; omega))
        rw [← HX.out, ← HY.out] at this
        exact this
      have hel := hM.len
      have hxl : (([] : List Ent)).length ≤ 400 := by rw [HX.out, List.length_drop]; omega
      have hyl : (ys).length ≤ 400 := by rw [HY.out, List.length_drop]; omega
      have hxr : rowsIn ([] : List Ent) 4194304 := fun q hq => by rw [HX.out] at hq; have := zsB_row ha q (List.mem_of_mem_drop hq); omega
      have hyr : rowsIn ys 4194304 := fun q hq => by rw [HY.out] at hq; have := zsB_row hb q (List.mem_of_mem_drop hq); omega
      have hxw : wIn ([] : List Ent) 1000000 := fun q hq => by rw [HX.out] at hq; exact wts_zs ha q (List.mem_of_mem_drop hq)
      have hyw : wIn ys 1000000 := fun q hq => by rw [HY.out] at hq; exact wts_zs hb q (List.mem_of_mem_drop hq)
      have hw1 : wIn es 549755813888 := hM.wts.mono (by omega)
      have hl2 := sumM_length ([] : List Ent) es
      have hl3 := sumM_length ys (sumM es ([] : List Ent))
      have hr2 : rowsIn (sumM es ([] : List Ent)) 4194304 := sumM_all (p := fun r : List Int => r.length ≤ 4194304) _ _ hM.rows hxr
      have hw2 : wIn (sumM es ([] : List Ent)) 549755813888 := (sumM_in (by omega) _ _ _ (hM.wts.mono (show ((i : Int) + j) * 1000000 ≤ 1000000000 by omega)) (by omega) hxw).mono (by omega)
      have con1 := fun W (h : BAt w W A' c' es css) => addAllB_e w W A' c' es css h A1 c1 ([] : List Ent) hxa (by omega) hM.rows hxr hw1 hxw hxl
      have con2 := fun W A2 c2 css2 (h : BAt w W A2 c2 (sumM es ([] : List Ent)) css2) => addAllB_e w W A2 c2 _ css2 h B1 d1 ys hyb (by omega) hr2 hyr hw2 hyw hyl
      have con3 := fun W A2 c2 css2 (h : BAt w W A2 c2 (sumM (sumM es ([] : List Ent)) ys) css2) => sumB_e w W A2 c2 _ css2 h (by omega)
      clear hM hxr hyr hxw hyw hw1 hw2 hr2 hl2 hl3 hel
      go_wp2_with fail
      refine (con1 _ hB).mono ?_
      rintro r w1 ⟨rfl, A2, c2, css2, hB2⟩
      go_wp2_with fail
      refine (con2 _ _ _ _ hB2).mono ?_
      rintro r w2 ⟨rfl, A3, c3, css3, hB3⟩
      go_wp2_with fail
      refine (con3 _ _ _ _ hB3).mono ?_
      rintro e w3 ⟨A4, c4, rfl, ha4, hb4⟩
      go_wp2_with fail
      go_ret
      exact ⟨A4, c4, by rw [← hsum.out]; rfl, by rw [← hsum.out]; exact ha4, hb4⟩
    | cons x xs =>
      cases ys with
      | nil =>
        have hal := zsB_len ha
        have hbl := zsB_len hb
        have hM := HM.out
        have hsum : Hid (nz (sumM (sumM es (x :: xs)) ([] : List Ent)) = nz (AddL a b)) := by
          have := hM.done ha hb (.inr (by have := congrArg List.length HY.out; simp at this; omega))
          rw [← HX.out, ← HY.out] at this
          exact this
        have hel := hM.len
        have hxl : ((x :: xs)).length ≤ 400 := by rw [HX.out, List.length_drop]; omega
        have hyl : (([] : List Ent)).length ≤ 400 := by rw [HY.out, List.length_drop]; omega
        have hxr : rowsIn (x :: xs) 4194304 := fun q hq => by rw [HX.out] at hq; have := zsB_row ha q (List.mem_of_mem_drop hq); omega
        have hyr : rowsIn ([] : List Ent) 4194304 := fun q hq => by rw [HY.out] at hq; have := zsB_row hb q (List.mem_of_mem_drop hq); omega
        have hxw : wIn (x :: xs) 1000000 := fun q hq => by rw [HX.out] at hq; exact wts_zs ha q (List.mem_of_mem_drop hq)
        have hyw : wIn ([] : List Ent) 1000000 := fun q hq => by rw [HY.out] at hq; exact wts_zs hb q (List.mem_of_mem_drop hq)
        have hw1 : wIn es 549755813888 := hM.wts.mono (by omega)
        have hl2 := sumM_length (x :: xs) es
        have hl3 := sumM_length ([] : List Ent) (sumM es (x :: xs))
        have hr2 : rowsIn (sumM es (x :: xs)) 4194304 := sumM_all (p := fun r : List Int => r.length ≤ 4194304) _ _ hM.rows hxr
        have hw2 : wIn (sumM es (x :: xs)) 549755813888 := (sumM_in (by omega) _ _ _ (hM.wts.mono (show ((i : Int) + j) * 1000000 ≤ 1000000000 by omega)) (by omega) hxw).mono (by omega)
        have con1 := fun W (h : BAt w W A' c' es css) => addAllB_e w W A' c' es css h A1 c1 (x :: xs) hxa (by omega) hM.rows hxr hw1 hxw hxl
        have con2 := fun W A2 c2 css2 (h : BAt w W A2 c2 (sumM es (x :: xs)) css2) => addAllB_e w W A2 c2 _ css2 h B1 d1 ([] : List Ent) hyb (by omega) hr2 hyr hw2 hyw hyl
        have con3 := fun W A2 c2 css2 (h : BAt w W A2 c2 (sumM (sumM es (x :: xs)) ([] : List Ent)) css2) => sumB_e w W A2 c2 _ css2 h (by omega)
        clear hM hxr hyr hxw hyw hw1 hw2 hr2 hl2 hl3 hel
        go_wp2_with fail
        refine (con1 _ hB).mono ?_
        rintro r w1 ⟨rfl, A2, c2, css2, hB2⟩
        go_wp2_with fail
        refine (con2 _ _ _ _ hB2).mono ?_
        rintro r w2 ⟨rfl, A3, c3, css3, hB3⟩
        go_wp2_with fail
        refine (con3 _ _ _ _ hB3).mono ?_
        rintro e w3 ⟨A4, c4, rfl, ha4, hb4⟩
        go_wp2_with fail
        go_ret
        exact ⟨A4, c4, by rw [← hsum.out]; rfl, by rw [← hsum.out]; exact ha4, hb4⟩
      | cons y ys =>
        obtain ⟨hia, rfl, HX1⟩ := drop_cons HX.out
        obtain ⟨hjb, rfl, HY1⟩ := drop_cons HY.out
        have HX2 := Lib.hid HX1
        have HY2 := Lib.hid HY1
        have hal := zsB_len ha
        have hbl := zsB_len hb
        have hra := zsB_row ha a[i] (List.getElem_mem hia)
        have hrb := zsB_row hb b[j] (List.getElem_mem hjb)
        have hwa := zsB_wt ha hia
        have hwb := zsB_wt hb hjb
        have hel := HM.out.len
        have HR := Lib.hid HM.out.rows
        have HW : Hid (wIn es 1099511627776) := HM.out.wts.mono (by omega)
        obtain ⟨b1, o1, RA, ra, rfl, hbl1, x0, x1, hmx, hrowx⟩ := hxa.get 0 (by simp)
        obtain ⟨b2, o2, RB, rb, rfl, hbl2, y0, y1, hmy, hrowy⟩ := hyb.get 0 (by simp)
        simp only [Nat.zero_mul, Nat.add_zero, List.getElem_cons_zero] at x0 x1 hmx hrowx y0 y1 hmy hrowy
        have r0 := cgrow ((hB.bel.cell (p := ⟨b1, o1, none⟩) hbl1).trans x0)
        have r1 := cgrow ((hB.bel.cell (p := ⟨b1, o1 + 1, none⟩) hbl1).trans x1)
        have r2 := cgrow ((hB.bel.cell (p := ⟨b2, o2, none⟩) hbl2).trans y0)
        have r3 := cgrow ((hB.bel.cell (p := ⟨b2, o2 + 1, none⟩) hbl2).trans y1)
        have hxt := Lib.hid hxa.tail
        have hyt := Lib.hid hyb.tail
        have HXA := Lib.hid hxa
        have HYB := Lib.hid hyb
        have hm := m_compare
        have hcon := fun W (hW : Below wr.heap.size wr W) => compare_e RA RB ra rb a[i].1 b[j].1 a[i].2 b[j].2 W ((hrowx.below hB.bel).below hW) ((hrowy.below hB.bel).below hW) (by omega) (by omega)
        have hc1' : xs.length + 1 ≤ c1 := by simpa using hc1
        have hd1' : ys.length + 1 ≤ d1 := by simpa using hd1
        by_cases hle : cmpL a[i].1 b[j].1 ≤ 0
        · have HM' := Lib.hid (HM.out.left ha hb hia hjb hle)
          have hle' : decide (cmpL a[i].1 b[j].1 ≤ 0) = true := by simpa using hle
          clear hle HX1 HY1 hxa hyb
          go_wp2_with fail
          refine wp_region_quiet_below (by kernel_rfl) (by kernel_rfl) ?_
          repeat (go_big_quiet_step (exact Calls.regrown_of (hcon _ (below_regrown _ _ _))))
          refine wpQuiet_nil ?_
          intro wq hwq
          obtain ⟨⟨dq, osq⟩, rfl⟩ := hwq
          have hbq := below_regrown wr dq osq
          generalize grow (redrawn wr dq) osq = w4 at hbq
          have hB4 := hB.below hbq
          have k0 := (hB4.bel.cell (p := ⟨b1, o1, none⟩) hbl1).trans x0
          have k1 := (hB4.bel.cell (p := ⟨b1, o1 + 1, none⟩) hbl1).trans x1
          clear r0 r1 r2 r3 hcon hB hbq x0 x1 y0 y1
          go_wp2_with fail
          refine (addB_e w w4 A' c' es css hB4 RA ra a[i] (EntR.mk hmx hrowx) (by omega) HR.out (by omega) HW.out (by omega) (by omega)).mono ?_
          rintro r w5 ⟨rfl, A2, c2, css2, hB5⟩
          clear k0 k1 hB4
          by_cases hcap : c1 = 1
          · have hnil : xs = [] := List.eq_nil_of_length_eq_zero (by omega)
            subst hnil
            subst hcap
            go_wp2
            go_roundw
            case rel => exact ⟨i + 1, j, [], _, _, _, _, _, _, A2, c2, css2, rfl, rfl, by simp, hd1, HX2, HY, by omega, by omega, SlAt.nil, HYB.out, HM', hB5⟩
            case measure => simp [lenVA]
          · go_wp2
            go_roundw
            case rel => exact ⟨i + 1, j, xs, _, some ⟨b1, o1 + 2, none⟩, _, c1 - 1, _, _, A2, c2, css2, by simp, rfl, by omega, hd1, HX2, HY, by omega, by omega, hxt.out, HYB.out, HM', hB5⟩
            case measure => simp [lenVA]
        · have hgt : 0 < cmpL a[i].1 b[j].1 := by omega
          have HM' := Lib.hid (HM.out.right ha hb hia hjb hgt)
          have hle' : decide (cmpL a[i].1 b[j].1 ≤ 0) = false := by simpa using hgt
          clear hle hgt HX1 HY1 hxa hyb
          go_wp2_with fail
          refine wp_region_quiet_below (by kernel_rfl) (by kernel_rfl) ?_
          repeat (go_big_quiet_step (exact Calls.regrown_of (hcon _ (below_regrown _ _ _))))
          refine wpQuiet_nil ?_
          intro wq hwq
          obtain ⟨⟨dq, osq⟩, rfl⟩ := hwq
          have hbq := below_regrown wr dq osq
          generalize grow (redrawn wr dq) osq = w4 at hbq
          have hB4 := hB.below hbq
          have k0 := (hB4.bel.cell (p := ⟨b2, o2, none⟩) hbl2).trans y0
          have k1 := (hB4.bel.cell (p := ⟨b2, o2 + 1, none⟩) hbl2).trans y1
          clear r0 r1 r2 r3 hcon hB hbq x0 x1 y0 y1
          go_wp2_with fail
          refine (addB_e w w4 A' c' es css hB4 RB rb b[j] (EntR.mk hmy hrowy) (by omega) HR.out (by omega) HW.out (by omega) (by omega)).mono ?_
          rintro r w5 ⟨rfl, A2, c2, css2, hB5⟩
          clear k0 k1 hB4
          by_cases hcap : d1 = 1
          · have hnil : ys = [] := List.eq_nil_of_length_eq_zero (by omega)
            subst hnil
            subst hcap
            go_wp2
            go_roundw
            case rel => exact ⟨i, j + 1, _, [], _, _, _, _, _, A2, c2, css2, rfl, rfl, hc1, by simp, HX, HY2, by omega, by omega, HXA.out, SlAt.nil, HM', hB5⟩
            case measure => simp [lenVA]
          · go_wp2
            go_roundw
            case rel => exact ⟨i, j + 1, _, ys, _, some ⟨b2, o2 + 2, none⟩, _, d1 - 1, _, A2, c2, css2, rfl, by simp, hc1, by omega, HX, HY2, by omega, by omega, HXA.out, hyt.out, HM', hB5⟩
            case measure => simp [lenVA]

theorem Add_i (A : Option Addr) (c : Nat) (a : List Ent) (B : Option Addr) (d : Nat) (b : List Ent) (w : World) (hx : EntsAt w A a) (hy : EntsAt w B b) (hca : a.length ≤ c) (hcb : b.length ≤ d) (hn : a.length ≤ 4194304) (hr : rowsIn a 4194304) (hm : b.length ≤ 4194304) (hs : rowsIn b 4194304) :
    Calls Try.prog 26 #[.slice A a.length c, .slice B b.length d] w fun e w' => ∃ A' c', e = .returned (.slice A' (AddF a b).length c') ∧ EntsOw w' (news w w') A' c' (AddF a b) ∧ Below w.heap.size w w' := by
  have hva := ValidZSet_i A c a w hx hn hr
  have hvb := fun W (h : EntsAt W B b) => ValidZSet_i B d b W h hm hs
  by_cases h1 : zsB a = true
  · rw [h1] at hva
    by_cases h2 : zsB b = true
    · rw [h2] at hvb
      have HR : Hid (AddF a b = chkF (nz (AddL a b))) := by simp [Hid, AddF, h1, h2]
      have HZ1 := Lib.hid h1
      have HZ2 := Lib.hid h2
      clear h1 h2
      go_enter Try.func26, Try.ntmps26
      go_wp2_with fail
      refine hva.mono ?_
      rintro e w1 ⟨rfl, b1⟩
      clear hva
      go_wp2_with fail
      refine (hvb _ (hy.below entR b1)).mono ?_
      rintro e w2 ⟨rfl, b2⟩
      clear hvb
      have b02 := btr b1 b2
      go_wp2_with fail
      refine (sumOfSorted_e _ _ _ _ _ _ _ (hx.below entR b02) (hy.below entR b02) hca hcb HZ1.out HZ2.out).mono ?_
      rintro e w3 ⟨A3, c3, rfl, ha3, b3⟩
      have hal := zsB_len HZ1.out
      have hbl := zsB_len HZ2.out
      have hnl : (nz (AddL a b)).length ≤ 800 := by
        have h1 : (nz (AddL a b)).length ≤ (AddL a b).length := List.length_filter_le _ _
        have h2 : (AddL a b).length ≤ a.length + b.length := AddL_length a b
        omega
      have hnr : rowsIn (nz (AddL a b)) 4194304 := fun e he => by
        have := AddL_rows (zsB_row HZ1.out) (zsB_row HZ2.out) e (List.mem_filter.1 he).1
        omega
      have HNR := Lib.hid hnr
      clear hnr
      go_wp2_with fail
      refine (copyZSet_i _ _ _ _ ha3 (by omega) HNR.out).mono ?_
      rintro e w4 ⟨A4, c4, rfl, ho4, b4⟩
      have hs := (btr b02 b3).size
      go_wp2_with fail
      go_ret
      exact ⟨A4, c4, by rw [HR.out]; rfl, by rw [HR.out]; exact ho4.mono (fun q hq => ⟨by have := hq.1; omega, hq.2⟩) (fun q hq => hq.2), btr (btr b02 b3) b4⟩
    · have h2' : zsB b = false := by simpa using h2
      rw [h2'] at hvb
      have HR : Hid (AddF a b = []) := by simp [Hid, AddF, h2']
      clear h1 h2 h2'
      go_enter Try.func26, Try.ntmps26
      go_wp2_with fail
      refine hva.mono ?_
      rintro e w1 ⟨rfl, b1⟩
      clear hva
      go_wp2_with fail
      refine (hvb _ (hy.below entR b1)).mono ?_
      rintro e w2 ⟨rfl, b2⟩
      clear hvb
      go_wp2_with fail
      go_ret
      exact ⟨none, 0, by rw [HR.out]; rfl, by rw [HR.out]; exact SlOw.nil (fun k hk => hk.2), btr b1 b2⟩
  · have h1' : zsB a = false := by simpa using h1
    rw [h1'] at hva
    have HR : Hid (AddF a b = []) := by simp [Hid, AddF, h1']
    clear h1 h1' hvb
    go_enter Try.func26, Try.ntmps26
    go_wp2_with fail
    refine hva.mono ?_
    rintro e w1 ⟨rfl, b1⟩
    clear hva
    go_wp2_with fail
    go_ret
    exact ⟨none, 0, by rw [HR.out]; rfl, by rw [HR.out]; exact SlOw.nil (fun k hk => hk.2), b1⟩
end Go.Proofs.Ytageodemjlgdcaa
