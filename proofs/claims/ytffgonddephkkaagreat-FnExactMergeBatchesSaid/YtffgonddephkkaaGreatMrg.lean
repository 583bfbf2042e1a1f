/- HELPER, no statement of the seat: the program's sumOfSorted, at updates. -/
import Derived.Test.YtffgonddephkkaaGreatNormU
namespace Go.Proofs.YtffgonddephkkaaGreat
open Go.RowKit Go.Sort
set_option linter.unusedSimpArgs false
set_option linter.unusedVariables false

theorem asc_ltM {z : List Upd} (h : Asc ltU z) {i j : Nat} (hi : i < z.length) (hj : j < z.length) (hij : i < j) : ltU z[i].1 z[j].1 = true := List.pairwise_iff_getElem.1 h i j hi hj hij
theorem trB_wt {z : List Upd} (h : trB z = true) {j : Nat} (hj : j < z.length) : -1000000 ≤ z[j].2 ∧ z[j].2 ≤ 1000000 := (sumU_parts (trB_sum h z[j] (List.getElem_mem hj))).2.1
theorem wts_tr {z : List Upd} (h : trB z = true) : wIn z 1000000 := fun e he => (sumU_parts (trB_sum h e he)).2.1
theorem trB_len {z : List Upd} (h : trB z = true) : z.length ≤ 400 := (trB_parts h).1
/-- es is the sum of what has come of a and b, and nothing that is still to come lies below any of it. -/
structure MergedU (a b : List Upd) (i j : Nat) (es : List Upd) : Prop where
  asc : Asc ltU es
  sum : ∀ r, wsum es r = wsum (a.take i) r + wsum (b.take j) r
  overA : Over ltU es (a.drop i)
  overB : Over ltU es (b.drop j)
  len : es.length ≤ i + j
  wts : wIn es ((i + j) * 1000000)
  rows : rowsU es 4194304
theorem MergedU.start (a b : List Upd) : MergedU a b 0 0 [] :=
  ⟨List.Pairwise.nil, fun r => by simp [wsum_nil], over_nil _, over_nil _, by simp, (fun e he => by cases he), (fun e he => by cases he)⟩
theorem ltU_not (x y : KeyU) : ltU x y = false ↔ 0 ≤ cmpKU x y := by simp [ltU_cmp]
theorem less_totalU {x y : KeyU} (h : cmpKU x y ≤ 0) : ltU y x = false := by
  rw [ltU_not]
  have := cmpKU_anti x y
  omega
theorem drop_memU {a : List Upd} {i : Nat} {x : Upd} (h : x ∈ a.drop (i + 1)) (hi : i < a.length) : x ∈ a.drop i := by
  rw [List.drop_eq_getElem_cons hi]
  exact List.mem_cons_of_mem _ h
theorem MergedU.left {a b es : List Upd} {i j : Nat} (h : MergedU a b i j es) (ha : trB a = true) (hb : trB b = true) (hi : i < a.length) (hj : j < b.length) (hc : cmpKU a[i].1 b[j].1 ≤ 0) : MergedU a b (i + 1) j (addM es a[i]) := by
  have ia : a[i] ∈ a.drop i := by rw [List.drop_eq_getElem_cons hi]; exact List.mem_cons_self
  have hA := trB_asc ha
  have hB := trB_asc hb
  have hle := less_totalU hc
  refine ⟨addM_asc updTot h.asc (fun y hy => h.overA _ ia y hy), fun r => ?_, over_add updTot (fun x hx y hy => h.overA x (drop_memU hx hi) y hy) (fun y hy => ?_), over_add updTot h.overB (fun y hy => ?_), by have := addM_length es a[i]; have := h.len; omega, ?_, ?_⟩
  · rw [addM_wsum, h.sum, List.take_succ_eq_append_getElem hi, wsum_append, wsum_cons, wsum_nil]; omega
  · obtain ⟨k, hk, rfl⟩ := List.getElem_of_mem hy
    rw [List.getElem_drop]
    exact updTot.asymm (asc_ltM hA hi (by simp at hk; omega) (by omega))
  · obtain ⟨k, hk, rfl⟩ := List.getElem_of_mem hy
    rw [List.getElem_drop]
    by_cases h0 : k = 0
    · subst h0; exact hle
    · exact ge_trans updTot hle (updTot.asymm (asc_ltM hB hj (by simp at hk; omega) (by omega)))
  · have := addM_in h.wts (by omega) (by omega : (0 : Int) ≤ 1000000) (trB_wt ha hi)
    refine this.mono ?_
    push_cast; omega
  · exact addM_all (p := fun r : KeyU => r.1.length ≤ 4194304) h.rows (by have := trB_row ha a[i] (List.getElem_mem hi); omega)
theorem MergedU.right {a b es : List Upd} {i j : Nat} (h : MergedU a b i j es) (ha : trB a = true) (hb : trB b = true) (hi : i < a.length) (hj : j < b.length) (hc : 0 < cmpKU a[i].1 b[j].1) : MergedU a b i (j + 1) (addM es b[j]) := by
  have ib : b[j] ∈ b.drop j := by rw [List.drop_eq_getElem_cons hj]; exact List.mem_cons_self
  have hA := trB_asc ha
  have hB := trB_asc hb
  have hle : ltU a[i].1 b[j].1 = false := by rw [ltU_not]; omega
  refine ⟨addM_asc updTot h.asc (fun y hy => h.overB _ ib y hy), fun r => ?_, over_add updTot h.overA (fun y hy => ?_), over_add updTot (fun x hx y hy => h.overB x (drop_memU hx hj) y hy) (fun y hy => ?_), by have := addM_length es b[j]; have := h.len; omega, ?_, ?_⟩
  · rw [addM_wsum, h.sum, List.take_succ_eq_append_getElem hj, wsum_append, wsum_cons, wsum_nil]; omega
  · obtain ⟨k, hk, rfl⟩ := List.getElem_of_mem hy
    rw [List.getElem_drop]
    by_cases h0 : k = 0
    · subst h0; exact hle
    · exact ge_trans updTot hle (updTot.asymm (asc_ltM hA hi (by simp at hk; omega) (by omega)))
  · obtain ⟨k, hk, rfl⟩ := List.getElem_of_mem hy
    rw [List.getElem_drop]
    exact updTot.asymm (asc_ltM hB hj (by simp at hk; omega) (by omega))
  · have := addM_in h.wts (by omega) (by omega : (0 : Int) ≤ 1000000) (trB_wt hb hj)
    refine this.mono ?_
    push_cast; omega
  · exact addM_all (p := fun r : KeyU => r.1.length ≤ 4194304) h.rows (by have := trB_row hb b[j] (List.getElem_mem hj); omega)
/-- The rest behind what was merged: the sum of both. -/
theorem MergedU.done {a b es : List Upd} {i j : Nat} (h : MergedU a b i j es) (ha : trB a = true) (hb : trB b = true) (hend : a.length ≤ i ∨ b.length ≤ j) : nz (sumM (sumM es (a.drop i)) (b.drop j)) = nz (AddLU a b) := by
  have hA := asc_up updTot (trB_asc ha)
  have hB := asc_up updTot (trB_asc hb)
  refine nz_ext updTot ?_ (AddLU_asc (trB_asc ha) b) (fun r => ?_)
  · refine sumM_asc updTot _ _ (sumM_asc updTot _ _ h.asc (up_drop hA i) h.overA) (up_drop hB j) ?_
    refine over_sum updTot _ _ h.overB (fun x hx y hy => ?_)
    rcases hend with he | he
    · rw [List.drop_eq_nil_of_le he] at hy; cases hy
    · rw [List.drop_eq_nil_of_le he] at hx; cases hx
  · have h1 : wsum a r = wsum (a.take i) r + wsum (a.drop i) r := by rw [← wsum_append, List.take_append_drop]
    have h2 : wsum b r = wsum (b.take j) r + wsum (b.drop j) r := by rw [← wsum_append, List.take_append_drop]
    rw [sumM_wsum, sumM_wsum, h.sum, AddLU_wsum]
    omega

def lenVU : Value → Nat
  | .slice _ n _ => n
  | _ => 0
theorem UpdsAt.tail {w : World} {b off : Nat} {x : Upd} {xs : List Upd} (h : UpdsAt w (some ⟨b, off, none⟩) (x :: xs)) : UpdsAt w (some ⟨b, off + 4, none⟩) xs := fun hp => by
  obtain ⟨b', off', e, hl, hc⟩ := h (by simp)
  injection e with e
  injection e with e1 e2
  subst e1
  subst e2
  refine ⟨b, off + 4, rfl, hl, fun j hj => ?_⟩
  obtain ⟨cs, hl2, hcell, hr⟩ := hc (j + 1) (by simp; omega)
  refine ⟨cs, hl2, fun i hi => ?_, by simpa using hr⟩
  rw [← hcell i hi, show off + 4 + j * 4 + i = off + (j + 1) * 4 + i by omega]
theorem drop_consU {α : Type} {x : α} {xs a : List α} {i : Nat} (h : x :: xs = a.drop i) : ∃ hi : i < a.length, x = a[i] ∧ xs = a.drop (i + 1) := by
  have hi : i < a.length := by
    rcases Nat.lt_or_ge i a.length with h' | h'
    · exact h'
    · rw [List.drop_eq_nil_of_le h'] at h; cases h
  rw [List.drop_eq_getElem_cons hi] at h
  injection h with h1 h2
  exact ⟨hi, h1, h2⟩

set_option maxRecDepth 100000 in
set_option maxHeartbeats 6400000 in
theorem sumOfSorted_u (A : Option Addr) (c : Nat) (a : List Upd) (B : Option Addr) (d : Nat) (b : List Upd) (w : World) (hx : UpdsAt w A a) (hy : UpdsAt w B b) (hca : a.length ≤ c) (hcb : b.length ≤ d) (ha : trB a = true) (hb : trB b = true) :
    Calls Tryz.prog 39 #[.slice A a.length c, .slice B b.length d] w fun e w' => ∃ A' c', e = .returned (.slice A' (nz (AddLU a b)).length c') ∧ UpdsAt w' A' (nz (AddLU a b)) ∧ Below w.heap.size w w' := by
  have HM0 := Lib.hid (MergedU.start a b)
  have HB0 := Lib.hid (BAtU.new w)
  go_enter Tryz.func39, Tryz.ntmps39
  go_wp2
  go_loopw [0, 1] (fun va vb wr => ∃ (i j : Nat) (xs ys : List Upd) (A1 B1 : Option Addr) (c1 d1 : Nat) (es : List Upd) (A' : Option Addr) (c' : Nat) (css : List (List Value)), va = .slice A1 xs.length c1 ∧ vb = .slice B1 ys.length d1 ∧ xs.length ≤ c1 ∧ ys.length ≤ d1 ∧ Hid (xs = a.drop i) ∧ Hid (ys = b.drop j) ∧ i ≤ a.length ∧ j ≤ b.length ∧ UpdsAt w A1 xs ∧ UpdsAt w B1 ys ∧ Hid (MergedU a b i j es) ∧ BAtU w wr A' c' es css) (fun va vb _ => lenVU va + lenVU vb)
  case atStart => exact ⟨0, 0, a, b, A, B, c, d, [], none, 0, [], rfl, rfl, hca, hcb, rfl, rfl, by omega, by omega, hx, hy, HM0, HB0.out⟩
  case round =>
    obtain ⟨i, j, xs, ys, A1, B1, c1, d1, es, A', c', css, rfl, rfl, hc1, hd1, HX, HY, hi, hj, hxa, hyb, HM, hB⟩ := hrel
    clear hx hy HM0 HB0
    cases xs with
    | nil =>
      have hal := trB_len ha
      have hbl := trB_len hb
      have hM := HM.out
      have hsum : Hid (nz (sumM (sumM es ([] : List Upd)) ys) = nz (AddLU a b)) := by
        have := hM.done ha hb (.inl (by have := congrArg List.length HX.out; simp at this; omega))
        rw [← HX.out, ← HY.out] at this
        exact this
      have hel := hM.len
      have hxl : (([] : List Upd)).length ≤ 400 := by rw [HX.out, List.length_drop]; omega
      have hyl : (ys).length ≤ 400 := by rw [HY.out, List.length_drop]; omega
      have hxr : rowsU ([] : List Upd) 4194304 := fun q hq => by rw [HX.out] at hq; have := trB_row ha q (List.mem_of_mem_drop hq); omega
      have hyr : rowsU ys 4194304 := fun q hq => by rw [HY.out] at hq; have := trB_row hb q (List.mem_of_mem_drop hq); omega
      have hxw : wIn ([] : List Upd) 1000000 := fun q hq => by rw [HX.out] at hq; exact wts_tr ha q (List.mem_of_mem_drop hq)
      have hyw : wIn ys 1000000 := fun q hq => by rw [HY.out] at hq; exact wts_tr hb q (List.mem_of_mem_drop hq)
      have hw1 : wIn es 549755813888 := hM.wts.mono (by omega)
      have hl2 := sumM_length ([] : List Upd) es
      have hl3 := sumM_length ys (sumM es ([] : List Upd))
      have hr2 : rowsU (sumM es ([] : List Upd)) 4194304 := sumM_all (p := fun r : KeyU => r.1.length ≤ 4194304) _ _ hM.rows hxr
      have hw2 : wIn (sumM es ([] : List Upd)) 549755813888 := (sumM_in (by omega) _ _ _ (hM.wts.mono (show ((i : Int) + j) * 1000000 ≤ 1000000000 by omega)) (by omega) hxw).mono (by omega)
      have con1 := fun W (h : BAtU w W A' c' es css) => addAllB_u w W A' c' es css h A1 c1 ([] : List Upd) hxa (by omega) hM.rows hxr hw1 hxw hxl
      have con2 := fun W A2 c2 css2 (h : BAtU w W A2 c2 (sumM es ([] : List Upd)) css2) => addAllB_u w W A2 c2 _ css2 h B1 d1 ys hyb (by omega) hr2 hyr hw2 hyw hyl
      have con3 := fun W A2 c2 css2 (h : BAtU w W A2 c2 (sumM (sumM es ([] : List Upd)) ys) css2) => sumB_u w W A2 c2 _ css2 h (by omega)
      clear hM hxr hyr hxw hyw hw1 hw2 hr2 hl2 hl3 hel
      go_wp2_with fail
      refine (con1 _ hB).mono ?_
      rintro r w1 ⟨rfl, A2, c2, css2, hB2⟩
      go_wp2_with fail
      refine (con2 _ _ _ _ hB2).mono ?_
      rintro r w2 ⟨rfl, A3, c3, css3, hB3⟩
      go_wp2_with fail
      refine (con3 _ _ _ _ hB3).mono ?_
      rintro e w3 ⟨A4, c4, rfl, ha4, hb4⟩
      go_wp2_with fail
      go_ret
      exact ⟨A4, c4, by rw [← hsum.out]; rfl, by rw [← hsum.out]; exact ha4, hb4⟩
    | cons x xs =>
      cases ys with
      | nil =>
        have hal := trB_len ha
        have hbl := trB_len hb
        have hM := HM.out
        have hsum : Hid (nz (sumM (sumM es (x :: xs)) ([] : List Upd)) = nz (AddLU a b)) := by
          have := hM.done ha hb (.inr (by have := congrArg List.length HY.out; simp at this; omega))
          rw [← HX.out, ← HY.out] at this
          exact this
        have hel := hM.len
        have hxl : ((x :: xs)).length ≤ 400 := by rw [HX.out, List.length_drop]; omega
        have hyl : (([] : List Upd)).length ≤ 400 := by rw [HY.out, List.length_drop]; omega
        have hxr : rowsU (x :: xs) 4194304 := fun q hq => by rw [HX.out] at hq; have := trB_row ha q (List.mem_of_mem_drop hq); omega
        have hyr : rowsU ([] : List Upd) 4194304 := fun q hq => by rw [HY.out] at hq; have := trB_row hb q (List.mem_of_mem_drop hq); omega
        have hxw : wIn (x :: xs) 1000000 := fun q hq => by rw [HX.out] at hq; exact wts_tr ha q (List.mem_of_mem_drop hq)
        have hyw : wIn ([] : List Upd) 1000000 := fun q hq => by rw [HY.out] at hq; exact wts_tr hb q (List.mem_of_mem_drop hq)
        have hw1 : wIn es 549755813888 := hM.wts.mono (by omega)
        have hl2 := sumM_length (x :: xs) es
        have hl3 := sumM_length ([] : List Upd) (sumM es (x :: xs))
        have hr2 : rowsU (sumM es (x :: xs)) 4194304 := sumM_all (p := fun r : KeyU => r.1.length ≤ 4194304) _ _ hM.rows hxr
        have hw2 : wIn (sumM es (x :: xs)) 549755813888 := (sumM_in (by omega) _ _ _ (hM.wts.mono (show ((i : Int) + j) * 1000000 ≤ 1000000000 by omega)) (by omega) hxw).mono (by omega)
        have con1 := fun W (h : BAtU w W A' c' es css) => addAllB_u w W A' c' es css h A1 c1 (x :: xs) hxa (by omega) hM.rows hxr hw1 hxw hxl
        have con2 := fun W A2 c2 css2 (h : BAtU w W A2 c2 (sumM es (x :: xs)) css2) => addAllB_u w W A2 c2 _ css2 h B1 d1 ([] : List Upd) hyb (by omega) hr2 hyr hw2 hyw hyl
        have con3 := fun W A2 c2 css2 (h : BAtU w W A2 c2 (sumM (sumM es (x :: xs)) ([] : List Upd)) css2) => sumB_u w W A2 c2 _ css2 h (by omega)
        clear hM hxr hyr hxw hyw hw1 hw2 hr2 hl2 hl3 hel
        go_wp2_with fail
        refine (con1 _ hB).mono ?_
        rintro r w1 ⟨rfl, A2, c2, css2, hB2⟩
        go_wp2_with fail
        refine (con2 _ _ _ _ hB2).mono ?_
        rintro r w2 ⟨rfl, A3, c3, css3, hB3⟩
        go_wp2_with fail
        refine (con3 _ _ _ _ hB3).mono ?_
        rintro e w3 ⟨A4, c4, rfl, ha4, hb4⟩
        go_wp2_with fail
        go_ret
        exact ⟨A4, c4, by rw [← hsum.out]; rfl, by rw [← hsum.out]; exact ha4, hb4⟩
      | cons y ys =>
        obtain ⟨hia, rfl, HX1⟩ := drop_consU HX.out
        obtain ⟨hjb, rfl, HY1⟩ := drop_consU HY.out
        have HX2 := Lib.hid HX1
        have HY2 := Lib.hid HY1
        have hal := trB_len ha
        have hbl := trB_len hb
        have hra := trB_row ha a[i] (List.getElem_mem hia)
        have hrb := trB_row hb b[j] (List.getElem_mem hjb)
        have hwa := trB_wt ha hia
        have hwb := trB_wt hb hjb
        have hel := HM.out.len
        have HR := Lib.hid HM.out.rows
        have HW : Hid (wIn es 1099511627776) := HM.out.wts.mono (by omega)
        obtain ⟨b1, o1, RA, ra, rfl, hbl1, x0, x1, x2, x3, hmx, hrowx⟩ := hxa.get 0 (by simp)
        obtain ⟨b2, o2, RB, rb, rfl, hbl2, y0, y1, y2, y3, hmy, hrowy⟩ := hyb.get 0 (by simp)
        simp only [Nat.zero_mul, Nat.add_zero, List.getElem_cons_zero] at x0 x1 x2 x3 hmx hrowx y0 y1 y2 y3 hmy hrowy
        have r0 := cgrow ((hB.bel.cell (p := ⟨b1, o1, none⟩) hbl1).trans x0)
        have r1 := cgrow ((hB.bel.cell (p := ⟨b1, o1 + 1, none⟩) hbl1).trans x1)
        have r2 := cgrow ((hB.bel.cell (p := ⟨b1, o1 + 2, none⟩) hbl1).trans x2)
        have r3 := cgrow ((hB.bel.cell (p := ⟨b1, o1 + 3, none⟩) hbl1).trans x3)
        have r4 := cgrow ((hB.bel.cell (p := ⟨b2, o2, none⟩) hbl2).trans y0)
        have r5 := cgrow ((hB.bel.cell (p := ⟨b2, o2 + 1, none⟩) hbl2).trans y1)
        have r6 := cgrow ((hB.bel.cell (p := ⟨b2, o2 + 2, none⟩) hbl2).trans y2)
        have r7 := cgrow ((hB.bel.cell (p := ⟨b2, o2 + 3, none⟩) hbl2).trans y3)
        have hxt := Lib.hid hxa.tail
        have hyt := Lib.hid hyb.tail
        have HXA := Lib.hid hxa
        have HYB := Lib.hid hyb
        have hm := m_compareU
        have hcon := fun W (hW : Below wr.heap.size wr W) => compare_u RA RB ra rb a[i] b[j] W ((hrowx.below hB.bel).below hW) ((hrowy.below hB.bel).below hW) (by omega) (by omega)
        have hc1' : xs.length + 1 ≤ c1 := by simpa using hc1
        have hd1' : ys.length + 1 ≤ d1 := by simpa using hd1
        by_cases hle : cmpKU a[i].1 b[j].1 ≤ 0
        · have HM' := Lib.hid (HM.out.left ha hb hia hjb hle)
          have hle' : decide (cmpKU a[i].1 b[j].1 ≤ 0) = true := by simpa using hle
          clear hle HX1 HY1 hxa hyb
          go_wp2_with fail
          refine wp_region_quiet_below (by kernel_rfl) (by kernel_rfl) ?_
          repeat (go_big_quiet_step (exact Calls.regrown_of (hcon _ (below_regrown _ _ _))))
          refine wpQuiet_nil ?_
          intro wq hwq
          obtain ⟨⟨dq, osq⟩, rfl⟩ := hwq
          have hbq := below_regrown wr dq osq
          generalize grow (redrawn wr dq) osq = w4 at hbq
          have hB4 := hB.below hbq
          have k0 := (hB4.bel.cell (p := ⟨b1, o1, none⟩) hbl1).trans x0
          have k1 := (hB4.bel.cell (p := ⟨b1, o1 + 1, none⟩) hbl1).trans x1
          have k2 := (hB4.bel.cell (p := ⟨b1, o1 + 2, none⟩) hbl1).trans x2
          have k3 := (hB4.bel.cell (p := ⟨b1, o1 + 3, none⟩) hbl1).trans x3
          clear r0 r1 r2 r3 r4 r5 r6 r7 hcon hB hbq x0 x1 x2 x3 y0 y1 y2 y3
          go_wp2_with fail
          refine (addB_u w w4 A' c' es css hB4 RA ra a[i] (UpdR.of a[i] hmx hrowx) (by omega) HR.out (by omega) HW.out (by omega) (by omega)).mono ?_
          rintro r w5 ⟨rfl, A2, c2, css2, hB5⟩
          clear k0 k1 k2 k3 hB4
          by_cases hcap : c1 = 1
          · have hnil : xs = [] := List.eq_nil_of_length_eq_zero (by omega)
            subst hnil
            subst hcap
            go_wp2
            go_roundw
            case rel => exact ⟨i + 1, j, [], _, _, _, _, _, _, A2, c2, css2, rfl, rfl, by simp, hd1, HX2, HY, by omega, by omega, SlAt.nil, HYB.out, HM', hB5⟩
            case measure => simp [lenVU]
          · go_wp2
            go_roundw
            case rel => exact ⟨i + 1, j, xs, _, some ⟨b1, o1 + 4, none⟩, _, c1 - 1, _, _, A2, c2, css2, by simp, rfl, by omega, hd1, HX2, HY, by omega, by omega, hxt.out, HYB.out, HM', hB5⟩
            case measure => simp [lenVU]
        · have hgt : 0 < cmpKU a[i].1 b[j].1 := by omega
          have HM' := Lib.hid (HM.out.right ha hb hia hjb hgt)
          have hle' : decide (cmpKU a[i].1 b[j].1 ≤ 0) = false := by simpa using hgt
          clear hle hgt HX1 HY1 hxa hyb
          go_wp2_with fail
          refine wp_region_quiet_below (by kernel_rfl) (by kernel_rfl) ?_
          repeat (go_big_quiet_step (exact Calls.regrown_of (hcon _ (below_regrown _ _ _))))
          refine wpQuiet_nil ?_
          intro wq hwq
          obtain ⟨⟨dq, osq⟩, rfl⟩ := hwq
          have hbq := below_regrown wr dq osq
          generalize grow (redrawn wr dq) osq = w4 at hbq
          have hB4 := hB.below hbq
          have k0 := (hB4.bel.cell (p := ⟨b2, o2, none⟩) hbl2).trans y0
          have k1 := (hB4.bel.cell (p := ⟨b2, o2 + 1, none⟩) hbl2).trans y1
          have k2 := (hB4.bel.cell (p := ⟨b2, o2 + 2, none⟩) hbl2).trans y2
          have k3 := (hB4.bel.cell (p := ⟨b2, o2 + 3, none⟩) hbl2).trans y3
          clear r0 r1 r2 r3 r4 r5 r6 r7 hcon hB hbq x0 x1 x2 x3 y0 y1 y2 y3
          go_wp2_with fail
          refine (addB_u w w4 A' c' es css hB4 RB rb b[j] (UpdR.of b[j] hmy hrowy) (by omega) HR.out (by omega) HW.out (by omega) (by omega)).mono ?_
          rintro r w5 ⟨rfl, A2, c2, css2, hB5⟩
          clear k0 k1 k2 k3 hB4
          by_cases hcap : d1 = 1
          · have hnil : ys = [] := List.eq_nil_of_length_eq_zero (by omega)
            subst hnil
            subst hcap
            go_wp2
            go_roundw
            case rel => exact ⟨i, j + 1, _, [], _, _, _, _, _, A2, c2, css2, rfl, rfl, hc1, by simp, HX, HY2, by omega, by omega, HXA.out, SlAt.nil, HM', hB5⟩
            case measure => simp [lenVU]
          · go_wp2
            go_roundw
            case rel => exact ⟨i, j + 1, _, ys, _, some ⟨b2, o2 + 4, none⟩, _, d1 - 1, _, A2, c2, css2, rfl, by simp, hc1, by omega, HX, HY2, by omega, by omega, HXA.out, hyt.out, HM', hB5⟩
            case measure => simp [lenVU]

end Go.Proofs.YtffgonddephkkaaGreat
