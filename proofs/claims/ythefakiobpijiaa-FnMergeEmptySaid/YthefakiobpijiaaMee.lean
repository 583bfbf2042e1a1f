/- HELPER, no statement of the seat: several texts in one file. -/
import Derived.Test.YthefakiobpijiaaNormU
import Derived.Test.YthefakiobpijiaaAddE
import Derived.Test.YthefakiobpijiaaUpdN
import Derived.Test.YthefakiobpijiaaUph
import Derived.Test.YthefakiobpijiaaUpdM
import Derived.Laws.StructEq
import Derived.Test.YthefakiobpijiaaAddZ
/- HELPER, no statement of the seat: the program's sumOfSorted, at updates. -/
namespace Go.Proofs.Ythefakiobpijiaa
open Go.RowKit Go.Sort
set_option linter.unusedSimpArgs false
set_option linter.unusedVariables false

theorem asc_ltM {z : List Upd} (h : Asc ltU z) {i j : Nat} (hi : i < z.length) (hj : j < z.length) (hij : i < j) : ltU z[i].1 z[j].1 = true := List.pairwise_iff_getElem.1 h i j hi hj hij
theorem trB_wt {z : List Upd} (h : trB z = true) {j : Nat} (hj : j < z.length) : -1000000 ≤ z[j].2 ∧ z[j].2 ≤ 1000000 := (sumU_parts (trB_sum h z[j] (List.getElem_mem hj))).2.1
theorem wts_tr {z : List Upd} (h : trB z = true) : wIn z 1000000 := fun e he => (sumU_parts (trB_sum h e he)).2.1
theorem trB_len {z : List Upd} (h : trB z = true) : z.length ≤ 400 := (trB_parts h).1
/-- es is the sum of what has come of a and b, and nothing that is still to come lies below any of it. -/
structure MergedU (a b : List Upd) (i j : Nat) (es : List Upd) : Prop where
  asc : Asc ltU es
  sum : ∀ r, wsum es r = wsum (a.take i) r + wsum (b.take j) r
  overA : Over ltU es (a.drop i)
  overB : Over ltU es (b.drop j)
  len : es.length ≤ i + j
  wts : wIn es ((i + j) * 1000000)
  rows : rowsU es 4194304
theorem MergedU.start (a b : List Upd) : MergedU a b 0 0 [] :=
  ⟨List.Pairwise.nil, fun r => by simp [wsum_nil], over_nil _, over_nil _, by simp, (fun e he => by cases he), (fun e he => by cases he)⟩
theorem ltU_not (x y : KeyU) : ltU x y = false ↔ 0 ≤ cmpKU x y := by simp [ltU_cmp]
theorem less_totalU {x y : KeyU} (h : cmpKU x y ≤ 0) : ltU y x = false := by
  rw [ltU_not]
  have := cmpKU_anti x y
  omega
theorem drop_memU {a : List Upd} {i : Nat} {x : Upd} (h : x ∈ a.drop (i + 1)) (hi : i < a.length) : x ∈ a.drop i := by
  rw [List.drop_eq_getElem_cons hi]
  exact List.mem_cons_of_mem _ h
theorem MergedU.left {a b es : List Upd} {i j : Nat} (h : MergedU a b i j es) (ha : trB a = true) (hb : trB b = true) (hi : i < a.length) (hj : j < b.length) (hc : cmpKU a[i].1 b[j].1 ≤ 0) : MergedU a b (i + 1) j (addM es a[i]) := by
  have ia : a[i] ∈ a.drop i := by rw [List.drop_eq_getElem_cons hi]; exact List.mem_cons_self
  have hA := trB_asc ha
  have hB := trB_asc hb
  have hle := less_totalU hc
  refine ⟨addM_asc updTot h.asc (fun y hy => h.overA _ ia y hy), fun r => ?_, over_add updTot (fun x hx y hy => h.overA x (drop_memU hx hi) y hy) (fun y hy => ?_), over_add updTot h.overB (fun y hy => ?_), by have := addM_length es a[i]; have := h.len; omega, ?_, ?_⟩
  · rw [addM_wsum, h.sum, List.take_succ_eq_append_getElem hi, wsum_append, wsum_cons, wsum_nil]; omega
  · obtain ⟨k, hk, rfl⟩ := List.getElem_of_mem hy
    rw [List.getElem_drop]
    exact updTot.asymm (asc_ltM hA hi (by simp at hk; omega) (by omega))
  · obtain ⟨k, hk, rfl⟩ := List.getElem_of_mem hy
    rw [List.getElem_drop]
    by_cases h0 : k = 0
    · subst h0; exact hle
    · exact ge_trans updTot hle (updTot.asymm (asc_ltM hB hj (by simp at hk; omega) (by omega)))
  · have := addM_in h.wts (by omega) (by omega : (0 : Int) ≤ 1000000) (trB_wt ha hi)
    refine this.mono ?_
    push_cast; omega
  · exact addM_all (p := fun r : KeyU => r.1.length ≤ 4194304) h.rows (by have := trB_row ha a[i] (List.getElem_mem hi); omega)
theorem MergedU.right {a b es : List Upd} {i j : Nat} (h : MergedU a b i j es) (ha : trB a = true) (hb : trB b = true) (hi : i < a.length) (hj : j < b.length) (hc : 0 < cmpKU a[i].1 b[j].1) : MergedU a b i (j + 1) (addM es b[j]) := by
  have ib : b[j] ∈ b.drop j := by rw [List.drop_eq_getElem_cons hj]; exact List.mem_cons_self
  have hA := trB_asc ha
  have hB := trB_asc hb
  have hle : ltU a[i].1 b[j].1 = false := by rw [ltU_not]; omega
  refine ⟨addM_asc updTot h.asc (fun y hy => h.overB _ ib y hy), fun r => ?_, over_add updTot h.overA (fun y hy => ?_), over_add updTot (fun x hx y hy => h.overB x (drop_memU hx hj) y hy) (fun y hy => ?_), by have := addM_length es b[j]; have := h.len; omega, ?_, ?_⟩
  · rw [addM_wsum, h.sum, List.take_succ_eq_append_getElem hj, wsum_append, wsum_cons, wsum_nil]; omega
  · obtain ⟨k, hk, rfl⟩ := List.getElem_of_mem hy
    rw [List.getElem_drop]
    by_cases h0 : k = 0
    · subst h0; exact hle
    · exact ge_trans updTot hle (updTot.asymm (asc_ltM hA hi (by simp at hk; omega) (by omega)))
  · obtain ⟨k, hk, rfl⟩ := List.getElem_of_mem hy
    rw [List.getElem_drop]
    exact updTot.asymm (asc_ltM hB hj (by simp at hk; omega) (by omega))
  · have := addM_in h.wts (by omega) (by omega : (0 : Int) ≤ 1000000) (trB_wt hb hj)
    refine this.mono ?_
    push_cast; omega
  · exact addM_all (p := fun r : KeyU => r.1.length ≤ 4194304) h.rows (by have := trB_row hb b[j] (List.getElem_mem hj); omega)
/-- The rest behind what was merged: the sum of both. -/
theorem MergedU.done {a b es : List Upd} {i j : Nat} (h : MergedU a b i j es) (ha : trB a = true) (hb : trB b = true) (hend : a.length ≤ i ∨ b.length ≤ j) : nz (sumM (sumM es (a.drop i)) (b.drop j)) = nz (AddLU a b) := by
  have hA := asc_up updTot (trB_asc ha)
  have hB := asc_up updTot (trB_asc hb)
  refine nz_ext updTot ?_ (AddLU_asc (trB_asc ha) b) (fun r => ?_)
  · refine sumM_asc updTot _ _ (sumM_asc updTot _ _ h.asc (up_drop hA i) h.overA) (up_drop hB j) ?_
    refine over_sum updTot _ _ h.overB (fun x hx y hy => ?_)
    rcases hend with he | he
    · rw [List.drop_eq_nil_of_le he] at hy; cases hy
    · rw [List.drop_eq_nil_of_le he] at hx; cases hx
  · have h1 : wsum a r = wsum (a.take i) r + wsum (a.drop i) r := by rw [← wsum_append, List.take_append_drop]
    have h2 : wsum b r = wsum (b.take j) r + wsum (b.drop j) r := by rw [← wsum_append, List.take_append_drop]
    rw [sumM_wsum, sumM_wsum, h.sum, AddLU_wsum]
    omega

def lenVU : Value → Nat
  | .slice _ n _ => n
  | _ => 0
theorem UpdsAt.tail {w : World} {b off : Nat} {x : Upd} {xs : List Upd} (h : UpdsAt w (some ⟨b, off, none⟩) (x :: xs)) : UpdsAt w (some ⟨b, off + 4, none⟩) xs := fun hp => by
  obtain ⟨b', off', e, hl, hc⟩ := h (by simp)
  injection e with e
  injection e with e1 e2
  subst e1
  subst e2
  refine ⟨b, off + 4, rfl, hl, fun j hj => ?_⟩
  obtain ⟨cs, hl2, hcell, hr⟩ := hc (j + 1) (by simp; omega)
  refine ⟨cs, hl2, fun i hi => ?_, by simpa using hr⟩
  rw [← hcell i hi, show off + 4 + j * 4 + i = off + (j + 1) * 4 + i by omega]
theorem drop_consU {α : Type} {x : α} {xs a : List α} {i : Nat} (h : x :: xs = a.drop i) : ∃ hi : i < a.length, x = a[i] ∧ xs = a.drop (i + 1) := by
  have hi : i < a.length := by
    rcases Nat.lt_or_ge i a.length with h' | h'
    · exact h'
    · rw [List.drop_eq_nil_of_le h'] at h; cases h
  rw [List.drop_eq_getElem_cons hi] at h
  injection h with h1 h2
  exact ⟨hi, h1, h2⟩

set_option maxRecDepth 100000 in
set_option maxHeartbeats 6400000 in
theorem sumOfSorted_u (A : Option Addr) (c : Nat) (a : List Upd) (B : Option Addr) (d : Nat) (b : List Upd) (w : World) (hx : UpdsAt w A a) (hy : UpdsAt w B b) (hca : a.length ≤ c) (hcb : b.length ≤ d) (ha : trB a = true) (hb : trB b = true) :
    Calls Try.prog 140 #[.slice A a.length c, .slice B b.length d] w fun e w' => ∃ A' c', e = .returned (.slice A' (nz (AddLU a b)).length c') ∧ UpdsAt w' A' (nz (AddLU a b)) ∧ Below w.heap.size w w' := by
  have HM0 := Lib.hid (MergedU.start a b)
  have HB0 := Lib.hid (BAtU.new w)
  go_enter Try.func140, Try.ntmps140
  go_wp2
  go_loopw [0, 1] (fun va vb wr => ∃ (i j : Nat) (xs ys : List Upd) (A1 B1 : Option Addr) (c1 d1 : Nat) (es : List Upd) (A' : Option Addr) (c' : Nat) (css : List (List Value)), va = .slice A1 xs.length c1 ∧ vb = .slice B1 ys.length d1 ∧ xs.length ≤ c1 ∧ ys.length ≤ d1 ∧ Hid (xs = a.drop i) ∧ Hid (ys = b.drop j) ∧ i ≤ a.length ∧ j ≤ b.length ∧ UpdsAt w A1 xs ∧ UpdsAt w B1 ys ∧ Hid (MergedU a b i j es) ∧ BAtU w wr A' c' es css) (fun va vb _ => lenVU va + lenVU vb)
  case atStart => exact ⟨0, 0, a, b, A, B, c, d, [], none, 0, [], rfl, rfl, hca, hcb, rfl, rfl, by omega, by omega, hx, hy, HM0, HB0.out⟩
  case round =>
    obtain ⟨i, j, xs, ys, A1, B1, c1, d1, es, A', c', css, rfl, rfl, hc1, hd1, HX, HY, hi, hj, hxa, hyb, HM, hB⟩ := hrel
    clear hx hy HM0 HB0
    cases xs with
    | nil =>
      have hal := trB_len ha
      have hbl := trB_len hb
      have hM := HM.out
      have hsum : Hid (nz (sumM (sumM es ([] : List Upd)) ys) = nz (AddLU a b)) := by
        have := hM.done ha hb (.inl (by have := congrArg List.length HX.out; simp at this; omega))
        rw [← HX.out, ← HY.out] at this
        exact this
      have hel := hM.len
      have hxl : (([] : List Upd)).length ≤ 400 := by rw [HX.out, List.length_drop]; omega
      have hyl : (ys).length ≤ 400 := by rw [HY.out, List.length_drop]; omega
      have hxr : rowsU ([] : List Upd) 4194304 := fun q hq => by rw [HX.out] at hq; have := trB_row ha q (List.mem_of_mem_drop hq); omega
      have hyr : rowsU ys 4194304 := fun q hq => by rw [HY.out] at hq; have := trB_row hb q (List.mem_of_mem_drop hq); omega
      have hxw : wIn ([] : List Upd) 1000000 := fun q hq => by rw [HX.out] at hq; exact wts_tr ha q (List.mem_of_mem_drop hq)
      have hyw : wIn ys 1000000 := fun q hq => by rw [HY.out] at hq; exact wts_tr hb q (List.mem_of_mem_drop hq)
      have hw1 : wIn es 549755813888 := hM.wts.mono (by omega)
      have hl2 := sumM_length ([] : List Upd) es
      have hl3 := sumM_length ys (sumM es ([] : List Upd))
      have hr2 : rowsU (sumM es ([] : List Upd)) 4194304 := sumM_all (p := fun r : KeyU => r.1.length ≤ 4194304) _ _ hM.rows hxr
      have hw2 : wIn (sumM es ([] : List Upd)) 549755813888 := (sumM_in (by omega) _ _ _ (hM.wts.mono (show ((i : Int) + j) * 1000000 ≤ 1000000000 by omega)) (by omega) hxw).mono (by omega)
      have con1 := fun W (h : BAtU w W A' c' es css) => addAllB_u w W A' c' es css h A1 c1 ([] : List Upd) hxa (by omega) hM.rows hxr hw1 hxw hxl
      have con2 := fun W A2 c2 css2 (h : BAtU w W A2 c2 (sumM es ([] : List Upd)) css2) => addAllB_u w W A2 c2 _ css2 h B1 d1 ys hyb (by omega) hr2 hyr hw2 hyw hyl
      have con3 := fun W A2 c2 css2 (h : BAtU w W A2 c2 (sumM (sumM es ([] : List Upd)) ys) css2) => sumB_u w W A2 c2 _ css2 h (by omega)
      clear hM hxr hyr hxw hyw hw1 hw2 hr2 hl2 hl3 hel
      go_wp2_with fail
      refine (con1 _ hB).mono ?_
      rintro r w1 ⟨rfl, A2, c2, css2, hB2⟩
      go_wp2_with fail
      refine (con2 _ _ _ _ hB2).mono ?_
      rintro r w2 ⟨rfl, A3, c3, css3, hB3⟩
      go_wp2_with fail
      refine (con3 _ _ _ _ hB3).mono ?_
      rintro e w3 ⟨A4, c4, rfl, ha4, hb4⟩
      go_wp2_with fail
      go_ret
      exact ⟨A4, c4, by rw [← hsum.out]; rfl, by rw [← hsum.out]; exact ha4, hb4⟩
    | cons x xs =>
      cases ys with
      | nil =>
        have hal := trB_len ha
        have hbl := trB_len hb
        have hM := HM.out
        have hsum : Hid (nz (sumM (sumM es (x :: xs)) ([] : List Upd)) = nz (AddLU a b)) := by
          have := hM.done ha hb (.inr (by have := congrArg List.length HY.out; simp at this; omega))
          rw [← HX.out, ← HY.out] at this
          exact this
        have hel := hM.len
        have hxl : ((x :: xs)).length ≤ 400 := by rw [HX.out, List.length_drop]; omega
        have hyl : (([] : List Upd)).length ≤ 400 := by rw [HY.out, List.length_drop]; omega
        have hxr : rowsU (x :: xs) 4194304 := fun q hq => by rw [HX.out] at hq; have := trB_row ha q (List.mem_of_mem_drop hq); omega
        have hyr : rowsU ([] : List Upd) 4194304 := fun q hq => by rw [HY.out] at hq; have := trB_row hb q (List.mem_of_mem_drop hq); omega
        have hxw : wIn (x :: xs) 1000000 := fun q hq => by rw [HX.out] at hq; exact wts_tr ha q (List.mem_of_mem_drop hq)
        have hyw : wIn ([] : List Upd) 1000000 := fun q hq => by rw [HY.out] at hq; exact wts_tr hb q (List.mem_of_mem_drop hq)
        have hw1 : wIn es 549755813888 := hM.wts.mono (by omega)
        have hl2 := sumM_length (x :: xs) es
        have hl3 := sumM_length ([] : List Upd) (sumM es (x :: xs))
        have hr2 : rowsU (sumM es (x :: xs)) 4194304 := sumM_all (p := fun r : KeyU => r.1.length ≤ 4194304) _ _ hM.rows hxr
        have hw2 : wIn (sumM es (x :: xs)) 549755813888 := (sumM_in (by omega) _ _ _ (hM.wts.mono (show ((i : Int) + j) * 1000000 ≤ 1000000000 by omega)) (by omega) hxw).mono (by omega)
        have con1 := fun W (h : BAtU w W A' c' es css) => addAllB_u w W A' c' es css h A1 c1 (x :: xs) hxa (by omega) hM.rows hxr hw1 hxw hxl
        have con2 := fun W A2 c2 css2 (h : BAtU w W A2 c2 (sumM es (x :: xs)) css2) => addAllB_u w W A2 c2 _ css2 h B1 d1 ([] : List Upd) hyb (by omega) hr2 hyr hw2 hyw hyl
        have con3 := fun W A2 c2 css2 (h : BAtU w W A2 c2 (sumM (sumM es (x :: xs)) ([] : List Upd)) css2) => sumB_u w W A2 c2 _ css2 h (by omega)
        clear hM hxr hyr hxw hyw hw1 hw2 hr2 hl2 hl3 hel
        go_wp2_with fail
        refine (con1 _ hB).mono ?_
        rintro r w1 ⟨rfl, A2, c2, css2, hB2⟩
        go_wp2_with fail
        refine (con2 _ _ _ _ hB2).mono ?_
        rintro r w2 ⟨rfl, A3, c3, css3, hB3⟩
        go_wp2_with fail
        refine (con3 _ _ _ _ hB3).mono ?_
        rintro e w3 ⟨A4, c4, rfl, ha4, hb4⟩
        go_wp2_with fail
        go_ret
        exact ⟨A4, c4, by rw [← hsum.out]; rfl, by rw [← hsum.out]; exact ha4, hb4⟩
      | cons y ys =>
        obtain ⟨hia, rfl, HX1⟩ := drop_consU HX.out
        obtain ⟨hjb, rfl, HY1⟩ := drop_consU HY.out
        have HX2 := Lib.hid HX1
        have HY2 := Lib.hid HY1
        have hal := trB_len ha
        have hbl := trB_len hb
        have hra := trB_row ha a[i] (List.getElem_mem hia)
        have hrb := trB_row hb b[j] (List.getElem_mem hjb)
        have hwa := trB_wt ha hia
        have hwb := trB_wt hb hjb
        have hel := HM.out.len
        have HR := Lib.hid HM.out.rows
        have HW : Hid (wIn es 1099511627776) := HM.out.wts.mono (by omega)
        obtain ⟨b1, o1, RA, ra, rfl, hbl1, x0, x1, x2, x3, hmx, hrowx⟩ := hxa.get 0 (by simp)
        obtain ⟨b2, o2, RB, rb, rfl, hbl2, y0, y1, y2, y3, hmy, hrowy⟩ := hyb.get 0 (by simp)
        simp only [Nat.zero_mul, Nat.add_zero, List.getElem_cons_zero] at x0 x1 x2 x3 hmx hrowx y0 y1 y2 y3 hmy hrowy
        have r0 := cgrow ((hB.bel.cell (p := ⟨b1, o1, none⟩) hbl1).trans x0)
        have r1 := cgrow ((hB.bel.cell (p := ⟨b1, o1 + 1, none⟩) hbl1).trans x1)
        have r2 := cgrow ((hB.bel.cell (p := ⟨b1, o1 + 2, none⟩) hbl1).trans x2)
        have r3 := cgrow ((hB.bel.cell (p := ⟨b1, o1 + 3, none⟩) hbl1).trans x3)
        have r4 := cgrow ((hB.bel.cell (p := ⟨b2, o2, none⟩) hbl2).trans y0)
        have r5 := cgrow ((hB.bel.cell (p := ⟨b2, o2 + 1, none⟩) hbl2).trans y1)
        have r6 := cgrow ((hB.bel.cell (p := ⟨b2, o2 + 2, none⟩) hbl2).trans y2)
        have r7 := cgrow ((hB.bel.cell (p := ⟨b2, o2 + 3, none⟩) hbl2).trans y3)
        have hxt := Lib.hid hxa.tail
        have hyt := Lib.hid hyb.tail
        have HXA := Lib.hid hxa
        have HYB := Lib.hid hyb
        have hm := m_compareU
        have hcon := fun W (hW : Below wr.heap.size wr W) => compare_u RA RB ra rb a[i] b[j] W ((hrowx.below hB.bel).below hW) ((hrowy.below hB.bel).below hW) (by omega) (by omega)
        have hc1' : xs.length + 1 ≤ c1 := by simpa using hc1
        have hd1' : ys.length + 1 ≤ d1 := by simpa using hd1
        by_cases hle : cmpKU a[i].1 b[j].1 ≤ 0
        · have HM' := Lib.hid (HM.out.left ha hb hia hjb hle)
          have hle' : decide (cmpKU a[i].1 b[j].1 ≤ 0) = true := by simpa using hle
          clear hle HX1 HY1 hxa hyb
          go_wp2_with fail
          refine wp_region_quiet_below (by kernel_rfl) (by kernel_rfl) ?_
          repeat (go_big_quiet_step (exact Calls.regrown_of (hcon _ (below_regrown _ _ _))))
          refine wpQuiet_nil ?_
          intro wq hwq
          obtain ⟨⟨dq, osq⟩, rfl⟩ := hwq
          have hbq := below_regrown wr dq osq
          generalize grow (redrawn wr dq) osq = w4 at hbq
          have hB4 := hB.below hbq
          have k0 := (hB4.bel.cell (p := ⟨b1, o1, none⟩) hbl1).trans x0
          have k1 := (hB4.bel.cell (p := ⟨b1, o1 + 1, none⟩) hbl1).trans x1
          have k2 := (hB4.bel.cell (p := ⟨b1, o1 + 2, none⟩) hbl1).trans x2
          have k3 := (hB4.bel.cell (p := ⟨b1, o1 + 3, none⟩) hbl1).trans x3
          clear r0 r1 r2 r3 r4 r5 r6 r7 hcon hB hbq x0 x1 x2 x3 y0 y1 y2 y3
          go_wp2_with fail
          refine (addB_u w w4 A' c' es css hB4 RA ra a[i] (UpdR.of a[i] hmx hrowx) (by omega) HR.out (by omega) HW.out (by omega) (by omega)).mono ?_
          rintro r w5 ⟨rfl, A2, c2, css2, hB5⟩
          clear k0 k1 k2 k3 hB4
          by_cases hcap : c1 = 1
          · have hnil : xs = [] := List.eq_nil_of_length_eq_zero (by omega)
            subst hnil
            subst hcap
            go_wp2
            go_roundw
            case rel => exact ⟨i + 1, j, [], _, _, _, _, _, _, A2, c2, css2, rfl, rfl, by simp, hd1, HX2, HY, by omega, by omega, SlAt.nil, HYB.out, HM', hB5⟩
            case measure => simp [lenVU]
          · go_wp2
            go_roundw
            case rel => exact ⟨i + 1, j, xs, _, some ⟨b1, o1 + 4, none⟩, _, c1 - 1, _, _, A2, c2, css2, by simp, rfl, by omega, hd1, HX2, HY, by omega, by omega, hxt.out, HYB.out, HM', hB5⟩
            case measure => simp [lenVU]
        · have hgt : 0 < cmpKU a[i].1 b[j].1 := by omega
          have HM' := Lib.hid (HM.out.right ha hb hia hjb hgt)
          have hle' : decide (cmpKU a[i].1 b[j].1 ≤ 0) = false := by simpa using hgt
          clear hle hgt HX1 HY1 hxa hyb
          go_wp2_with fail
          refine wp_region_quiet_below (by kernel_rfl) (by kernel_rfl) ?_
          repeat (go_big_quiet_step (exact Calls.regrown_of (hcon _ (below_regrown _ _ _))))
          refine wpQuiet_nil ?_
          intro wq hwq
          obtain ⟨⟨dq, osq⟩, rfl⟩ := hwq
          have hbq := below_regrown wr dq osq
          generalize grow (redrawn wr dq) osq = w4 at hbq
          have hB4 := hB.below hbq
          have k0 := (hB4.bel.cell (p := ⟨b2, o2, none⟩) hbl2).trans y0
          have k1 := (hB4.bel.cell (p := ⟨b2, o2 + 1, none⟩) hbl2).trans y1
          have k2 := (hB4.bel.cell (p := ⟨b2, o2 + 2, none⟩) hbl2).trans y2
          have k3 := (hB4.bel.cell (p := ⟨b2, o2 + 3, none⟩) hbl2).trans y3
          clear r0 r1 r2 r3 r4 r5 r6 r7 hcon hB hbq x0 x1 x2 x3 y0 y1 y2 y3
          go_wp2_with fail
          refine (addB_u w w4 A' c' es css hB4 RB rb b[j] (UpdR.of b[j] hmy hrowy) (by omega) HR.out (by omega) HW.out (by omega) (by omega)).mono ?_
          rintro r w5 ⟨rfl, A2, c2, css2, hB5⟩
          clear k0 k1 k2 k3 hB4
          by_cases hcap : d1 = 1
          · have hnil : ys = [] := List.eq_nil_of_length_eq_zero (by omega)
            subst hnil
            subst hcap
            go_wp2
            go_roundw
            case rel => exact ⟨i, j + 1, _, [], _, _, _, _, _, A2, c2, css2, rfl, rfl, hc1, by simp, HX, HY2, by omega, by omega, HXA.out, SlAt.nil, HM', hB5⟩
            case measure => simp [lenVU]
          · go_wp2
            go_roundw
            case rel => exact ⟨i, j + 1, _, ys, _, some ⟨b2, o2 + 4, none⟩, _, d1 - 1, _, A2, c2, css2, rfl, by simp, hc1, by omega, HX, HY2, by omega, by omega, HXA.out, hyt.out, HM', hB5⟩
            case measure => simp [lenVU]

end Go.Proofs.Ythefakiobpijiaa

/- HELPER, no statement of the seat: the model's sum into a sorted list of updates. -/
namespace Go.Proofs.Ythefakiobpijiaa
open Go.RowKit Go.Sort
set_option linter.unusedSimpArgs false
set_option linter.unusedVariables false

theorem asc_ltU {z : List Upd} (h : Asc ltU z) {i j : Nat} (hi : i < z.length) (hj : j < z.length) (hij : i < j) : ltU z[i].1 z[j].1 = true := List.pairwise_iff_getElem.1 h i j hi hj hij
theorem above_ofU {z : List Upd} (h : Asc ltU z) {r : KeyU} {m : Nat} (hm : m < z.length) (hl : ltU z[m].1 r = false) : ∀ j (hj : j < z.length), m ≤ j → ltU z[j].1 r = false := fun j hj hle => by
  by_cases e : j = m
  · subst e; exact hl
  · cases hc : ltU z[j].1 r with
    | false => rfl
    | true => have := updTot.trans _ _ _ (asc_ltU h hm hj (by omega)) hc; rw [hl] at this; cases this
theorem lt_stepU {z : List Upd} {r : KeyU} {k : Nat} (hk : k < z.length) (h : ∀ j (hj : j < z.length), j < k → ltU z[j].1 r = true) (hl : ltU z[k].1 r = true) : ∀ j (hj : j < z.length), j < k + 1 → ltU z[j].1 r = true := fun j hj hlt => by
  by_cases e : j = k
  · subst e; exact hl
  · exact h j hj (by omega)
theorem flat_onesU {w : World} {S : Fp} {A : Option Addr} {c : Nat} {es : List Upd} {css : List (List Value)} {F : Nat → Fp} (h : SlF UpdO 4 119 w S A c es css F) : ∀ cs ∈ css, ∀ u ∈ cs, u.oneCell' = true := by
  intro cs hcs u hu
  obtain ⟨j, hj, rfl⟩ := List.getElem_of_mem hcs
  exact updO.one (h.elt j hj (by rw [← h.clen]; exact hj)) u hu
theorem flat_onesU2 {w : World} {S : Fp} {A : Option Addr} {c : Nat} {es : List Upd} {css : List (List Value)} {F : Nat → Fp} (h : SlF UpdO 4 119 w S A c es css F) (k m : Nat) : ∀ u ∈ ((css.drop k).take m).flatten, u.oneCell' = true := by
  intro u hu
  obtain ⟨cs, hcs, hu⟩ := List.mem_flatten.1 hu
  exact flat_onesU h cs (List.mem_of_mem_drop (List.mem_of_mem_take hcs)) u hu

/-! ### Times are equal if both coordinates are -/
set_option maxRecDepth 100000 in
theorem timeIn_eq (a b c d : Int) (w : World) : (Op.equalIn 10000 117 (.agg #[.int .i64 a, .int .i64 b]) (.agg #[.int .i64 c, .int .i64 d])).run Try.prog w = .ok (a == c && b == d) w := by
  have u3 := Try.underlying3
  have a3 := Try.isAgg3
  have z3 := Try.sizeOf3
  have hS : Try.prog.underlying 117 = some (.struct (Try.prog.fieldsOf 117)) := by kernel_rfl
  have hp : Try.prog.stoodInHeld 117 = false := by kernel_rfl
  rw [show (10000 : Nat) = 9999 + 1 from rfl, run_equalIn_agg w 9999 117 _ _ hS hp]
  simp only [Program.fieldsOf, Try.underlying117]
  go_simp
  by_cases h1 : a = c <;> by_cases h2 : b = d <;> simp [h1, h2]
theorem time_eql (a b c d : Int) (w : World) : (binOp .eql 117 (.agg #[.int .i64 a, .int .i64 b]) (.agg #[.int .i64 c, .int .i64 d])).run Try.prog w = .ok (.bool (a == c && b == d)) w := by
  rw [run_eql_struct, timeIn_eq]; rfl

set_option maxRecDepth 100000 in
set_option maxHeartbeats 12800000 in
theorem addUpdate_s (S : Fp) (A : Option Addr) (c : Nat) (z : List Upd) (B : Option Addr) (d : Nat) (r : List Int) (p q x : Int) (w : World) (hz : UpdsOw w S A c z) (hA : A ≠ none) (hasc : Asc ltU z) (hy : IntsAt w B r) (hn : z.length ≤ 4194302) (hr : rowsU z 4194304) (hm : r.length ≤ 4194304) (hw : wIn z 1099511627776) (hx0 : -1099511627776 ≤ x) (hx1 : x ≤ 1099511627776) :
    Calls Try.prog 132 #[.slice A z.length c, .agg #[.slice B r.length d, .int .i64 p, .int .i64 q, .int .i64 x]] w fun e w' => ∃ A' c', e = .returned (.slice A' (insK ltU z (r, (p, q)) x).length c') ∧ UpdsOw w' (plus S w w') A' c' (insK ltU z (r, (p, q)) x) ∧ GrownS w w' S := by
  obtain ⟨i0, hi, hz0, hz1, hz2⟩ := info_parts Try.infoUpd
  obtain ⟨css, F, hF⟩ := hz
  have hat : UpdsAt w A z := hF.at_ updO
  obtain ⟨g0, hA0, hSg, hgl, hnc, hcm⟩ : ∃ g0, A = some ⟨g0, 0, none⟩ ∧ S g0 ∧ g0 < w.heap.size ∧ z.length ≤ c ∧ c ≤ maxLen := by
    rcases hF.form with ⟨h, _⟩ | h
    · exact absurd h hA
    · exact h
  subst hA0
  have hcm' : (c : Int) ≤ 9223372036854775807 := by unfold maxLen at hcm; omega
  have HF := Lib.hid hF
  have HS := Lib.hid hasc
  clear hF hasc
  go_enter Try.func132, Try.ntmps132
  go_wp2
  go_loopw [5] (fun i wr => ∃ k : Nat, k ≤ z.length ∧ i = .int .i64 k ∧ (∀ j (hj : j < z.length), j < k → ltU z[j].1 (r, (p, q)) = true) ∧ Below w.heap.size w wr ∧ Blk wr w.heap.size 119 #[.slice B r.length d, .int .i64 p, .int .i64 q, .int .i64 x]) (fun i _ => z.length - (intOf i).toNat)
  case atStart => exact ⟨0, by omega, rfl, fun j _ h => by omega, bal (Below.refl _ _) _, Blk.newAt rfl⟩
  case round =>
    obtain ⟨k, hkn, rfl, hlo, hbel, hk⟩ := hrel
    have HL := Lib.hid hlo
    clear hlo
    have k0 := hk.cell 0
    have k1 := hk.cell 1
    have k2 := hk.cell 2
    have k3 := hk.cell 3
    simp at k0 k1 k2 k3
    have u0 := cgrow k0
    have u1 := cgrow k1
    have u2 := cgrow k2
    have u3 := cgrow k3
    clear k0 k1 k2 k3
    by_cases hlt : k < z.length
    · obtain ⟨b, off, RA, rc, hA', hbl, hc0, hc1, hc2, hc3, hml, hrow⟩ := hat.get k hlt
      injection hA' with hA'
      injection hA' with h1 h2
      subst h1
      subst h2
      simp only [Nat.zero_add] at hc0 hc1 hc2 hc3
      have q0 := cgrow ((hbel.cell (p := ⟨g0, k * 4, none⟩) hbl).trans hc0)
      have q1 := cgrow ((hbel.cell (p := ⟨g0, k * 4 + 1, none⟩) hbl).trans hc1)
      have q2 := cgrow ((hbel.cell (p := ⟨g0, k * 4 + 2, none⟩) hbl).trans hc2)
      have q3 := cgrow ((hbel.cell (p := ⟨g0, k * 4 + 3, none⟩) hbl).trans hc3)
      have hrl := hr.get hlt
      have hlt' : (k : Int) < z.length := by omega
      have hcv := fun W' (hW : Below wr.heap.size wr W') => updateLess_s RA B rc d z[k] ((r, (p, q)), x) W' ((hrow.below hbel).below hW) ((hy.below hbel).below hW) hrl hm
      by_cases hl : ltU z[k].1 (r, (p, q)) = true
      · have hc1 := fun W' hW => (hcv W' hW).mono fun e w' ⟨he, hb⟩ => (⟨by rw [he, hl], hb⟩ : e = Ending.returned (.bool true) ∧ Below W'.heap.size W' w')
        have HB2 := Lib.hid (lt_stepU hlt HL.out hl)
        clear hcv hl hc0 hc2 hc3 hml
        go_wp2_with fail
        refine wp_region_quiet_below (by kernel_rfl) (by kernel_rfl) ?_
        repeat (go_big_quiet_step (first | (go_at_call 149; exact Calls.regrown_of (hc1 _ (below_regrown _ _ _)))))
        refine wpQuiet_nil ?_
        intro wq hwq
        obtain ⟨⟨dq, osq⟩, rfl⟩ := hwq
        have hb := below_regrown wr dq osq
        have hbz := btr hbel hb
        have hkb := hk.below hb
        generalize grow (redrawn wr dq) osq = wz at hb hbz hkb
        clear q0 q1 q2 q3 u0 u1 u2 u3 hc1
        go_wp2
        go_roundw
        case rel => exact ⟨k + 1, by omega, by go_num, HB2.out, hbz, hkb⟩
        case measure => simp [intOf]; omega
      · have hl' : ltU z[k].1 (r, (p, q)) = false := by simpa using hl
        have HH := Lib.hid (above_ofU HS.out hlt hl')
        have hc1x := fun W' hW => (hcv W' hW).mono fun e w' ⟨he, hb⟩ => (⟨by rw [he, hl'], hb⟩ : e = Ending.returned (.bool false) ∧ Below W'.heap.size W' w')
        clear hcv hl hl'
        obtain ⟨i1, i2⟩ := insK_at updTot HS.out (w := x) hkn HL.out HH.out
        have HI1 := Lib.hid i1
        have HI2 := Lib.hid i2
        clear i1 i2
        go_wp2_with fail
        refine wp_region_quiet_below (by kernel_rfl) (by kernel_rfl) ?_
        repeat (go_big_quiet_step (first | (go_at_call 149; exact Calls.regrown_of (hc1x _ (below_regrown _ _ _)))))
        refine wpQuiet_nil ?_
        intro wq hwq
        obtain ⟨⟨dq, osq⟩, rfl⟩ := hwq
        have hb := below_regrown wr dq osq
        have hbz := btr hbel hb
        have hkb := hk.below hb
        generalize grow (redrawn wr dq) osq = wz at hb hbz hkb
        clear q0 q1 q2 q3 u0 u1 u2 u3 hc1x
        have k0 := hkb.cell 0
        have k1 := hkb.cell 1
        have k2 := hkb.cell 2
        have k3 := hkb.cell 3
        simp at k0 k1 k2 k3
        have u0 := cgrow k0
        have u1 := cgrow k1
        have u2 := cgrow k2
        have u3 := cgrow k3
        clear k0 k1 k2 k3
        have q0 := cgrow ((hbz.cell (p := ⟨g0, k * 4, none⟩) hbl).trans hc0)
        have q1 := cgrow ((hbz.cell (p := ⟨g0, k * 4 + 1, none⟩) hbl).trans hc1)
        have q2 := cgrow ((hbz.cell (p := ⟨g0, k * 4 + 2, none⟩) hbl).trans hc2)
        have q3 := cgrow ((hbz.cell (p := ⟨g0, k * 4 + 3, none⟩) hbl).trans hc3)
        have hkq := hkb
        have hcq := fun W' (hW : Below wz.heap.size wz W') => equalInts_s RA B rc d z[k].1.1 r W' ((hrow.below hbz).below hW) ((hy.below hbz).below hW) (by omega) (by omega)
        clear hc0 hc1 hc2 hc3 hml hkb hb
        by_cases e1 : z[k].1.1 = r
        · have hc3 := fun W' hW => (hcq W' hW).mono fun e w' ⟨he, hb⟩ => (⟨by rw [he]; simp [e1], hb⟩ : e = Ending.returned (.bool true) ∧ Below W'.heap.size W' w')
          clear hcq
          by_cases e2 : z[k].1.2 = (p, q)
          · have he : z[k].1 = (r, (p, q)) := Prod.ext e1 e2
            have hins := HI1.out hlt he
            have e21 : z[k].1.2.1 = p := by rw [e2]
            have e22 : z[k].1.2.2 = q := by rw [e2]
            rw [e21] at q1
            rw [e22] at q2
            have qe : ∀ W, (Op.equalIn 10000 117 (.agg #[.int .i64 p, .int .i64 q]) (.agg #[.int .i64 p, .int .i64 q])).run Try.prog W = .ok true W := fun W => by rw [timeIn_eq]; simp
            have HI := Lib.hid hins
            have HE := Lib.hid he
            have hwl := hw.get hlt
            have hwl1 := hwl.1
            have hwl2 := hwl.2
            clear hins he e1 e2 e21 e22 hwl
            go_wp2_with fail
            refine wp_region_quiet_below (by kernel_rfl) (by kernel_rfl) ?_
            repeat (go_big_quiet_step (first | (go_at_call 180; exact Calls.regrown_of (hc3 _ (below_regrown _ _ _)))))
            refine wpQuiet_nil ?_
            intro wq hwq
            obtain ⟨⟨dq, osq⟩, rfl⟩ := hwq
            have hb := below_regrown wz dq osq
            have hB := btr hbz hb
            have hkb := hkq.below hb
            generalize grow (redrawn wz dq) osq = w1 at hb hB hkb
            clear q0 q1 q2 q3 u0 u1 u2 u3 hc3 qe
            have hF1 := HF.out.loc updO (fun q hq => hB.block q (HF.out.lt q hq))
            have hcl : k < css.length := by rw [hF1.clen]; exact hlt
            have q3 : w1.cell? ⟨g0, k * 4 + 3, none⟩ = some (.int .i64 z[k].2) := by
              obtain ⟨RA3, rc3, hcs, -, -⟩ := UpdO.form (hF1.elt k hcl hlt)
              rw [hF1.cell k hcl 3 (by decide), hcs]; rfl
            have HF1 := Lib.hid hF1
            clear hF1
            go_wp2_with fail
            refine wp_region_facts [[], [], [], [], [2, 3], [2, 3, 4], [2, 3, 4, 5], [], [7], [2, 3, 4, 5, 6, 7, 8], [0, 1], [0, 1, 10]]
              [fun v' _ => v' = .slice (some ⟨g0, 0, none⟩) z.length c, fun v' _ => v' = .int .i64 (k : Int), fun v' _ => v' = .slice (some ⟨g0, 0, none⟩) z.length c, fun v' _ => v' = .int .i64 (k : Int), fun v' _ => v' = .pointer (some ⟨g0, k * 4, none⟩), fun v' _ => v' = .pointer (some ⟨g0, k * 4 + 3, none⟩), fun v' _ => v' = .int .i64 z[k].2, fun v' _ => v' = .pointer (some ⟨w.heap.size, 3, none⟩), fun v' _ => v' = .int .i64 x, fun v' _ => v' = .int .i64 (z[k].2 + x), fun v' _ => v' = .pointer (some ⟨g0, k * 4, none⟩), fun v' _ => v' = .pointer (some ⟨g0, k * 4 + 3, none⟩)]
              (by kernel_rfl) (by kernel_rfl) rfl ⟨stable_pure _, stable_pure _, stable_pure _, stable_pure _, stable_pure _, stable_pure _, stable_pure _, stable_pure _, stable_pure _, stable_pure _, stable_pure _, stable_pure _, trivial⟩ ?_
            refine wf_step (fun wf hb hf => ?_) (fun t0 => ?_)
            · go_wp2
              exact ⟨rfl, _, rfl, Below.refl _ _, rfl⟩
            refine wf_step (fun wf hb hf => ?_) (fun t1 => ?_)
            · go_wp2
              exact ⟨rfl, _, rfl, Below.refl _ _, rfl⟩
            refine wf_step (fun wf hb hf => ?_) (fun t2 => ?_)
            · go_wp2
              exact ⟨rfl, _, rfl, Below.refl _ _, rfl⟩
            refine wf_step (fun wf hb hf => ?_) (fun t3 => ?_)
            · go_wp2
              exact ⟨rfl, _, rfl, Below.refl _ _, rfl⟩
            refine wf_step (fun wf hb hf => ?_) (fun t4 => ?_)
            · obtain ⟨rfl, rfl, -⟩ := hf
              go_wp2
              exact ⟨rfl, _, rfl, Below.refl _ _, rfl⟩
            refine wf_step (fun wf hb hf => ?_) (fun t5 => ?_)
            · obtain ⟨rfl, rfl, rfl, -⟩ := hf
              go_wp2
              exact ⟨rfl, _, rfl, Below.refl _ _, rfl⟩
            refine wf_step (fun wf hb hf => ?_) (fun t6 => ?_)
            · obtain ⟨rfl, rfl, rfl, rfl, -⟩ := hf
              have c0 := (hb.cell (p := ⟨g0, k * 4 + 3, none⟩) (HF1.out.lt g0 hSg)).trans q3
              go_wp2
              exact ⟨rfl, _, rfl, Below.refl _ _, rfl⟩
            refine wf_step (fun wf hb hf => ?_) (fun t7 => ?_)
            · go_wp2
              exact ⟨rfl, _, rfl, Below.refl _ _, rfl⟩
            refine wf_step (fun wf hb hf => ?_) (fun t8 => ?_)
            · obtain ⟨rfl, -⟩ := hf
              have c0 := (hkb.below hb).cell 3
              simp at c0
              go_wp2
              exact ⟨rfl, _, rfl, Below.refl _ _, rfl⟩
            refine wf_step (fun wf hb hf => ?_) (fun t9 => ?_)
            · obtain ⟨rfl, rfl, rfl, rfl, rfl, rfl, rfl, -⟩ := hf
              go_wp2
              exact ⟨rfl, _, rfl, Below.refl _ _, rfl⟩
            refine wf_step (fun wf hb hf => ?_) (fun t10 => ?_)
            · obtain ⟨rfl, rfl, -⟩ := hf
              go_wp2
              exact ⟨rfl, _, rfl, Below.refl _ _, rfl⟩
            refine wf_step (fun wf hb hf => ?_) (fun t11 => ?_)
            · obtain ⟨rfl, rfl, rfl, -⟩ := hf
              go_wp2
              exact ⟨rfl, _, rfl, Below.refl _ _, rfl⟩
            refine wf_done (fun wC hb hf => ?_)
            obtain ⟨rfl, rfl, rfl, rfl, rfl, rfl, rfl, rfl, rfl, rfl, rfl, rfl, -⟩ := hf
            show wpList _ _ _ [_] _ _
            refine wpList_frame (by simp [Act.put]; rfl) ?_
            have hBC := btr hB hb
            have hFC := HF.out.loc updO (fun q hq => hBC.block q (HF.out.lt q hq))
            have hel := hFC.elt k hcl hlt
            obtain ⟨RA2, rc2, hcs, hFb, hrow2⟩ := UpdO.form hel
            have q4 := (hb.cell (p := ⟨g0, k * 4 + 3, none⟩) (HF1.out.lt g0 hSg)).trans q3
            have hf1 := hFC.frozen (k * 4 + 3)
            have hst := hFC.store updO (i := 3) (j := k) hlt hcl (by omega) (.int .i64 (z[k].2 + x)) (x' := (z[k].1, z[k].2 + x)) (by rw [hcs]; exact UpdO.mk (updO.lt hel) hFb hrow2)
            rw [show (z[k].1, z[k].2 + x) = ((r, (p, q)), z[k].2 + x) by rw [HE.out], ← HI.out] at hst
            have HT := Lib.hid hst
            have HG : Hid (GrownS w wC S) := GrownS.ofBelow hBC
            have HLn : Hid ((insK ltU z (r, (p, q)) x).length = z.length) := by rw [HI.out]; simp [Hid]
            clear q3 hst hel hcs hFb hrow2 hFC hBC hb hB hkb
            go_wp2
            go_ret
            exact ⟨_, c, by rw [HLn.out]; rfl, ⟨_, _, HT.out.mono (fun q hq => .inl hq) (fun q hq => by
              rcases hq with hq | hq
              · exact HT.out.lt q hq
              · exact hq.2)⟩, HG.out.set_ (p := ⟨g0, k * 4 + 3, none⟩) hSg _⟩
          · have hins := HI2.out (fun _ h => e2 (by rw [h]))
            have qn : (z[k].1.2.1 == p && z[k].1.2.2 == q) = false := by
              cases hh : (z[k].1.2.1 == p && z[k].1.2.2 == q) with
              | false => rfl
              | true => simp at hh; exact absurd (Prod.ext hh.1 hh.2) e2
            have qe : ∀ W, (Op.equalIn 10000 117 (.agg #[.int .i64 z[k].1.2.1, .int .i64 z[k].1.2.2]) (.agg #[.int .i64 p, .int .i64 q])).run Try.prog W = .ok false W := fun W => by rw [timeIn_eq, qn]
            clear qn e2 e1
            have HI := Lib.hid hins
            have hck : ¬ c = k := by omega
            have hlc : (k : Int) ≤ c := by omega
            have hlz : (k : Int) ≤ z.length := by omega
            clear hins
            go_wp2_with fail
            refine wp_region_quiet_below (by kernel_rfl) (by kernel_rfl) ?_
            repeat (go_big_quiet_step (first | (go_at_call 180; exact Calls.regrown_of (hc3 _ (below_regrown _ _ _)))))
            refine wpQuiet_nil ?_
            intro wq hwq
            obtain ⟨⟨dq, osq⟩, rfl⟩ := hwq
            have hb := below_regrown wz dq osq
            have hB := btr hbz hb
            have hkb := hkq.below hb
            generalize grow (redrawn wz dq) osq = w1 at hb hB hkb
            clear q0 q1 q2 q3 u0 u1 u2 u3 hc3
            have hF1 := HF.out.loc updO (fun q hq => hB.block q (HF.out.lt q hq))
            have hF1a : SlF UpdO 4 119 (w1.alloc (.cells #[] 119)) S _ c z css F := hF1.loc updO (fun q hq => Below.heap_alloc _ _ _ (hF1.lt q hq))
            have hs1 := hB.size
            have l1 : (css.take k).flatten.length = k * 4 := by rw [flat_len (sz := 4) (fun q hq => hF1.elen q (List.mem_of_mem_take hq)), List.length_take, Nat.min_eq_left (by rw [hF1.clen]; omega)]
            have l3 : ((css.drop k).take (z.length - k)).flatten.length = (z.length - k) * 4 := by rw [flat_len (sz := 4) (fun q hq => hF1.elen q (List.mem_of_mem_drop (List.mem_of_mem_take hq))), List.length_take, List.length_drop, hF1.clen, Nat.min_self]
            have o1 := flat_onesU2 hF1a 0 k
            have n1 := flat_srcs (k := 0) (m := k) (o := 0) hF1a.elen hF1a.row hF1a.clen (by simp)
            simp only [List.drop_zero] at o1 n1
            have rl1 : (w1.alloc (.cells #[] 119)).ownsRow w.heap.size 119 4 (.slice (some ⟨w1.heap.size, 0, none⟩) 0 0) 0 [] := World.ownsRow_lit w1 #[] 0 hs1 (by simp [maxLen]) (by simp)
            have HF1 := Lib.hid hF1
            clear hF1 hF1a
            go_wp2_with (at_builtin; refine wpList_append_src _ rfl _ _ 24 rfl w.heap.size 119 i0 (.agg #[.slice none 0 0, .int .i64 0, .int .i64 0, .int .i64 0]) 4 48 Try.underlying24 hi hz0 hz1 hz2 rfl (by decide) _ _ _ rfl rl1 (some ⟨g0, 0, none⟩) k c (css.take k).flatten rfl l1 (fun h => by cases h) n1 o1 (by unfold maxLen; omega) (by omega) (by simp; omega) ?_)
            intro v1 w2 r1 g1 loc1
            obtain ⟨A1, c1, rfl⟩ := own_slice r1
            have b12 : Below w1.heap.size w1 w2 := (bal (Below.refl _ _) _).grown g1 (by simp) (fun k hk => by simp [Value.ownBlock] at hk; omega)
            have hB2 := btr hB b12
            have hA1 : ∀ k, blk A1 = some k → w1.heap.size ≤ k ∧ k < w2.heap.size := fun k hk => ⟨(loc1 k (by rw [ownBlock_slice]; exact hk)).elim (fun h => by simp [Value.ownBlock] at h; omega) (fun h => by first | omega | (simp at h; omega)), (World.ownsRow.lt r1 k (by rw [ownBlock_slice]; exact hk)).2⟩
            have hs2 := b12.size
            clear loc1 g1 rl1 o1 n1
            have hk2 := hkb.below b12
            have v0 := hk2.cell 0
            have v1' := hk2.cell 1
            have v2' := hk2.cell 2
            have v3' := hk2.cell 3
            simp at v0 v1' v2' v3'
            go_wp2_with fail
            refine (copyUpdate_s _ _ _ _ _ _ _ (hy.below hB2) hm).mono ?_
            rintro e w3 ⟨RA', rc', rfl, ho, b23⟩
            have r1' : w3.ownsRow w.heap.size 119 4 (.slice A1 k c1) k (css.take k).flatten := ownsRow_loc r1 (fun k hk => b23.block k (hA1 k hk).2)
            have hB3 := btr hB2 b23
            have hs3 := b23.size
            go_wp2_with (at_builtin; refine wpList_append_src _ rfl _ _ 24 rfl w.heap.size 119 i0 (.agg #[.slice none 0 0, .int .i64 0, .int .i64 0, .int .i64 0]) 4 48 Try.underlying24 hi hz0 hz1 hz2 rfl (by decide) _ _ _ rfl (r1'.alloc _) (some ⟨w3.heap.size, 0, none⟩) 1 1 [.slice RA' r.length rc', .int .i64 p, .int .i64 q, .int .i64 x] rfl rfl (fun h => by cases h) upd_srcs upd_ones (by unfold maxLen; omega) (by omega) (by simp; omega) ?_)
            intro v2 w4 r2 g2 loc2
            obtain ⟨A2, c2, rfl⟩ := own_slice r2
            rw [ownBlock_slice] at g2
            have hs4 : w3.heap.size + 1 ≤ w4.heap.size := by have := g2.size; simpa using this
            have hA2 : ∀ k, blk A2 = some k → (blk A1 = some k ∨ w3.heap.size ≤ k) ∧ k < w4.heap.size := fun k hk => ⟨(loc2 k (by rw [ownBlock_slice]; exact hk)).elim (fun h => .inl (by rw [ownBlock_slice] at h; exact h)) (fun h => .inr (by first | omega | (simp at h; omega))), (World.ownsRow.lt r2 k (by rw [ownBlock_slice]; exact hk)).2⟩
            have b34 : ∀ k, k < w3.heap.size → blk A1 ≠ some k → w4.heap[k]? = w3.heap[k]? := fun k hk hn => (g2.block k (by simp; omega) (fun e => hn e.symm)).trans (Below.heap_alloc _ _ _ hk)
            have hB4 : Below w.heap.size w w4 := (bal hB3 _).grown g2 (by simp; omega) (fun k hk => by have := (hA1 k hk).1; omega)
            have hF4 := HF.out.loc updO (fun q hq => hB4.block q (HF.out.lt q hq))
            have n3 := flat_srcs (k := k) (m := z.length - k) (o := k * 4) hF4.elen hF4.row hF4.clen rfl
            have o3 := flat_onesU2 hF4 k (z.length - k)
            have HF4 := Lib.hid hF4
            clear hF4 g2 loc2 r1 r1'
            go_wp2_with (at_builtin; refine wpList_append_src _ rfl _ _ 24 rfl w.heap.size 119 i0 (.agg #[.slice none 0 0, .int .i64 0, .int .i64 0, .int .i64 0]) 4 48 Try.underlying24 hi hz0 hz1 hz2 rfl (by decide) _ _ _ rfl r2 (some ⟨g0, k * 4, none⟩) (z.length - k) (c - k) ((css.drop k).take (z.length - k)).flatten rfl l3 (fun h => by cases h) n3 o3 (by unfold maxLen; omega) (by omega) (by omega) ?_)
            intro v3 w5 r3 g3 loc3
            obtain ⟨A3, c3, rfl⟩ := own_slice r3
            rw [ownBlock_slice] at g3
            have hs5 := g3.size
            have hA3 : ∀ k, blk A3 = some k → (blk A1 = some k ∨ w3.heap.size ≤ k) ∧ k < w5.heap.size := fun k hk => ⟨(loc3 k (by rw [ownBlock_slice]; exact hk)).elim (fun h => (hA2 k (by rw [ownBlock_slice] at h; exact h)).1) (fun h => .inr (by omega)), (World.ownsRow.lt r3 k (by rw [ownBlock_slice]; exact hk)).2⟩
            have b35 : ∀ k, k < w3.heap.size → blk A1 ≠ some k → w5.heap[k]? = w3.heap[k]? := fun k hk hn => (g3.block k (by omega) (fun e => (hA2 k e.symm).1.elim (fun h => hn h) (fun h => by omega))).trans (b34 k hk hn)
            have hB5 : Below w.heap.size w w5 := hB4.grown g3 (by omega) (fun k hk => (hA2 k hk).1.elim (fun h => by have := (hA1 k h).1; omega) (fun h => by omega))
            have hF5 := HF.out.loc updO (fun q hq => hB5.block q (HF.out.lt q hq))
            have hTq : ∀ q, news w2 w3 q → blk A1 ≠ some q := fun q hq e => by have := (hA1 q e).2; have := hq.1; omega
            have hel0 : UpdO w3 (news w2 w3) [.slice RA' r.length rc', .int .i64 p, .int .i64 q, .int .i64 x] ((r, (p, q)), x) := UpdO.mk (fun k hk => hk.2) (fun q hq => by
              rcases ownsRow_form ho with ⟨e, _⟩ | ⟨g, e, hg1, hg2, _⟩
              · rw [e] at hq; cases hq
              · rw [e] at hq; simp [blk] at hq; subst hq; exact ⟨hg1, hg2⟩) (ho.mono (Nat.zero_le _))
            have hel := updO.loc hel0 (w' := w5) (fun q hq => b35 q hq.2 (hTq q hq))
            have hlen3 : k + 1 + (z.length - k) = z.length + 1 := by omega
            have htail : ((css.drop k).take (z.length - k)).flatten = (css.drop k).flatten := by
              rw [List.take_of_length_le (by rw [List.length_drop, hF5.clen]; exact Nat.le_refl _)]
            rw [hlen3, htail] at r3
            have r3' : w5.ownsRow 0 119 4 (.slice A3 (z.length + 1) c3) (z.length + 1) ((css.take k).flatten ++ [.slice RA' r.length rc', .int .i64 p, .int .i64 q, .int .i64 x] ++ (css.drop k).flatten) := by have := ownsRow_base0 r3; simpa using this
            have hsp := hF5.splice (U := plus S w w5) updO (by omega : k ≤ z.length) hel (fun q h1 h2 => by have := h1.1; have := HF.out.lt q h2; omega) r3' (fun q hq => by
              have h3 := hA3 q hq
              have h4 : w.heap.size ≤ q := (World.ownsRow.lt r3 q (by rw [ownBlock_slice]; exact hq)).1
              refine ⟨fun h => by have := HF.out.lt q h; omega, fun h => ?_⟩
              rcases h3.1 with h5 | h5
              · exact hTq q h h5
              · have := h.2; omega) (fun q hq => by
              rcases hq with hq | hq | hq
              · exact .inl hq
              · exact .inr ⟨by have := hq.1; omega, by have := hq.2; omega⟩
              · exact .inr ⟨(World.ownsRow.lt r3 q (by rw [ownBlock_slice]; exact hq)).1, (hA3 q hq).2⟩) (fun q hq => by
              rcases hq with hq | hq
              · have := HF.out.lt q hq; omega
              · exact hq.2)
            rw [← HI.out] at hsp
            have HSP := Lib.hid hsp
            have HG : Hid (GrownS w w5 S) := GrownS.ofBelow hB5
            have HLn : Hid ((insK ltU z (r, (p, q)) x).length = k + 1 + (z.length - k)) := by rw [HI.out]; simp [Hid]; omega
            clear hsp hel hel0 hTq hF5 hB5 b35 hA3 g3 loc3 r3 r3' r2 hA2 b34 hB4 hB3 b23 ho hB2 b12 hA1 htail l1 l3 o3 n3
            go_wp2
            go_ret
            exact ⟨A3, c3, by rw [HLn.out]; first | rfl | simp, ⟨_, _, HSP.out⟩, HG.out⟩
        · have hins := HI2.out (fun _ h => e1 (by rw [h]))
          have hc3 := fun W' hW => (hcq W' hW).mono fun e w' ⟨he, hb⟩ => (⟨by rw [he]; simp [e1], hb⟩ : e = Ending.returned (.bool false) ∧ Below W'.heap.size W' w')
          clear hcq e1
          have HI := Lib.hid hins
          have hck : ¬ c = k := by omega
          have hlc : (k : Int) ≤ c := by omega
          have hlz : (k : Int) ≤ z.length := by omega
          clear hins
          go_wp2_with fail
          refine wp_region_quiet_below (by kernel_rfl) (by kernel_rfl) ?_
          repeat (go_big_quiet_step (first | (go_at_call 180; exact Calls.regrown_of (hc3 _ (below_regrown _ _ _)))))
          refine wpQuiet_nil ?_
          intro wq hwq
          obtain ⟨⟨dq, osq⟩, rfl⟩ := hwq
          have hb := below_regrown wz dq osq
          have hB := btr hbz hb
          have hkb := hkq.below hb
          generalize grow (redrawn wz dq) osq = w1 at hb hB hkb
          clear q0 q1 q2 q3 u0 u1 u2 u3 hc3
          have hF1 := HF.out.loc updO (fun q hq => hB.block q (HF.out.lt q hq))
          have hF1a : SlF UpdO 4 119 (w1.alloc (.cells #[] 119)) S _ c z css F := hF1.loc updO (fun q hq => Below.heap_alloc _ _ _ (hF1.lt q hq))
          have hs1 := hB.size
          have l1 : (css.take k).flatten.length = k * 4 := by rw [flat_len (sz := 4) (fun q hq => hF1.elen q (List.mem_of_mem_take hq)), List.length_take, Nat.min_eq_left (by rw [hF1.clen]; omega)]
          have l3 : ((css.drop k).take (z.length - k)).flatten.length = (z.length - k) * 4 := by rw [flat_len (sz := 4) (fun q hq => hF1.elen q (List.mem_of_mem_drop (List.mem_of_mem_take hq))), List.length_take, List.length_drop, hF1.clen, Nat.min_self]
          have o1 := flat_onesU2 hF1a 0 k
          have n1 := flat_srcs (k := 0) (m := k) (o := 0) hF1a.elen hF1a.row hF1a.clen (by simp)
          simp only [List.drop_zero] at o1 n1
          have rl1 : (w1.alloc (.cells #[] 119)).ownsRow w.heap.size 119 4 (.slice (some ⟨w1.heap.size, 0, none⟩) 0 0) 0 [] := World.ownsRow_lit w1 #[] 0 hs1 (by simp [maxLen]) (by simp)
          have HF1 := Lib.hid hF1
          clear hF1 hF1a
          go_wp2_with (at_builtin; refine wpList_append_src _ rfl _ _ 24 rfl w.heap.size 119 i0 (.agg #[.slice none 0 0, .int .i64 0, .int .i64 0, .int .i64 0]) 4 48 Try.underlying24 hi hz0 hz1 hz2 rfl (by decide) _ _ _ rfl rl1 (some ⟨g0, 0, none⟩) k c (css.take k).flatten rfl l1 (fun h => by cases h) n1 o1 (by unfold maxLen; omega) (by omega) (by simp; omega) ?_)
          intro v1 w2 r1 g1 loc1
          obtain ⟨A1, c1, rfl⟩ := own_slice r1
          have b12 : Below w1.heap.size w1 w2 := (bal (Below.refl _ _) _).grown g1 (by simp) (fun k hk => by simp [Value.ownBlock] at hk; omega)
          have hB2 := btr hB b12
          have hA1 : ∀ k, blk A1 = some k → w1.heap.size ≤ k ∧ k < w2.heap.size := fun k hk => ⟨(loc1 k (by rw [ownBlock_slice]; exact hk)).elim (fun h => by simp [Value.ownBlock] at h; omega) (fun h => by first | omega | (simp at h; omega)), (World.ownsRow.lt r1 k (by rw [ownBlock_slice]; exact hk)).2⟩
          have hs2 := b12.size
          clear loc1 g1 rl1 o1 n1
          have hk2 := hkb.below b12
          have v0 := hk2.cell 0
          have v1' := hk2.cell 1
          have v2' := hk2.cell 2
          have v3' := hk2.cell 3
          simp at v0 v1' v2' v3'
          go_wp2_with fail
          refine (copyUpdate_s _ _ _ _ _ _ _ (hy.below hB2) hm).mono ?_
          rintro e w3 ⟨RA', rc', rfl, ho, b23⟩
          have r1' : w3.ownsRow w.heap.size 119 4 (.slice A1 k c1) k (css.take k).flatten := ownsRow_loc r1 (fun k hk => b23.block k (hA1 k hk).2)
          have hB3 := btr hB2 b23
          have hs3 := b23.size
          go_wp2_with (at_builtin; refine wpList_append_src _ rfl _ _ 24 rfl w.heap.size 119 i0 (.agg #[.slice none 0 0, .int .i64 0, .int .i64 0, .int .i64 0]) 4 48 Try.underlying24 hi hz0 hz1 hz2 rfl (by decide) _ _ _ rfl (r1'.alloc _) (some ⟨w3.heap.size, 0, none⟩) 1 1 [.slice RA' r.length rc', .int .i64 p, .int .i64 q, .int .i64 x] rfl rfl (fun h => by cases h) upd_srcs upd_ones (by unfold maxLen; omega) (by omega) (by simp; omega) ?_)
          intro v2 w4 r2 g2 loc2
          obtain ⟨A2, c2, rfl⟩ := own_slice r2
          rw [ownBlock_slice] at g2
          have hs4 : w3.heap.size + 1 ≤ w4.heap.size := by have := g2.size; simpa using this
          have hA2 : ∀ k, blk A2 = some k → (blk A1 = some k ∨ w3.heap.size ≤ k) ∧ k < w4.heap.size := fun k hk => ⟨(loc2 k (by rw [ownBlock_slice]; exact hk)).elim (fun h => .inl (by rw [ownBlock_slice] at h; exact h)) (fun h => .inr (by first | omega | (simp at h; omega))), (World.ownsRow.lt r2 k (by rw [ownBlock_slice]; exact hk)).2⟩
          have b34 : ∀ k, k < w3.heap.size → blk A1 ≠ some k → w4.heap[k]? = w3.heap[k]? := fun k hk hn => (g2.block k (by simp; omega) (fun e => hn e.symm)).trans (Below.heap_alloc _ _ _ hk)
          have hB4 : Below w.heap.size w w4 := (bal hB3 _).grown g2 (by simp; omega) (fun k hk => by have := (hA1 k hk).1; omega)
          have hF4 := HF.out.loc updO (fun q hq => hB4.block q (HF.out.lt q hq))
          have n3 := flat_srcs (k := k) (m := z.length - k) (o := k * 4) hF4.elen hF4.row hF4.clen rfl
          have o3 := flat_onesU2 hF4 k (z.length - k)
          have HF4 := Lib.hid hF4
          clear hF4 g2 loc2 r1 r1'
          go_wp2_with (at_builtin; refine wpList_append_src _ rfl _ _ 24 rfl w.heap.size 119 i0 (.agg #[.slice none 0 0, .int .i64 0, .int .i64 0, .int .i64 0]) 4 48 Try.underlying24 hi hz0 hz1 hz2 rfl (by decide) _ _ _ rfl r2 (some ⟨g0, k * 4, none⟩) (z.length - k) (c - k) ((css.drop k).take (z.length - k)).flatten rfl l3 (fun h => by cases h) n3 o3 (by unfold maxLen; omega) (by omega) (by omega) ?_)
          intro v3 w5 r3 g3 loc3
          obtain ⟨A3, c3, rfl⟩ := own_slice r3
          rw [ownBlock_slice] at g3
          have hs5 := g3.size
          have hA3 : ∀ k, blk A3 = some k → (blk A1 = some k ∨ w3.heap.size ≤ k) ∧ k < w5.heap.size := fun k hk => ⟨(loc3 k (by rw [ownBlock_slice]; exact hk)).elim (fun h => (hA2 k (by rw [ownBlock_slice] at h; exact h)).1) (fun h => .inr (by omega)), (World.ownsRow.lt r3 k (by rw [ownBlock_slice]; exact hk)).2⟩
          have b35 : ∀ k, k < w3.heap.size → blk A1 ≠ some k → w5.heap[k]? = w3.heap[k]? := fun k hk hn => (g3.block k (by omega) (fun e => (hA2 k e.symm).1.elim (fun h => hn h) (fun h => by omega))).trans (b34 k hk hn)
          have hB5 : Below w.heap.size w w5 := hB4.grown g3 (by omega) (fun k hk => (hA2 k hk).1.elim (fun h => by have := (hA1 k h).1; omega) (fun h => by omega))
          have hF5 := HF.out.loc updO (fun q hq => hB5.block q (HF.out.lt q hq))
          have hTq : ∀ q, news w2 w3 q → blk A1 ≠ some q := fun q hq e => by have := (hA1 q e).2; have := hq.1; omega
          have hel0 : UpdO w3 (news w2 w3) [.slice RA' r.length rc', .int .i64 p, .int .i64 q, .int .i64 x] ((r, (p, q)), x) := UpdO.mk (fun k hk => hk.2) (fun q hq => by
            rcases ownsRow_form ho with ⟨e, _⟩ | ⟨g, e, hg1, hg2, _⟩
            · rw [e] at hq; cases hq
            · rw [e] at hq; simp [blk] at hq; subst hq; exact ⟨hg1, hg2⟩) (ho.mono (Nat.zero_le _))
          have hel := updO.loc hel0 (w' := w5) (fun q hq => b35 q hq.2 (hTq q hq))
          have hlen3 : k + 1 + (z.length - k) = z.length + 1 := by omega
          have htail : ((css.drop k).take (z.length - k)).flatten = (css.drop k).flatten := by
            rw [List.take_of_length_le (by rw [List.length_drop, hF5.clen]; exact Nat.le_refl _)]
          rw [hlen3, htail] at r3
          have r3' : w5.ownsRow 0 119 4 (.slice A3 (z.length + 1) c3) (z.length + 1) ((css.take k).flatten ++ [.slice RA' r.length rc', .int .i64 p, .int .i64 q, .int .i64 x] ++ (css.drop k).flatten) := by have := ownsRow_base0 r3; simpa using this
          have hsp := hF5.splice (U := plus S w w5) updO (by omega : k ≤ z.length) hel (fun q h1 h2 => by have := h1.1; have := HF.out.lt q h2; omega) r3' (fun q hq => by
            have h3 := hA3 q hq
            have h4 : w.heap.size ≤ q := (World.ownsRow.lt r3 q (by rw [ownBlock_slice]; exact hq)).1
            refine ⟨fun h => by have := HF.out.lt q h; omega, fun h => ?_⟩
            rcases h3.1 with h5 | h5
            · exact hTq q h h5
            · have := h.2; omega) (fun q hq => by
            rcases hq with hq | hq | hq
            · exact .inl hq
            · exact .inr ⟨by have := hq.1; omega, by have := hq.2; omega⟩
            · exact .inr ⟨(World.ownsRow.lt r3 q (by rw [ownBlock_slice]; exact hq)).1, (hA3 q hq).2⟩) (fun q hq => by
            rcases hq with hq | hq
            · have := HF.out.lt q hq; omega
            · exact hq.2)
          rw [← HI.out] at hsp
          have HSP := Lib.hid hsp
          have HG : Hid (GrownS w w5 S) := GrownS.ofBelow hB5
          have HLn : Hid ((insK ltU z (r, (p, q)) x).length = k + 1 + (z.length - k)) := by rw [HI.out]; simp [Hid]; omega
          clear hsp hel hel0 hTq hF5 hB5 b35 hA3 g3 loc3 r3 r3' r2 hA2 b34 hB4 hB3 b23 ho hB2 b12 hA1 htail l1 l3 o3 n3
          go_wp2
          go_ret
          exact ⟨A3, c3, by rw [HLn.out]; first | rfl | simp, ⟨_, _, HSP.out⟩, HG.out⟩
    · have hkz : k = z.length := by omega
      have hlz : (z.length : Int) ≤ k := by omega
      obtain ⟨i1, i2⟩ := insK_at updTot HS.out (w := x) hkn HL.out (fun j hj h2 => absurd hj (by omega))
      have hins := i2 (fun h => absurd h hlt)
      have HI := Lib.hid hins
      have hlc : (k : Int) ≤ c := by omega
      clear hins i1 i2 hkz
      go_wp2_with fail
      refine wp_region_quiet_below (by kernel_rfl) (by kernel_rfl) ?_
      repeat (go_big_quiet_step (fail))
      refine wpQuiet_nil ?_
      intro wq hwq
      obtain ⟨⟨dq, osq⟩, rfl⟩ := hwq
      have hb := below_regrown wr dq osq
      have hbz := btr hbel hb
      have hkb := hk.below hb
      generalize grow (redrawn wr dq) osq = wz at hb hbz hkb
      clear u0 u1 u2 u3
      have hkq := hkb
      clear hkb hb
      go_wp2_with fail
      refine wp_region_quiet_below (by kernel_rfl) (by kernel_rfl) ?_
      repeat (go_big_quiet_step (fail))
      refine wpQuiet_nil ?_
      intro wq hwq
      obtain ⟨⟨dq, osq⟩, rfl⟩ := hwq
      have hb := below_regrown wz dq osq
      have hB := btr hbz hb
      have hkb := hkq.below hb
      generalize grow (redrawn wz dq) osq = w1 at hb hB hkb
      clear hkq
      by_cases hck : c = k
      · subst hck
        have hF1 := HF.out.loc updO (fun q hq => hB.block q (HF.out.lt q hq))
        have hF1a : SlF UpdO 4 119 (w1.alloc (.cells #[] 119)) S _ c z css F := hF1.loc updO (fun q hq => Below.heap_alloc _ _ _ (hF1.lt q hq))
        have hs1 := hB.size
        have l1 : (css.take c).flatten.length = c * 4 := by rw [flat_len (sz := 4) (fun q hq => hF1.elen q (List.mem_of_mem_take hq)), List.length_take, Nat.min_eq_left (by rw [hF1.clen]; omega)]
        have l3 : ((css.drop c).take (z.length - c)).flatten.length = (z.length - c) * 4 := by rw [flat_len (sz := 4) (fun q hq => hF1.elen q (List.mem_of_mem_drop (List.mem_of_mem_take hq))), List.length_take, List.length_drop, hF1.clen, Nat.min_self]
        have o1 := flat_onesU2 hF1a 0 c
        have n1 := flat_srcs (k := 0) (m := c) (o := 0) hF1a.elen hF1a.row hF1a.clen (by simp)
        simp only [List.drop_zero] at o1 n1
        have rl1 : (w1.alloc (.cells #[] 119)).ownsRow w.heap.size 119 4 (.slice (some ⟨w1.heap.size, 0, none⟩) 0 0) 0 [] := World.ownsRow_lit w1 #[] 0 hs1 (by simp [maxLen]) (by simp)
        have HF1 := Lib.hid hF1
        clear hF1 hF1a
        go_wp2_with (at_builtin; refine wpList_append_src _ rfl _ _ 24 rfl w.heap.size 119 i0 (.agg #[.slice none 0 0, .int .i64 0, .int .i64 0, .int .i64 0]) 4 48 Try.underlying24 hi hz0 hz1 hz2 rfl (by decide) _ _ _ rfl rl1 (some ⟨g0, 0, none⟩) c c (css.take c).flatten rfl l1 (fun h => by cases h) n1 o1 (by unfold maxLen; omega) (by omega) (by simp; omega) ?_)
        intro v1 w2 r1 g1 loc1
        obtain ⟨A1, c1, rfl⟩ := own_slice r1
        have b12 : Below w1.heap.size w1 w2 := (bal (Below.refl _ _) _).grown g1 (by simp) (fun k hk => by simp [Value.ownBlock] at hk; omega)
        have hB2 := btr hB b12
        have hA1 : ∀ k, blk A1 = some k → w1.heap.size ≤ k ∧ k < w2.heap.size := fun k hk => ⟨(loc1 k (by rw [ownBlock_slice]; exact hk)).elim (fun h => by simp [Value.ownBlock] at h; omega) (fun h => by first | omega | (simp at h; omega)), (World.ownsRow.lt r1 k (by rw [ownBlock_slice]; exact hk)).2⟩
        have hs2 := b12.size
        clear loc1 g1 rl1 o1 n1
        have hk2 := hkb.below b12
        have v0 := hk2.cell 0
        have v1' := hk2.cell 1
        have v2' := hk2.cell 2
        have v3' := hk2.cell 3
        simp at v0 v1' v2' v3'
        go_wp2_with fail
        refine (copyUpdate_s _ _ _ _ _ _ _ (hy.below hB2) hm).mono ?_
        rintro e w3 ⟨RA', rc', rfl, ho, b23⟩
        have r1' : w3.ownsRow w.heap.size 119 4 (.slice A1 c c1) c (css.take c).flatten := ownsRow_loc r1 (fun k hk => b23.block k (hA1 k hk).2)
        have hB3 := btr hB2 b23
        have hs3 := b23.size
        go_wp2_with (at_builtin; refine wpList_append_src _ rfl _ _ 24 rfl w.heap.size 119 i0 (.agg #[.slice none 0 0, .int .i64 0, .int .i64 0, .int .i64 0]) 4 48 Try.underlying24 hi hz0 hz1 hz2 rfl (by decide) _ _ _ rfl (r1'.alloc _) (some ⟨w3.heap.size, 0, none⟩) 1 1 [.slice RA' r.length rc', .int .i64 p, .int .i64 q, .int .i64 x] rfl rfl (fun h => by cases h) upd_srcs upd_ones (by unfold maxLen; omega) (by omega) (by simp; omega) ?_)
        intro v2 w4 r2 g2 loc2
        obtain ⟨A2, c2, rfl⟩ := own_slice r2
        rw [ownBlock_slice] at g2
        have hs4 : w3.heap.size + 1 ≤ w4.heap.size := by have := g2.size; simpa using this
        have hA2 : ∀ k, blk A2 = some k → (blk A1 = some k ∨ w3.heap.size ≤ k) ∧ k < w4.heap.size := fun k hk => ⟨(loc2 k (by rw [ownBlock_slice]; exact hk)).elim (fun h => .inl (by rw [ownBlock_slice] at h; exact h)) (fun h => .inr (by first | omega | (simp at h; omega))), (World.ownsRow.lt r2 k (by rw [ownBlock_slice]; exact hk)).2⟩
        have b34 : ∀ k, k < w3.heap.size → blk A1 ≠ some k → w4.heap[k]? = w3.heap[k]? := fun k hk hn => (g2.block k (by simp; omega) (fun e => hn e.symm)).trans (Below.heap_alloc _ _ _ hk)
        have hB4 : Below w.heap.size w w4 := (bal hB3 _).grown g2 (by simp; omega) (fun k hk => by have := (hA1 k hk).1; omega)
        have hF4 := HF.out.loc updO (fun q hq => hB4.block q (HF.out.lt q hq))
        have n3 := flat_srcs (k := 0) (m := 0) (o := 0) hF4.elen hF4.row hF4.clen (by simp)
        have o3 := flat_onesU2 hF4 c (z.length - c)
        have HF4 := Lib.hid hF4
        clear hF4 g2 loc2 r1 r1'
        go_wp2_with (at_builtin; refine wpList_append_src _ rfl _ _ 24 rfl w.heap.size 119 i0 (.agg #[.slice none 0 0, .int .i64 0, .int .i64 0, .int .i64 0]) 4 48 Try.underlying24 hi hz0 hz1 hz2 rfl (by decide) _ _ _ rfl r2 (some ⟨g0, 0, none⟩) 0 0 [] rfl (by simp) (fun h => by cases h) (fun a h j u hu => by simp at hu) (by simp) (by unfold maxLen; omega) (by omega) (by omega) ?_)
        intro v3 w5 r3 g3 loc3
        obtain ⟨A3, c3, rfl⟩ := own_slice r3
        rw [ownBlock_slice] at g3
        have hs5 := g3.size
        have hA3 : ∀ k, blk A3 = some k → (blk A1 = some k ∨ w3.heap.size ≤ k) ∧ k < w5.heap.size := fun k hk => ⟨(loc3 k (by rw [ownBlock_slice]; exact hk)).elim (fun h => (hA2 k (by rw [ownBlock_slice] at h; exact h)).1) (fun h => .inr (by omega)), (World.ownsRow.lt r3 k (by rw [ownBlock_slice]; exact hk)).2⟩
        have b35 : ∀ k, k < w3.heap.size → blk A1 ≠ some k → w5.heap[k]? = w3.heap[k]? := fun k hk hn => (g3.block k (by omega) (fun e => (hA2 k e.symm).1.elim (fun h => hn h) (fun h => by omega))).trans (b34 k hk hn)
        have hB5 : Below w.heap.size w w5 := hB4.grown g3 (by omega) (fun k hk => (hA2 k hk).1.elim (fun h => by have := (hA1 k h).1; omega) (fun h => by omega))
        have hF5 := HF.out.loc updO (fun q hq => hB5.block q (HF.out.lt q hq))
        have hTq : ∀ q, news w2 w3 q → blk A1 ≠ some q := fun q hq e => by have := (hA1 q e).2; have := hq.1; omega
        have hel0 : UpdO w3 (news w2 w3) [.slice RA' r.length rc', .int .i64 p, .int .i64 q, .int .i64 x] ((r, (p, q)), x) := UpdO.mk (fun k hk => hk.2) (fun q hq => by
          rcases ownsRow_form ho with ⟨e, _⟩ | ⟨g, e, hg1, hg2, _⟩
          · rw [e] at hq; cases hq
          · rw [e] at hq; simp [blk] at hq; subst hq; exact ⟨hg1, hg2⟩) (ho.mono (Nat.zero_le _))
        have hel := updO.loc hel0 (w' := w5) (fun q hq => b35 q hq.2 (hTq q hq))
        have hlen3 : c + 1 + 0 = z.length + 1 := by omega
        have htail : ([] : List Value) = (css.drop c).flatten := by
          rw [List.drop_eq_nil_of_le (by rw [hF5.clen]; omega)]; rfl
        rw [hlen3, htail] at r3
        have r3' : w5.ownsRow 0 119 4 (.slice A3 (z.length + 1) c3) (z.length + 1) ((css.take c).flatten ++ [.slice RA' r.length rc', .int .i64 p, .int .i64 q, .int .i64 x] ++ (css.drop c).flatten) := by have := ownsRow_base0 r3; simpa using this
        have hsp := hF5.splice (U := plus S w w5) updO (by omega : c ≤ z.length) hel (fun q h1 h2 => by have := h1.1; have := HF.out.lt q h2; omega) r3' (fun q hq => by
          have h3 := hA3 q hq
          have h4 : w.heap.size ≤ q := (World.ownsRow.lt r3 q (by rw [ownBlock_slice]; exact hq)).1
          refine ⟨fun h => by have := HF.out.lt q h; omega, fun h => ?_⟩
          rcases h3.1 with h5 | h5
          · exact hTq q h h5
          · have := h.2; omega) (fun q hq => by
          rcases hq with hq | hq | hq
          · exact .inl hq
          · exact .inr ⟨by have := hq.1; omega, by have := hq.2; omega⟩
          · exact .inr ⟨(World.ownsRow.lt r3 q (by rw [ownBlock_slice]; exact hq)).1, (hA3 q hq).2⟩) (fun q hq => by
          rcases hq with hq | hq
          · have := HF.out.lt q hq; omega
          · exact hq.2)
        rw [← HI.out] at hsp
        have HSP := Lib.hid hsp
        have HG : Hid (GrownS w w5 S) := GrownS.ofBelow hB5
        have HLn : Hid ((insK ltU z (r, (p, q)) x).length = c + 1 + 0) := by rw [HI.out]; simp [Hid]; omega
        clear hsp hel hel0 hTq hF5 hB5 b35 hA3 g3 loc3 r3 r3' r2 hA2 b34 hB4 hB3 b23 ho hB2 b12 hA1 htail l1 l3 o3 n3
        go_wp2
        go_ret
        exact ⟨A3, c3, by rw [HLn.out]; first | rfl | simp, ⟨_, _, HSP.out⟩, HG.out⟩
      · skip
        have hF1 := HF.out.loc updO (fun q hq => hB.block q (HF.out.lt q hq))
        have hF1a : SlF UpdO 4 119 (w1.alloc (.cells #[] 119)) S _ c z css F := hF1.loc updO (fun q hq => Below.heap_alloc _ _ _ (hF1.lt q hq))
        have hs1 := hB.size
        have l1 : (css.take k).flatten.length = k * 4 := by rw [flat_len (sz := 4) (fun q hq => hF1.elen q (List.mem_of_mem_take hq)), List.length_take, Nat.min_eq_left (by rw [hF1.clen]; omega)]
        have l3 : ((css.drop k).take (z.length - k)).flatten.length = (z.length - k) * 4 := by rw [flat_len (sz := 4) (fun q hq => hF1.elen q (List.mem_of_mem_drop (List.mem_of_mem_take hq))), List.length_take, List.length_drop, hF1.clen, Nat.min_self]
        have o1 := flat_onesU2 hF1a 0 k
        have n1 := flat_srcs (k := 0) (m := k) (o := 0) hF1a.elen hF1a.row hF1a.clen (by simp)
        simp only [List.drop_zero] at o1 n1
        have rl1 : (w1.alloc (.cells #[] 119)).ownsRow w.heap.size 119 4 (.slice (some ⟨w1.heap.size, 0, none⟩) 0 0) 0 [] := World.ownsRow_lit w1 #[] 0 hs1 (by simp [maxLen]) (by simp)
        have HF1 := Lib.hid hF1
        clear hF1 hF1a
        go_wp2_with (at_builtin; refine wpList_append_src _ rfl _ _ 24 rfl w.heap.size 119 i0 (.agg #[.slice none 0 0, .int .i64 0, .int .i64 0, .int .i64 0]) 4 48 Try.underlying24 hi hz0 hz1 hz2 rfl (by decide) _ _ _ rfl rl1 (some ⟨g0, 0, none⟩) k c (css.take k).flatten rfl l1 (fun h => by cases h) n1 o1 (by unfold maxLen; omega) (by omega) (by simp; omega) ?_)
        intro v1 w2 r1 g1 loc1
        obtain ⟨A1, c1, rfl⟩ := own_slice r1
        have b12 : Below w1.heap.size w1 w2 := (bal (Below.refl _ _) _).grown g1 (by simp) (fun k hk => by simp [Value.ownBlock] at hk; omega)
        have hB2 := btr hB b12
        have hA1 : ∀ k, blk A1 = some k → w1.heap.size ≤ k ∧ k < w2.heap.size := fun k hk => ⟨(loc1 k (by rw [ownBlock_slice]; exact hk)).elim (fun h => by simp [Value.ownBlock] at h; omega) (fun h => by first | omega | (simp at h; omega)), (World.ownsRow.lt r1 k (by rw [ownBlock_slice]; exact hk)).2⟩
        have hs2 := b12.size
        clear loc1 g1 rl1 o1 n1
        have hk2 := hkb.below b12
        have v0 := hk2.cell 0
        have v1' := hk2.cell 1
        have v2' := hk2.cell 2
        have v3' := hk2.cell 3
        simp at v0 v1' v2' v3'
        go_wp2_with fail
        refine (copyUpdate_s _ _ _ _ _ _ _ (hy.below hB2) hm).mono ?_
        rintro e w3 ⟨RA', rc', rfl, ho, b23⟩
        have r1' : w3.ownsRow w.heap.size 119 4 (.slice A1 k c1) k (css.take k).flatten := ownsRow_loc r1 (fun k hk => b23.block k (hA1 k hk).2)
        have hB3 := btr hB2 b23
        have hs3 := b23.size
        go_wp2_with (at_builtin; refine wpList_append_src _ rfl _ _ 24 rfl w.heap.size 119 i0 (.agg #[.slice none 0 0, .int .i64 0, .int .i64 0, .int .i64 0]) 4 48 Try.underlying24 hi hz0 hz1 hz2 rfl (by decide) _ _ _ rfl (r1'.alloc _) (some ⟨w3.heap.size, 0, none⟩) 1 1 [.slice RA' r.length rc', .int .i64 p, .int .i64 q, .int .i64 x] rfl rfl (fun h => by cases h) upd_srcs upd_ones (by unfold maxLen; omega) (by omega) (by simp; omega) ?_)
        intro v2 w4 r2 g2 loc2
        obtain ⟨A2, c2, rfl⟩ := own_slice r2
        rw [ownBlock_slice] at g2
        have hs4 : w3.heap.size + 1 ≤ w4.heap.size := by have := g2.size; simpa using this
        have hA2 : ∀ k, blk A2 = some k → (blk A1 = some k ∨ w3.heap.size ≤ k) ∧ k < w4.heap.size := fun k hk => ⟨(loc2 k (by rw [ownBlock_slice]; exact hk)).elim (fun h => .inl (by rw [ownBlock_slice] at h; exact h)) (fun h => .inr (by first | omega | (simp at h; omega))), (World.ownsRow.lt r2 k (by rw [ownBlock_slice]; exact hk)).2⟩
        have b34 : ∀ k, k < w3.heap.size → blk A1 ≠ some k → w4.heap[k]? = w3.heap[k]? := fun k hk hn => (g2.block k (by simp; omega) (fun e => hn e.symm)).trans (Below.heap_alloc _ _ _ hk)
        have hB4 : Below w.heap.size w w4 := (bal hB3 _).grown g2 (by simp; omega) (fun k hk => by have := (hA1 k hk).1; omega)
        have hF4 := HF.out.loc updO (fun q hq => hB4.block q (HF.out.lt q hq))
        have n3 := flat_srcs (k := k) (m := z.length - k) (o := k * 4) hF4.elen hF4.row hF4.clen rfl
        have o3 := flat_onesU2 hF4 k (z.length - k)
        have HF4 := Lib.hid hF4
        clear hF4 g2 loc2 r1 r1'
        go_wp2_with (at_builtin; refine wpList_append_src _ rfl _ _ 24 rfl w.heap.size 119 i0 (.agg #[.slice none 0 0, .int .i64 0, .int .i64 0, .int .i64 0]) 4 48 Try.underlying24 hi hz0 hz1 hz2 rfl (by decide) _ _ _ rfl r2 (some ⟨g0, k * 4, none⟩) (z.length - k) (c - k) ((css.drop k).take (z.length - k)).flatten rfl l3 (fun h => by cases h) n3 o3 (by unfold maxLen; omega) (by omega) (by omega) ?_)
        intro v3 w5 r3 g3 loc3
        obtain ⟨A3, c3, rfl⟩ := own_slice r3
        rw [ownBlock_slice] at g3
        have hs5 := g3.size
        have hA3 : ∀ k, blk A3 = some k → (blk A1 = some k ∨ w3.heap.size ≤ k) ∧ k < w5.heap.size := fun k hk => ⟨(loc3 k (by rw [ownBlock_slice]; exact hk)).elim (fun h => (hA2 k (by rw [ownBlock_slice] at h; exact h)).1) (fun h => .inr (by omega)), (World.ownsRow.lt r3 k (by rw [ownBlock_slice]; exact hk)).2⟩
        have b35 : ∀ k, k < w3.heap.size → blk A1 ≠ some k → w5.heap[k]? = w3.heap[k]? := fun k hk hn => (g3.block k (by omega) (fun e => (hA2 k e.symm).1.elim (fun h => hn h) (fun h => by omega))).trans (b34 k hk hn)
        have hB5 : Below w.heap.size w w5 := hB4.grown g3 (by omega) (fun k hk => (hA2 k hk).1.elim (fun h => by have := (hA1 k h).1; omega) (fun h => by omega))
        have hF5 := HF.out.loc updO (fun q hq => hB5.block q (HF.out.lt q hq))
        have hTq : ∀ q, news w2 w3 q → blk A1 ≠ some q := fun q hq e => by have := (hA1 q e).2; have := hq.1; omega
        have hel0 : UpdO w3 (news w2 w3) [.slice RA' r.length rc', .int .i64 p, .int .i64 q, .int .i64 x] ((r, (p, q)), x) := UpdO.mk (fun k hk => hk.2) (fun q hq => by
          rcases ownsRow_form ho with ⟨e, _⟩ | ⟨g, e, hg1, hg2, _⟩
          · rw [e] at hq; cases hq
          · rw [e] at hq; simp [blk] at hq; subst hq; exact ⟨hg1, hg2⟩) (ho.mono (Nat.zero_le _))
        have hel := updO.loc hel0 (w' := w5) (fun q hq => b35 q hq.2 (hTq q hq))
        have hlen3 : k + 1 + (z.length - k) = z.length + 1 := by omega
        have htail : ((css.drop k).take (z.length - k)).flatten = (css.drop k).flatten := by
          rw [List.take_of_length_le (by rw [List.length_drop, hF5.clen]; exact Nat.le_refl _)]
        rw [hlen3, htail] at r3
        have r3' : w5.ownsRow 0 119 4 (.slice A3 (z.length + 1) c3) (z.length + 1) ((css.take k).flatten ++ [.slice RA' r.length rc', .int .i64 p, .int .i64 q, .int .i64 x] ++ (css.drop k).flatten) := by have := ownsRow_base0 r3; simpa using this
        have hsp := hF5.splice (U := plus S w w5) updO (by omega : k ≤ z.length) hel (fun q h1 h2 => by have := h1.1; have := HF.out.lt q h2; omega) r3' (fun q hq => by
          have h3 := hA3 q hq
          have h4 : w.heap.size ≤ q := (World.ownsRow.lt r3 q (by rw [ownBlock_slice]; exact hq)).1
          refine ⟨fun h => by have := HF.out.lt q h; omega, fun h => ?_⟩
          rcases h3.1 with h5 | h5
          · exact hTq q h h5
          · have := h.2; omega) (fun q hq => by
          rcases hq with hq | hq | hq
          · exact .inl hq
          · exact .inr ⟨by have := hq.1; omega, by have := hq.2; omega⟩
          · exact .inr ⟨(World.ownsRow.lt r3 q (by rw [ownBlock_slice]; exact hq)).1, (hA3 q hq).2⟩) (fun q hq => by
          rcases hq with hq | hq
          · have := HF.out.lt q hq; omega
          · exact hq.2)
        rw [← HI.out] at hsp
        have HSP := Lib.hid hsp
        have HG : Hid (GrownS w w5 S) := GrownS.ofBelow hB5
        have HLn : Hid ((insK ltU z (r, (p, q)) x).length = k + 1 + (z.length - k)) := by rw [HI.out]; simp [Hid]; omega
        clear hsp hel hel0 hTq hF5 hB5 b35 hA3 g3 loc3 r3 r3' r2 hA2 b34 hB4 hB3 b23 ho hB2 b12 hA1 htail l1 l3 o3 n3
        go_wp2
        go_ret
        exact ⟨A3, c3, by rw [HLn.out]; first | rfl | simp, ⟨_, _, HSP.out⟩, HG.out⟩
end Go.Proofs.Ythefakiobpijiaa

/- HELPER, no statement of the seat: the model's Consolidate. -/
namespace Go.Proofs.Ythefakiobpijiaa
open Go.RowKit Go.Sort
set_option linter.unusedSimpArgs false
set_option linter.unusedVariables false

/-! ### Sums -/
theorem wIn_insU {z : List Upd} {b x d : Int} (h : wIn z b) (hd : -d ≤ x ∧ x ≤ d) (hd0 : 0 ≤ d) (hb0 : 0 ≤ b) (r : KeyU) : wIn (insK ltU z r x) (b + d) := by
  induction z with
  | nil =>
    intro e he
    simp [insK] at he
    subst he
    simp only
    omega
  | cons y l ih =>
    intro e he
    have hy := h y (by simp)
    have hl : wIn l b := fun q hq => h q (by simp [hq])
    unfold insK at he
    split at he
    · rcases List.mem_cons.1 he with rfl | he
      · omega
      · exact ih hl e he
    · split at he
      · rcases List.mem_cons.1 he with rfl | he
        · simp only; omega
        · have := hl e he; omega
      · rcases List.mem_cons.1 he with rfl | he
        · simp only; omega
        · have := h e he; omega
theorem rows_insU {z : List Upd} {n : Nat} (h : rowsU z n) {r : KeyU} (hr : r.1.length ≤ n) (x : Int) : rowsU (insK ltU z r x) n := by
  intro e he
  rcases insK_key he with h1 | ⟨q, hq, h1⟩
  · rw [h1]; exact hr
  · rw [h1]; exact h q hq
theorem insK_posU (z : List Upd) (r : KeyU) (x : Int) : 0 < (insK ltU z r x).length := by
  cases z with
  | nil => simp [insK]
  | cons y l =>
    unfold insK
    split
    · simp
    · split <;> simp
theorem AddLU_take {a b : List Upd} {k : Nat} (h : k < b.length) : AddLU a (b.take (k + 1)) = insK ltU (AddLU a (b.take k)) b[k].1 b[k].2 := by
  rw [List.take_succ_eq_append_getElem h, AddLU, List.foldl_append]
  rfl
theorem some_of_posU {w : World} {S : Fp} {A : Option Addr} {c : Nat} {z : List Upd} (h : UpdsOw w S A c z) (hp : 0 < z.length) : A ≠ none := by
  obtain ⟨css, F, h⟩ := h
  rcases h.form with ⟨_, _, rfl⟩ | ⟨g, e, _⟩
  · simp at hp
  · rw [e]; simp
theorem wIn_nextU {z : List Upd} {k : Nat} (h : wIn z (1000000 + (k : Int) * 1000000 + 1000000)) : wIn z (1000000 + ((k + 1 : Nat) : Int) * 1000000) := fun e he => by
  have := h e he
  push_cast
  constructor <;> omega

/-! ### The places of what is not zero -/
def nzToU (z : List Upd) (k : Nat) : List Nat := (List.range k).filter fun j => decide ((nthU z j).2 ≠ 0)
theorem nzToU_step {z : List Upd} {k : Nat} (h : k < z.length) : nzToU z (k + 1) = nzToU z k ++ if z[k].2 ≠ 0 then [k] else [] := by
  unfold nzToU
  rw [List.range_succ, List.filter_append]
  congr 1
  by_cases e : z[k].2 = 0 <;> simp [nthU_get h, e]
theorem nzToU_len (z : List Upd) (k : Nat) : (nzToU z k).length ≤ k := by
  have := List.length_filter_le (fun j => decide ((nthU z j).2 ≠ 0)) (List.range k)
  simpa [nzToU] using this
theorem nzToU_lt {z : List Upd} {k j : Nat} (h : j ∈ nzToU z k) : j < k := by
  have := (List.mem_filter.1 h).1
  simpa using this
theorem nzToU_nodup (z : List Upd) (k : Nat) : (nzToU z k).Nodup := List.Pairwise.sublist List.filter_sublist List.nodup_range
theorem nzToU_nz (z : List Upd) : ∀ k, k ≤ z.length → (nzToU z k).map (fun j => z.getD j (([], (0, 0)), 0)) = nz (z.take k) := by
  intro k
  induction k with
  | zero => intro _; rfl
  | succ k ih =>
    intro hk
    have hk' : k < z.length := by omega
    rw [nzToU_step hk', List.map_append, ih (by omega), List.take_succ_eq_append_getElem hk', nz, nz, List.filter_append]
    congr 1
    by_cases e : z[k].2 = 0 <;> simp [e, hk']

set_option maxRecDepth 100000 in
set_option maxHeartbeats 6400000 in
theorem consolidate_w (B : Option Addr) (d : Nat) (b : List Upd) (w : World) (hy : UpdsAt w B b) (hb4 : b.length ≤ 100000) (hbr : rowsU b 10) (hbw : wIn b 1000000) :
    Calls Try.prog 65 #[.slice B b.length d] w fun e w' => ∃ A' c', e = .returned (.slice A' (chkT (nz (NormLU b))).length c') ∧ UpdsOw w' (news w w') A' c' (chkT (nz (NormLU b))) ∧ Below w.heap.size w w' := by
  obtain ⟨i0, hi, hz0, hz1, hz2⟩ := info_parts Try.infoUpd
  have HAA : Hid (Asc ltU ([] : List Upd)) := List.Pairwise.nil
  have hmade := SlF.made UpdO 4 119 w #[] 0 (by simp [maxLen]) (by simp) (S := news w (w.alloc (.cells #[] 119))) ⟨Nat.le_refl _, by simp⟩ (fun k hk => by have := hk.2; simpa using this)
  have HM : Hid (UpdsOw (w.alloc (.cells #[] 119)) (news w (w.alloc (.cells #[] 119))) (some ⟨w.heap.size, 0, none⟩) 0 []) := ⟨_, _, hmade⟩
  clear hmade
  go_enter Try.func65, Try.ntmps65
  go_wp2
  go_loopw [3, 4] (fun v i wr => ∃ k A' c', k ≤ b.length ∧ i = .int .i64 (k : Nat) ∧ v = .slice A' (AddLU [] (b.take k)).length c' ∧ A' ≠ none ∧ UpdsOw wr (news w wr) A' c' (AddLU [] (b.take k)) ∧ (AddLU [] (b.take k)).length ≤ k ∧ rowsU (AddLU [] (b.take k)) 4194304 ∧ wIn (AddLU [] (b.take k)) (1000000 + k * 1000000) ∧ Below w.heap.size w wr) (fun _ i _ => b.length - (intOf i).toNat)
  case atStart => exact ⟨0, some ⟨w.heap.size, 0, none⟩, 0, by omega, rfl, rfl, by simp, HM.out, by simp [AddLU], (fun e he => by cases he), (fun e he => by cases he), bal (Below.refl _ _) _⟩
  case round =>
    obtain ⟨k, A', c', hk, rfl, rfl, hA', hown, hlen, hrows, hwts, hbel⟩ := hrel
    have hs1 := hbel.size
    by_cases hlt : k < b.length
    · obtain ⟨bb, off, RB, rd, rfl, hbl', hc0, hc1, hc2, hc3, hml, hrow⟩ := hy.get k hlt
      have q0 := (hbel.cell (p := ⟨bb, off + k * 4, none⟩) hbl').trans hc0
      have q1 := (hbel.cell (p := ⟨bb, off + k * 4 + 1, none⟩) hbl').trans hc1
      have q2 := (hbel.cell (p := ⟨bb, off + k * 4 + 2, none⟩) hbl').trans hc2
      have q3 := (hbel.cell (p := ⟨bb, off + k * 4 + 3, none⟩) hbl').trans hc3
      have hlt' : (k : Int) < b.length := by omega
      have hst := AddLU_take (a := []) hlt
      have hwk := hbw.get hlt
      have hrk := hbr.get hlt
      have hasc := AddLU_asc HAA.out (b.take k)
      have hl2 := insK_length (lt := ltU) (AddLU [] (b.take k)) b[k].1 b[k].2
      have hp2 := insK_posU (AddLU [] (b.take k)) b[k].1 b[k].2
      have hr2 := rows_insU hrows (r := b[k].1) (by omega) b[k].2
      have hw2 := wIn_insU hwts ⟨hwk.1, hwk.2⟩ (by omega) (by omega) b[k].1
      have hw3 : wIn (AddLU [] (b.take k)) 1099511627776 := fun e he => by have := hwts e he; omega
      have hwk1 : -1099511627776 ≤ b[k].2 := by omega
      have hwk2 : b[k].2 ≤ 1099511627776 := by omega
      have HST := Lib.hid hst
      have HO := Lib.hid hown
      have HR2 := Lib.hid hr2
      have HW2 := Lib.hid hw2
      have HW3 := Lib.hid hw3
      have HASC := Lib.hid hasc
      have HR := Lib.hid hrows
      have HL2 := Lib.hid hl2
      have HP2 := Lib.hid hp2
      clear hst hown hr2 hw2 hw3 hasc hrows hwts hl2 hp2 hc0 hc1 hc2 hc3 hml
      generalize hM : AddLU [] (b.take k) = M at *
      clear hM
      go_wp2_with fail
      refine (addUpdate_s (news w wr) _ _ M _ _ b[k].1.1 b[k].1.2.1 b[k].1.2.2 b[k].2 _ HO.out hA' HASC.out (hrow.below hbel) (by omega) HR.out (by omega) HW3.out hwk1 hwk2).mono ?_
      rintro e w2 ⟨A2, c2, rfl, ho2, g2⟩
      have hs2 := g2.size
      have hb2 := g2.below hbel (fun q hq => hq.1)
      have ho3 : UpdsOw w2 (news w w2) A2 c2 (insK ltU M b[k].1 b[k].2) := ho2.mono (fun q hq => by
        rcases hq with hq | hq
        · exact ⟨hq.1, by have := hq.2; omega⟩
        · exact ⟨by have := hq.1; omega, hq.2⟩) (fun q hq => hq.2)
      have hA2 := some_of_posU ho3 HP2.out
      have HO3 := Lib.hid ho3
      clear ho2 ho3 g2 hbel hrow q0 q1 q2 q3 HO
      go_wp2
      go_roundw
      case rel => exact ⟨k + 1, A2, c2, by omega, by go_num, by rw [HST.out], hA2, by rw [HST.out]; exact HO3.out, by rw [HST.out]; have := HL2.out; omega, by rw [HST.out]; exact HR2.out, by rw [HST.out]; exact wIn_nextU HW2.out, hb2⟩
      case measure => simp [intOf]; omega
    · obtain rfl : k = b.length := by omega
      rw [List.take_length] at hown hlen hrows hwts
      have HT := Lib.hid (List.take_length (l := b))
      simp only [HT.out]
      have hNL : AddLU [] b = NormLU b := rfl
      rw [hNL] at hown hlen hrows ⊢
      clear hwts hNL HAA HM
      generalize hz : NormLU b = z at hown hlen hrows ⊢
      have hn : z.length ≤ 100000 := by omega
      have HZ := Lib.hid hz
      clear hz hlen
      obtain ⟨V, rfl⟩ : ∃ V : World, V = wr := ⟨wr, rfl⟩
      obtain ⟨css, F, hF⟩ := hown
      have hat : UpdsAt V A' z := hF.at_ updO
      have HF := Lib.hid hF
      have hcl := hF.clen
      clear hF
      go_wp2
      go_loopw [5, 6] (fun v i wr => ∃ k A'' c'', k ≤ z.length ∧ i = .int .i64 (k : Nat) ∧ v = .slice A'' (nzToU z k).length c'' ∧ wr.ownsRow V.heap.size 119 4 (.slice A'' (nzToU z k).length c'') (nzToU z k).length ((nzToU z k).map fun j => css.getD j []).flatten ∧ Below V.heap.size V wr) (fun _ i _ => z.length - (intOf i).toNat)
      case atStart => exact ⟨0, _, _, by omega, rfl, rfl, World.ownsRow_lit V #[] 0 (Nat.le_refl _) (by simp [maxLen]) (by simp), bal (Below.refl _ _) _⟩
      case round =>
        obtain ⟨k, A2, c2, hk, rfl, rfl, hown, hb2⟩ := hrel
        by_cases hlt : k < z.length
        · obtain ⟨bb, off, RA, rc, hA, hbl, hc0, hc1, hc2, hc3, -, -⟩ := hat.get k hlt
          subst hA
          have q0 := (hb2.cell (p := ⟨bb, off + k * 4, none⟩) hbl).trans hc0
          have q1 := (hb2.cell (p := ⟨bb, off + k * 4 + 1, none⟩) hbl).trans hc1
          have q2 := (hb2.cell (p := ⟨bb, off + k * 4 + 2, none⟩) hbl).trans hc2
          have q3 := (hb2.cell (p := ⟨bb, off + k * 4 + 3, none⟩) hbl).trans hc3
          have hst := nzToU_step hlt
          have hlen := nzToU_len z k
          have hs2 := hb2.size
          have hlt' : (k : Int) < z.length := by omega
          by_cases hp : z[k].2 = 0
          · have hne : (z[k].2 != 0) = false := by simp [hp]
            rw [if_neg (by simp [hp]), List.append_nil] at hst
            have HST := Lib.hid hst
            have HO := Lib.hid hown
            clear hst hp hc0 hc1 hc2 hc3 hown
            generalize hM : nzToU z k = M at *
            clear hM
            go_wp2
            go_roundw
            case rel => exact ⟨k + 1, A2, c2, by omega, by go_num, by rw [HST.out], by rw [HST.out]; exact HO.out, hb2⟩
            case measure => simp [intOf]; omega
          · have hne : (z[k].2 != 0) = true := by simp [hp]
            rw [if_pos hp] at hst
            have hcs : css.getD k [] = [.slice RA z[k].1.1.length rc, .int .i64 z[k].1.2.1, .int .i64 z[k].1.2.2, .int .i64 z[k].2] := by
              have h1 : k < css.length := by rw [hcl]; exact hlt
              have hform := HF.out.form
              obtain ⟨g, hg⟩ : ∃ g, some (⟨bb, off, none⟩ : Addr) = some ⟨g, 0, none⟩ := by
                rcases hform with ⟨h, _⟩ | ⟨g, h, _⟩
                · cases h
                · exact ⟨g, h⟩
              injection hg with hg
              injection hg with hg1 hg2
              subst hg1
              subst hg2
              have c0 := HF.out.cell k h1 0 (by omega)
              have c1 := HF.out.cell k h1 1 (by omega)
              have c2 := HF.out.cell k h1 2 (by omega)
              have c3 := HF.out.cell k h1 3 (by omega)
              have hl2 := HF.out.elen _ (List.getElem_mem h1)
              simp only [Nat.zero_add, Nat.add_zero] at c0 c1 c2 c3 hc0 hc1 hc2 hc3
              rw [hc0] at c0
              rw [hc1] at c1
              rw [hc2] at c2
              rw [hc3] at c3
              rw [getD_lt _  h1]
              match hm : css[k], hl2 with
              | [u0, u1, u2, u3], _ =>
                rw [hm] at c0 c1 c2 c3
                simp at c0 c1 c2 c3
                rw [c0, c1, c2, c3]
            have HST := Lib.hid hst
            have HCS := Lib.hid hcs
            clear hst hp hc0 hc1 hc2 hc3 hcs
            generalize hM : nzToU z k = M at *
            clear hM
            go_wp2_with (at_builtin; refine wpList_append_src _ rfl _ _ 24 rfl V.heap.size 119 i0 (.agg #[.slice none 0 0, .int .i64 0, .int .i64 0, .int .i64 0]) 4 48 Try.underlying24 hi hz0 hz1 hz2 rfl (by decide) _ _ _ rfl (hown.alloc _) (some ⟨wr.heap.size, 0, none⟩) 1 1 [.slice RA z[k].1.1.length rc, .int .i64 z[k].1.2.1, .int .i64 z[k].1.2.2, .int .i64 z[k].2] rfl rfl (fun h => by cases h) upd_srcs upd_ones (by unfold maxLen; omega) (by omega) (by simp; omega) ?_)
            intro v' w3 hown' hgrow hloc
            obtain ⟨A3, c3, rfl⟩ := own_slice hown'
            have hb3 : Below V.heap.size V w3 := (bal hb2 _).grown hgrow (by simp; omega) (fun q hq => (World.ownsRow.lt hown q hq).1)
            have hrow3 : w3.ownsRow V.heap.size 119 4 (.slice A3 (nzToU z (k + 1)).length c3) (nzToU z (k + 1)).length ((nzToU z (k + 1)).map fun j => css.getD j []).flatten := by
              rw [HST.out]
              simp only [List.length_append, List.length_cons, List.length_nil, Nat.zero_add, List.map_append, List.map_cons, List.map_nil, List.flatten_append, List.flatten_cons, List.flatten_nil, List.append_nil, HCS.out]
              exact hown'
            have HR := Lib.hid hrow3
            have HL : Hid (M.length + 1 = (nzToU z (k + 1)).length) := by rw [HST.out]; simp [Hid]
            clear hown' hgrow hloc hrow3 hown hb2 q0 q1 q2 q3 HCS
            go_wp2
            go_roundw
            case rel => exact ⟨k + 1, A3, c3, by omega, by go_num, by rw [HL.out], HR.out, hb3⟩
            case measure => simp [intOf]; omega
        · obtain rfl : k = z.length := by omega
          have hF2 := HF.out.loc updO (fun q hq => hb2.block q (HF.out.lt q hq))
          have hp := hF2.pick (U := plus (news w V) V wr) updO (([], (0, 0)), 0) (nzToU z z.length) (nzToU_nodup _ _) (fun j hj => nzToU_lt hj) (ownsRow_base0 hown) (fun q hq => .inr (fun h => by
            have h1 := (World.ownsRow.lt hown q (by rw [ownBlock_slice]; exact hq)).1
            have h2 := HF.out.lt q h
            omega)) (fun q hq => by
            rcases hq with hq | hq
            · exact .inl hq
            · exact .inr (World.ownsRow.lt hown q (by rw [ownBlock_slice]; exact hq))) (fun q hq => by
            rcases hq with hq | hq
            · exact hF2.lt q hq
            · exact hq.2)
          have he := nzToU_nz z z.length (Nat.le_refl _)
          rw [List.take_length] at he
          rw [he] at hp
          have HL : Hid ((nzToU z z.length).length = (nz z).length) := by rw [← he]; simp [Hid]
          have hs2 := hb2.size
          have hpo : UpdsOw wr (news w wr) A2 c2 (nz z) := SlOw.mono ⟨_, _, hp⟩ (fun q hq => by
            rcases hq with hq | hq
            · exact ⟨hq.1, by have := hq.2; omega⟩
            · exact ⟨by have := hq.1; omega, hq.2⟩) (fun q hq => hq.2)
          have hatn : UpdsAt wr A2 (nz z) := SlOw.at_ updO hpo
          have hnl : (nz z).length ≤ z.length := List.length_filter_le _ _
          have hnr : rowsU (nz z) 4194304 := fun e he => hrows e (List.mem_filter.1 he).1
          have HP := Lib.hid hpo
          have HB2 := Lib.hid (btr hbel hb2)
          have hcv := validTrace_s A2 c2 (nz z) wr hatn (by omega) hnr
          clear hp he hF2 hown hpo hatn hnr
          simp only [HL.out]
          cases ht : trB (nz z)
          · rw [ht] at hcv
            have HC : Hid (chkT (nz z) = []) := by simp [Hid, chkT, ht]
            clear ht
            go_wp2_with fail
            refine hcv.mono ?_
            rintro e w4 ⟨rfl, b4⟩
            have hB4 := btr HB2.out b4
            have hs4 := hB4.size
            have HM := Lib.hid (SlF.made UpdO 4 119 w4 #[] 0 (by simp [maxLen]) (by simp) (S := news w (w4.alloc (.cells #[] 119))) ⟨hs4, by simp⟩ (fun k hk => by have := hk.2; simpa using this))
            clear hcv
            go_wp2
            go_ret
            exact ⟨_, 0, by rw [HZ.out, HC.out]; rfl, by rw [HZ.out, HC.out]; exact ⟨_, _, HM.out⟩, bal hB4 _⟩
          · rw [ht] at hcv
            have HC : Hid (chkT (nz z) = nz z) := by simp [Hid, chkT, ht]
            clear ht
            go_wp2_with fail
            refine hcv.mono ?_
            rintro e w4 ⟨rfl, b4⟩
            have hs4 := b4.size
            have HP4 := Lib.hid ((SlOw.below updO HP.out b4).mono (S' := news w w4) (fun k hk => ⟨hk.1, Nat.lt_of_lt_of_le hk.2 hs4⟩) (fun k hk => hk.2))
            have hB4 := btr HB2.out b4
            clear hcv HP
            go_wp2
            go_ret
            exact ⟨A2, c2, by rw [HZ.out, HC.out]; rfl, by rw [HZ.out, HC.out]; exact HP4.out, hB4⟩

theorem consolidate_s (B : Option Addr) (d : Nat) (b : List Upd) (w : World) (hy : UpdsAt w B b) (hb4 : b.length ≤ 400) (hb : sumsU b = true) :
    Calls Try.prog 65 #[.slice B b.length d] w fun e w' => ∃ A' c', e = .returned (.slice A' (chkT (nz (NormLU b))).length c') ∧ UpdsOw w' (news w w') A' c' (chkT (nz (NormLU b))) ∧ Below w.heap.size w w' :=
  consolidate_w B d b w hy (by omega) (fun e he => Nat.le_trans (sums_rowsU hb e he) (by decide)) (sums_wtsU hb)
end Go.Proofs.Ythefakiobpijiaa
