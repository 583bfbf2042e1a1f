/- HELPER, no statement of the seat: the model's sum into a sorted list of entries. -/
import Derived.Test.YtifjenleoagefaaGreatZbx
namespace Go.Proofs.YtifjenleoagefaaGreat
open Go.RowKit Go.Sort
set_option linter.unusedSimpArgs false
set_option linter.unusedVariables false

/-- An element more, in the middle, in a new block. -/
theorem SlF.splice {α : Type} {O : Ow α} {R : Rd α} {sz : Nat} {E : TypeId} {w : World} {S T U : Fp} {A A' : Option Addr} {c c' k : Nat} {xs : List α} {css : List (List Value)} {F : Nat → Fp} (ok : OOk O R sz) (h : SlF O sz E w S A c xs css F) (hk : k ≤ xs.length)
    {cs : List Value} {x : α} (hx : O w T cs x) (hd : ∀ q, T q → ¬ S q) (hrow : w.ownsRow 0 E sz (.slice A' (xs.length + 1) c') (xs.length + 1) ((css.take k).flatten ++ cs ++ (css.drop k).flatten))
    (hA : ∀ q, blk A' = some q → ¬ S q ∧ ¬ T q) (hU : ∀ q, S q ∨ T q ∨ blk A' = some q → U q) (hUl : ∀ q, U q → q < w.heap.size) :
    SlF O sz E w U A' c' (xs.take k ++ x :: xs.drop k) (css.take k ++ cs :: css.drop k) (fun j => if j < k then F j else if j = k then T else F (j - 1)) := by
  have hcl := h.clen
  have hl : (xs.take k ++ x :: xs.drop k).length = xs.length + 1 := by simp; omega
  refine ⟨hUl, fun q hq => hU q (.inr (.inr hq)), ?_, by simp [hcl], ?_, ?_, ?_, ?_⟩
  · rw [hl]
    have e : (css.take k ++ cs :: css.drop k).flatten = (css.take k).flatten ++ cs ++ (css.drop k).flatten := by simp
    rw [e]
    exact hrow
  · intro d hd'
    rcases List.mem_append.1 hd' with hd' | hd'
    · exact h.elen d (List.mem_of_mem_take hd')
    · rcases List.mem_cons.1 hd' with rfl | hd'
      · exact ok.len hx
      · exact h.elen d (List.mem_of_mem_drop hd')
  · intro j q hq
    by_cases h1 : j < k
    · rw [if_pos h1] at hq
      have := (h.sub j q hq).1
      exact ⟨hU q (.inl this), fun e => (hA q e).1 this⟩
    · rw [if_neg h1] at hq
      by_cases h2 : j = k
      · rw [if_pos h2] at hq
        exact ⟨hU q (.inr (.inl hq)), fun e => (hA q e).2 hq⟩
      · rw [if_neg h2] at hq
        have := (h.sub _ q hq).1
        exact ⟨hU q (.inl this), fun e => (hA q e).1 this⟩
  · intro i j q hi hj
    have dis : ∀ m, F m q → ¬ T q := fun m hm ht => hd q ht (h.sub m q hm).1
    by_cases i1 : i < k <;> by_cases j1 : j < k
    · rw [if_pos i1] at hi; rw [if_pos j1] at hj; exact h.apart i j q hi hj
    · rw [if_pos i1] at hi
      rw [if_neg j1] at hj
      by_cases j2 : j = k
      · rw [if_pos j2] at hj; exact absurd hj (dis i hi)
      · rw [if_neg j2] at hj; have := h.apart i (j - 1) q hi hj; omega
    · rw [if_pos j1] at hj
      rw [if_neg i1] at hi
      by_cases i2 : i = k
      · rw [if_pos i2] at hi; exact absurd hi (dis j hj)
      · rw [if_neg i2] at hi; have := h.apart (i - 1) j q hi hj; omega
    · rw [if_neg i1] at hi
      rw [if_neg j1] at hj
      by_cases i2 : i = k <;> by_cases j2 : j = k
      · omega
      · rw [if_pos i2] at hi; rw [if_neg j2] at hj; exact absurd hi (dis _ hj)
      · rw [if_neg i2] at hi; rw [if_pos j2] at hj; exact absurd hj (dis _ hi)
      · rw [if_neg i2] at hi; rw [if_neg j2] at hj; have := h.apart _ _ q hi hj; omega
  · intro j g1 g2
    by_cases h1 : j < k
    · rw [if_pos h1, List.getElem_append_left (by simp; omega), List.getElem_append_left (by simp; omega)]
      simp only [List.getElem_take]
      exact h.elt j _ _
    · rw [if_neg h1]
      have e1 : (css.take k).length = k := by simp; omega
      have e2 : (xs.take k).length = k := by simp; omega
      by_cases h2 : j = k
      · subst h2
        rw [if_pos rfl, List.getElem_append_right (by omega), List.getElem_append_right (by omega)]
        simp only [e1, e2, Nat.sub_self, List.getElem_cons_zero]
        exact hx
      · rw [if_neg h2, List.getElem_append_right (by omega), List.getElem_append_right (by omega)]
        obtain ⟨m, rfl⟩ : ∃ m, j = k + 1 + m := ⟨j - (k + 1), by omega⟩
        have e3 : k + 1 + m - (css.take k).length = m + 1 := by omega
        have e4 : k + 1 + m - (xs.take k).length = m + 1 := by omega
        simp only [e3, e4, List.getElem_cons_succ, List.getElem_drop]
        have e5 : k + 1 + m - 1 = k + m := by omega
        rw [e5]
        exact h.elt (k + m) (by simp [hcl] at g1; omega) (by rw [hl] at g2; omega)

/-- The weights are far from the edge of the numbers. -/
def wts (z : List Ent) (b : Int) : Prop := ∀ e ∈ z, -b ≤ e.2 ∧ e.2 ≤ b
theorem wts.get {z : List Ent} {b : Int} (h : wts z b) {k : Nat} (hk : k < z.length) : -b ≤ z[k].2 ∧ z[k].2 ≤ b := h _ (List.getElem_mem hk)

theorem asc_lt {z : List Ent} (h : Asc lessB z) {i j : Nat} (hi : i < z.length) (hj : j < z.length) (hij : i < j) : lessB z[i].1 z[j].1 = true := List.pairwise_iff_getElem.1 h i j hi hj hij
theorem below_of {z : List Ent} (h : Asc lessB z) {r : List Int} {m : Nat} (hm : m < z.length) (hl : lessB z[m].1 r = true) : ∀ j (hj : j < z.length), j < m + 1 → lessB z[j].1 r = true := fun j hj hlt => by
  by_cases e : j = m
  · subst e; exact hl
  · exact rowTot.trans _ _ _ (asc_lt h hj hm (by omega)) hl
theorem above_of {z : List Ent} (h : Asc lessB z) {r : List Int} {m : Nat} (hm : m < z.length) (hl : lessB z[m].1 r = false) : ∀ j (hj : j < z.length), m ≤ j → lessB z[j].1 r = false := fun j hj hle => by
  by_cases e : j = m
  · subst e; exact hl
  · cases hc : lessB z[j].1 r with
    | false => rfl
    | true => have := rowTot.trans _ _ _ (asc_lt h hm hj (by omega)) hc; rw [hl] at this; cases this

/-- The blocks of S, and those that have come since w. -/
def plus (S : Fp) (w w' : World) : Fp := fun q => S q ∨ news w w' q
theorem flat_srcs {w : World} {E : TypeId} {sz c n k m : Nat} {g o : Nat} {css : List (List Value)} (he : ∀ cs ∈ css, cs.length = sz) (hr : w.ownsRow 0 E sz (.slice (some ⟨g, 0, none⟩) n c) n css.flatten) (hl : css.length = n) (ho : o = k * sz) :
    ∀ a, some (⟨g, o, none⟩ : Addr) = some a → ∀ j u, ((css.drop k).take m).flatten[j]? = some u → w.cell? (a.add j) = some u := by
  intro a e j u hu
  injection e with e
  subst e
  subst ho
  have ha : (⟨g, k * sz, none⟩ : Addr).add j = ⟨g, k * sz + j, none⟩ := by unfold Addr.add; by_cases h0 : j = 0 <;> simp [h0]
  rw [ha]
  have hkn : k ≤ css.length := by
    rcases Nat.lt_or_ge css.length k with h | h
    · rw [List.drop_eq_nil_of_le (by omega)] at hu; simp at hu
    · exact h
  have hsplit : css.flatten = (css.take k).flatten ++ (((css.drop k).take m).flatten ++ ((css.drop k).drop m).flatten) := by
    rw [← List.flatten_append, List.take_append_drop, ← List.flatten_append, List.take_append_drop]
  have hfl : (css.take k).flatten.length = k * sz := by
    rw [flat_len (sz := sz) (fun c hc => he c (List.mem_of_mem_take hc)), List.length_take, Nat.min_eq_left hkn]
  have hj : j < ((css.drop k).take m).flatten.length := by
    rcases Nat.lt_or_ge j ((css.drop k).take m).flatten.length with h | h
    · exact h
    · rw [List.getElem?_eq_none h] at hu; cases hu
  have hin : k * sz + j < n * sz := by
    have h1 := hr.1
    rw [hsplit] at h1
    simp only [List.length_append, hfl] at h1
    omega
  have := World.ownsRow.cellAt hr (k * sz + j) hin
  rw [this, hsplit, List.getElem?_append_right (by omega), hfl, Nat.add_sub_cancel_left, List.getElem?_append_left hj]
  exact hu
theorem flat_ones {w : World} {S : Fp} {A : Option Addr} {c : Nat} {es : List Ent} {css : List (List Value)} {F : Nat → Fp} (h : SlF EntO 2 33 w S A c es css F) : ∀ cs ∈ css, ∀ u ∈ cs, u.oneCell' = true := by
  intro cs hcs u hu
  obtain ⟨j, hj, rfl⟩ := List.getElem_of_mem hcs
  exact entO.one (h.elt j hj (by rw [← h.clen]; exact hj)) u hu
theorem flat_ones2 {w : World} {S : Fp} {A : Option Addr} {c : Nat} {es : List Ent} {css : List (List Value)} {F : Nat → Fp} (h : SlF EntO 2 33 w S A c es css F) (k m : Nat) : ∀ u ∈ ((css.drop k).take m).flatten, u.oneCell' = true := by
  intro u hu
  obtain ⟨cs, hcs, hu⟩ := List.mem_flatten.1 hu
  exact flat_ones h cs (List.mem_of_mem_drop (List.mem_of_mem_take hcs)) u hu

set_option maxRecDepth 100000 in
set_option maxHeartbeats 6400000 in
theorem addEntry_s (S : Fp) (A : Option Addr) (c : Nat) (z : List Ent) (B : Option Addr) (d : Nat) (r : List Int) (x : Int) (w : World) (hz : EntsOw w S A c z) (hA : A ≠ none) (hasc : Asc lessB z) (hy : IntsAt w B r) (hn : z.length ≤ 4194302) (hr : rowsIn z 4194304) (hm : r.length ≤ 4194304) (hw : wts z 1099511627776) (hx0 : -1099511627776 ≤ x) (hx1 : x ≤ 1099511627776) :
    Calls Tryz.prog 31 #[.slice A z.length c, .slice B r.length d, .int .i64 x] w fun e w' => ∃ A' c', e = .returned (.slice A' (insK lessB z r x).length c') ∧ EntsOw w' (plus S w w') A' c' (insK lessB z r x) ∧ GrownS w w' S := by
  obtain ⟨i0, hi, hz0, hz1, hz2⟩ := info_parts Tryz.infoEnt
  obtain ⟨css, F, hF⟩ := hz
  have hat : EntsAt w A z := hF.at_ entO
  have HF := Lib.hid hF
  have HS := Lib.hid hasc
  clear hF hasc
  go_enter Tryz.func31, Tryz.ntmps31
  go_wp2
  go_loopw [7, 8, 9] (fun lo hi _ wr => ∃ l h : Nat, lo = .int .i64 l ∧ hi = .int .i64 h ∧ l ≤ h ∧ h ≤ z.length ∧ (∀ j (hj : j < z.length), j < l → lessB z[j].1 r = true) ∧ (∀ j (hj : j < z.length), h ≤ j → lessB z[j].1 r = false) ∧ Below w.heap.size w wr) (fun lo hi _ _ => (intOf hi).toNat - (intOf lo).toNat)
  case atStart => exact ⟨0, z.length, rfl, rfl, by omega, by omega, fun j _ h => by omega, fun j h h2 => by omega, Below.refl _ _⟩
  case round =>
    obtain ⟨l, h, rfl, rfl, hlh, hhn, hlo, hhi, hbel⟩ := hrel
    have HL := Lib.hid hlo
    have HH := Lib.hid hhi
    clear hlo hhi
    by_cases hlt : l < h
    · obtain ⟨m, hm1, hm2, hm3⟩ : ∃ m : Nat, ((l : Int) + h) / 2 = m ∧ l ≤ m ∧ m < h := ⟨(l + h) / 2, by omega, by omega, by omega⟩
      have hmz : m < z.length := by omega
      obtain ⟨b, off, RA, rc, hA, hbl, hc0, hc1, -, hrow⟩ := hat.get m hmz
      subst hA
      have q0 := (hbel.cell (p := ⟨b, off + m * 2, none⟩) hbl).trans hc0
      have q1 := (hbel.cell (p := ⟨b, off + m * 2 + 1, none⟩) hbl).trans hc1
      have hrl := hr.get hmz
      have hcon := rowLess_s RA B rc d z[m].1 r wr (hrow.below hbel) (hy.below hbel) (by omega) (by omega)
      clear hc0 hc1
      by_cases hc : lessB z[m].1 r = true
      · have HB2 := Lib.hid (below_of HS.out hmz hc)
        rw [hc] at hcon
        clear hc
        go_wp2_with fail
        refine hcon.mono ?_
        rintro e w1 ⟨rfl, hb⟩
        clear hcon q0 q1
        go_wp2
        go_roundw
        case rel => exact ⟨m + 1, h, by go_num, rfl, by omega, hhn, HB2.out, HH.out, btr hbel hb⟩
        case measure => simp [intOf]; omega
      · have hc' : lessB z[m].1 r = false := by simpa using hc
        have HB2 := Lib.hid (above_of HS.out hmz hc')
        rw [hc'] at hcon
        clear hc hc'
        go_wp2_with fail
        refine hcon.mono ?_
        rintro e w1 ⟨rfl, hb⟩
        clear hcon q0 q1
        go_wp2
        go_roundw
        case rel => exact ⟨l, m, rfl, by first | rfl | go_num, by omega, by omega, HL.out, HB2.out, btr hbel hb⟩
        case measure => simp [intOf]; omega
    · obtain rfl : l = h := by omega
      obtain ⟨i1, i2⟩ := insK_at rowTot HS.out (w := x) hhn HL.out HH.out
      have HL := Lib.hid HL
      clear HH
      have hbase1 := hbel.size
      by_cases hln : l < z.length
      · obtain ⟨b, off, RA, rc, hA, hbl, hc0, hc1, -, hrow⟩ := hat.get l hln
        have hform := HF.out.form
        rw [hA] at hform
        obtain ⟨g, hg, hSg, hgl, hnc, hcm⟩ : ∃ g, some (⟨b, off, none⟩ : Addr) = some ⟨g, 0, none⟩ ∧ S g ∧ g < w.heap.size ∧ z.length ≤ c ∧ c ≤ maxLen := by
          rcases hform with ⟨h, _⟩ | h
          · cases h
          · exact h
        injection hg with hg
        injection hg with hg1 hg2
        subst hg1
        subst hg2
        subst hA
        simp only [Nat.zero_add] at hc0 hc1
        have q0 := (hbel.cell (p := ⟨b, l * 2, none⟩) hbl).trans hc0
        have q1 := (hbel.cell (p := ⟨b, l * 2 + 1, none⟩) hbl).trans hc1
        have hrl := hr.get hln
        have hcon := equalInts_s RA B rc d z[l].1 r wr (hrow.below hbel) (hy.below hbel) (by omega) (by omega)
        have hln' : (l : Int) < z.length := by omega
        have hlz : (l : Int) ≤ z.length := by omega
        by_cases he : z[l].1 = r
        · have hins := i1 hln he
          have hwl := hw.get hln
          have hwl1 := hwl.1
          have hwl2 := hwl.2
          rw [show decide (z[l].1 = r) = true by simp [he]] at hcon
          have HI := Lib.hid hins
          have HE := Lib.hid he
          clear hins he i1 i2 hwl
          go_wp2_with fail
          refine hcon.mono ?_
          rintro e w1 ⟨rfl, hb⟩
          have hB := btr hbel hb
          have hF1 := HF.out.loc entO (fun q hq => hB.block q (HF.out.lt q hq))
          have hcl : l < css.length := by rw [hF1.clen]; exact hln
          have hel := hF1.elt l hcl hln
          obtain ⟨RA2, rc2, hcs, hFb, hrow2⟩ := hel.form
          have q2 := (hb.cell (p := ⟨b, l * 2 + 1, none⟩) (Nat.lt_of_lt_of_le hbl hbel.size)).trans q1
          have hf1 := hF1.frozen (l * 2 + 1)
          have hst := hF1.store entO (i := 1) (j := l) hln hcl (by omega) (.int .i64 (z[l].2 + x)) (x' := (z[l].1, z[l].2 + x)) (by rw [hcs]; exact EntO.mk (entO.lt hel) hFb hrow2)
          rw [show (z[l].1, z[l].2 + x) = (r, z[l].2 + x) by rw [HE.out], ← HI.out] at hst
          have HT := Lib.hid hst
          have HG : Hid (GrownS w w1 S) := GrownS.ofBelow hB
          have HLn : Hid ((insK lessB z r x).length = z.length) := by rw [HI.out]; simp [Hid]
          clear hcon q0 q1 hst hel hcs hFb hrow2 hF1 hB hb hc0 hc1
          go_wp2
          go_ret
          exact ⟨_, c, by rw [HLn.out]; rfl, ⟨_, _, HT.out.mono (fun q hq => .inl hq) (fun q hq => by
            rcases hq with hq | hq
            · exact HT.out.lt q hq
            · exact hq.2)⟩, HG.out.set_ (p := ⟨b, l * 2 + 1, none⟩) hSg _⟩
        · have hins := i2 (fun _ => he)
          rw [show decide (z[l].1 = r) = false by simp [he]] at hcon
          have HI := Lib.hid hins
          have hlc : (l : Int) ≤ c := by omega
          have hcm' : (c : Int) ≤ 9223372036854775807 := by unfold maxLen at hcm; omega
          have hck : ¬ c = l := by omega
          clear hins he i1 i2 hc0 hc1
          go_wp2_with fail
          refine hcon.mono ?_
          rintro e w1 ⟨rfl, hb⟩
          have hB := btr hbel hb
          clear hcon q0 q1
          have hF1 := HF.out.loc entO (fun q hq => hB.block q (HF.out.lt q hq))
          have hF1a : SlF EntO 2 33 (w1.alloc (.cells #[] 33)) S _ c z css F := hF1.loc entO (fun q hq => Below.heap_alloc _ _ _ (hF1.lt q hq))
          have hs1 := hB.size
          have l1 : (css.take l).flatten.length = l * 2 := by rw [flat_len (sz := 2) (fun q hq => hF1.elen q (List.mem_of_mem_take hq)), List.length_take, Nat.min_eq_left (by rw [hF1.clen]; omega)]
          have l3 : ((css.drop l).take (z.length - l)).flatten.length = (z.length - l) * 2 := by rw [flat_len (sz := 2) (fun q hq => hF1.elen q (List.mem_of_mem_drop (List.mem_of_mem_take hq))), List.length_take, List.length_drop, hF1.clen, Nat.min_self]
          have o1 := flat_ones2 hF1a 0 l
          have n1 := flat_srcs (k := 0) (m := l) (o := 0) hF1a.elen hF1a.row hF1a.clen (by simp)
          simp only [List.drop_zero] at o1 n1
          have rl1 : (w1.alloc (.cells #[] 33)).ownsRow w.heap.size 33 2 (.slice (some ⟨w1.heap.size, 0, none⟩) 0 0) 0 [] := World.ownsRow_lit w1 #[] 0 hs1 (by simp [maxLen]) (by simp)
          have HF1 := Lib.hid hF1
          clear hF1 hF1a
          go_wp2_with (at_builtin; refine wpList_append_src _ rfl _ _ 23 rfl w.heap.size 33 i0 (.agg #[.slice none 0 0, .int .i64 0]) 2 32 Tryz.underlying23 hi hz0 hz1 hz2 rfl (by decide) _ _ _ rfl rl1 (some ⟨b, 0, none⟩) l c (css.take l).flatten rfl l1 (fun h => by cases h) n1 o1 (by unfold maxLen; omega) (by omega) (by simp; omega) ?_)
          intro v1 w2 r1 g1 loc1
          obtain ⟨A1, c1, rfl⟩ := own_slice r1
          have b12 : Below w1.heap.size w1 w2 := (bal (Below.refl _ _) _).grown g1 (by simp) (fun k hk => by simp [Value.ownBlock] at hk; omega)
          have hB2 := btr hB b12
          have hA1 : ∀ k, blk A1 = some k → w1.heap.size ≤ k ∧ k < w2.heap.size := fun k hk => ⟨(loc1 k (by rw [ownBlock_slice]; exact hk)).elim (fun h => by simp [Value.ownBlock] at h; omega) (fun h => by first | omega | (simp at h; omega)), (World.ownsRow.lt r1 k (by rw [ownBlock_slice]; exact hk)).2⟩
          have hs2 := b12.size
          clear loc1 g1 rl1 o1 n1
          go_wp2_with fail
          refine (copyInts_s _ _ _ _ (hy.below hB2) hm).mono ?_
          rintro e w3 ⟨RA', rc', rfl, ho, b23⟩
          have r1' : w3.ownsRow w.heap.size 33 2 (.slice A1 l c1) l (css.take l).flatten := ownsRow_loc r1 (fun k hk => b23.block k (hA1 k hk).2)
          have hB3 := btr hB2 b23
          have hs3 := b23.size
          go_wp2_with (at_builtin; refine wpList_append_src _ rfl _ _ 23 rfl w.heap.size 33 i0 (.agg #[.slice none 0 0, .int .i64 0]) 2 32 Tryz.underlying23 hi hz0 hz1 hz2 rfl (by decide) _ _ _ rfl (r1'.alloc _) (some ⟨w3.heap.size, 0, none⟩) 1 1 [.slice RA' r.length rc', .int .i64 x] rfl rfl (fun h => by cases h) ent_srcs ent_ones (by unfold maxLen; omega) (by omega) (by simp; omega) ?_)
          intro v2 w4 r2 g2 loc2
          obtain ⟨A2, c2, rfl⟩ := own_slice r2
          rw [ownBlock_slice] at g2
          have hs4 : w3.heap.size + 1 ≤ w4.heap.size := by have := g2.size; simpa using this
          have hA2 : ∀ k, blk A2 = some k → (blk A1 = some k ∨ w3.heap.size ≤ k) ∧ k < w4.heap.size := fun k hk => ⟨(loc2 k (by rw [ownBlock_slice]; exact hk)).elim (fun h => .inl (by rw [ownBlock_slice] at h; exact h)) (fun h => .inr (by first | omega | (simp at h; omega))), (World.ownsRow.lt r2 k (by rw [ownBlock_slice]; exact hk)).2⟩
          have b34 : ∀ k, k < w3.heap.size → blk A1 ≠ some k → w4.heap[k]? = w3.heap[k]? := fun k hk hn => (g2.block k (by simp; omega) (fun e => hn e.symm)).trans (Below.heap_alloc _ _ _ hk)
          have hB4 : Below w.heap.size w w4 := (bal hB3 _).grown g2 (by simp; omega) (fun k hk => by have := (hA1 k hk).1; omega)
          have hF4 := HF.out.loc entO (fun q hq => hB4.block q (HF.out.lt q hq))
          have n3 := flat_srcs (k := l) (m := z.length - l) (o := l * 2) hF4.elen hF4.row hF4.clen rfl
          have o3 := flat_ones2 hF4 l (z.length - l)
          have HF4 := Lib.hid hF4
          clear hF4 g2 loc2 r1 r1'
          go_wp2_with (at_builtin; refine wpList_append_src _ rfl _ _ 23 rfl w.heap.size 33 i0 (.agg #[.slice none 0 0, .int .i64 0]) 2 32 Tryz.underlying23 hi hz0 hz1 hz2 rfl (by decide) _ _ _ rfl r2 (some ⟨b, l * 2, none⟩) (z.length - l) (c - l) ((css.drop l).take (z.length - l)).flatten rfl l3 (fun h => by cases h) n3 o3 (by unfold maxLen; omega) (by omega) (by omega) ?_)
          intro v3 w5 r3 g3 loc3
          obtain ⟨A3, c3, rfl⟩ := own_slice r3
          rw [ownBlock_slice] at g3
          have hs5 := g3.size
          have hA3 : ∀ k, blk A3 = some k → (blk A1 = some k ∨ w3.heap.size ≤ k) ∧ k < w5.heap.size := fun k hk => ⟨(loc3 k (by rw [ownBlock_slice]; exact hk)).elim (fun h => (hA2 k (by rw [ownBlock_slice] at h; exact h)).1) (fun h => .inr (by omega)), (World.ownsRow.lt r3 k (by rw [ownBlock_slice]; exact hk)).2⟩
          have b35 : ∀ k, k < w3.heap.size → blk A1 ≠ some k → w5.heap[k]? = w3.heap[k]? := fun k hk hn => (g3.block k (by omega) (fun e => (hA2 k e.symm).1.elim (fun h => hn h) (fun h => by omega))).trans (b34 k hk hn)
          have hB5 : Below w.heap.size w w5 := hB4.grown g3 (by omega) (fun k hk => (hA2 k hk).1.elim (fun h => by have := (hA1 k h).1; omega) (fun h => by omega))
          have hF5 := HF.out.loc entO (fun q hq => hB5.block q (HF.out.lt q hq))
          have hTq : ∀ q, news w2 w3 q → blk A1 ≠ some q := fun q hq e => by have := (hA1 q e).2; have := hq.1; omega
          have hel0 : EntO w3 (news w2 w3) [.slice RA' r.length rc', .int .i64 x] (r, x) := EntO.mk (fun k hk => hk.2) (fun q hq => by
            rcases ownsRow_form ho with ⟨e, _⟩ | ⟨g, e, hg1, hg2, _⟩
            · rw [e] at hq; cases hq
            · rw [e] at hq; simp [blk] at hq; subst hq; exact ⟨hg1, hg2⟩) (ho.mono (Nat.zero_le _))
          have hel := entO.loc hel0 (w' := w5) (fun q hq => b35 q hq.2 (hTq q hq))
          have hlen3 : l + 1 + (z.length - l) = z.length + 1 := by omega
          have htail : ((css.drop l).take (z.length - l)).flatten = (css.drop l).flatten := by
            rw [List.take_of_length_le (by rw [List.length_drop, hF5.clen]; exact Nat.le_refl _)]
          rw [hlen3, htail] at r3
          have r3' : w5.ownsRow 0 33 2 (.slice A3 (z.length + 1) c3) (z.length + 1) ((css.take l).flatten ++ [.slice RA' r.length rc', .int .i64 x] ++ (css.drop l).flatten) := by have := ownsRow_base0 r3; simpa using this
          have hsp := hF5.splice (U := plus S w w5) entO (by omega : l ≤ z.length) hel (fun q h1 h2 => by have := h1.1; have := HF.out.lt q h2; omega) r3' (fun q hq => by
            have h3 := hA3 q hq
            have h4 : w.heap.size ≤ q := (World.ownsRow.lt r3 q (by rw [ownBlock_slice]; exact hq)).1
            refine ⟨fun h => by have := HF.out.lt q h; omega, fun h => ?_⟩
            rcases h3.1 with h5 | h5
            · exact hTq q h h5
            · have := h.2; omega) (fun q hq => by
            rcases hq with hq | hq | hq
            · exact .inl hq
            · exact .inr ⟨by have := hq.1; omega, by have := hq.2; omega⟩
            · exact .inr ⟨(World.ownsRow.lt r3 q (by rw [ownBlock_slice]; exact hq)).1, (hA3 q hq).2⟩) (fun q hq => by
            rcases hq with hq | hq
            · have := HF.out.lt q hq; omega
            · exact hq.2)
          rw [← HI.out] at hsp
          have HSP := Lib.hid hsp
          have HG : Hid (GrownS w w5 S) := GrownS.ofBelow hB5
          have HLn : Hid ((insK lessB z r x).length = l + 1 + (z.length - l)) := by rw [HI.out]; simp [Hid]; omega
          clear hsp hel hel0 hTq hF5 hB5 b35 hA3 g3 loc3 r3 r3' r2 hA2 b34 hB4 hB3 b23 ho hB2 b12 hA1 htail l1 l3 o3 n3
          go_wp2
          go_ret
          exact ⟨A3, c3, by rw [HLn.out]; first | rfl | simp, ⟨_, _, HSP.out⟩, HG.out⟩
      · have hlz : (z.length : Int) ≤ l := by omega
        have hins := i2 (fun h => absurd h hln)
        have HI := Lib.hid hins
        clear hins i1 i2
        obtain ⟨b, hAb, hSg, hgl, hnc, hcm⟩ : ∃ b, A = some ⟨b, 0, none⟩ ∧ S b ∧ b < w.heap.size ∧ z.length ≤ c ∧ c ≤ maxLen := by
          rcases HF.out.form with ⟨h, _⟩ | h
          · exact absurd h hA
          · exact h
        subst hAb
        have hlc : (l : Int) ≤ c := by omega
        have hcm' : (c : Int) ≤ 9223372036854775807 := by unfold maxLen at hcm; omega
        by_cases hck : c = l
        · subst hck
          have hF1 := HF.out.loc entO (fun q hq => hbel.block q (HF.out.lt q hq))
          have hF1a : SlF EntO 2 33 (wr.alloc (.cells #[] 33)) S _ c z css F := hF1.loc entO (fun q hq => Below.heap_alloc _ _ _ (hF1.lt q hq))
          have hs1 := hbel.size
          have l1 : (css.take c).flatten.length = c * 2 := by rw [flat_len (sz := 2) (fun q hq => hF1.elen q (List.mem_of_mem_take hq)), List.length_take, Nat.min_eq_left (by rw [hF1.clen]; omega)]
          have l3 : ((css.drop c).take (z.length - c)).flatten.length = (z.length - c) * 2 := by rw [flat_len (sz := 2) (fun q hq => hF1.elen q (List.mem_of_mem_drop (List.mem_of_mem_take hq))), List.length_take, List.length_drop, hF1.clen, Nat.min_self]
          have o1 := flat_ones2 hF1a 0 c
          have n1 := flat_srcs (k := 0) (m := c) (o := 0) hF1a.elen hF1a.row hF1a.clen (by simp)
          simp only [List.drop_zero] at o1 n1
          have rl1 : (wr.alloc (.cells #[] 33)).ownsRow w.heap.size 33 2 (.slice (some ⟨wr.heap.size, 0, none⟩) 0 0) 0 [] := World.ownsRow_lit wr #[] 0 hs1 (by simp [maxLen]) (by simp)
          have HF1 := Lib.hid hF1
          clear hF1 hF1a
          go_wp2_with (at_builtin; refine wpList_append_src _ rfl _ _ 23 rfl w.heap.size 33 i0 (.agg #[.slice none 0 0, .int .i64 0]) 2 32 Tryz.underlying23 hi hz0 hz1 hz2 rfl (by decide) _ _ _ rfl rl1 (some ⟨b, 0, none⟩) c c (css.take c).flatten rfl l1 (fun h => by cases h) n1 o1 (by unfold maxLen; omega) (by omega) (by simp; omega) ?_)
          intro v1 w2 r1 g1 loc1
          obtain ⟨A1, c1, rfl⟩ := own_slice r1
          have b12 : Below wr.heap.size wr w2 := (bal (Below.refl _ _) _).grown g1 (by simp) (fun k hk => by simp [Value.ownBlock] at hk; omega)
          have hB2 := btr hbel b12
          have hA1 : ∀ k, blk A1 = some k → wr.heap.size ≤ k ∧ k < w2.heap.size := fun k hk => ⟨(loc1 k (by rw [ownBlock_slice]; exact hk)).elim (fun h => by simp [Value.ownBlock] at h; omega) (fun h => by first | omega | (simp at h; omega)), (World.ownsRow.lt r1 k (by rw [ownBlock_slice]; exact hk)).2⟩
          have hs2 := b12.size
          clear loc1 g1 rl1 o1 n1
          go_wp2_with fail
          refine (copyInts_s _ _ _ _ (hy.below hB2) hm).mono ?_
          rintro e w3 ⟨RA', rc', rfl, ho, b23⟩
          have r1' : w3.ownsRow w.heap.size 33 2 (.slice A1 c c1) c (css.take c).flatten := ownsRow_loc r1 (fun k hk => b23.block k (hA1 k hk).2)
          have hB3 := btr hB2 b23
          have hs3 := b23.size
          go_wp2_with (at_builtin; refine wpList_append_src _ rfl _ _ 23 rfl w.heap.size 33 i0 (.agg #[.slice none 0 0, .int .i64 0]) 2 32 Tryz.underlying23 hi hz0 hz1 hz2 rfl (by decide) _ _ _ rfl (r1'.alloc _) (some ⟨w3.heap.size, 0, none⟩) 1 1 [.slice RA' r.length rc', .int .i64 x] rfl rfl (fun h => by cases h) ent_srcs ent_ones (by unfold maxLen; omega) (by omega) (by simp; omega) ?_)
          intro v2 w4 r2 g2 loc2
          obtain ⟨A2, c2, rfl⟩ := own_slice r2
          rw [ownBlock_slice] at g2
          have hs4 : w3.heap.size + 1 ≤ w4.heap.size := by have := g2.size; simpa using this
          have hA2 : ∀ k, blk A2 = some k → (blk A1 = some k ∨ w3.heap.size ≤ k) ∧ k < w4.heap.size := fun k hk => ⟨(loc2 k (by rw [ownBlock_slice]; exact hk)).elim (fun h => .inl (by rw [ownBlock_slice] at h; exact h)) (fun h => .inr (by first | omega | (simp at h; omega))), (World.ownsRow.lt r2 k (by rw [ownBlock_slice]; exact hk)).2⟩
          have b34 : ∀ k, k < w3.heap.size → blk A1 ≠ some k → w4.heap[k]? = w3.heap[k]? := fun k hk hn => (g2.block k (by simp; omega) (fun e => hn e.symm)).trans (Below.heap_alloc _ _ _ hk)
          have hB4 : Below w.heap.size w w4 := (bal hB3 _).grown g2 (by simp; omega) (fun k hk => by have := (hA1 k hk).1; omega)
          have hF4 := HF.out.loc entO (fun q hq => hB4.block q (HF.out.lt q hq))
          have n3 := flat_srcs (k := 0) (m := 0) (o := 0) hF4.elen hF4.row hF4.clen (by simp)
          have o3 := flat_ones2 hF4 c (z.length - c)
          have HF4 := Lib.hid hF4
          clear hF4 g2 loc2 r1 r1'
          go_wp2_with (at_builtin; refine wpList_append_src _ rfl _ _ 23 rfl w.heap.size 33 i0 (.agg #[.slice none 0 0, .int .i64 0]) 2 32 Tryz.underlying23 hi hz0 hz1 hz2 rfl (by decide) _ _ _ rfl r2 (some ⟨b, 0, none⟩) 0 0 [] rfl (by simp) (fun h => by cases h) (fun a h j u hu => by simp at hu) (by simp) (by unfold maxLen; omega) (by omega) (by omega) ?_)
          intro v3 w5 r3 g3 loc3
          obtain ⟨A3, c3, rfl⟩ := own_slice r3
          rw [ownBlock_slice] at g3
          have hs5 := g3.size
          have hA3 : ∀ k, blk A3 = some k → (blk A1 = some k ∨ w3.heap.size ≤ k) ∧ k < w5.heap.size := fun k hk => ⟨(loc3 k (by rw [ownBlock_slice]; exact hk)).elim (fun h => (hA2 k (by rw [ownBlock_slice] at h; exact h)).1) (fun h => .inr (by omega)), (World.ownsRow.lt r3 k (by rw [ownBlock_slice]; exact hk)).2⟩
          have b35 : ∀ k, k < w3.heap.size → blk A1 ≠ some k → w5.heap[k]? = w3.heap[k]? := fun k hk hn => (g3.block k (by omega) (fun e => (hA2 k e.symm).1.elim (fun h => hn h) (fun h => by omega))).trans (b34 k hk hn)
          have hB5 : Below w.heap.size w w5 := hB4.grown g3 (by omega) (fun k hk => (hA2 k hk).1.elim (fun h => by have := (hA1 k h).1; omega) (fun h => by omega))
          have hF5 := HF.out.loc entO (fun q hq => hB5.block q (HF.out.lt q hq))
          have hTq : ∀ q, news w2 w3 q → blk A1 ≠ some q := fun q hq e => by have := (hA1 q e).2; have := hq.1; omega
          have hel0 : EntO w3 (news w2 w3) [.slice RA' r.length rc', .int .i64 x] (r, x) := EntO.mk (fun k hk => hk.2) (fun q hq => by
            rcases ownsRow_form ho with ⟨e, _⟩ | ⟨g, e, hg1, hg2, _⟩
            · rw [e] at hq; cases hq
            · rw [e] at hq; simp [blk] at hq; subst hq; exact ⟨hg1, hg2⟩) (ho.mono (Nat.zero_le _))
          have hel := entO.loc hel0 (w' := w5) (fun q hq => b35 q hq.2 (hTq q hq))
          have hlen3 : c + 1 + 0 = z.length + 1 := by omega
          have htail : ([] : List Value) = (css.drop c).flatten := by
            rw [List.drop_eq_nil_of_le (by rw [hF5.clen]; omega)]; rfl
          rw [hlen3, htail] at r3
          have r3' : w5.ownsRow 0 33 2 (.slice A3 (z.length + 1) c3) (z.length + 1) ((css.take c).flatten ++ [.slice RA' r.length rc', .int .i64 x] ++ (css.drop c).flatten) := by have := ownsRow_base0 r3; simpa using this
          have hsp := hF5.splice (U := plus S w w5) entO (by omega : c ≤ z.length) hel (fun q h1 h2 => by have := h1.1; have := HF.out.lt q h2; omega) r3' (fun q hq => by
            have h3 := hA3 q hq
            have h4 : w.heap.size ≤ q := (World.ownsRow.lt r3 q (by rw [ownBlock_slice]; exact hq)).1
            refine ⟨fun h => by have := HF.out.lt q h; omega, fun h => ?_⟩
            rcases h3.1 with h5 | h5
            · exact hTq q h h5
            · have := h.2; omega) (fun q hq => by
            rcases hq with hq | hq | hq
            · exact .inl hq
            · exact .inr ⟨by have := hq.1; omega, by have := hq.2; omega⟩
            · exact .inr ⟨(World.ownsRow.lt r3 q (by rw [ownBlock_slice]; exact hq)).1, (hA3 q hq).2⟩) (fun q hq => by
            rcases hq with hq | hq
            · have := HF.out.lt q hq; omega
            · exact hq.2)
          rw [← HI.out] at hsp
          have HSP := Lib.hid hsp
          have HG : Hid (GrownS w w5 S) := GrownS.ofBelow hB5
          have HLn : Hid ((insK lessB z r x).length = c + 1 + 0) := by rw [HI.out]; simp [Hid]; omega
          clear hsp hel hel0 hTq hF5 hB5 b35 hA3 g3 loc3 r3 r3' r2 hA2 b34 hB4 hB3 b23 ho hB2 b12 hA1 htail l1 l3 o3 n3
          go_wp2
          go_ret
          exact ⟨A3, c3, by rw [HLn.out]; first | rfl | simp, ⟨_, _, HSP.out⟩, HG.out⟩
        · skip
          have hF1 := HF.out.loc entO (fun q hq => hbel.block q (HF.out.lt q hq))
          have hF1a : SlF EntO 2 33 (wr.alloc (.cells #[] 33)) S _ c z css F := hF1.loc entO (fun q hq => Below.heap_alloc _ _ _ (hF1.lt q hq))
          have hs1 := hbel.size
          have l1 : (css.take l).flatten.length = l * 2 := by rw [flat_len (sz := 2) (fun q hq => hF1.elen q (List.mem_of_mem_take hq)), List.length_take, Nat.min_eq_left (by rw [hF1.clen]; omega)]
          have l3 : ((css.drop l).take (z.length - l)).flatten.length = (z.length - l) * 2 := by rw [flat_len (sz := 2) (fun q hq => hF1.elen q (List.mem_of_mem_drop (List.mem_of_mem_take hq))), List.length_take, List.length_drop, hF1.clen, Nat.min_self]
          have o1 := flat_ones2 hF1a 0 l
          have n1 := flat_srcs (k := 0) (m := l) (o := 0) hF1a.elen hF1a.row hF1a.clen (by simp)
          simp only [List.drop_zero] at o1 n1
          have rl1 : (wr.alloc (.cells #[] 33)).ownsRow w.heap.size 33 2 (.slice (some ⟨wr.heap.size, 0, none⟩) 0 0) 0 [] := World.ownsRow_lit wr #[] 0 hs1 (by simp [maxLen]) (by simp)
          have HF1 := Lib.hid hF1
          clear hF1 hF1a
          go_wp2_with (at_builtin; refine wpList_append_src _ rfl _ _ 23 rfl w.heap.size 33 i0 (.agg #[.slice none 0 0, .int .i64 0]) 2 32 Tryz.underlying23 hi hz0 hz1 hz2 rfl (by decide) _ _ _ rfl rl1 (some ⟨b, 0, none⟩) l c (css.take l).flatten rfl l1 (fun h => by cases h) n1 o1 (by unfold maxLen; omega) (by omega) (by simp; omega) ?_)
          intro v1 w2 r1 g1 loc1
          obtain ⟨A1, c1, rfl⟩ := own_slice r1
          have b12 : Below wr.heap.size wr w2 := (bal (Below.refl _ _) _).grown g1 (by simp) (fun k hk => by simp [Value.ownBlock] at hk; omega)
          have hB2 := btr hbel b12
          have hA1 : ∀ k, blk A1 = some k → wr.heap.size ≤ k ∧ k < w2.heap.size := fun k hk => ⟨(loc1 k (by rw [ownBlock_slice]; exact hk)).elim (fun h => by simp [Value.ownBlock] at h; omega) (fun h => by first | omega | (simp at h; omega)), (World.ownsRow.lt r1 k (by rw [ownBlock_slice]; exact hk)).2⟩
          have hs2 := b12.size
          clear loc1 g1 rl1 o1 n1
          go_wp2_with fail
          refine (copyInts_s _ _ _ _ (hy.below hB2) hm).mono ?_
          rintro e w3 ⟨RA', rc', rfl, ho, b23⟩
          have r1' : w3.ownsRow w.heap.size 33 2 (.slice A1 l c1) l (css.take l).flatten := ownsRow_loc r1 (fun k hk => b23.block k (hA1 k hk).2)
          have hB3 := btr hB2 b23
          have hs3 := b23.size
          go_wp2_with (at_builtin; refine wpList_append_src _ rfl _ _ 23 rfl w.heap.size 33 i0 (.agg #[.slice none 0 0, .int .i64 0]) 2 32 Tryz.underlying23 hi hz0 hz1 hz2 rfl (by decide) _ _ _ rfl (r1'.alloc _) (some ⟨w3.heap.size, 0, none⟩) 1 1 [.slice RA' r.length rc', .int .i64 x] rfl rfl (fun h => by cases h) ent_srcs ent_ones (by unfold maxLen; omega) (by omega) (by simp; omega) ?_)
          intro v2 w4 r2 g2 loc2
          obtain ⟨A2, c2, rfl⟩ := own_slice r2
          rw [ownBlock_slice] at g2
          have hs4 : w3.heap.size + 1 ≤ w4.heap.size := by have := g2.size; simpa using this
          have hA2 : ∀ k, blk A2 = some k → (blk A1 = some k ∨ w3.heap.size ≤ k) ∧ k < w4.heap.size := fun k hk => ⟨(loc2 k (by rw [ownBlock_slice]; exact hk)).elim (fun h => .inl (by rw [ownBlock_slice] at h; exact h)) (fun h => .inr (by first | omega | (simp at h; omega))), (World.ownsRow.lt r2 k (by rw [ownBlock_slice]; exact hk)).2⟩
          have b34 : ∀ k, k < w3.heap.size → blk A1 ≠ some k → w4.heap[k]? = w3.heap[k]? := fun k hk hn => (g2.block k (by simp; omega) (fun e => hn e.symm)).trans (Below.heap_alloc _ _ _ hk)
          have hB4 : Below w.heap.size w w4 := (bal hB3 _).grown g2 (by simp; omega) (fun k hk => by have := (hA1 k hk).1; omega)
          have hF4 := HF.out.loc entO (fun q hq => hB4.block q (HF.out.lt q hq))
          have n3 := flat_srcs (k := l) (m := z.length - l) (o := l * 2) hF4.elen hF4.row hF4.clen rfl
          have o3 := flat_ones2 hF4 l (z.length - l)
          have HF4 := Lib.hid hF4
          clear hF4 g2 loc2 r1 r1'
          go_wp2_with (at_builtin; refine wpList_append_src _ rfl _ _ 23 rfl w.heap.size 33 i0 (.agg #[.slice none 0 0, .int .i64 0]) 2 32 Tryz.underlying23 hi hz0 hz1 hz2 rfl (by decide) _ _ _ rfl r2 (some ⟨b, l * 2, none⟩) (z.length - l) (c - l) ((css.drop l).take (z.length - l)).flatten rfl l3 (fun h => by cases h) n3 o3 (by unfold maxLen; omega) (by omega) (by omega) ?_)
          intro v3 w5 r3 g3 loc3
          obtain ⟨A3, c3, rfl⟩ := own_slice r3
          rw [ownBlock_slice] at g3
          have hs5 := g3.size
          have hA3 : ∀ k, blk A3 = some k → (blk A1 = some k ∨ w3.heap.size ≤ k) ∧ k < w5.heap.size := fun k hk => ⟨(loc3 k (by rw [ownBlock_slice]; exact hk)).elim (fun h => (hA2 k (by rw [ownBlock_slice] at h; exact h)).1) (fun h => .inr (by omega)), (World.ownsRow.lt r3 k (by rw [ownBlock_slice]; exact hk)).2⟩
          have b35 : ∀ k, k < w3.heap.size → blk A1 ≠ some k → w5.heap[k]? = w3.heap[k]? := fun k hk hn => (g3.block k (by omega) (fun e => (hA2 k e.symm).1.elim (fun h => hn h) (fun h => by omega))).trans (b34 k hk hn)
          have hB5 : Below w.heap.size w w5 := hB4.grown g3 (by omega) (fun k hk => (hA2 k hk).1.elim (fun h => by have := (hA1 k h).1; omega) (fun h => by omega))
          have hF5 := HF.out.loc entO (fun q hq => hB5.block q (HF.out.lt q hq))
          have hTq : ∀ q, news w2 w3 q → blk A1 ≠ some q := fun q hq e => by have := (hA1 q e).2; have := hq.1; omega
          have hel0 : EntO w3 (news w2 w3) [.slice RA' r.length rc', .int .i64 x] (r, x) := EntO.mk (fun k hk => hk.2) (fun q hq => by
            rcases ownsRow_form ho with ⟨e, _⟩ | ⟨g, e, hg1, hg2, _⟩
            · rw [e] at hq; cases hq
            · rw [e] at hq; simp [blk] at hq; subst hq; exact ⟨hg1, hg2⟩) (ho.mono (Nat.zero_le _))
          have hel := entO.loc hel0 (w' := w5) (fun q hq => b35 q hq.2 (hTq q hq))
          have hlen3 : l + 1 + (z.length - l) = z.length + 1 := by omega
          have htail : ((css.drop l).take (z.length - l)).flatten = (css.drop l).flatten := by
            rw [List.take_of_length_le (by rw [List.length_drop, hF5.clen]; exact Nat.le_refl _)]
          rw [hlen3, htail] at r3
          have r3' : w5.ownsRow 0 33 2 (.slice A3 (z.length + 1) c3) (z.length + 1) ((css.take l).flatten ++ [.slice RA' r.length rc', .int .i64 x] ++ (css.drop l).flatten) := by have := ownsRow_base0 r3; simpa using this
          have hsp := hF5.splice (U := plus S w w5) entO (by omega : l ≤ z.length) hel (fun q h1 h2 => by have := h1.1; have := HF.out.lt q h2; omega) r3' (fun q hq => by
            have h3 := hA3 q hq
            have h4 : w.heap.size ≤ q := (World.ownsRow.lt r3 q (by rw [ownBlock_slice]; exact hq)).1
            refine ⟨fun h => by have := HF.out.lt q h; omega, fun h => ?_⟩
            rcases h3.1 with h5 | h5
            · exact hTq q h h5
            · have := h.2; omega) (fun q hq => by
            rcases hq with hq | hq | hq
            · exact .inl hq
            · exact .inr ⟨by have := hq.1; omega, by have := hq.2; omega⟩
            · exact .inr ⟨(World.ownsRow.lt r3 q (by rw [ownBlock_slice]; exact hq)).1, (hA3 q hq).2⟩) (fun q hq => by
            rcases hq with hq | hq
            · have := HF.out.lt q hq; omega
            · exact hq.2)
          rw [← HI.out] at hsp
          have HSP := Lib.hid hsp
          have HG : Hid (GrownS w w5 S) := GrownS.ofBelow hB5
          have HLn : Hid ((insK lessB z r x).length = l + 1 + (z.length - l)) := by rw [HI.out]; simp [Hid]; omega
          clear hsp hel hel0 hTq hF5 hB5 b35 hA3 g3 loc3 r3 r3' r2 hA2 b34 hB4 hB3 b23 ho hB2 b12 hA1 htail l1 l3 o3 n3
          go_wp2
          go_ret
          exact ⟨A3, c3, by rw [HLn.out]; first | rfl | simp, ⟨_, _, HSP.out⟩, HG.out⟩
end Go.Proofs.YtifjenleoagefaaGreat
