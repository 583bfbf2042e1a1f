/- HELPER, no statement of the seat: the model's sums of Z-sets. -/
import Derived.Test.YtifjenleoagefaaGreatAddE
namespace Go.Proofs.YtifjenleoagefaaGreat
open Go.RowKit Go.Sort
set_option linter.unusedSimpArgs false
set_option linter.unusedVariables false

theorem getD_lt {α : Type} {l : List α} {i : Nat} (d : α) (h : i < l.length) : l.getD i d = l[i] := by simp [h]
/-- The elements at the places of sel, in their order, in another block. -/
theorem SlF.pick {α : Type} {O : Ow α} {R : Rd α} {sz : Nat} {E : TypeId} {w : World} {S U : Fp} {A A' : Option Addr} {c c' : Nat} {xs : List α} {css : List (List Value)} {F : Nat → Fp} (ok : OOk O R sz) (h : SlF O sz E w S A c xs css F) (dx : α) (sel : List Nat) (hs : sel.Nodup) (hlt : ∀ j ∈ sel, j < xs.length)
    (hrow : w.ownsRow 0 E sz (.slice A' sel.length c') sel.length (sel.map fun j => css.getD j []).flatten) (hA : ∀ q, blk A' = some q → blk A = some q ∨ ¬ S q) (hU : ∀ q, S q ∨ blk A' = some q → U q) (hUl : ∀ q, U q → q < w.heap.size) :
    SlF O sz E w U A' c' (sel.map fun j => xs.getD j dx) (sel.map fun j => css.getD j []) (fun i => if i < sel.length then F (sel.getD i 0) else fun _ => False) := by
  have hcl := h.clen
  refine ⟨hUl, fun q hq => hU q (.inr hq), ?_, by simp, ?_, ?_, ?_, ?_⟩
  · rw [List.length_map]
    exact hrow
  · intro cs hcs
    obtain ⟨j, hj, rfl⟩ := List.mem_map.1 hcs
    have hj' := hlt j hj
    rw [getD_lt _  (by rw [hcl]; exact hj')]
    exact h.elen _ (List.getElem_mem _)
  · intro i q hq
    by_cases hi : i < sel.length
    · rw [if_pos hi] at hq
      have hs' := h.sub _ q hq
      refine ⟨hU q (.inl hs'.1), fun e => ?_⟩
      rcases hA q e with e' | e'
      · exact hs'.2 e'
      · exact e' hs'.1
    · rw [if_neg hi] at hq
      exact hq.elim
  · intro i j q hi hj
    by_cases hil : i < sel.length
    · by_cases hjl : j < sel.length
      · rw [if_pos hil] at hi
        rw [if_pos hjl] at hj
        have := h.apart _ _ q hi hj
        rw [getD_lt _  hil, getD_lt _  hjl] at this
        rcases Nat.lt_trichotomy i j with hl | hl | hl
        · exact absurd this (List.pairwise_iff_getElem.1 hs i j hil hjl hl)
        · exact hl
        · exact absurd this.symm (List.pairwise_iff_getElem.1 hs j i hjl hil hl)
      · rw [if_neg hjl] at hj; exact hj.elim
    · rw [if_neg hil] at hi; exact hi.elim
  · intro i g1 g2
    have hi : i < sel.length := by simpa using g1
    rw [if_pos hi, getD_lt _  hi]
    simp only [List.getElem_map]
    have hj := hlt sel[i] (List.getElem_mem hi)
    rw [getD_lt _  (by rw [hcl]; exact hj), getD_lt _  hj]
    exact h.elt _ _ _

/-- The places below k of what is not zero. -/
def nzTo (z : List Ent) (k : Nat) : List Nat := (List.range k).filter fun j => decide ((nth z j).2 ≠ 0)
theorem nzTo_step {z : List Ent} {k : Nat} (h : k < z.length) : nzTo z (k + 1) = nzTo z k ++ if z[k].2 ≠ 0 then [k] else [] := by
  unfold nzTo
  rw [List.range_succ, List.filter_append]
  congr 1
  by_cases e : z[k].2 = 0 <;> simp [nth_get h, e]
theorem nzTo_len (z : List Ent) (k : Nat) : (nzTo z k).length ≤ k := by
  have := List.length_filter_le (fun j => decide ((nth z j).2 ≠ 0)) (List.range k)
  simpa [nzTo] using this
theorem nzTo_lt {z : List Ent} {k j : Nat} (h : j ∈ nzTo z k) : j < k := by
  have := (List.mem_filter.1 h).1
  simpa using this
theorem nzTo_nodup (z : List Ent) (k : Nat) : (nzTo z k).Nodup := List.Pairwise.sublist List.filter_sublist List.nodup_range
theorem nzTo_nz (z : List Ent) : ∀ k, k ≤ z.length → (nzTo z k).map (fun j => z.getD j ([], 0)) = nz (z.take k) := by
  intro k
  induction k with
  | zero => intro _; rfl
  | succ k ih =>
    intro hk
    have hk' : k < z.length := by omega
    rw [nzTo_step hk', List.map_append, ih (by omega), List.take_succ_eq_append_getElem hk', nz, nz, List.filter_append]
    congr 1
    by_cases e : z[k].2 = 0 <;> simp [e, hk']

set_option maxRecDepth 100000 in
set_option maxHeartbeats 1600000 in
theorem withoutZeros_s (S : Fp) (A : Option Addr) (c : Nat) (z : List Ent) (w : World) (hz : EntsOw w S A c z) (hn : z.length ≤ 4194303) :
    Calls Tryz.prog 86 #[.slice A z.length c] w fun e w' => ∃ A' c', e = .returned (.slice A' (nz z).length c') ∧ EntsOw w' (plus S w w') A' c' (nz z) ∧ Below w.heap.size w w' := by
  obtain ⟨i0, hi, hz0, hz1, hz2⟩ := info_parts Tryz.infoEnt
  obtain ⟨css, F, hF⟩ := hz
  have hat : EntsAt w A z := hF.at_ entO
  have HF := Lib.hid hF
  have hcl := hF.clen
  clear hF
  go_enter Tryz.func86, Tryz.ntmps86
  go_wp2
  go_loopw [3, 4] (fun v i wr => ∃ k A' c', k ≤ z.length ∧ i = .int .i64 (k : Nat) ∧ v = .slice A' (nzTo z k).length c' ∧ wr.ownsRow w.heap.size 33 2 (.slice A' (nzTo z k).length c') (nzTo z k).length ((nzTo z k).map fun j => css.getD j []).flatten ∧ Below w.heap.size w wr) (fun _ i _ => z.length - (intOf i).toNat)
  case atStart => exact ⟨0, _, _, by omega, rfl, rfl, World.ownsRow_lit w #[] 0 (Nat.le_refl _) (by simp [maxLen]) (by simp), bal (Below.refl _ _) _⟩
  case round =>
    obtain ⟨k, A', c', hk, rfl, rfl, hown, hbel⟩ := hrel
    by_cases hlt : k < z.length
    · obtain ⟨b, off, RA, rc, hA, hbl, hc0, hc1, -, -⟩ := hat.get k hlt
      subst hA
      have q0 := (hbel.cell (p := ⟨b, off + k * 2, none⟩) hbl).trans hc0
      have q1 := (hbel.cell (p := ⟨b, off + k * 2 + 1, none⟩) hbl).trans hc1
      have hst := nzTo_step hlt
      have hlen := nzTo_len z k
      have hs1 := hbel.size
      by_cases hp : z[k].2 = 0
      · have hne : (z[k].2 != 0) = false := by simp [hp]
        rw [if_neg (by simp [hp]), List.append_nil] at hst
        have HST := Lib.hid hst
        have HO := Lib.hid hown
        clear hst hp hc0 hc1 hown
        generalize hM : nzTo z k = M at *
        clear hM
        go_wp2
        go_roundw
        case rel => exact ⟨k + 1, A', c', by omega, by go_num, by rw [HST.out], by rw [HST.out]; exact HO.out, hbel⟩
        case measure => simp [intOf]; omega
      · have hne : (z[k].2 != 0) = true := by simp [hp]
        rw [if_pos hp] at hst
        have hcs : css.getD k [] = [.slice RA z[k].1.length rc, .int .i64 z[k].2] := by
          have h1 : k < css.length := by rw [hcl]; exact hlt
          have hform := HF.out.form
          obtain ⟨g, hg⟩ : ∃ g, some (⟨b, off, none⟩ : Addr) = some ⟨g, 0, none⟩ := by
            rcases hform with ⟨h, _⟩ | ⟨g, h, _⟩
            · cases h
            · exact ⟨g, h⟩
          injection hg with hg
          injection hg with hg1 hg2
          subst hg1
          subst hg2
          have c0 := HF.out.cell k h1 0 (by omega)
          have c1 := HF.out.cell k h1 1 (by omega)
          have hl2 := HF.out.elen _ (List.getElem_mem h1)
          simp only [Nat.zero_add, Nat.add_zero] at c0 c1 hc0 hc1
          rw [hc0] at c0
          rw [hc1] at c1
          rw [getD_lt _  h1]
          match hm : css[k], hl2 with
          | [u0, u1], _ =>
            rw [hm] at c0 c1
            simp at c0 c1
            rw [c0, c1]
        have HST := Lib.hid hst
        have HCS := Lib.hid hcs
        clear hst hp hc0 hc1 hcs
        generalize hM : nzTo z k = M at *
        clear hM
        go_wp2_with (at_builtin; refine wpList_append_src _ rfl _ _ 23 rfl w.heap.size 33 i0 (.agg #[.slice none 0 0, .int .i64 0]) 2 32 Tryz.underlying23 hi hz0 hz1 hz2 rfl (by decide) _ _ _ rfl (hown.alloc _) (some ⟨wr.heap.size, 0, none⟩) 1 1 [.slice RA z[k].1.length rc, .int .i64 z[k].2] rfl rfl (fun h => by cases h) ent_srcs ent_ones (by unfold maxLen; omega) (by omega) (by simp; omega) ?_)
        intro v' w3 hown' hgrow hloc
        obtain ⟨A3, c3, rfl⟩ := own_slice hown'
        have hb3 : Below w.heap.size w w3 := (bal hbel _).grown hgrow (by simp; omega) (fun q hq => (World.ownsRow.lt hown q hq).1)
        have hrow3 : w3.ownsRow w.heap.size 33 2 (.slice A3 (nzTo z (k + 1)).length c3) (nzTo z (k + 1)).length ((nzTo z (k + 1)).map fun j => css.getD j []).flatten := by
          rw [HST.out]
          simp only [List.length_append, List.length_cons, List.length_nil, Nat.zero_add, List.map_append, List.map_cons, List.map_nil, List.flatten_append, List.flatten_cons, List.flatten_nil, List.append_nil, HCS.out]
          exact hown'
        have HR := Lib.hid hrow3
        have HL : Hid (M.length + 1 = (nzTo z (k + 1)).length) := by rw [HST.out]; simp [Hid]
        clear hown' hgrow hloc hrow3 hown hbel q0 q1 HCS
        go_wp2
        go_roundw
        case rel => exact ⟨k + 1, A3, c3, by omega, by go_num, by rw [HL.out], HR.out, hb3⟩
        case measure => simp [intOf]; omega
    · obtain rfl : k = z.length := by omega
      have hF2 := HF.out.loc entO (fun q hq => hbel.block q (HF.out.lt q hq))
      have hp := hF2.pick (U := plus S w wr) entO ([], 0) (nzTo z z.length) (nzTo_nodup _ _) (fun j hj => nzTo_lt hj) (ownsRow_base0 hown) (fun q hq => .inr (fun h => by
        have h1 := (World.ownsRow.lt hown q (by rw [ownBlock_slice]; exact hq)).1
        have h2 := HF.out.lt q h
        omega)) (fun q hq => by
        rcases hq with hq | hq
        · exact .inl hq
        · exact .inr (World.ownsRow.lt hown q (by rw [ownBlock_slice]; exact hq))) (fun q hq => by
        rcases hq with hq | hq
        · exact hF2.lt q hq
        · exact hq.2)
      have he := nzTo_nz z z.length (Nat.le_refl _)
      rw [List.take_length] at he
      rw [he] at hp
      have HP := Lib.hid hp
      have HL : Hid ((nzTo z z.length).length = (nz z).length) := by rw [← he]; simp [Hid]
      clear hp he hF2 hown
      go_wp2
      go_ret
      exact ⟨A', c', by rw [← HL.out]; rfl, ⟨_, _, HP.out⟩, hbel⟩

set_option maxHeartbeats 400000 in
theorem checked_s (S : Fp) (A : Option Addr) (c : Nat) (z : List Ent) (w : World) (hz : EntsOw w S A c z) (hn : z.length ≤ 4194303) (hr : rowsIn z 4194304) :
    Calls Tryz.prog 85 #[.slice A z.length c] w fun e w' => ∃ A' c', e = .returned (.slice A' (chkF z).length c') ∧ EntsOw w' (plus S w w') A' c' (chkF z) ∧ Below w.heap.size w w' := by
  have hcon := validZSet_s A c z w (SlOw.at_ entO hz) (by omega) hr
  have HZ := Lib.hid hz
  clear hz
  by_cases h : zsB z = true
  · have HR : Hid (chkF z = z) := by simp [Hid, chkF, h]
    rw [h] at hcon
    clear h
    go_enter Tryz.func85, Tryz.ntmps85
    go_wp2_with fail
    refine hcon.mono ?_
    rintro e w1 ⟨rfl, hb⟩
    clear hcon
    go_wp2_with fail
    go_ret
    have hs := hb.size
    exact ⟨A, c, by rw [HR.out]; rfl, by rw [HR.out]; exact (HZ.out.below entO hb).mono (fun q hq => .inl hq) (fun q hq => by
      rcases hq with hq | hq
      · have := HZ.out.lt q hq; omega
      · exact hq.2), hb⟩
  · have h' : zsB z = false := by simpa using h
    have HR : Hid (chkF z = []) := by simp [Hid, chkF, h']
    rw [h'] at hcon
    clear h h'
    go_enter Tryz.func85, Tryz.ntmps85
    go_wp2_with fail
    refine hcon.mono ?_
    rintro e w1 ⟨rfl, hb⟩
    clear hcon
    have hs := hb.size
    have hmade := SlF.made EntO 2 33 w1 #[] 0 (by simp [maxLen]) (by simp) (S := plus S w (w1.alloc (.cells #[] 33))) (.inr ⟨hs, by simp⟩) (fun q hq => by
      rcases hq with hq | hq
      · have := HZ.out.lt q hq; omega
      · have := hq.2; simpa using this)
    have HM := Lib.hid hmade
    clear hmade
    go_wp2_with fail
    go_ret
    exact ⟨_, 0, by rw [HR.out]; rfl, by rw [HR.out]; exact ⟨_, _, HM.out⟩, bal hb _⟩

/-! ### The sums -/
theorem wts_ins {z : List Ent} {b x d : Int} (h : wts z b) (hd : -d ≤ x ∧ x ≤ d) (hd0 : 0 ≤ d) (hb0 : 0 ≤ b) (r : List Int) : wts (insK lessB z r x) (b + d) := by
  induction z with
  | nil =>
    intro e he
    simp [insK] at he
    subst he
    simp only
    omega
  | cons y l ih =>
    intro e he
    have hy := h y (by simp)
    have hl : wts l b := fun q hq => h q (by simp [hq])
    unfold insK at he
    split at he
    · rcases List.mem_cons.1 he with rfl | he
      · omega
      · exact ih hl e he
    · split at he
      · rcases List.mem_cons.1 he with rfl | he
        · simp only; omega
        · have := hl e he; omega
      · rcases List.mem_cons.1 he with rfl | he
        · simp only; omega
        · have := h e he; omega
theorem rows_ins {z : List Ent} {n : Nat} (h : rowsIn z n) {r : List Int} (hr : r.length ≤ n) (x : Int) : rowsIn (insK lessB z r x) n := by
  intro e he
  rcases insK_key he with h1 | ⟨q, hq, h1⟩
  · rw [h1]; exact hr
  · rw [h1]; exact h q hq
theorem insK_pos (z : List Ent) (r : List Int) (x : Int) : 0 < (insK lessB z r x).length := by
  cases z with
  | nil => simp [insK]
  | cons y l =>
    unfold insK
    split
    · simp
    · split <;> simp
theorem AddL_take {a b : List Ent} {k : Nat} (h : k < b.length) : AddL a (b.take (k + 1)) = insK lessB (AddL a (b.take k)) b[k].1 b[k].2 := by
  rw [List.take_succ_eq_append_getElem h, AddL, List.foldl_append]
  rfl
theorem some_of_pos {w : World} {S : Fp} {A : Option Addr} {c : Nat} {z : List Ent} (h : EntsOw w S A c z) (hp : 0 < z.length) : A ≠ none := by
  obtain ⟨css, F, h⟩ := h
  rcases h.form with ⟨_, _, rfl⟩ | ⟨g, e, _⟩
  · simp at hp
  · rw [e]; simp
theorem wts_zs {z : List Ent} (h : zsB z = true) : wts z 1000000 := fun e he => by
  obtain ⟨j, hj, rfl⟩ := List.getElem_of_mem he
  exact zsB_wt h hj

theorem wts_next {z : List Ent} {k : Nat} (h : wts z (1000000 + (k : Int) * 1000000 + 1000000)) : wts z (1000000 + ((k + 1 : Nat) : Int) * 1000000) := fun e he => by
  have := h e he
  push_cast
  constructor <;> omega
theorem copyZSet_sN (A : Option Addr) (c : Nat) (es : List Ent) (w : World) (hx : EntsAt w A es) (hn : es.length ≤ 4194304) (hr : rowsIn es 4194304) :
    Calls Tryz.prog 62 #[.slice A es.length c] w fun e w' => ∃ A' c', e = .returned (.slice A' es.length c') ∧ A' ≠ none ∧ EntsOw w' (news w w') A' c' es ∧ Below w.heap.size w w' := by
  by_cases h0 : es.length = 0
  · obtain rfl := List.eq_nil_of_length_eq_zero h0
    have hmade := SlF.made EntO 2 33 w #[] 0 (by simp [maxLen]) (by simp) (S := news w (w.alloc (.cells #[] 33))) ⟨Nat.le_refl _, by simp⟩ (fun k hk => by have := hk.2; simpa using this)
    have HM := Lib.hid hmade
    clear hmade hx h0
    go_enter Tryz.func62, Tryz.ntmps62
    go_wp2
    refine wp_loop_rounds 1 ?_
    rw [rounds_succ]
    go_wp2
    go_ret
    exact ⟨_, 0, rfl, by simp, ⟨_, _, HM.out⟩, bal (Below.refl _ _) _⟩
  · exact (copyZSet_s A c es w hx hn hr).mono fun e w' ⟨A', c', he, ho, hb⟩ => ⟨A', c', he, some_of_pos ho (by omega), ho, hb⟩

set_option maxRecDepth 100000 in
set_option maxHeartbeats 3200000 in
theorem add_s (A : Option Addr) (c : Nat) (a : List Ent) (B : Option Addr) (d : Nat) (b : List Ent) (w : World) (hx : EntsAt w A a) (hy : EntsAt w B b) (ha : zsB a = true) (hb : zsB b = true) :
    Calls Tryz.prog 65 #[.slice A a.length c, .slice B b.length d] w fun e w' => ∃ A' c', e = .returned (.slice A' (chkF (nz (AddL a b))).length c') ∧ EntsOw w' (news w w') A' c' (chkF (nz (AddL a b))) ∧ Below w.heap.size w w' := by
  have hal := zsB_len ha
  have hbl := zsB_len hb
  have har : rowsIn a 4194304 := fun e he => by have := zsB_row ha e he; omega
  have hbr : rowsIn b 6 := zsB_row hb
  have hbw := wts_zs hb
  have haa := zsB_asc ha
  have haw : wts a 1000000 := wts_zs ha
  have HAA := Lib.hid haa
  clear ha hb haa
  go_enter Tryz.func65, Tryz.ntmps65
  go_wp2_with fail
  refine (copyZSet_sN _ _ _ _ hx (by omega) har).mono ?_
  rintro e w1 ⟨A1, c1, rfl, hn1, ho1, b1⟩
  go_wp2
  go_loopw [5, 6] (fun v i wr => ∃ k A' c', k ≤ b.length ∧ i = .int .i64 (k : Nat) ∧ v = .slice A' (AddL a (b.take k)).length c' ∧ A' ≠ none ∧ EntsOw wr (news w wr) A' c' (AddL a (b.take k)) ∧ (AddL a (b.take k)).length ≤ 400 + k ∧ rowsIn (AddL a (b.take k)) 4194304 ∧ wts (AddL a (b.take k)) (1000000 + k * 1000000) ∧ Below w.heap.size w wr) (fun _ i _ => b.length - (intOf i).toNat)
  case atStart => exact ⟨0, A1, c1, by omega, rfl, rfl, hn1, ho1, by simp [AddL]; omega, har, by simpa [AddL] using haw, b1⟩
  case round =>
    obtain ⟨k, A', c', hk, rfl, rfl, hA', hown, hlen, hrows, hwts, hbel⟩ := hrel
    have hs1 := hbel.size
    by_cases hlt : k < b.length
    · obtain ⟨bb, off, RB, rd, rfl, hbl', hc0, hc1, -, hrow⟩ := hy.get k hlt
      have q0 := (hbel.cell (p := ⟨bb, off + k * 2, none⟩) hbl').trans hc0
      have q1 := (hbel.cell (p := ⟨bb, off + k * 2 + 1, none⟩) hbl').trans hc1
      have hlt' : (k : Int) < b.length := by omega
      have hst := AddL_take (a := a) hlt
      have hwk := hbw.get hlt
      have hrk := hbr.get hlt
      have hasc := AddL_asc HAA.out (b.take k)
      have hl2 := insK_length (lt := lessB) (AddL a (b.take k)) b[k].1 b[k].2
      have hp2 := insK_pos (AddL a (b.take k)) b[k].1 b[k].2
      have hr2 := rows_ins hrows (r := b[k].1) (by omega) b[k].2
      have hw2 := wts_ins hwts ⟨hwk.1, hwk.2⟩ (by omega) (by omega) b[k].1
      have hw3 : wts (AddL a (b.take k)) 1099511627776 := fun e he => by have := hwts e he; omega
      have hwk1 : -1099511627776 ≤ b[k].2 := by omega
      have hwk2 : b[k].2 ≤ 1099511627776 := by omega
      have HST := Lib.hid hst
      have HO := Lib.hid hown
      have HR2 := Lib.hid hr2
      have HW2 := Lib.hid hw2
      have HW3 := Lib.hid hw3
      have HASC := Lib.hid hasc
      have HR := Lib.hid hrows
      have HL2 := Lib.hid hl2
      have HP2 := Lib.hid hp2
      clear hst hown hr2 hw2 hw3 hasc hrows hwts hl2 hp2 hc0 hc1
      generalize hM : AddL a (b.take k) = M at *
      clear hM
      go_wp2_with fail
      refine wp_region_facts [[], [], [], [1, 2], [1, 2, 3], [1, 2, 3, 4], [], [], [6, 7], [6, 7, 8], [6, 7, 8, 9]]
        [fun v' _ => v' = .slice A' M.length c', fun v' _ => v' = .slice (some ⟨bb, off, none⟩) b.length d, fun v' _ => v' = .int .i64 (k : Int), fun v' _ => v' = .pointer (some ⟨bb, off + k * 2, none⟩), fun v' _ => v' = .pointer (some ⟨bb, off + k * 2, none⟩), fun v' _ => v' = .slice RB b[k].1.length rd, fun v' _ => v' = .slice (some ⟨bb, off, none⟩) b.length d, fun v' _ => v' = .int .i64 (k : Int), fun v' _ => v' = .pointer (some ⟨bb, off + k * 2, none⟩), fun v' _ => v' = .pointer (some ⟨bb, off + k * 2 + 1, none⟩), fun v' _ => v' = .int .i64 b[k].2]
        (by kernel_rfl) (by kernel_rfl) rfl ⟨stable_pure _, stable_pure _, stable_pure _, stable_pure _, stable_pure _, stable_pure _, stable_pure _, stable_pure _, stable_pure _, stable_pure _, stable_pure _, trivial⟩ ?_
      refine wf_step (fun wf hb hf => ?_) (fun t0 => ?_)
      · go_wp2
        exact ⟨rfl, _, rfl, Below.refl _ _, rfl⟩
      refine wf_step (fun wf hb hf => ?_) (fun t1 => ?_)
      · go_wp2
        exact ⟨rfl, _, rfl, Below.refl _ _, rfl⟩
      refine wf_step (fun wf hb hf => ?_) (fun t2 => ?_)
      · go_wp2
        exact ⟨rfl, _, rfl, Below.refl _ _, rfl⟩
      refine wf_step (fun wf hb hf => ?_) (fun t3 => ?_)
      · obtain ⟨rfl, rfl, -⟩ := hf
        go_wp2
        exact ⟨rfl, _, rfl, Below.refl _ _, rfl⟩
      refine wf_step (fun wf hb hf => ?_) (fun t4 => ?_)
      · obtain ⟨rfl, rfl, rfl, -⟩ := hf
        go_wp2
        exact ⟨rfl, _, rfl, Below.refl _ _, rfl⟩
      refine wf_step (fun wf hb hf => ?_) (fun t5 => ?_)
      · obtain ⟨rfl, rfl, rfl, rfl, -⟩ := hf
        have c0 := (hb.cell (p := ⟨bb, off + k * 2, none⟩) (Nat.lt_of_lt_of_le hbl' hs1)).trans q0
        go_wp2
        exact ⟨rfl, _, rfl, Below.refl _ _, rfl⟩
      refine wf_step (fun wf hb hf => ?_) (fun t6 => ?_)
      · go_wp2
        exact ⟨rfl, _, rfl, Below.refl _ _, rfl⟩
      refine wf_step (fun wf hb hf => ?_) (fun t7 => ?_)
      · go_wp2
        exact ⟨rfl, _, rfl, Below.refl _ _, rfl⟩
      refine wf_step (fun wf hb hf => ?_) (fun t8 => ?_)
      · obtain ⟨rfl, rfl, -⟩ := hf
        go_wp2
        exact ⟨rfl, _, rfl, Below.refl _ _, rfl⟩
      refine wf_step (fun wf hb hf => ?_) (fun t9 => ?_)
      · obtain ⟨rfl, rfl, rfl, -⟩ := hf
        go_wp2
        exact ⟨rfl, _, rfl, Below.refl _ _, rfl⟩
      refine wf_step (fun wf hb hf => ?_) (fun t10 => ?_)
      · obtain ⟨rfl, rfl, rfl, rfl, -⟩ := hf
        have c1 := (hb.cell (p := ⟨bb, off + k * 2 + 1, none⟩) (Nat.lt_of_lt_of_le hbl' hs1)).trans q1
        go_wp2
        exact ⟨rfl, _, rfl, Below.refl _ _, rfl⟩
      refine wf_done (fun wC hb hf => ?_)
      obtain ⟨rfl, rfl, rfl, rfl, rfl, rfl, rfl, rfl, rfl, rfl, rfl, -⟩ := hf
      show wpList _ _ _ [_, _] _ _
      refine wpList_frame (by simp [Act.put]; rfl) ?_
      have hbC := btr hbel hb
      have hsC := hb.size
      go_wp2_with fail
      refine (addEntry_s (news w wC) _ _ _ _ _ _ _ _ ((HO.out.below entO hb).mono (fun q hq => ⟨hq.1, by have := hq.2; omega⟩) (fun q hq => hq.2)) hA' HASC.out (((hrow.below hbel)).below hb) (by omega) HR.out (by omega) HW3.out hwk1 hwk2).mono ?_
      rintro e w2 ⟨A2, c2, rfl, ho2, g2⟩
      have hs2 := g2.size
      have hb2 := g2.below hbC (fun q hq => hq.1)
      have ho3 : EntsOw w2 (news w w2) A2 c2 (insK lessB M b[k].1 b[k].2) := ho2.mono (fun q hq => by
        rcases hq with hq | hq
        · exact ⟨hq.1, by have := hq.2; omega⟩
        · exact ⟨by have := hq.1; omega, hq.2⟩) (fun q hq => hq.2)
      have hA2 := some_of_pos ho3 HP2.out
      have HO3 := Lib.hid ho3
      clear ho2 ho3 g2 hbel hb hrow q0 q1 hbC HO
      go_wp2
      go_roundw
      case rel => exact ⟨k + 1, A2, c2, by omega, by go_num, by rw [HST.out], hA2, by rw [HST.out]; exact HO3.out, by rw [HST.out]; have := HL2.out; omega, by rw [HST.out]; exact HR2.out, by rw [HST.out]; exact wts_next HW2.out, hb2⟩
      case measure => simp [intOf]; omega
    · obtain rfl : k = b.length := by omega
      rw [List.take_length] at hown hlen hrows hwts
      have HO := Lib.hid hown
      have HR := Lib.hid hrows
      have HT := Lib.hid (List.take_length (l := b))
      clear hown hrows hwts
      simp only [HT.out]
      go_wp2_with fail
      refine (withoutZeros_s _ _ _ _ _ HO.out (by omega)).mono ?_
      rintro e w2 ⟨A2, c2, rfl, ho2, b2⟩
      have hnl : (nz (AddL a b)).length ≤ (AddL a b).length := List.length_filter_le _ _
      have hnr : rowsIn (nz (AddL a b)) 4194304 := fun e he => HR.out e (List.mem_filter.1 he).1
      go_wp2_with fail
      refine (checked_s _ _ _ _ _ ho2 (by omega) hnr).mono ?_
      rintro e w3 ⟨A3, c3, rfl, ho3, b3⟩
      have hs2 := b2.size
      have hs3 := b3.size
      have ho4 : EntsOw w3 (news w w3) A3 c3 (chkF (nz (AddL a b))) := ho3.mono (fun q hq => by
        rcases hq with hq | hq
        · rcases hq with hq | hq
          · exact ⟨hq.1, by have := hq.2; omega⟩
          · exact ⟨by have := hq.1; omega, by have := hq.2; omega⟩
        · exact ⟨by have := hq.1; omega, hq.2⟩) (fun q hq => hq.2)
      have HO4 := Lib.hid ho4
      clear ho2 ho3 ho4
      go_wp2_with fail
      go_ret
      exact ⟨A3, c3, rfl, HO4.out, btr hbel (btr b2 b3)⟩
end Go.Proofs.YtifjenleoagefaaGreat
