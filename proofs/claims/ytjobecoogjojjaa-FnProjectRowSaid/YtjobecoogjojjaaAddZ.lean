/- HELPER, no statement of the seat: the model's sums of Z-sets. -/
import Derived.Test.YtjobecoogjojjaaAddE
namespace Go.Proofs.Ytjobecoogjojjaa
open Go.RowKit Go.Sort
set_option linter.unusedSimpArgs false
set_option linter.unusedVariables false

theorem getD_lt {α : Type} {l : List α} {i : Nat} (d : α) (h : i < l.length) : l.getD i d = l[i] := by simp [h]
/-- The elements at the places of sel, in their order, in another block. -/
theorem SlF.pick {α : Type} {O : Ow α} {R : Rd α} {sz : Nat} {E : TypeId} {w : World} {S U : Fp} {A A' : Option Addr} {c c' : Nat} {xs : List α} {css : List (List Value)} {F : Nat → Fp} (ok : OOk O R sz) (h : SlF O sz E w S A c xs css F) (dx : α) (sel : List Nat) (hs : sel.Nodup) (hlt : ∀ j ∈ sel, j < xs.length)
    (hrow : w.ownsRow 0 E sz (.slice A' sel.length c') sel.length (sel.map fun j => css.getD j []).flatten) (hA : ∀ q, blk A' = some q → blk A = some q ∨ ¬ S q) (hU : ∀ q, S q ∨ blk A' = some q → U q) (hUl : ∀ q, U q → q < w.heap.size) :
    SlF O sz E w U A' c' (sel.map fun j => xs.getD j dx) (sel.map fun j => css.getD j []) (fun i => if i < sel.length then F (sel.getD i 0) else fun _ => False) := by
  have hcl := h.clen
  refine ⟨hUl, fun q hq => hU q (.inr hq), ?_, by simp, ?_, ?_, ?_, ?_⟩
  · rw [List.length_map]
    exact hrow
  · intro cs hcs
    obtain ⟨j, hj, rfl⟩ := List.mem_map.1 hcs
    have hj' := hlt j hj
    rw [getD_lt _  (by rw [hcl]; exact hj')]
    exact h.elen _ (List.getElem_mem _)
  · intro i q hq
    by_cases hi : i < sel.length
    · rw [if_pos hi] at hq
      have hs' := h.sub _ q hq
      refine ⟨hU q (.inl hs'.1), fun e => ?_⟩
      rcases hA q e with e' | e'
      · exact hs'.2 e'
      · exact e' hs'.1
    · rw [if_neg hi] at hq
      exact hq.elim
  · intro i j q hi hj
    by_cases hil : i < sel.length
    · by_cases hjl : j < sel.length
      · rw [if_pos hil] at hi
        rw [if_pos hjl] at hj
        have := h.apart _ _ q hi hj
        rw [getD_lt _  hil, getD_lt _  hjl] at this
        rcases Nat.lt_trichotomy i j with hl | hl | hl
        · exact absurd this (List.pairwise_iff_getElem.1 hs i j hil hjl hl)
        · exact hl
        · exact absurd this.symm (List.pairwise_iff_getElem.1 hs j i hjl hil hl)
      · rw [if_neg hjl] at hj; exact hj.elim
    · rw [if_neg hil] at hi; exact hi.elim
  · intro i g1 g2
    have hi : i < sel.length := by simpa using g1
    rw [if_pos hi, getD_lt _  hi]
    simp only [List.getElem_map]
    have hj := hlt sel[i] (List.getElem_mem hi)
    rw [getD_lt _  (by rw [hcl]; exact hj), getD_lt _  hj]
    exact h.elt _ _ _

/-- The places below k of what is not zero. -/
def nzTo (z : List Ent) (k : Nat) : List Nat := (List.range k).filter fun j => decide ((nth z j).2 ≠ 0)
theorem nzTo_step {z : List Ent} {k : Nat} (h : k < z.length) : nzTo z (k + 1) = nzTo z k ++ if z[k].2 ≠ 0 then [k] else [] := by
  unfold nzTo
  rw [List.range_succ, List.filter_append]
  congr 1
  by_cases e : z[k].2 = 0 <;> simp [nth_get h, e]
theorem nzTo_len (z : List Ent) (k : Nat) : (nzTo z k).length ≤ k := by
  have := List.length_filter_le (fun j => decide ((nth z j).2 ≠ 0)) (List.range k)
  simpa [nzTo] using this
theorem nzTo_lt {z : List Ent} {k j : Nat} (h : j ∈ nzTo z k) : j < k := by
  have := (List.mem_filter.1 h).1
  simpa using this
theorem nzTo_nodup (z : List Ent) (k : Nat) : (nzTo z k).Nodup := List.Pairwise.sublist List.filter_sublist List.nodup_range
theorem nzTo_nz (z : List Ent) : ∀ k, k ≤ z.length → (nzTo z k).map (fun j => z.getD j ([], 0)) = nz (z.take k) := by
  intro k
  induction k with
  | zero => intro _; rfl
  | succ k ih =>
    intro hk
    have hk' : k < z.length := by omega
    rw [nzTo_step hk', List.map_append, ih (by omega), List.take_succ_eq_append_getElem hk', nz, nz, List.filter_append]
    congr 1
    by_cases e : z[k].2 = 0 <;> simp [e, hk']

set_option maxRecDepth 100000 in
set_option maxHeartbeats 1600000 in
theorem withoutZeros_s (S : Fp) (A : Option Addr) (c : Nat) (z : List Ent) (w : World) (hz : EntsOw w S A c z) (hn : z.length ≤ 4194303) :
    Calls Try.prog 151 #[.slice A z.length c] w fun e w' => ∃ A' c', e = .returned (.slice A' (nz z).length c') ∧ EntsOw w' (plus S w w') A' c' (nz z) ∧ Below w.heap.size w w' := by
  obtain ⟨i0, hi, hz0, hz1, hz2⟩ := info_parts Try.infoEnt
  obtain ⟨css, F, hF⟩ := hz
  have hat : EntsAt w A z := hF.at_ entO
  have HF := Lib.hid hF
  have hcl := hF.clen
  clear hF
  go_enter Try.func151, Try.ntmps151
  go_wp2
  go_loopw [3, 4] (fun v i wr => ∃ k A' c', k ≤ z.length ∧ i = .int .i64 (k : Nat) ∧ v = .slice A' (nzTo z k).length c' ∧ wr.ownsRow w.heap.size 100 2 (.slice A' (nzTo z k).length c') (nzTo z k).length ((nzTo z k).map fun j => css.getD j []).flatten ∧ Below w.heap.size w wr) (fun _ i _ => z.length - (intOf i).toNat)
  case atStart => exact ⟨0, _, _, by omega, rfl, rfl, World.ownsRow_lit w #[] 0 (Nat.le_refl _) (by simp [maxLen]) (by simp), bal (Below.refl _ _) _⟩
  case round =>
    obtain ⟨k, A', c', hk, rfl, rfl, hown, hbel⟩ := hrel
    by_cases hlt : k < z.length
    · obtain ⟨b, off, RA, rc, hA, hbl, hc0, hc1, -, -⟩ := hat.get k hlt
      subst hA
      have q0 := (hbel.cell (p := ⟨b, off + k * 2, none⟩) hbl).trans hc0
      have q1 := (hbel.cell (p := ⟨b, off + k * 2 + 1, none⟩) hbl).trans hc1
      have hst := nzTo_step hlt
      have hlen := nzTo_len z k
      have hs1 := hbel.size
      by_cases hp : z[k].2 = 0
      · have hne : (z[k].2 != 0) = false := by simp [hp]
        rw [if_neg (by simp [hp]), List.append_nil] at hst
        have HST := Lib.hid hst
        have HO := Lib.hid hown
        clear hst hp hc0 hc1 hown
        generalize hM : nzTo z k = M at *
        clear hM
        go_wp2
        go_roundw
        case rel => exact ⟨k + 1, A', c', by omega, by go_num, by rw [HST.out], by rw [HST.out]; exact HO.out, hbel⟩
        case measure => simp [intOf]; omega
      · have hne : (z[k].2 != 0) = true := by simp [hp]
        rw [if_pos hp] at hst
        have hcs : css.getD k [] = [.slice RA z[k].1.length rc, .int .i64 z[k].2] := by
          have h1 : k < css.length := by rw [hcl]; exact hlt
          have hform := HF.out.form
          obtain ⟨g, hg⟩ : ∃ g, some (⟨b, off, none⟩ : Addr) = some ⟨g, 0, none⟩ := by
            rcases hform with ⟨h, _⟩ | ⟨g, h, _⟩
            · cases h
            · exact ⟨g, h⟩
          injection hg with hg
          injection hg with hg1 hg2
          subst hg1
          subst hg2
          have c0 := HF.out.cell k h1 0 (by omega)
          have c1 := HF.out.cell k h1 1 (by omega)
          have hl2 := HF.out.elen _ (List.getElem_mem h1)
          simp only [Nat.zero_add, Nat.add_zero] at c0 c1 hc0 hc1
          rw [hc0] at c0
          rw [hc1] at c1
          rw [getD_lt _  h1]
          match hm : css[k], hl2 with
          | [u0, u1], _ =>
            rw [hm] at c0 c1
            simp at c0 c1
            rw [c0, c1]
        have HST := Lib.hid hst
        have HCS := Lib.hid hcs
        clear hst hp hc0 hc1 hcs
        generalize hM : nzTo z k = M at *
        clear hM
        go_wp2_with (at_builtin; refine wpList_append_src _ rfl _ _ 41 rfl w.heap.size 100 i0 (.agg #[.slice none 0 0, .int .i64 0]) 2 32 Try.underlying41 hi hz0 hz1 hz2 rfl (by decide) _ _ _ rfl (hown.alloc _) (some ⟨wr.heap.size, 0, none⟩) 1 1 [.slice RA z[k].1.length rc, .int .i64 z[k].2] rfl rfl (fun h => by cases h) ent_srcs ent_ones (by unfold maxLen; omega) (by omega) (by simp; omega) ?_)
        intro v' w3 hown' hgrow hloc
        obtain ⟨A3, c3, rfl⟩ := own_slice hown'
        have hb3 : Below w.heap.size w w3 := (bal hbel _).grown hgrow (by simp; omega) (fun q hq => (World.ownsRow.lt hown q hq).1)
        have hrow3 : w3.ownsRow w.heap.size 100 2 (.slice A3 (nzTo z (k + 1)).length c3) (nzTo z (k + 1)).length ((nzTo z (k + 1)).map fun j => css.getD j []).flatten := by
          rw [HST.out]
          simp only [List.length_append, List.length_cons, List.length_nil, Nat.zero_add, List.map_append, List.map_cons, List.map_nil, List.flatten_append, List.flatten_cons, List.flatten_nil, List.append_nil, HCS.out]
          exact hown'
        have HR := Lib.hid hrow3
        have HL : Hid (M.length + 1 = (nzTo z (k + 1)).length) := by rw [HST.out]; simp [Hid]
        clear hown' hgrow hloc hrow3 hown hbel q0 q1 HCS
        go_wp2
        go_roundw
        case rel => exact ⟨k + 1, A3, c3, by omega, by go_num, by rw [HL.out], HR.out, hb3⟩
        case measure => simp [intOf]; omega
    · obtain rfl : k = z.length := by omega
      have hF2 := HF.out.loc entO (fun q hq => hbel.block q (HF.out.lt q hq))
      have hp := hF2.pick (U := plus S w wr) entO ([], 0) (nzTo z z.length) (nzTo_nodup _ _) (fun j hj => nzTo_lt hj) (ownsRow_base0 hown) (fun q hq => .inr (fun h => by
        have h1 := (World.ownsRow.lt hown q (by rw [ownBlock_slice]; exact hq)).1
        have h2 := HF.out.lt q h
        omega)) (fun q hq => by
        rcases hq with hq | hq
        · exact .inl hq
        · exact .inr (World.ownsRow.lt hown q (by rw [ownBlock_slice]; exact hq))) (fun q hq => by
        rcases hq with hq | hq
        · exact hF2.lt q hq
        · exact hq.2)
      have he := nzTo_nz z z.length (Nat.le_refl _)
      rw [List.take_length] at he
      rw [he] at hp
      have HP := Lib.hid hp
      have HL : Hid ((nzTo z z.length).length = (nz z).length) := by rw [← he]; simp [Hid]
      clear hp he hF2 hown
      go_wp2
      go_ret
      exact ⟨A', c', by rw [← HL.out]; rfl, ⟨_, _, HP.out⟩, hbel⟩

set_option maxHeartbeats 400000 in
theorem checked_s (S : Fp) (A : Option Addr) (c : Nat) (z : List Ent) (w : World) (hz : EntsOw w S A c z) (hn : z.length ≤ 4194303) (hr : rowsIn z 4194304) :
    Calls Try.prog 150 #[.slice A z.length c] w fun e w' => ∃ A' c', e = .returned (.slice A' (chkF z).length c') ∧ EntsOw w' (plus S w w') A' c' (chkF z) ∧ Below w.heap.size w w' := by
  have hcon := validZSet_s A c z w (SlOw.at_ entO hz) (by omega) hr
  have HZ := Lib.hid hz
  clear hz
  by_cases h : zsB z = true
  · have HR : Hid (chkF z = z) := by simp [Hid, chkF, h]
    rw [h] at hcon
    clear h
    go_enter Try.func150, Try.ntmps150
    go_wp2_with fail
    refine hcon.mono ?_
    rintro e w1 ⟨rfl, hb⟩
    clear hcon
    go_wp2_with fail
    go_ret
    have hs := hb.size
    exact ⟨A, c, by rw [HR.out]; rfl, by rw [HR.out]; exact (HZ.out.below entO hb).mono (fun q hq => .inl hq) (fun q hq => by
      rcases hq with hq | hq
      · have := HZ.out.lt q hq; omega
      · exact hq.2), hb⟩
  · have h' : zsB z = false := by simpa using h
    have HR : Hid (chkF z = []) := by simp [Hid, chkF, h']
    rw [h'] at hcon
    clear h h'
    go_enter Try.func150, Try.ntmps150
    go_wp2_with fail
    refine hcon.mono ?_
    rintro e w1 ⟨rfl, hb⟩
    clear hcon
    have hs := hb.size
    have hmade := SlF.made EntO 2 100 w1 #[] 0 (by simp [maxLen]) (by simp) (S := plus S w (w1.alloc (.cells #[] 100))) (.inr ⟨hs, by simp⟩) (fun q hq => by
      rcases hq with hq | hq
      · have := HZ.out.lt q hq; omega
      · have := hq.2; simpa using this)
    have HM := Lib.hid hmade
    clear hmade
    go_wp2_with fail
    go_ret
    exact ⟨_, 0, by rw [HR.out]; rfl, by rw [HR.out]; exact ⟨_, _, HM.out⟩, bal hb _⟩

/-! ### The sums -/
theorem wts_ins {z : List Ent} {b x d : Int} (h : wts z b) (hd : -d ≤ x ∧ x ≤ d) (hd0 : 0 ≤ d) (hb0 : 0 ≤ b) (r : List Int) : wts (insK lessB z r x) (b + d) := by
  induction z with
  | nil =>
    intro e he
    simp [insK] at he
    subst he
    simp only
    omega
  | cons y l ih =>
    intro e he
    have hy := h y (by simp)
    have hl : wts l b := fun q hq => h q (by simp [hq])
    unfold insK at he
    split at he
    · rcases List.mem_cons.1 he with rfl | he
      · omega
      · exact ih hl e he
    · split at he
      · rcases List.mem_cons.1 he with rfl | he
        · simp only; omega
        · have := hl e he; omega
      · rcases List.mem_cons.1 he with rfl | he
        · simp only; omega
        · have := h e he; omega
theorem rows_ins {z : List Ent} {n : Nat} (h : rowsIn z n) {r : List Int} (hr : r.length ≤ n) (x : Int) : rowsIn (insK lessB z r x) n := by
  intro e he
  rcases insK_key he with h1 | ⟨q, hq, h1⟩
  · rw [h1]; exact hr
  · rw [h1]; exact h q hq
theorem insK_pos (z : List Ent) (r : List Int) (x : Int) : 0 < (insK lessB z r x).length := by
  cases z with
  | nil => simp [insK]
  | cons y l =>
    unfold insK
    split
    · simp
    · split <;> simp
theorem AddL_take {a b : List Ent} {k : Nat} (h : k < b.length) : AddL a (b.take (k + 1)) = insK lessB (AddL a (b.take k)) b[k].1 b[k].2 := by
  rw [List.take_succ_eq_append_getElem h, AddL, List.foldl_append]
  rfl
theorem some_of_pos {w : World} {S : Fp} {A : Option Addr} {c : Nat} {z : List Ent} (h : EntsOw w S A c z) (hp : 0 < z.length) : A ≠ none := by
  obtain ⟨css, F, h⟩ := h
  rcases h.form with ⟨_, _, rfl⟩ | ⟨g, e, _⟩
  · simp at hp
  · rw [e]; simp
theorem wts_zs {z : List Ent} (h : zsB z = true) : wts z 1000000 := fun e he => by
  obtain ⟨j, hj, rfl⟩ := List.getElem_of_mem he
  exact zsB_wt h hj

theorem wts_next {z : List Ent} {k : Nat} (h : wts z (1000000 + (k : Int) * 1000000 + 1000000)) : wts z (1000000 + ((k + 1 : Nat) : Int) * 1000000) := fun e he => by
  have := h e he
  push_cast
  constructor <;> omega
end Go.Proofs.Ytjobecoogjojjaa
