/- HELPER, no statement of the seat: several texts in one file. -/
import Derived.Test.YtifjenleoagefaaGreatZba
import Derived.Test.YtifjenleoagefaaGreatZbs
/- HELPER, no statement of the seat: copies of lists of entries: both sides. -/
namespace Go.Proofs.YtifjenleoagefaaGreat
open Go.RowKit Go.Sort
set_option linter.unusedSimpArgs false
set_option linter.unusedVariables false

/-- v is a row of its own that reads as xs; v is an entry of such a row. -/
def RowV (base : Nat) (xs : List Int) (v : Value) (w : World) : Prop := ∃ A c, v = .slice A xs.length c ∧ IntsOwn w base A c xs
def EntV (base : Nat) (xs : List Int) (x : Int) (v : Value) (w : World) : Prop := ∃ A c, v = .agg #[.slice A xs.length c, .int .i64 x] ∧ IntsOwn w base A c xs
theorem stable_rowV (base : Nat) (xs : List Int) : Stable (RowV base xs) := fun _ _ _ hb ⟨A, c, e, h⟩ => ⟨A, c, e, h.below hb⟩
theorem stable_entV (base : Nat) (xs : List Int) (x : Int) : Stable (EntV base xs x) := fun _ _ _ hb ⟨A, c, e, h⟩ => ⟨A, c, e, h.below hb⟩
theorem IntsOwn.far {w : World} {base : Nat} {A : Option Addr} {c : Nat} {xs : List Int} (h : IntsOwn w base A c xs) {p : Addr} (hp : p.block < base) (u : Value) : IntsOwn (w.setCell p u) base A c xs := by
  refine ownsRow_loc h (fun k hk => Below.heap_setCell _ _ _ _ ?_)
  rcases ownsRow_form h with ⟨e, _⟩ | ⟨g, e, hg, _⟩
  · rw [e] at hk; cases hk
  · rw [e] at hk
    simp [blk] at hk
    omega

set_option maxHeartbeats 1000000 in
theorem copyEntry_s (RA : Option Addr) (rc : Nat) (xs : List Int) (x : Int) (w : World) (hx : IntsAt w RA xs) (hn : xs.length ≤ 4194304) :
    Calls Tryz.prog 83 #[.agg #[.slice RA xs.length rc, .int .i64 x]] w fun e w' => ∃ A c, e = .returned (.agg #[.slice A xs.length c, .int .i64 x]) ∧ IntsOwn w' w.heap.size A c xs ∧ Below w.heap.size w w' := by
  go_enter Tryz.func83, Tryz.ntmps83
  go_wp2_with fail
  refine abs_world (fun wB => Below w.heap.size w wB ∧ Blk wB w.heap.size 33 #[.slice RA xs.length rc, .int .i64 x] ∧ Blk wB (w.heap.size + 1) 33 #[.slice none 0 0, .int .i64 0])
    ⟨bal (bal (Below.refl _ _) _) _, (Blk.newAt rfl).alloc _, Blk.newAt (by simp)⟩ (fun wB hx' => ?_)
  obtain ⟨hB, h0, h1⟩ := hx'
  have hs0 := h1.lt
  refine wp_region_facts [[], [0], [1], [], [3], [2, 4]]
    [fun v' _ => v' = .pointer (some ⟨w.heap.size, 0, none⟩), fun v' _ => v' = .slice RA xs.length rc, RowV wB.heap.size xs, fun v' _ => v' = .pointer (some ⟨w.heap.size, 1, none⟩), fun v' _ => v' = .int .i64 x, EntV wB.heap.size xs x]
    (by kernel_rfl) (by kernel_rfl) rfl ⟨stable_pure _, stable_pure _, stable_rowV _ _, stable_pure _, stable_pure _, stable_entV _ _ _, trivial⟩ ?_
  refine wf_step (fun w1 hb hf => ?_) (fun t0 => ?_)
  · go_wp2
    exact ⟨rfl, _, rfl, Below.refl _ _, rfl⟩
  refine wf_step (fun w1 hb hf => ?_) (fun t1 => ?_)
  · obtain ⟨rfl, -⟩ := hf
    have c0 := (h0.below hb).cell 0
    simp at c0
    go_wp2
    exact ⟨rfl, _, rfl, Below.refl _ _, rfl⟩
  refine wf_step (fun w1 hb hf => ?_) (fun t2 => ?_)
  · obtain ⟨rfl, -⟩ := hf
    go_wp2_with (go_at_call 68; refine (copyInts_s _ _ _ _ ((hx.below hB).below hb) hn).mono ?_; rintro e w2 ⟨A', c', rfl, ho, hb2⟩)
    exact ⟨rfl, _, rfl, hb2, A', c', rfl, ho.mono hb.size⟩
  refine wf_step (fun w1 hb hf => ?_) (fun t3 => ?_)
  · go_wp2
    exact ⟨rfl, _, rfl, Below.refl _ _, rfl⟩
  refine wf_step (fun w1 hb hf => ?_) (fun t4 => ?_)
  · obtain ⟨rfl, -⟩ := hf
    have c0 := (h0.below hb).cell 1
    simp at c0
    go_wp2
    exact ⟨rfl, _, rfl, Below.refl _ _, rfl⟩
  refine wf_step (fun w1 hb hf => ?_) (fun t5 => ?_)
  · obtain ⟨⟨A', c', rfl, ho⟩, rfl, -⟩ := hf
    go_wp2
    exact ⟨rfl, _, rfl, Below.refl _ _, A', c', rfl, ho⟩
  refine wf_done (fun wC hb hf => ?_)
  obtain ⟨rfl, rfl, -, rfl, rfl, ⟨A', c', rfl, ho⟩, -⟩ := hf
  show wpList _ _ _ [_] _ _
  refine wpList_frame (by simp [Act.put]; rfl) ?_
  have k1 := h1.below hb
  have g0 := k1.cell 0
  have g1 := k1.cell 1
  have f0 := k1.frozen 0
  have f1 := k1.frozen 1
  simp at g0 g1
  have r0 := ((k1.set_ 0 (.slice A' xs.length c')).set_ 1 (.int .i64 x)).cell 0
  have r1 := ((k1.set_ 0 (.slice A' xs.length c')).set_ 1 (.int .i64 x)).cell 1
  simp at r0 r1
  have HO := Lib.hid ho
  have HB := Lib.hid (btr hB hb)
  have hs1 := hB.size
  have HR0 := Lib.hid r0
  have HR1 := Lib.hid r1
  clear ho hb k1 r0 r1
  go_wp2
  refine bodyPost_ret (v := .agg #[.slice A' xs.length c', .int .i64 x]) (by simp [results, Tryz.results83, go_sem, HR0.out, HR1.out]) rfl ⟨A', c', rfl, ((HO.out.far (by simpa using hs0) _).far (by simpa using hs0) _).mono hs1, bset (bset HB.out (by simp) _) (by simp) _⟩

/-- One more entry: what append gives. -/
theorem SlF.pushE {w w0 w1 w2 : World} {A : Option Addr} {c : Nat} {es : List Ent} {css : List (List Value)} {F : Nat → Fp} {v' : Value} {RA : Option Addr} {rc : Nat} {xs : List Int} {x : Int}
    (h : SlF EntO 2 33 w0 (news w w0) A c es css F) (hb0 : Below w.heap.size w w0) (hb1 : Below w0.heap.size w0 w1) (ho : IntsOwn w1 w0.heap.size RA rc xs)
    (hrow : w2.ownsRow w.heap.size 33 2 v' (es.length + 1) (css.flatten ++ [.slice RA xs.length rc, .int .i64 x]))
    (hg : (w1.alloc (.cells #[.slice RA xs.length rc, .int .i64 x] 33)).grownBy w2 (blk A)) (hl : ∀ k, v'.ownBlock = some k → blk A = some k ∨ w1.heap.size + 1 ≤ k) :
    ∃ A' c', v' = .slice A' (es.length + 1) c' ∧ EntsOw w2 (news w w2) A' c' (es ++ [(xs, x)]) ∧ Below w.heap.size w w2 := by
  obtain ⟨A', c', rfl⟩ := own_slice hrow
  rw [ownBlock_slice] at hl
  have hs0 := hb0.size
  have hs1 := hb1.size
  have hs2 := hg.size
  simp at hs2
  have h1 : SlF EntO 2 33 w1 (news w w0) A c es css F := h.loc entO (fun k hk => hb1.block k hk.2)
  have hB1 : Below w.heap.size w (w1.alloc (.cells #[.slice RA xs.length rc, .int .i64 x] 33)) := bal (btr hb0 hb1) _
  have hA0 : ∀ k, blk A = some k → w.heap.size ≤ k ∧ k < w0.heap.size := fun k hk => h.top k hk
  have hel : EntO w1 (news w0 w1) [.slice RA xs.length rc, .int .i64 x] (xs, x) := EntO.mk (fun k hk => hk.2) (fun k hk => by
    rcases ownsRow_form ho with ⟨e, _⟩ | ⟨g, e, hg1, hg2, _⟩
    · rw [e] at hk; cases hk
    · rw [e] at hk; simp [blk] at hk; subst hk; exact ⟨hg1, hg2⟩) (ho.mono (Nat.zero_le _))
  have hb2 : ∀ k, k < w1.heap.size → blk A ≠ some k → w2.heap[k]? = w1.heap[k]? := fun k hk hn => (hg.block k (by simp; omega) (fun e => hn e.symm)).trans (Below.heap_alloc _ _ _ hk)
  refine ⟨A', c', rfl, ⟨_, _, h1.push entO hel (fun k h1 h2 => by have := h1.1; have := h2.2; omega) (ownsRow_base0 hrow) hb2 (fun k hk => ?_) (fun k hk => ?_) (fun k hk => hk.2)⟩, ?_⟩
  · rcases hl k hk with h | h
    · exact .inl h
    · right; omega
  · rcases hk with hk | hk | hk
    · exact ⟨hk.1, by have := hk.2; omega⟩
    · exact ⟨by have := hk.1; omega, by have := hk.2; omega⟩
    · have h2 := World.ownsRow.lt hrow k (by rw [ownBlock_slice]; exact hk)
      exact h2
  · exact hB1.grown hg hB1.size (fun k hk => (hA0 k hk).1)
theorem ent_srcs {w1 : World} {RA : Option Addr} {n rc : Nat} {x : Int} {E : TypeId} : ∀ a, some (⟨w1.heap.size, 0, none⟩ : Addr) = some a → ∀ j u, [Value.slice RA n rc, .int .i64 x][j]? = some u → (w1.alloc (.cells #[.slice RA n rc, .int .i64 x] E)).cell? (a.add j) = some u := by
  intro a e j u hu
  injection e with e
  subst e
  match j, hu with
  | 0, hu => simp at hu; subst hu; simp [Addr.add]
  | 1, hu => simp at hu; subst hu; simp [Addr.add]
theorem ent_ones {RA : Option Addr} {n rc : Nat} {x : Int} : ∀ u ∈ [Value.slice RA n rc, .int .i64 x], u.oneCell' = true := by
  intro u hu
  simp at hu
  rcases hu with rfl | rfl <;> rfl

set_option maxHeartbeats 1000000 in
theorem copyZSet_s (A : Option Addr) (c : Nat) (es : List Ent) (w : World) (hx : EntsAt w A es) (hn : es.length ≤ 4194304) (hr : rowsIn es 4194304) :
    Calls Tryz.prog 62 #[.slice A es.length c] w fun e w' => ∃ A' c', e = .returned (.slice A' es.length c') ∧ EntsOw w' (news w w') A' c' es ∧ Below w.heap.size w w' := by
  obtain ⟨i0, hi, hz0, hz1, hz2⟩ := info_parts Tryz.infoEnt
  go_enter Tryz.func62, Tryz.ntmps62
  go_wp2
  go_loopw [3, 4] (fun v i wr => ∃ k A' c', k ≤ es.length ∧ i = .int .i64 (k : Nat) ∧ v = .slice A' k c' ∧ EntsOw wr (news w wr) A' c' (es.take k) ∧ Below w.heap.size w wr) (fun _ i _ => es.length - (intOf i).toNat)
  case atStart => exact ⟨0, _, _, by omega, rfl, rfl, ⟨_, _, SlF.made EntO 2 33 w #[] 0 (by simp [maxLen]) (by simp) ⟨Nat.le_refl _, by simp⟩ (fun k hk => by have := hk.2; simpa using this)⟩, bal (Below.refl _ _) _⟩
  case round =>
    obtain ⟨k, A', c', hk, rfl, rfl, ⟨css, F, hown⟩, hbel⟩ := hrel
    by_cases hlt : k < es.length
    · obtain ⟨b, off, RA, rc, rfl, hbl, hc0, hc1, -, hrow⟩ := hx.get k hlt
      have q0 := (hbel.cell (p := ⟨b, off + k * 2, none⟩) hbl).trans hc0
      have q1 := (hbel.cell (p := ⟨b, off + k * 2 + 1, none⟩) hbl).trans hc1
      have hrl := hr.get hlt
      have hkl : (es.take k).length = k := by simp; omega
      have HF := Lib.hid hown
      clear hc0 hc1 hown
      go_wp2_with fail
      refine (copyEntry_s _ _ _ _ _ (hrow.below hbel) hrl).mono ?_
      rintro e w2 ⟨RA', rc', rfl, ho, hb2⟩
      have hrow2 := (HF.out.loc entO (fun k hk => hb2.block k hk.2)).row
      rw [hkl] at hrow2
      have hbase : ∀ q, blk A' = some q → w.heap.size ≤ q := fun q hq => (HF.out.top q hq).1
      have hs2 := hb2.size
      have hs1 := hbel.size
      go_wp2_with (at_builtin; refine wpList_append_src _ rfl _ _ 23 rfl w.heap.size 33 i0 (.agg #[.slice none 0 0, .int .i64 0]) 2 32 Tryz.underlying23 hi hz0 hz1 hz2 rfl (by decide) _ _ _ rfl ((ownsRow_base hrow2 hbase).alloc _) (some ⟨w2.heap.size, 0, none⟩) 1 1 [.slice RA' es[k].1.length rc', .int .i64 es[k].2] rfl rfl (fun h => by cases h) ent_srcs ent_ones (by unfold maxLen; omega) (by omega) (by simp; omega) ?_)
      intro v' w3 hown' hgrow hloc
      rw [ownBlock_slice] at hgrow hloc
      have hp := HF.out.pushE (w2 := w3) hbel hb2 ho (by rw [hkl]; exact hown') hgrow hloc
      rw [hkl, show es.take k ++ [(es[k].1, es[k].2)] = es.take (k + 1) by rw [List.take_succ_eq_append_getElem hlt]] at hp
      obtain ⟨A3, c3, rfl, ho3, hb3⟩ := hp
      have HO := Lib.hid ho3
      have HB := Lib.hid hb3
      clear hown' hgrow hloc ho3 hb3 hrow2 hbase ho hb2 hbel hrow q0 q1 HF
      go_wp2
      go_roundw
      case rel => exact ⟨k + 1, A3, c3, by omega, by go_num, rfl, HO.out, HB.out⟩
      case measure => simp [intOf]; omega
    · obtain rfl : k = es.length := by omega
      rw [List.take_length] at hown
      have HO : Hid (EntsOw wr (news w wr) A' c' es) := ⟨_, _, hown⟩
      have HB := Lib.hid hbel
      clear hown hbel
      go_wp2
      go_ret
      exact ⟨A', c', rfl, HO.out, HB.out⟩

/-! ### Negation -/
def negTo (es : List Ent) (k : Nat) : List Ent := negL (es.take k) ++ es.drop k
theorem negTo_length {es : List Ent} {k : Nat} : (negTo es k).length = es.length := by simp [negTo, negL]; omega
theorem negTo_get {es : List Ent} {k : Nat} (h : k < es.length) : (negTo es k)[k]'(by rw [negTo_length]; exact h) = es[k] := by
  have hl : (negL (es.take k)).length = k := by simp [negL]; omega
  have : (negTo es k)[k]? = some es[k] := by
    rw [negTo, List.getElem?_append_right (by omega), hl]
    simp [h]
  rw [List.getElem?_eq_getElem (by rw [negTo_length]; exact h)] at this
  injection this
theorem negTo_step {es : List Ent} {k : Nat} (h : k < es.length) : (negTo es k).set k (es[k].1, -es[k].2) = negTo es (k + 1) := by
  have hl : (negL (es.take k)).length = k := by simp [negL]; omega
  unfold negTo
  rw [List.set_append_right _ _ (by omega), hl, Nat.sub_self, List.drop_eq_getElem_cons h, List.set_cons_zero, List.take_succ_eq_append_getElem h]
  simp only [negL, List.map_append, List.map_cons, List.map_nil, List.append_assoc, List.cons_append, List.nil_append]
theorem negTo_end {es : List Ent} : negTo es es.length = negL es := by simp [negTo]

/-! ### The program's copies -/
set_option maxHeartbeats 2000000 in
theorem copyItems_e (A : Option Addr) (c : Nat) (es : List Ent) (w : World) (hx : EntsAt w A es) (hn : es.length ≤ 4194304) (hr : rowsIn es 4194304) :
    Calls Tryz.prog 71 #[.slice A es.length c] w fun e w' => ∃ A' c', e = .returned (.slice A' es.length c') ∧ EntsOw w' (news w w') A' c' es ∧ Below w.heap.size w w' := by
  obtain ⟨i0, hi, hz0, hz1, hz2⟩ := info_parts Tryz.infoEnt
  have hmk := run_make (P := Tryz.prog) w 23 33 i0 (.agg #[.slice none 0 0, .int .i64 0]) Tryz.underlying23 hi hz0 .i64 .i64 es.length es.length (by omega) (by omega) (by rw [hz2]; omega) (by omega)
  simp only [Int.toNat_natCast, hz1] at hmk
  have hcs : ∀ n, (madeCells (Value.agg #[.slice none 0 0, .int .i64 0]).cells (n * 2)).size = n * 2 := fun n => by simp [madeCells]
  generalize madeCells (Value.agg #[.slice none 0 0, .int .i64 0]).cells = mc at hmk hcs
  go_enter Tryz.func71, Tryz.ntmps71
  go_wp2
  go_loopw [4, 5, 11] (fun _ _ i wr => ∃ k : Nat, k ≤ es.length ∧ i = .int .i64 k ∧ EntsOw wr (news w wr) (some ⟨w.heap.size, 0, none⟩) es.length (es.take k) ∧ Below w.heap.size w wr) (fun _ _ i _ => es.length - (intOf i).toNat)
  case atStart => exact ⟨0, by omega, rfl, ⟨_, _, SlF.made EntO 2 33 w (mc (es.length * 2)) es.length (by unfold maxLen; omega) (hcs _) ⟨Nat.le_refl _, by simp⟩ (fun k hk => by have := hk.2; simpa using this)⟩, bal (Below.refl _ _) _⟩
  case round =>
    obtain ⟨k, hk, rfl, ⟨css, F, hown⟩, hbel⟩ := hrel
    by_cases hlt : k < es.length
    · obtain ⟨b, off, RA, rc, rfl, hbl, hc0, hc1, -, hrow⟩ := hx.get k hlt
      have q0 := (hbel.cell (p := ⟨b, off + k * 2, none⟩) hbl).trans hc0
      have q1 := (hbel.cell (p := ⟨b, off + k * 2 + 1, none⟩) hbl).trans hc1
      have hrl := hr.get hlt
      have hlt' : (k : Int) < es.length := by omega
      have hkl : (es.take k).length = k := by simp; omega
      have HF := Lib.hid hown
      clear hmk hc0 hc1 hown
      go_wp2_with fail
      refine abs_world (fun wB => Below wr.heap.size wr wB ∧ Blk wB wr.heap.size 33 #[.slice RA es[k].1.length rc, .int .i64 es[k].2])
        ⟨bal (Below.refl _ _) _, Blk.newAt rfl⟩ (fun wB hx' => ?_)
      obtain ⟨hB, h0⟩ := hx'
      have hm2 := m_row
      have hm3 := m_withRow
      refine wp_region_facts [[], [], [], [2], [], [4], [5], [6], [3, 7], [0, 1]]
        [fun v' _ => v' = .slice (some ⟨w.heap.size, 0, none⟩) es.length es.length, fun v' _ => v' = .int .i64 k, fun v' _ => v' = .agg #[.slice RA es[k].1.length rc, .int .i64 es[k].2], fun v' _ => v' = .iface 33 (.agg #[.slice RA es[k].1.length rc, .int .i64 es[k].2]),
         fun v' _ => v' = .agg #[.slice RA es[k].1.length rc, .int .i64 es[k].2], fun v' _ => v' = .iface 33 (.agg #[.slice RA es[k].1.length rc, .int .i64 es[k].2]), fun v' _ => v' = .slice RA es[k].1.length rc, RowV wB.heap.size es[k].1, EntV wB.heap.size es[k].1 es[k].2, fun v' _ => v' = .pointer (some ⟨w.heap.size, k * 2, none⟩)]
        (by kernel_rfl) (by kernel_rfl) rfl ⟨stable_pure _, stable_pure _, stable_pure _, stable_pure _, stable_pure _, stable_pure _, stable_pure _, stable_rowV _ _, stable_entV _ _ _, stable_pure _, trivial⟩ ?_
      refine wf_step (fun w1 hb hf => ?_) (fun t0 => ?_)
      · go_wp2
        exact ⟨rfl, _, rfl, Below.refl _ _, rfl⟩
      refine wf_step (fun w1 hb hf => ?_) (fun t1 => ?_)
      · go_wp2
        exact ⟨rfl, _, rfl, Below.refl _ _, rfl⟩
      refine wf_step (fun w1 hb hf => ?_) (fun t2 => ?_)
      · have c0 := (h0.below hb).cell 0
        have c1 := (h0.below hb).cell 1
        simp at c0 c1
        go_wp2
        exact ⟨rfl, _, rfl, Below.refl _ _, rfl⟩
      refine wf_step (fun w1 hb hf => ?_) (fun t3 => ?_)
      · obtain ⟨rfl, -⟩ := hf
        go_wp2
        exact ⟨rfl, _, rfl, Below.refl _ _, rfl⟩
      refine wf_step (fun w1 hb hf => ?_) (fun t4 => ?_)
      · have c0 := (h0.below hb).cell 0
        have c1 := (h0.below hb).cell 1
        simp at c0 c1
        go_wp2
        exact ⟨rfl, _, rfl, Below.refl _ _, rfl⟩
      refine wf_step (fun w1 hb hf => ?_) (fun t5 => ?_)
      · obtain ⟨rfl, -⟩ := hf
        go_wp2
        exact ⟨rfl, _, rfl, Below.refl _ _, rfl⟩
      refine wf_step (fun w1 hb hf => ?_) (fun t6 => ?_)
      · obtain ⟨rfl, -⟩ := hf
        go_wp2_with (go_at_call 135; refine (row_e _ _ _ _ _).mono ?_; rintro e w2 ⟨rfl, hb2⟩)
        exact ⟨rfl, _, rfl, hb2, rfl⟩
      refine wf_step (fun w1 hb hf => ?_) (fun t7 => ?_)
      · obtain ⟨rfl, -⟩ := hf
        go_wp2_with (go_at_call 88; refine (cloneInts_i _ _ _ _ (((hrow.below hbel).below hB).below hb) hrl).mono ?_; rintro e w2 ⟨A', c', rfl, ho, hb2⟩)
        exact ⟨rfl, _, rfl, hb2, A', c', rfl, ho.mono hb.size⟩
      refine wf_step (fun w1 hb hf => ?_) (fun t8 => ?_)
      · obtain ⟨rfl, ⟨A', c', rfl, ho⟩, -⟩ := hf
        go_wp2_with (go_at_call 136; refine (withRow_e _ _ _ _ _ _).mono ?_; rintro e w2 ⟨rfl, hb2⟩)
        exact ⟨rfl, .agg #[.slice A' es[k].1.length c', .int .i64 es[k].2], by simp [Act.put], hb2, A', c', rfl, ho.below hb2⟩
      refine wf_step (fun w1 hb hf => ?_) (fun t9 => ?_)
      · obtain ⟨rfl, rfl, -⟩ := hf
        go_wp2
        exact ⟨rfl, _, rfl, Below.refl _ _, by simp⟩
      refine wf_done (fun wC hb hf => ?_)
      obtain ⟨rfl, rfl, rfl, rfl, rfl, rfl, rfl, -, ⟨A', c', rfl, ho⟩, rfl, -⟩ := hf
      show wpList _ _ _ [_] _ _
      refine wpList_frame (by simp [Act.put]; rfl) ?_
      have hb2 := btr hB hb
      have hown2 := HF.out.loc entO (fun k hk => hb2.block k hk.2)
      have hrow2 := hown2.row
      rw [hkl] at hrow2
      obtain ⟨u0, hu0⟩ := ownsRow_room hrow2 (k * 2) (by omega)
      obtain ⟨u1, hu1⟩ := ownsRow_room hrow2 (k * 2 + 1) (by omega)
      have f0 := World.ownsRow.frozenAt hrow2 (k * 2)
      have f1 := World.ownsRow.frozenAt hrow2 (k * 2 + 1)
      have hBel := btr hbel hb2
      have hs1 := hbel.size
      have hs2 := hB.size
      have hs3 := hb.size
      have hel : EntO wC (news wB wC) [.slice A' es[k].1.length c', .int .i64 es[k].2] (es[k].1, es[k].2) := EntO.mk (fun k hk => hk.2) (fun q hk => by
        rcases ownsRow_form ho with ⟨e, _⟩ | ⟨g, e, hg1, hg2, _⟩
        · rw [e] at hk; cases hk
        · rw [e] at hk; simp [blk] at hk; subst hk; exact ⟨hg1, hg2⟩) (ho.mono (Nat.zero_le _))
      have hfill := hown2.fill (w' := (wC.setCell ⟨w.heap.size, k * 2, none⟩ (.slice A' es[k].1.length c')).setCell ⟨w.heap.size, k * 2 + 1, none⟩ (.int .i64 es[k].2)) (U := news w wC) entO (by rw [hkl]; exact hlt) hel (fun q h1 h2 => by have := h1.1; have := h2.2; omega) (by rw [hkl]; rfl) (fun q h => by
        rcases h with h | h
        · exact ⟨h.1, by have := h.2; omega⟩
        · exact ⟨by have := h.1; omega, h.2⟩) (fun q h => h.2)
      rw [show es.take k ++ [(es[k].1, es[k].2)] = es.take (k + 1) by rw [List.take_succ_eq_append_getElem hlt]] at hfill
      have HS := Lib.hid hfill
      have HB := Lib.hid hBel
      clear hfill hBel hown2 hrow2 hel hkl hbel q0 q1 hrow hb2 hb hB h0 ho hm2 hm3
      go_wp2
      go_roundw
      case rel => exact ⟨k + 1, by omega, by go_num, ⟨_, _, HS.out.mono (fun q h => ⟨h.1, by simpa [World.setCell] using h.2⟩) (fun q h => h.2)⟩, bset (bset HB.out (Nat.le_refl _) _) (Nat.le_refl _) _⟩
      case measure => simp [intOf]; omega
    · obtain rfl : k = es.length := by omega
      rw [List.take_length] at hown
      have HO : Hid (EntsOw wr (news w wr) (some ⟨w.heap.size, 0, none⟩) es.length es) := ⟨_, _, hown⟩
      have HB := Lib.hid hbel
      clear hown hbel hmk
      go_wp2
      go_ret
      exact ⟨_, _, rfl, HO.out, HB.out⟩
/-- A Z-set, or the empty one. -/
def chkF (es : List Ent) : List Ent := if zsB es = true then es else []
set_option maxHeartbeats 400000 in
theorem copyZSet_i (A : Option Addr) (c : Nat) (es : List Ent) (w : World) (hx : EntsAt w A es) (hn : es.length ≤ 4194304) (hr : rowsIn es 4194304) :
    Calls Tryz.prog 37 #[.slice A es.length c] w fun e w' => ∃ A' c', e = .returned (.slice A' (chkF es).length c') ∧ EntsOw w' (news w w') A' c' (chkF es) ∧ Below w.heap.size w w' := by
  have hcon := ValidZSet_i A c es w hx hn hr
  by_cases h : zsB es = true
  · have HR : Hid (chkF es = es) := by simp [Hid, chkF, h]
    rw [h] at hcon
    clear h
    go_enter Tryz.func37, Tryz.ntmps37
    go_wp2_with fail
    refine hcon.mono ?_
    rintro e w1 ⟨rfl, hb⟩
    clear hcon
    go_wp2_with fail
    refine (copyItems_e _ _ _ _ (hx.below entR hb) hn hr).mono ?_
    rintro e w2 ⟨A', c', rfl, ho, hb2⟩
    go_wp2_with fail
    go_ret
    have hs := hb.size
    exact ⟨A', c', by rw [HR.out]; rfl, by rw [HR.out]; exact ho.mono (fun k hk => ⟨by have := hk.1; omega, hk.2⟩) (fun k hk => hk.2), btr hb hb2⟩
  · have h' : zsB es = false := by simpa using h
    have HR : Hid (chkF es = []) := by simp [Hid, chkF, h']
    rw [h'] at hcon
    clear h h'
    go_enter Tryz.func37, Tryz.ntmps37
    go_wp2_with fail
    refine hcon.mono ?_
    rintro e w1 ⟨rfl, hb⟩
    clear hcon
    go_wp2_with fail
    go_ret
    exact ⟨none, 0, by rw [HR.out]; rfl, by rw [HR.out]; exact SlOw.nil (fun k hk => hk.2), hb⟩
end Go.Proofs.YtifjenleoagefaaGreat

/- HELPER, no statement of the seat: negation, and the distinct rows: both sides. -/
namespace Go.Proofs.YtifjenleoagefaaGreat
open Go.RowKit Go.Sort
set_option linter.unusedSimpArgs false
set_option linter.unusedVariables false

theorem NegF_len (es : List Ent) : (NegF es).length ≤ 400 := by
  unfold NegF
  split
  · rename_i h; simpa [negL] using zsB_len h
  · simp
theorem NegF_row (es : List Ent) : rowsIn (NegF es) 6 := by
  unfold NegF
  split
  · rename_i h
    intro e he
    obtain ⟨x, hx, rfl⟩ := List.mem_map.1 he
    exact zsB_row h x hx
  · intro e he; cases he
/-! ### The distinct rows -/
theorem DisF_len (es : List Ent) : (DisF es).length ≤ 400 := by
  unfold DisF
  split
  · rename_i h
    have h1 := zsB_len h
    have : (disL es).length ≤ es.length := by simp only [disL, List.length_map]; exact List.length_filter_le _ _
    omega
  · simp
theorem DisF_row (es : List Ent) : rowsIn (DisF es) 6 := by
  unfold DisF
  split
  · rename_i h
    intro e he
    obtain ⟨x, hx, rfl⟩ := List.mem_map.1 he
    exact zsB_row h x (List.mem_filter.1 hx).1
  · intro e he; cases he
theorem disL_len (es : List Ent) (k : Nat) : (disL (es.take k)).length ≤ k := by
  have : (disL (es.take k)).length ≤ (es.take k).length := by simp only [disL, List.length_map]; exact List.length_filter_le _ _
  simp at this
  omega
set_option maxHeartbeats 1600000 in
theorem distinct_s (A : Option Addr) (c : Nat) (es : List Ent) (w : World) (hx : EntsAt w A es) (hn : es.length ≤ 4194304) (hr : rowsIn es 4194304) :
    Calls Tryz.prog 76 #[.slice A es.length c] w fun e w' => ∃ A' c', e = .returned (.slice A' (disL es).length c') ∧ EntsOw w' (news w w') A' c' (disL es) ∧ Below w.heap.size w w' := by
  obtain ⟨i0, hi, hz0, hz1, hz2⟩ := info_parts Tryz.infoEnt
  go_enter Tryz.func76, Tryz.ntmps76
  go_wp2
  go_loopw [3, 4] (fun v i wr => ∃ k A' c', k ≤ es.length ∧ i = .int .i64 (k : Nat) ∧ v = .slice A' (disL (es.take k)).length c' ∧ EntsOw wr (news w wr) A' c' (disL (es.take k)) ∧ Below w.heap.size w wr) (fun _ i _ => es.length - (intOf i).toNat)
  case atStart => exact ⟨0, _, _, by omega, rfl, rfl, ⟨_, _, SlF.made EntO 2 33 w #[] 0 (by simp [maxLen]) (by simp) ⟨Nat.le_refl _, by simp⟩ (fun k hk => by have := hk.2; simpa using this)⟩, bal (Below.refl _ _) _⟩
  case round =>
    obtain ⟨k, A', c', hk, rfl, rfl, ⟨css, F, hown⟩, hbel⟩ := hrel
    by_cases hlt : k < es.length
    · obtain ⟨b, off, RA, rc, rfl, hbl, hc0, hc1, -, hrow⟩ := hx.get k hlt
      have q0 := (hbel.cell (p := ⟨b, off + k * 2, none⟩) hbl).trans hc0
      have q1 := (hbel.cell (p := ⟨b, off + k * 2 + 1, none⟩) hbl).trans hc1
      have hrl := hr.get hlt
      have hdl := disL_len es k
      have hst := disL_step hlt
      have HF := Lib.hid hown
      clear hc0 hc1 hown
      by_cases hp : 0 < es[k].2
      · rw [if_pos hp] at hst
        have HST := Lib.hid hst
        clear hst
        generalize hM : disL (es.take k) = M at *
        clear hM
        go_wp2_with fail
        refine (copyInts_s _ _ _ _ (hrow.below hbel) hrl).mono ?_
        rintro e w2 ⟨RA', rc', rfl, ho, hb2⟩
        have hrow2 := (HF.out.loc entO (fun k hk => hb2.block k hk.2)).row
        have hbase : ∀ q, blk A' = some q → w.heap.size ≤ q := fun q hq => (HF.out.top q hq).1
        have hs2 := hb2.size
        have hs1 := hbel.size
        go_wp2_with (at_builtin; refine wpList_append_src _ rfl _ _ 23 rfl w.heap.size 33 i0 (.agg #[.slice none 0 0, .int .i64 0]) 2 32 Tryz.underlying23 hi hz0 hz1 hz2 rfl (by decide) _ _ _ rfl ((ownsRow_base hrow2 hbase).alloc _) (some ⟨w2.heap.size, 0, none⟩) 1 1 [.slice RA' es[k].1.length rc', .int .i64 1] rfl rfl (fun h => by cases h) ent_srcs ent_ones (by unfold maxLen; omega) (by omega) (by simp; omega) ?_)
        intro v' w3 hown' hgrow hloc
        rw [ownBlock_slice] at hgrow hloc
        have hp2 := HF.out.pushE (w2 := w3) hbel hb2 ho hown' hgrow hloc
        obtain ⟨A3, c3, rfl, ho3, hb3⟩ := hp2
        rw [← HST.out] at ho3
        have HO := Lib.hid ho3
        have HB := Lib.hid hb3
        have HL : Hid (M.length + 1 = (disL (es.take (k + 1))).length) := by rw [HST.out]; simp [Hid]
        clear hown' hgrow hloc ho3 hb3 hrow2 hbase ho hb2 hbel hrow q0 q1 HF
        go_wp2
        go_roundw
        case rel => exact ⟨k + 1, A3, c3, by omega, by go_num, by rw [HL.out], HO.out, HB.out⟩
        case measure => simp [intOf]; omega
      · rw [if_neg hp, List.append_nil] at hst
        have HST := Lib.hid hst
        have HB := Lib.hid hbel
        clear hst hbel
        generalize hM : disL (es.take k) = M at *
        clear hM
        go_wp2
        go_roundw
        case rel => exact ⟨k + 1, A', c', by omega, by go_num, by rw [HST.out], by rw [HST.out]; exact ⟨_, _, HF.out⟩, HB.out⟩
        case measure => simp [intOf]; omega
    · obtain rfl : k = es.length := by omega
      rw [List.take_length] at hown
      have HO : Hid (EntsOw wr (news w wr) A' c' (disL es)) := ⟨_, _, hown⟩
      have HB := Lib.hid hbel
      have HT := Lib.hid (List.take_length (l := es))
      clear hown hbel
      go_wp2
      go_ret
      exact ⟨A', c', by rw [HT.out]; rfl, HO.out, HB.out⟩
end Go.Proofs.YtifjenleoagefaaGreat
