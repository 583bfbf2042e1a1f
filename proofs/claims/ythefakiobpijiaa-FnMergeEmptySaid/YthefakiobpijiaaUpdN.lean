/- HELPER, no statement of the seat: copies of lists of updates: both sides. -/
import Derived.Test.YthefakiobpijiaaZbn
import Derived.Test.YthefakiobpijiaaUph
import Derived.Test.YthefakiobpijiaaUmk
namespace Go.Proofs.Ythefakiobpijiaa
open Go.RowKit Go.Sort
set_option linter.unusedSimpArgs false
set_option linter.unusedVariables false


def UpdW (base : Nat) (xs : List Int) (p q x : Int) (v : Value) (w : World) : Prop := ∃ A c, v = .agg #[.slice A xs.length c, .int .i64 p, .int .i64 q, .int .i64 x] ∧ IntsOwn w base A c xs
theorem stable_updW (base : Nat) (xs : List Int) (p q x : Int) : Stable (UpdW base xs p q x) := fun _ _ _ hb ⟨A, c, e, h⟩ => ⟨A, c, e, h.below hb⟩
set_option maxHeartbeats 1600000 in
theorem copyUpdate_s (RA : Option Addr) (rc : Nat) (xs : List Int) (p q x : Int) (w : World) (hx : IntsAt w RA xs) (hn : xs.length ≤ 4194304) :
    Calls Try.prog 136 #[.agg #[.slice RA xs.length rc, .int .i64 p, .int .i64 q, .int .i64 x]] w fun e w' => ∃ A c, e = .returned (.agg #[.slice A xs.length c, .int .i64 p, .int .i64 q, .int .i64 x]) ∧ IntsOwn w' w.heap.size A c xs ∧ Below w.heap.size w w' := by
  go_enter Try.func136, Try.ntmps136
  go_wp2_with fail
  refine abs_world (fun wB => Below w.heap.size w wB ∧ Blk wB w.heap.size 119 #[.slice RA xs.length rc, .int .i64 p, .int .i64 q, .int .i64 x] ∧ Blk wB (w.heap.size + 1) 119 #[.slice none 0 0, .int .i64 0, .int .i64 0, .int .i64 0])
    ⟨bal (bal (Below.refl _ _) _) _, (Blk.newAt rfl).alloc _, Blk.newAt (by simp)⟩ (fun wB hx' => ?_)
  obtain ⟨hB, h0, h1⟩ := hx'
  have hs0 := h1.lt
  refine wp_region_facts [[], [0], [1], [], [3], [], [5], [2, 4, 6]]
    [fun v' _ => v' = .pointer (some ⟨w.heap.size, 0, none⟩), fun v' _ => v' = .slice RA xs.length rc, RowV wB.heap.size xs, fun v' _ => v' = .pointer (some ⟨w.heap.size, 1, none⟩), fun v' _ => v' = .agg #[.int .i64 p, .int .i64 q], fun v' _ => v' = .pointer (some ⟨w.heap.size, 3, none⟩), fun v' _ => v' = .int .i64 x, UpdW wB.heap.size xs p q x]
    (by kernel_rfl) (by kernel_rfl) rfl ⟨stable_pure _, stable_pure _, stable_rowV _ _, stable_pure _, stable_pure _, stable_pure _, stable_pure _, stable_updW _ _ _ _ _, trivial⟩ ?_
  refine wf_step (fun w1 hb hf => ?_) (fun t0 => ?_)
  · go_wp2
    exact ⟨rfl, _, rfl, Below.refl _ _, rfl⟩
  refine wf_step (fun w1 hb hf => ?_) (fun t1 => ?_)
  · obtain ⟨rfl, -⟩ := hf
    have c0 := (h0.below hb).cell 0
    simp at c0
    go_wp2
    exact ⟨rfl, _, rfl, Below.refl _ _, rfl⟩
  refine wf_step (fun w1 hb hf => ?_) (fun t2 => ?_)
  · obtain ⟨rfl, -⟩ := hf
    go_wp2_with (go_at_call 173; refine (copyInts_s _ _ _ _ ((hx.below hB).below hb) hn).mono ?_; rintro e w2 ⟨A', c', rfl, ho, hb2⟩)
    exact ⟨rfl, _, rfl, hb2, A', c', rfl, ho.mono hb.size⟩
  refine wf_step (fun w1 hb hf => ?_) (fun t3 => ?_)
  · go_wp2
    exact ⟨rfl, _, rfl, Below.refl _ _, rfl⟩
  refine wf_step (fun w1 hb hf => ?_) (fun t4 => ?_)
  · obtain ⟨rfl, -⟩ := hf
    have c1 := (h0.below hb).cell 1
    have c2 := (h0.below hb).cell 2
    simp at c1 c2
    go_wp2
    exact ⟨rfl, _, rfl, Below.refl _ _, rfl⟩
  refine wf_step (fun w1 hb hf => ?_) (fun t5 => ?_)
  · go_wp2
    exact ⟨rfl, _, rfl, Below.refl _ _, rfl⟩
  refine wf_step (fun w1 hb hf => ?_) (fun t6 => ?_)
  · obtain ⟨rfl, -⟩ := hf
    have c3 := (h0.below hb).cell 3
    simp at c3
    go_wp2
    exact ⟨rfl, _, rfl, Below.refl _ _, rfl⟩
  refine wf_step (fun w1 hb hf => ?_) (fun t7 => ?_)
  · obtain ⟨⟨A', c', rfl, ho⟩, rfl, rfl, -⟩ := hf
    go_wp2
    exact ⟨rfl, _, rfl, Below.refl _ _, A', c', rfl, ho⟩
  refine wf_done (fun wC hb hf => ?_)
  obtain ⟨rfl, rfl, -, rfl, rfl, rfl, rfl, ⟨A', c', rfl, ho⟩, -⟩ := hf
  show wpList _ _ _ [_] _ _
  refine wpList_frame (by simp [Act.put]; rfl) ?_
  have k1 := h1.below hb
  have g0 := k1.cell 0
  have g1 := k1.cell 1
  have g2 := k1.cell 2
  have g3 := k1.cell 3
  have f0 := k1.frozen 0
  have f1 := k1.frozen 1
  have f2 := k1.frozen 2
  have f3 := k1.frozen 3
  simp at g0 g1 g2 g3
  have K := (((k1.set_ 0 (.slice A' xs.length c')).set_ 1 (.int .i64 p)).set_ 2 (.int .i64 q)).set_ 3 (.int .i64 x)
  have r0 := K.cell 0
  have r1 := K.cell 1
  have r2 := K.cell 2
  have r3 := K.cell 3
  simp at r0 r1 r2 r3
  have HO := Lib.hid ho
  have HB := Lib.hid (btr hB hb)
  have hs1 := hB.size
  have HR0 := Lib.hid r0
  have HR1 := Lib.hid r1
  have HR2 := Lib.hid r2
  have HR3 := Lib.hid r3
  clear ho hb k1 r0 r1 r2 r3 K
  go_wp2
  refine bodyPost_ret (v := .agg #[.slice A' xs.length c', .int .i64 p, .int .i64 q, .int .i64 x]) (by simp [results, Try.results136, go_sem, HR0.out, HR1.out, HR2.out, HR3.out]) rfl ⟨A', c', rfl, ((((HO.out.far (by simpa using hs0) _).far (by simpa using hs0) _).far (by simpa using hs0) _).far (by simpa using hs0) _).mono hs1, bset (bset (bset (bset HB.out (by simp) _) (by simp) _) (by simp) _) (by simp) _⟩

theorem withRow_u (v : Value) (p q : Int) (RA : Option Addr) (n rc : Nat) (x : Int) (w : World) :
    Calls Try.prog 248 #[.agg #[v, .int .i64 p, .int .i64 q, .int .i64 x], .slice RA n rc] w fun e w' => e = .returned (.agg #[.slice RA n rc, .int .i64 p, .int .i64 q, .int .i64 x]) ∧ Below w.heap.size w w' := by
  go_enter Try.func248, Try.ntmps248
  go_wp2
  exact bodyPost_ret (v := .agg #[.slice RA n rc, .int .i64 p, .int .i64 q, .int .i64 x]) (by simp [results, Try.results248, go_sem]) rfl ⟨rfl, (by repeat (first | exact Below.refl _ _ | refine bal ?_ _ | refine bset ?_ (by simp) _ | refine Below.drew ?_))⟩
theorem m_withRowU (v p q u : Value) (w : World) : (method 387 119 (.agg #[v, p, q, u]) "loop.example/dataflow/impl.withRow").run Try.prog w = .ok (248, .agg #[v, p, q, u]) w := by kernel_rfl

/-- One more update: what append gives. -/
theorem SlF.pushU {w w0 w1 w2 : World} {A : Option Addr} {c : Nat} {es : List Upd} {css : List (List Value)} {F : Nat → Fp} {v' : Value} {RA : Option Addr} {rc : Nat} {xs : List Int} {p q x : Int}
    (h : SlF UpdO 4 119 w0 (news w w0) A c es css F) (hb0 : Below w.heap.size w w0) (hb1 : Below w0.heap.size w0 w1) (ho : IntsOwn w1 w0.heap.size RA rc xs)
    (hrow : w2.ownsRow w.heap.size 119 4 v' (es.length + 1) (css.flatten ++ [.slice RA xs.length rc, .int .i64 p, .int .i64 q, .int .i64 x]))
    (hg : (w1.alloc (.cells #[.slice RA xs.length rc, .int .i64 p, .int .i64 q, .int .i64 x] 119)).grownBy w2 (blk A)) (hl : ∀ k, v'.ownBlock = some k → blk A = some k ∨ w1.heap.size + 1 ≤ k) :
    ∃ A' c', v' = .slice A' (es.length + 1) c' ∧ UpdsOw w2 (news w w2) A' c' (es ++ [((xs, (p, q)), x)]) ∧ Below w.heap.size w w2 := by
  obtain ⟨A', c', rfl⟩ := own_slice hrow
  rw [ownBlock_slice] at hl
  have hs0 := hb0.size
  have hs1 := hb1.size
  have hs2 := hg.size
  simp at hs2
  have h1 : SlF UpdO 4 119 w1 (news w w0) A c es css F := h.loc updO (fun k hk => hb1.block k hk.2)
  have hB1 : Below w.heap.size w (w1.alloc (.cells #[.slice RA xs.length rc, .int .i64 p, .int .i64 q, .int .i64 x] 119)) := bal (btr hb0 hb1) _
  have hA0 : ∀ k, blk A = some k → w.heap.size ≤ k ∧ k < w0.heap.size := fun k hk => h.top k hk
  have hel : UpdO w1 (news w0 w1) [.slice RA xs.length rc, .int .i64 p, .int .i64 q, .int .i64 x] ((xs, (p, q)), x) := UpdO.mk (fun k hk => hk.2) (fun k hk => by
    rcases ownsRow_form ho with ⟨e, _⟩ | ⟨g, e, hg1, hg2, _⟩
    · rw [e] at hk; cases hk
    · rw [e] at hk; simp [blk] at hk; subst hk; exact ⟨hg1, hg2⟩) (ho.mono (Nat.zero_le _))
  have hb2 : ∀ k, k < w1.heap.size → blk A ≠ some k → w2.heap[k]? = w1.heap[k]? := fun k hk hn => (hg.block k (by simp; omega) (fun e => hn e.symm)).trans (Below.heap_alloc _ _ _ hk)
  refine ⟨A', c', rfl, ⟨_, _, h1.push updO hel (fun k h1 h2 => by have := h1.1; have := h2.2; omega) (ownsRow_base0 hrow) hb2 (fun k hk => ?_) (fun k hk => ?_) (fun k hk => hk.2)⟩, ?_⟩
  · rcases hl k hk with h | h
    · exact .inl h
    · right; omega
  · rcases hk with hk | hk | hk
    · exact ⟨hk.1, by have := hk.2; omega⟩
    · exact ⟨by have := hk.1; omega, by have := hk.2; omega⟩
    · have h2 := World.ownsRow.lt hrow k (by rw [ownBlock_slice]; exact hk)
      exact h2
  · exact hB1.grown hg hB1.size (fun k hk => (hA0 k hk).1)
theorem upd_srcs {w1 : World} {RA : Option Addr} {n rc : Nat} {p q x : Int} {E : TypeId} : ∀ a, some (⟨w1.heap.size, 0, none⟩ : Addr) = some a → ∀ j u, [Value.slice RA n rc, .int .i64 p, .int .i64 q, .int .i64 x][j]? = some u → (w1.alloc (.cells #[.slice RA n rc, .int .i64 p, .int .i64 q, .int .i64 x] E)).cell? (a.add j) = some u := by
  intro a e j u hu
  injection e with e
  subst e
  match j, hu with
  | 0, hu => simp at hu; subst hu; simp [Addr.add]
  | 1, hu => simp at hu; subst hu; simp [Addr.add]
  | 2, hu => simp at hu; subst hu; simp [Addr.add]
  | 3, hu => simp at hu; subst hu; simp [Addr.add]
theorem upd_ones {RA : Option Addr} {n rc : Nat} {p q x : Int} : ∀ u ∈ [Value.slice RA n rc, .int .i64 p, .int .i64 q, .int .i64 x], u.oneCell' = true := by
  intro u hu
  simp at hu
  rcases hu with rfl | rfl | rfl | rfl <;> rfl

set_option maxHeartbeats 2000000 in
theorem copyItems_u (A : Option Addr) (c : Nat) (es : List Upd) (w : World) (hx : UpdsAt w A es) (hn : es.length ≤ 4194304) (hr : rowsU es 4194304) :
    Calls Try.prog 142 #[.slice A es.length c] w fun e w' => ∃ A' c', e = .returned (.slice A' es.length c') ∧ UpdsOw w' (news w w') A' c' es ∧ Below w.heap.size w w' := by
  obtain ⟨i0, hi, hz0, hz1, hz2⟩ := info_parts Try.infoUpd
  have hmk := run_make (P := Try.prog) w 24 119 i0 (.agg #[.slice none 0 0, .int .i64 0, .int .i64 0, .int .i64 0]) Try.underlying24 hi hz0 .i64 .i64 es.length es.length (by omega) (by omega) (by rw [hz2]; omega) (by omega)
  simp only [Int.toNat_natCast, hz1] at hmk
  have hcs : ∀ n, (madeCells (Value.agg #[.slice none 0 0, .int .i64 0, .int .i64 0, .int .i64 0]).cells (n * 4)).size = n * 4 := fun n => by simp [madeCells]
  generalize madeCells (Value.agg #[.slice none 0 0, .int .i64 0, .int .i64 0, .int .i64 0]).cells = mc at hmk hcs
  go_enter Try.func142, Try.ntmps142
  go_wp2
  go_loopw [4, 5, 11] (fun _ _ i wr => ∃ k : Nat, k ≤ es.length ∧ i = .int .i64 k ∧ UpdsOw wr (news w wr) (some ⟨w.heap.size, 0, none⟩) es.length (es.take k) ∧ Below w.heap.size w wr) (fun _ _ i _ => es.length - (intOf i).toNat)
  case atStart => exact ⟨0, by omega, rfl, ⟨_, _, SlF.made UpdO 4 119 w (mc (es.length * 4)) es.length (by unfold maxLen; omega) (hcs _) ⟨Nat.le_refl _, by simp⟩ (fun k hk => by have := hk.2; simpa using this)⟩, bal (Below.refl _ _) _⟩
  case round =>
    obtain ⟨k, hk, rfl, ⟨css, F, hown⟩, hbel⟩ := hrel
    by_cases hlt : k < es.length
    · obtain ⟨b, off, RA, rc, rfl, hbl, hc0, hc1, hc2, hc3, -, hrow⟩ := hx.get k hlt
      have q0 := (hbel.cell (p := ⟨b, off + k * 4, none⟩) hbl).trans hc0
      have q1 := (hbel.cell (p := ⟨b, off + k * 4 + 1, none⟩) hbl).trans hc1
      have q2 := (hbel.cell (p := ⟨b, off + k * 4 + 2, none⟩) hbl).trans hc2
      have q3 := (hbel.cell (p := ⟨b, off + k * 4 + 3, none⟩) hbl).trans hc3
      have hrl := hr.get hlt
      have hlt' : (k : Int) < es.length := by omega
      have hkl : (es.take k).length = k := by simp; omega
      have HF := Lib.hid hown
      clear hmk hc0 hc1 hc2 hc3 hown
      go_wp2_with fail
      refine abs_world (fun wB => Below wr.heap.size wr wB ∧ Blk wB wr.heap.size 119 #[.slice RA es[k].1.1.length rc, .int .i64 es[k].1.2.1, .int .i64 es[k].1.2.2, .int .i64 es[k].2])
        ⟨bal (Below.refl _ _) _, Blk.newAt rfl⟩ (fun wB hx' => ?_)
      obtain ⟨hB, h0⟩ := hx'
      have hm2 := m_rowU
      have hm3 := m_withRowU
      refine wp_region_facts [[], [], [], [2], [], [4], [5], [6], [3, 7], [0, 1]]
        [fun v' _ => v' = .slice (some ⟨w.heap.size, 0, none⟩) es.length es.length, fun v' _ => v' = .int .i64 k, fun v' _ => v' = .agg #[.slice RA es[k].1.1.length rc, .int .i64 es[k].1.2.1, .int .i64 es[k].1.2.2, .int .i64 es[k].2], fun v' _ => v' = .iface 119 (.agg #[.slice RA es[k].1.1.length rc, .int .i64 es[k].1.2.1, .int .i64 es[k].1.2.2, .int .i64 es[k].2]),
         fun v' _ => v' = .agg #[.slice RA es[k].1.1.length rc, .int .i64 es[k].1.2.1, .int .i64 es[k].1.2.2, .int .i64 es[k].2], fun v' _ => v' = .iface 119 (.agg #[.slice RA es[k].1.1.length rc, .int .i64 es[k].1.2.1, .int .i64 es[k].1.2.2, .int .i64 es[k].2]), fun v' _ => v' = .slice RA es[k].1.1.length rc, RowV wB.heap.size es[k].1.1, UpdW wB.heap.size es[k].1.1 es[k].1.2.1 es[k].1.2.2 es[k].2, fun v' _ => v' = .pointer (some ⟨w.heap.size, k * 4, none⟩)]
        (by kernel_rfl) (by kernel_rfl) rfl ⟨stable_pure _, stable_pure _, stable_pure _, stable_pure _, stable_pure _, stable_pure _, stable_pure _, stable_rowV _ _, stable_updW _ _ _ _ _, stable_pure _, trivial⟩ ?_
      refine wf_step (fun w1 hb hf => ?_) (fun t0 => ?_)
      · go_wp2
        exact ⟨rfl, _, rfl, Below.refl _ _, rfl⟩
      refine wf_step (fun w1 hb hf => ?_) (fun t1 => ?_)
      · go_wp2
        exact ⟨rfl, _, rfl, Below.refl _ _, rfl⟩
      refine wf_step (fun w1 hb hf => ?_) (fun t2 => ?_)
      · have c0 := (h0.below hb).cell 0
        have c1 := (h0.below hb).cell 1
        have c2 := (h0.below hb).cell 2
        have c3 := (h0.below hb).cell 3
        simp at c0 c1 c2 c3
        go_wp2
        exact ⟨rfl, _, rfl, Below.refl _ _, rfl⟩
      refine wf_step (fun w1 hb hf => ?_) (fun t3 => ?_)
      · obtain ⟨rfl, -⟩ := hf
        go_wp2
        exact ⟨rfl, _, rfl, Below.refl _ _, rfl⟩
      refine wf_step (fun w1 hb hf => ?_) (fun t4 => ?_)
      · have c0 := (h0.below hb).cell 0
        have c1 := (h0.below hb).cell 1
        have c2 := (h0.below hb).cell 2
        have c3 := (h0.below hb).cell 3
        simp at c0 c1 c2 c3
        go_wp2
        exact ⟨rfl, _, rfl, Below.refl _ _, rfl⟩
      refine wf_step (fun w1 hb hf => ?_) (fun t5 => ?_)
      · obtain ⟨rfl, -⟩ := hf
        go_wp2
        exact ⟨rfl, _, rfl, Below.refl _ _, rfl⟩
      refine wf_step (fun w1 hb hf => ?_) (fun t6 => ?_)
      · obtain ⟨rfl, -⟩ := hf
        go_wp2_with (go_at_call 247; refine (row_u _ _ _ _ _ _ _).mono ?_; rintro e w2 ⟨rfl, hb2⟩)
        exact ⟨rfl, _, rfl, hb2, rfl⟩
      refine wf_step (fun w1 hb hf => ?_) (fun t7 => ?_)
      · obtain ⟨rfl, -⟩ := hf
        go_wp2_with (go_at_call 166; refine (cloneInts_i _ _ _ _ (((hrow.below hbel).below hB).below hb) hrl).mono ?_; rintro e w2 ⟨A', c', rfl, ho, hb2⟩)
        exact ⟨rfl, _, rfl, hb2, A', c', rfl, ho.mono hb.size⟩
      refine wf_step (fun w1 hb hf => ?_) (fun t8 => ?_)
      · obtain ⟨rfl, ⟨A', c', rfl, ho⟩, -⟩ := hf
        go_wp2_with (go_at_call 248; refine (withRow_u _ _ _ _ _ _ _ _).mono ?_; rintro e w2 ⟨rfl, hb2⟩)
        exact ⟨rfl, .agg #[.slice A' es[k].1.1.length c', .int .i64 es[k].1.2.1, .int .i64 es[k].1.2.2, .int .i64 es[k].2], by simp [Act.put], hb2, A', c', rfl, ho.below hb2⟩
      refine wf_step (fun w1 hb hf => ?_) (fun t9 => ?_)
      · obtain ⟨rfl, rfl, -⟩ := hf
        go_wp2
        exact ⟨rfl, _, rfl, Below.refl _ _, by simp⟩
      refine wf_done (fun wC hb hf => ?_)
      obtain ⟨rfl, rfl, rfl, rfl, rfl, rfl, rfl, -, ⟨A', c', rfl, ho⟩, rfl, -⟩ := hf
      show wpList _ _ _ [_] _ _
      refine wpList_frame (by simp [Act.put]; rfl) ?_
      have hb2 := btr hB hb
      have hown2 := HF.out.loc updO (fun k hk => hb2.block k hk.2)
      have hrow2 := hown2.row
      rw [hkl] at hrow2
      obtain ⟨u0, hu0⟩ := ownsRow_room hrow2 (k * 4) (by omega)
      obtain ⟨u1, hu1⟩ := ownsRow_room hrow2 (k * 4 + 1) (by omega)
      obtain ⟨u2, hu2⟩ := ownsRow_room hrow2 (k * 4 + 2) (by omega)
      obtain ⟨u3, hu3⟩ := ownsRow_room hrow2 (k * 4 + 3) (by omega)
      have f0 := World.ownsRow.frozenAt hrow2 (k * 4)
      have f1 := World.ownsRow.frozenAt hrow2 (k * 4 + 1)
      have f2 := World.ownsRow.frozenAt hrow2 (k * 4 + 2)
      have f3 := World.ownsRow.frozenAt hrow2 (k * 4 + 3)
      have hBel := btr hbel hb2
      have hs1 := hbel.size
      have hs2 := hB.size
      have hs3 := hb.size
      have hel : UpdO wC (news wB wC) [.slice A' es[k].1.1.length c', .int .i64 es[k].1.2.1, .int .i64 es[k].1.2.2, .int .i64 es[k].2] ((es[k].1.1, (es[k].1.2.1, es[k].1.2.2)), es[k].2) := UpdO.mk (fun k hk => hk.2) (fun q hk => by
        rcases ownsRow_form ho with ⟨e, _⟩ | ⟨g, e, hg1, hg2, _⟩
        · rw [e] at hk; cases hk
        · rw [e] at hk; simp [blk] at hk; subst hk; exact ⟨hg1, hg2⟩) (ho.mono (Nat.zero_le _))
      have hfill := hown2.fill (w' := (((wC.setCell ⟨w.heap.size, k * 4, none⟩ (.slice A' es[k].1.1.length c')).setCell ⟨w.heap.size, k * 4 + 1, none⟩ (.int .i64 es[k].1.2.1)).setCell ⟨w.heap.size, k * 4 + 2, none⟩ (.int .i64 es[k].1.2.2)).setCell ⟨w.heap.size, k * 4 + 3, none⟩ (.int .i64 es[k].2)) (U := news w wC) updO (by rw [hkl]; exact hlt) hel (fun q h1 h2 => by have := h1.1; have := h2.2; omega) (by rw [hkl]; rfl) (fun q h => by
        rcases h with h | h
        · exact ⟨h.1, by have := h.2; omega⟩
        · exact ⟨by have := h.1; omega, h.2⟩) (fun q h => h.2)
      rw [show es.take k ++ [((es[k].1.1, (es[k].1.2.1, es[k].1.2.2)), es[k].2)] = es.take (k + 1) by rw [List.take_succ_eq_append_getElem hlt]] at hfill
      have HS := Lib.hid hfill
      have HB := Lib.hid hBel
      clear hfill hBel hown2 hrow2 hel hkl hbel q0 q1 q2 q3 hrow hb2 hb hB h0 ho hm2 hm3
      go_wp2
      go_roundw
      case rel => exact ⟨k + 1, by omega, by go_num, ⟨_, _, HS.out.mono (fun q h => ⟨h.1, by simpa [World.setCell] using h.2⟩) (fun q h => h.2)⟩, bset (bset (bset (bset HB.out (Nat.le_refl _) _) (Nat.le_refl _) _) (Nat.le_refl _) _) (Nat.le_refl _) _⟩
      case measure => simp [intOf]; omega
    · obtain rfl : k = es.length := by omega
      rw [List.take_length] at hown
      have HO : Hid (UpdsOw wr (news w wr) (some ⟨w.heap.size, 0, none⟩) es.length es) := ⟨_, _, hown⟩
      have HB := Lib.hid hbel
      clear hown hbel hmk
      go_wp2
      go_ret
      exact ⟨_, _, rfl, HO.out, HB.out⟩
/-- A trace, or the empty one. -/
def chkT (es : List Upd) : List Upd := if trB es = true then es else []
end Go.Proofs.Ythefakiobpijiaa
