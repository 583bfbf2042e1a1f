/- HELPER, no statement of the seat: nodes copied and compared. -/
import Derived.Test.YtffgonddephkkaaNode
namespace Go.Proofs.Ytffgonddephkkaa
open Go.RowKit Go.Sort
set_option linter.unusedSimpArgs false
set_option linter.unusedVariables false

theorem absN {P : Program} {f : FuncId} {args : Array Value} {w : World} {Q : Ending → World → Prop} (R : World → Prop) (h : R w) (k : ∀ W, R W → Calls P f args W Q) : Calls P f args w Q := k w h
set_option maxHeartbeats 3200000 in
theorem toNode_any (RA : Option Addr) (rc : Nat) (k a b y : Int) (cl : List Int) (p q r g l : Int) (w : World) (hx : IntsAt w RA cl) (hn : cl.length * 8 ≤ 140737488351232) :
    Calls Try.prog 55 #[.agg #[.int .i64 k, .int .i64 a, .int .i64 b, .int .i64 y, .slice RA cl.length rc, .int .i64 p, .int .i64 q, .int .i64 r, .int .i64 g, .int .i64 l]] w fun e w' => ∃ o, e = .returned (.agg #[.int .i64 k, .int .i64 a, .int .i64 b, .int .i64 y, .slice (some ⟨o, 0, none⟩) cl.length cl.length, .int .i64 p, .int .i64 q, .int .i64 r, .int .i64 g, .int .i64 l]) ∧ w.heap.size ≤ o ∧ Blk w' o 3 (ints cl) ∧ Below w.heap.size w w' := by
  go_enter Try.func55, Try.ntmps55
  go_wp2_with fail
  refine absN (fun W => Below w.heap.size w W ∧ Blk W w.heap.size 93 #[.int .i64 k, .int .i64 a, .int .i64 b, .int .i64 y, .slice RA cl.length rc, .int .i64 p, .int .i64 q, .int .i64 r, .int .i64 g, .int .i64 l] ∧ Blk W (w.heap.size + 1) 97 #[.int .i64 0, .int .i64 0, .int .i64 0, .int .i64 0, .slice none 0 0, .int .i64 0, .int .i64 0, .int .i64 0, .int .i64 0, .int .i64 0] ∧ Blk W (w.heap.size + 2) 97 #[.int .i64 k, .int .i64 a, .int .i64 b, .int .i64 y, .slice none 0 0, .int .i64 0, .int .i64 0, .int .i64 0, .int .i64 0, .int .i64 0]) ⟨bal (bal (bal (Below.refl _ _) _) _) _, ((Blk.newAt rfl).alloc _).alloc _, (Blk.newAt (by simp)).alloc _, Blk.newAt (by simp)⟩ ?_
  rintro W ⟨hB, k0, k1, k2⟩
  have hW : w.heap.size + 2 < W.heap.size := k2.lt
  refine (toIntS_any _ _ _ _ (hx.below hB) hn).mono ?_
  rintro e w1 ⟨rfl, hk, hb⟩
  have hz : W.heap.size < w1.heap.size := hk.lt
  have c0 := k0.below hb
  have c1 := k1.below hb
  have c2 := k2.below hb
  have f4 := c2.frozen 4
  have u4 := c2.cell 4
  have a5 := c0.cell 5
  have a6 := c0.cell 6
  have a7 := c0.cell 7
  simp at u4 a5 a6 a7
  have K0 := Lib.hid c0
  have K1 := Lib.hid c1
  have K2 := Lib.hid c2
  have K3 := Lib.hid hk
  have HB := Lib.hid (btr hB hb)
  clear k0 k1 k2 c0 c1 c2 hk hB hb
  go_wp2_with fail
  refine (toPredicate_any _ _ _ _).mono ?_
  rintro e w2 ⟨rfl, b2⟩
  have j0 := (K0.out.far (p := ⟨w.heap.size + 2, 4, none⟩) (by simp) (.slice (some ⟨W.heap.size, 0, none⟩) cl.length cl.length)).below b2
  have j1 := (K1.out.far (p := ⟨w.heap.size + 2, 4, none⟩) (by simp) (.slice (some ⟨W.heap.size, 0, none⟩) cl.length cl.length)).below b2
  have j2 := (Blk.set_ (g := w.heap.size + 2) K2.out 4 (.slice (some ⟨W.heap.size, 0, none⟩) cl.length cl.length)).below b2
  have j3 := (K3.out.far (p := ⟨w.heap.size + 2, 4, none⟩) (by simp; omega) (.slice (some ⟨W.heap.size, 0, none⟩) cl.length cl.length)).below b2
  have jB := btr (bset (p := ⟨w.heap.size + 2, 4, none⟩) HB.out (by simp) (.slice (some ⟨W.heap.size, 0, none⟩) cl.length cl.length)) b2
  clear u4 f4 a5 a6 a7
  have a8 := j0.cell 8
  have a9 := j0.cell 9
  have u0 := j2.cell 0
  have v0 := j1.cell 0
  have f0 := j2.frozen 0
  have h0 := j1.frozen 0
  have u1 := j2.cell 1
  have v1 := j1.cell 1
  have f1 := j2.frozen 1
  have h1 := j1.frozen 1
  have u2 := j2.cell 2
  have v2 := j1.cell 2
  have f2 := j2.frozen 2
  have h2 := j1.frozen 2
  have u3 := j2.cell 3
  have v3 := j1.cell 3
  have f3 := j2.frozen 3
  have h3 := j1.frozen 3
  have u4 := j2.cell 4
  have v4 := j1.cell 4
  have f4 := j2.frozen 4
  have h4 := j1.frozen 4
  have u5 := j2.cell 5
  have v5 := j1.cell 5
  have f5 := j2.frozen 5
  have h5 := j1.frozen 5
  have u6 := j2.cell 6
  have v6 := j1.cell 6
  have f6 := j2.frozen 6
  have h6 := j1.frozen 6
  have u7 := j2.cell 7
  have v7 := j1.cell 7
  have f7 := j2.frozen 7
  have h7 := j1.frozen 7
  have u8 := j2.cell 8
  have v8 := j1.cell 8
  have f8 := j2.frozen 8
  have h8 := j1.frozen 8
  have u9 := j2.cell 9
  have v9 := j1.cell 9
  have f9 := j2.frozen 9
  have h9 := j1.frozen 9
  simp at a8 a9 u0 v0 u1 v1 u2 v2 u3 v3 u4 v4 u5 v5 u6 v6 u7 v7 u8 v8 u9 v9
  have J3 := Lib.hid j3
  have JB := Lib.hid jB
  clear j0 j1 j2 j3 jB b2 K0 K1 K2 K3 HB
  go_wp2_with fail
  refine bodyPost_ret (v := .agg #[.int .i64 k, .int .i64 a, .int .i64 b, .int .i64 y, .slice (some ⟨W.heap.size, 0, none⟩) cl.length cl.length, .int .i64 p, .int .i64 q, .int .i64 r, .int .i64 g, .int .i64 l]) (by simp [results, Try.results55, go_sem, v0, v1, v2, v3, v4, v5, v6, v7, v8, v9]) rfl ⟨W.heap.size, rfl, by omega, ?_, ?_⟩
  · exact Blk.far (Blk.far (Blk.far (Blk.far (Blk.far (Blk.far (Blk.far (Blk.far (Blk.far (Blk.far (Blk.far (Blk.far (Blk.far (Blk.far (Blk.far (J3.out) (by simp; try omega) _) (by simp; try omega) _) (by simp; try omega) _) (by simp; try omega) _) (by simp; try omega) _) (by simp; try omega) _) (by simp; try omega) _) (by simp; try omega) _) (by simp; try omega) _) (by simp; try omega) _) (by simp; try omega) _) (by simp; try omega) _) (by simp; try omega) _) (by simp; try omega) _) (by simp; try omega) _
  · exact bset (bset (bset (bset (bset (bset (bset (bset (bset (bset (bset (bset (bset (bset (bset (JB.out) (by simp; try omega) _) (by simp; try omega) _) (by simp; try omega) _) (by simp; try omega) _) (by simp; try omega) _) (by simp; try omega) _) (by simp; try omega) _) (by simp; try omega) _) (by simp; try omega) _) (by simp; try omega) _) (by simp; try omega) _) (by simp; try omega) _) (by simp; try omega) _) (by simp; try omega) _) (by simp; try omega) _
set_option maxRecDepth 100000 in
set_option maxHeartbeats 3200000 in
theorem toNodeS_any (A : Option Addr) (c : Nat) (es : List Nd) (w : World) (hx : NodesAt w A es) (hn : es.length ≤ 1048576) (hr : ncIn es 4194304) :
    Calls Try.prog 22 #[.slice A es.length c] w fun e w' => e = .returned (.slice (some ⟨w.heap.size, 0, none⟩) es.length es.length) ∧ NodesOw w' (news w w') (some ⟨w.heap.size, 0, none⟩) es.length es ∧ Below w.heap.size w w' := by
  obtain ⟨i0, hi, hz0, hz1, hz2⟩ := info_parts Try.infoNode
  have hmk := run_make (P := Try.prog) w 43 97 i0 (.agg #[.int .i64 0, .int .i64 0, .int .i64 0, .int .i64 0, .slice none 0 0, .int .i64 0, .int .i64 0, .int .i64 0, .int .i64 0, .int .i64 0]) Try.underlying43 hi hz0 .i64 .i64 es.length es.length (by omega) (by omega) (by rw [hz2]; omega) (by omega)
  simp only [Int.toNat_natCast, hz1] at hmk
  have hcs : ∀ n, (madeCells (Value.agg #[.int .i64 0, .int .i64 0, .int .i64 0, .int .i64 0, .slice none 0 0, .int .i64 0, .int .i64 0, .int .i64 0, .int .i64 0, .int .i64 0]).cells (n * 10)).size = n * 10 := fun n => by simp [madeCells]
  generalize madeCells (Value.agg #[.int .i64 0, .int .i64 0, .int .i64 0, .int .i64 0, .slice none 0 0, .int .i64 0, .int .i64 0, .int .i64 0, .int .i64 0, .int .i64 0]).cells = mc at hmk hcs
  go_enter Try.func22, Try.ntmps22
  go_wp2
  go_loopw [4] (fun i wr => ∃ k : Nat, k ≤ es.length ∧ i = .int .i64 k ∧ NodesOw wr (news w wr) (some ⟨w.heap.size, 0, none⟩) es.length (es.take k) ∧ Below w.heap.size w wr) (fun i _ => es.length - (intOf i).toNat)
  case atStart => exact ⟨0, by omega, rfl, ⟨_, _, SlF.made NdO 10 97 w (mc (es.length * 10)) es.length (by unfold maxLen; omega) (hcs _) ⟨Nat.le_refl _, by simp⟩ (fun k hk => by have := hk.2; simpa using this)⟩, bal (Below.refl _ _) _⟩
  case round =>
    obtain ⟨k, hk, rfl, ⟨css, F, hown⟩, hbel⟩ := hrel
    by_cases hlt : k < es.length
    · obtain ⟨b, off, RA, rc, rfl, hbl, hc, -, hrow⟩ := hx.get k hlt
      have q0 : wr.cell? ⟨b, off + k * 10, none⟩ = some (.int .i64 es[k].kind) := (hbel.cell (p := ⟨b, off + k * 10, none⟩) hbl).trans (hc 0 (by omega))
      have q1 : wr.cell? ⟨b, off + k * 10 + 1, none⟩ = some (.int .i64 es[k].a) := (hbel.cell (p := ⟨b, off + k * 10 + 1, none⟩) hbl).trans (hc 1 (by omega))
      have q2 : wr.cell? ⟨b, off + k * 10 + 2, none⟩ = some (.int .i64 es[k].b) := (hbel.cell (p := ⟨b, off + k * 10 + 2, none⟩) hbl).trans (hc 2 (by omega))
      have q3 : wr.cell? ⟨b, off + k * 10 + 3, none⟩ = some (.int .i64 es[k].key) := (hbel.cell (p := ⟨b, off + k * 10 + 3, none⟩) hbl).trans (hc 3 (by omega))
      have q4 : wr.cell? ⟨b, off + k * 10 + 4, none⟩ = some (.slice RA es[k].cols.length rc) := (hbel.cell (p := ⟨b, off + k * 10 + 4, none⟩) hbl).trans (hc 4 (by omega))
      have q5 : wr.cell? ⟨b, off + k * 10 + 5, none⟩ = some (.int .i64 es[k].pc) := (hbel.cell (p := ⟨b, off + k * 10 + 5, none⟩) hbl).trans (hc 5 (by omega))
      have q6 : wr.cell? ⟨b, off + k * 10 + 6, none⟩ = some (.int .i64 es[k].pk) := (hbel.cell (p := ⟨b, off + k * 10 + 6, none⟩) hbl).trans (hc 6 (by omega))
      have q7 : wr.cell? ⟨b, off + k * 10 + 7, none⟩ = some (.int .i64 es[k].pv) := (hbel.cell (p := ⟨b, off + k * 10 + 7, none⟩) hbl).trans (hc 7 (by omega))
      have q8 : wr.cell? ⟨b, off + k * 10 + 8, none⟩ = some (.int .i64 es[k].agg) := (hbel.cell (p := ⟨b, off + k * 10 + 8, none⟩) hbl).trans (hc 8 (by omega))
      have q9 : wr.cell? ⟨b, off + k * 10 + 9, none⟩ = some (.int .i64 es[k].col) := (hbel.cell (p := ⟨b, off + k * 10 + 9, none⟩) hbl).trans (hc 9 (by omega))
      have hrl := hr.get hlt
      have HF := Lib.hid hown
      clear hmk hc hown
      go_wp2_with fail
      refine (toNode_any _ _ _ _ _ _ _ _ _ _ _ _ _ (hrow.below hbel) (by omega)).mono ?_
      rintro e w2 ⟨g, rfl, hg, hblk, hb2⟩
      have hown2 := HF.out.loc ndO (fun k hk => hb2.block k hk.2)
      have hkl : (es.take k).length = k := by simp; omega
      have hrow2 := hown2.row
      rw [hkl] at hrow2
      obtain ⟨u0, hu0⟩ := ownsRow_room hrow2 (k * 10) (by omega)
      have f0 := World.ownsRow.frozenAt hrow2 (k * 10)
      obtain ⟨u1, hu1⟩ := ownsRow_room hrow2 (k * 10 + 1) (by omega)
      have f1 := World.ownsRow.frozenAt hrow2 (k * 10 + 1)
      obtain ⟨u2, hu2⟩ := ownsRow_room hrow2 (k * 10 + 2) (by omega)
      have f2 := World.ownsRow.frozenAt hrow2 (k * 10 + 2)
      obtain ⟨u3, hu3⟩ := ownsRow_room hrow2 (k * 10 + 3) (by omega)
      have f3 := World.ownsRow.frozenAt hrow2 (k * 10 + 3)
      obtain ⟨u4, hu4⟩ := ownsRow_room hrow2 (k * 10 + 4) (by omega)
      have f4 := World.ownsRow.frozenAt hrow2 (k * 10 + 4)
      obtain ⟨u5, hu5⟩ := ownsRow_room hrow2 (k * 10 + 5) (by omega)
      have f5 := World.ownsRow.frozenAt hrow2 (k * 10 + 5)
      obtain ⟨u6, hu6⟩ := ownsRow_room hrow2 (k * 10 + 6) (by omega)
      have f6 := World.ownsRow.frozenAt hrow2 (k * 10 + 6)
      obtain ⟨u7, hu7⟩ := ownsRow_room hrow2 (k * 10 + 7) (by omega)
      have f7 := World.ownsRow.frozenAt hrow2 (k * 10 + 7)
      obtain ⟨u8, hu8⟩ := ownsRow_room hrow2 (k * 10 + 8) (by omega)
      have f8 := World.ownsRow.frozenAt hrow2 (k * 10 + 8)
      obtain ⟨u9, hu9⟩ := ownsRow_room hrow2 (k * 10 + 9) (by omega)
      have f9 := World.ownsRow.frozenAt hrow2 (k * 10 + 9)
      have hB := btr hbel hb2
      have hel : NdO w2 (news wr w2) (ndC (some ⟨g, 0, none⟩) es[k].cols.length es[k]) es[k] := ⟨fun k hk => hk.2, _, _, rfl, fun k e => by simp [blk] at e; subst e; exact ⟨hg, hblk.lt⟩, IntsOwn.ofBlk hblk (Nat.zero_le _) (by unfold maxLen; omega)⟩
      have hfill := hown2.fill (w' := ((((((((((w2.setCell ⟨w.heap.size, k * 10, none⟩ (.int .i64 es[k].kind)).setCell ⟨w.heap.size, k * 10 + 1, none⟩ (.int .i64 es[k].a)).setCell ⟨w.heap.size, k * 10 + 2, none⟩ (.int .i64 es[k].b)).setCell ⟨w.heap.size, k * 10 + 3, none⟩ (.int .i64 es[k].key)).setCell ⟨w.heap.size, k * 10 + 4, none⟩ (.slice (some ⟨g, 0, none⟩) es[k].cols.length es[k].cols.length)).setCell ⟨w.heap.size, k * 10 + 5, none⟩ (.int .i64 es[k].pc)).setCell ⟨w.heap.size, k * 10 + 6, none⟩ (.int .i64 es[k].pk)).setCell ⟨w.heap.size, k * 10 + 7, none⟩ (.int .i64 es[k].pv)).setCell ⟨w.heap.size, k * 10 + 8, none⟩ (.int .i64 es[k].agg)).setCell ⟨w.heap.size, k * 10 + 9, none⟩ (.int .i64 es[k].col))) (U := news w w2) ndO (by rw [hkl]; exact hlt) hel (fun q h1 h2 => by have := h1.1; have := h2.2; omega) (by rw [hkl]; rfl) (fun q h => by
        have := hbel.size
        have := hb2.size
        rcases h with h | h
        · exact ⟨h.1, by have := h.2; omega⟩
        · exact ⟨by have := h.1; omega, h.2⟩) (fun q h => h.2)
      rw [show es.take k ++ [es[k]] = es.take (k + 1) by rw [List.take_succ_eq_append_getElem hlt]] at hfill
      have HS := Lib.hid hfill
      have HB := Lib.hid hB
      clear hfill hB hown2 hrow2 hel hkl hbel q0 q1 q2 q3 q4 q5 q6 q7 q8 q9 hrow hg hblk hb2
      go_wp2
      go_roundw
      case rel => exact ⟨k + 1, by omega, by go_num, ⟨_, _, HS.out.mono (fun q h => ⟨h.1, by simpa [World.setCell] using h.2⟩) (fun q h => h.2)⟩, bset (bset (bset (bset (bset (bset (bset (bset (bset (bset HB.out (Nat.le_refl _) _) (Nat.le_refl _) _) (Nat.le_refl _) _) (Nat.le_refl _) _) (Nat.le_refl _) _) (Nat.le_refl _) _) (Nat.le_refl _) _) (Nat.le_refl _) _) (Nat.le_refl _) _) (Nat.le_refl _) _⟩
      case measure => simp [intOf]; omega
    · obtain rfl : k = es.length := by omega
      rw [List.take_length] at hown
      have HO := Lib.hid hown
      have HB := Lib.hid hbel
      clear hown hbel hmk
      go_wp2
      go_ret
      exact ⟨rfl, ⟨_, _, HO.out⟩, HB.out⟩

end Go.Proofs.Ytffgonddephkkaa
