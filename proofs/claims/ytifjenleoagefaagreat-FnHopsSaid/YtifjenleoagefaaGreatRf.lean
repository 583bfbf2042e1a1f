/- HELPER, no statement of the seat: the closure of a relation, out of its rounds. -/
import Derived.Test.YtifjenleoagefaaGreatRe
namespace Go.Proofs.YtifjenleoagefaaGreat
open Go.RowKit Go.Sort Go.Shelf
set_option linter.unusedSimpArgs false
set_option linter.unusedVariables false
attribute [local go_sem] Oper.semAt_some

theorem kpO_row {W V : World} {g n₀ : Nat} {t : TypeId} {cs c : Array Value} (h : Blk W g t cs) (hs : cs.size = 20) (hn : n₀ ≤ g) (hb : Below W.heap.size W V) (hc : c.size = 20) : KpO [g] n₀ W (V.setRow g c) ∧ ∀ B, KeepsFrom B W (V.setRow g c) := by
  have hV := h.below hb
  have hW' : Blk (V.setRow g c) g t c := hV.row c
  obtain ⟨g1, o1⟩ := good20 (n₀ := n₀) h hs hn
  obtain ⟨g2, o2⟩ := good20 (n₀ := n₀) hW' hc hn
  have hg : GrownS W (V.setRow g c) (fun k => k = g) := ⟨hb.os, hb.tape, hb.output, by rw [setRow_size]; exact hb.size, fun k hk hn => (setRow_other V g k c hn).trans (hb.block k hk)⟩
  refine ⟨kpO_grown hg (Nat.le_trans hn (Nat.le_of_lt h.lt)) (fun k hk => ⟨by rw [hk]; exact hn, fun _ => ⟨g, by simp, .inl hk⟩⟩) (fun k hk _ => ⟨g, by simp, .inl (o2 k hk)⟩) (fun _ => g2), fun B => keepsFrom_grown hg (fun k o hk ho => ?_)⟩
  subst hk
  exact blk_cells h o ho
def cloL (pre : List Rnd) : List Nat := (pre.map fun x => x.1.2).foldl orR zeroR
theorem cloL_snoc (pre : List Rnd) (x : Rnd) : cloL (pre ++ [x]) = orR (cloL pre) x.1.2 := by simp [cloL]
theorem cloL_okF : ∀ (L : List (List Nat)) (f : List Nat), OkR f → (∀ l ∈ L, OkR l) → OkR (L.foldl orR f)
  | [], _, h, _ => h
  | l :: L, f, h, hl => cloL_okF L (orR f l) (orR_ok h (hl l (by simp))) (fun y hy => hl y (by simp [hy]))
theorem cloL_ok (pre : List Rnd) : OkR (cloL pre) := cloL_okF _ _ zeroR_ok (fun l hl => by
  obtain ⟨x, hx, rfl⟩ := List.mem_map.1 hl
  exact x.2)
theorem cloL_end {ys : List Rnd} {r : List Nat} (h : ys.map Subtype.val = numR 1 (rds r)) : cloL ys = closR r := by
  have h2 := congrArg (List.map (·.2)) h
  rw [numR_snd, List.map_map] at h2
  rw [closR, ← h2]; rfl
def ClI (w : World) (c : List Nat) (W : World) : Prop := Blk W (w.heap.size + 1 + 1) 49 (relC c) ∧ Blk W (w.heap.size + 1) 49 (relC zeroR) ∧ Below w.heap.size w W
theorem ClI.grown {w W W' : World} {c : List Nat} {row : Option Nat} {lo : Nat} (h : ClI w c W) (hg : W.grownBy W' row) (hr : ∀ r, row = some r → lo ≤ r) (hlo : w.heap.size + 1 + 1 < lo) : ClI w c W' := by
  obtain ⟨h1, h2, h3⟩ := h
  have hb : ∀ k, k < lo → k < W.heap.size → W'.heap[k]? = W.heap[k]? := fun k hk hl => hg.block k hl (fun e => by have := hr k e.symm; omega)
  exact ⟨(hb _ (by omega) h1.lt).trans h1, (hb _ (by omega) h2.lt).trans h2, ⟨hg.os.trans h3.os, hg.tape.trans h3.tape, hg.output.trans h3.output, Nat.le_trans h3.size hg.size, fun k hk => (hb k (by omega) (Nat.lt_of_lt_of_le hk h3.size)).trans (h3.block k hk)⟩⟩
set_option maxRecDepth 100000 in
set_option maxHeartbeats 6400000 in
theorem closure_w (r : List Nat) (w : World) (hr : OkR r) :
    Calls Tryz.prog 41 #[.agg (relC r)] w fun e w' => e = .returned (.agg (relC (closR r))) ∧ Below w.heap.size w w' := by
  refine (callsIn_wide (n := 9)).1 ?_
  refine callsIn_of_wp_marks Tryz.func41 rfl trivial ?_ rfl
  simp only [Tryz.ntmps41, List.size_toArray, List.length_cons, List.length_nil, Nat.reduceAdd, Nat.reduceSub, Array.replicate_succ, Array.replicate_zero, List.push_toArray, List.append_toArray, List.nil_append, List.cons_append]
  have h1 : Blk (((w.alloc (.cells (relC r) 49)).alloc (.cells (relC zeroR) 49)).alloc (.cells (relC zeroR) 49)) w.heap.size 49 (relC r) := ((Blk.newAt rfl).alloc _).alloc _
  have hB0 : Below w.heap.size w (((w.alloc (.cells (relC r) 49)).alloc (.cells (relC zeroR) 49)).alloc (.cells (relC zeroR) 49)) := bal (bal (bal (Below.refl _ _) _) _) _
  have HI0 : Hid (ClI w zeroR (((w.alloc (.cells (relC r) 49)).alloc (.cells (relC zeroR) 49)).alloc (.cells (relC zeroR) 49))) := ⟨Blk.newAt (by simp), (Blk.newAt (by simp)).alloc _, hB0⟩
  clear hB0
  gi_wp2_with (first | refine wpListIn_load_row rfl 49 _ rfl w.heap.size rfl 49 (relC r) (0, 0) _ h1 underR rfl (sizeR hr) ?_ | (refine ⟨trivial, ?_⟩; gi_at_call 24; refine (callsIn_wide.2 (rounds_i r _ hr)).mono ?_; rintro e w2 ⟨rfl, hV, hb2⟩))
  have hV1 : Blk w2 (w.heap.size + 1 + 1 + 1) 49 (relC r) := by simpa using hV
  have hs2 : w.heap.size + 1 + 1 + 1 < w2.heap.size := hV1.lt
  have hI2 : ClI w zeroR w2 := ⟨HI0.out.1.below hb2, HI0.out.2.1.below hb2, btr HI0.out.2.2 hb2⟩
  obtain ⟨hG, hOw⟩ := good20 (n₀ := w.heap.size) hI2.1 (by rw [relC_size, zeroR_ok.len]) (by omega)
  clear hV hb2 h1 HI0
  have HI := Lib.hid hI2
  refine range_gives (n := 9) (m := 2) (N := (rds r).length) (gf := 52) (lb := #[.pointer (some ⟨w.heap.size + 1 + 1 + 1, 0, none⟩)]) (encs := encR) (Kp := KpO [w.heap.size + 1 + 1] w.heap.size) (S := fun ys : List Rnd => ys.map Subtype.val = numR 1 (rds r))
    (by omega) rfl (fun _ _ => rfl)
    (fun W1 hb hsz => rounds_own (w.heap.size + 1 + 1 + 1) w.heap.size (9 - 1) r W1 [w.heap.size + 1 + 1] (hV1.below hb) hr (hG.below hb) (fun ho => by
      have := (owB_same (fun B hB => hb.block B (hG.1 B hB).2) _).1 ho
      have := hOw _ this; omega) (by omega))
    kpO_t (kpO_b (by omega) (by simp; omega)) (fun _ => rfl)
    (fun pre W => ClI w (cloL pre) W) (fun pre A B row hs hg hr => hs.grown (lo := w2.heap.size) hg (fun r e => (hr r e).1) (by omega)) hI2
    (fun x a' W => ∃ g, w2.heap.size + 2 ≤ g ∧ Blk W g 49 (relC x.1.2) ∧ a' = { tmps := #[.agg (relC r), .pointer (some ⟨w.heap.size, 0, none⟩), .pointer (some ⟨w.heap.size + 1, 0, none⟩), .pointer (some ⟨w.heap.size + 1 + 1, 0, none⟩), undef, .pointer (some ⟨g, 0, none⟩), .agg (relC r), .func (.func 52) #[] #[.pointer (some ⟨w.heap.size + 1 + 1 + 1, 0, none⟩)], .int .i64 ((x.1.1 : Nat) : Int), .agg (relC x.1.2), undef, undef, undef, undef], defers := [] })
    (fun x a' _ A B row hs hg hr => by
      obtain ⟨g, h1, h2, h3⟩ := hs
      exact ⟨g, h1, (hg.block g h2.lt (fun e => by have := hr g e.symm; omega)).trans h2, h3⟩)
    ?assign ?body ?done
  case assign =>
    rintro l pre x W K hI hsz hK
    have hx := x.2
    gi_wp2_with (refine wpListIn_store_row rfl 49 _ _ rfl W.heap.size (relC x.1.2) rfl rfl 49 (relC zeroR) (show Blk _ W.heap.size 49 (relC zeroR) from Blk.newAt rfl) (sizeR hx) (by rw [relC_size, relC_size, hx.len]; rfl) (relC_one _) ?_)
    have hb : Below W.heap.size W ((W.alloc (.cells (relC zeroR) 49)).setRow W.heap.size (relC x.1.2)) := brow (bal (Below.refl _ _) _) (Nat.le_refl _) _
    exact hK _ _ (keepsFrom_grown (GrownS.ofBelow (S := fun _ => False) hb) (fun _ _ h => h.elim)) (kpO_below (by have := hI.2.2.size; omega) hb) ⟨hI.1.below hb, hI.2.1.below hb, btr hI.2.2 hb⟩ ⟨W.heap.size, by omega, (Blk.newAt (cs := relC zeroR) rfl).row _, rfl⟩
  case body =>
    rintro l pre x a' W hl - hI ⟨g, hg, hX, rfl⟩ hlt hroom
    have hx := x.2
    have hc := cloL_ok pre
    have hgo : OkR (orR (cloL pre) x.1.2) := orR_ok hc hx
    have hC := hI.1
    have HII := Lib.hid hI
    have HS := Lib.hid (cloL_snoc pre x)
    clear hI
    generalize cloL pre = cl at *
    gi_wp2_with (first | refine wpListIn_load_row rfl 49 _ rfl (w.heap.size + 1 + 1) rfl 49 (relC cl) (0, 0) _ hC underR rfl (sizeR hc) ?_ | refine wpListIn_load_row rfl 49 _ rfl g rfl 49 (relC x.1.2) (0, 0) _ hX underR rfl (sizeR hx) ?_ | (refine ⟨trivial, ?_⟩; gi_at_call 54; refine (CallsIn.inRound l (callsIn_wide.2 (union_w cl x.1.2 _ hc hx))).mono ?_; rintro e w4 ⟨rfl, hb4⟩; have hC4 := hC.below hb4) | refine wpListIn_store_row rfl 49 _ _ rfl (w.heap.size + 1 + 1) (relC (orR cl x.1.2)) rfl rfl 49 (relC cl) hC4 (sizeR hgo) (by rw [relC_size, relC_size, hc.len, hgo.len]) (relC_one _) ?_)
    obtain ⟨k1, k2⟩ := kpO_row (n₀ := w.heap.size) (c := relC (orR cl x.1.2)) hC (by rw [relC_size, hc.len]) (by omega) hb4 (by rw [relC_size, hgo.len])
    have hI9 : ClI w (cloL (pre ++ [x])) (w4.setRow (w.heap.size + 1 + 1) (relC (orR cl x.1.2))) := by
      rw [HS.out]
      exact ⟨hC4.row _, (HII.out.2.1.below hb4).rowFar (by omega) _, brow (btr HII.out.2.2 hb4) (by omega) _⟩
    exact ⟨k2 _, k1, hI9⟩
  case done =>
    rintro ys W hS hI hD
    have hco : OkR (closR r) := closR_ok hr
    rw [cloL_end hS] at hI
    have hC := hI.1
    have hZ := hI.2.1
    have HB := Lib.hid hI.2.2
    have HR := Lib.hid (hZ.row (relC (closR r)))
    have hM : Hid (MarksAt [w2.heap.size] w.heap.size W) := (MarksAt.nil _ _).cons hD (by omega) (fun x hx => by cases hx)
    clear hI hD
    gi_wp2_with (first | refine wpListIn_load_row rfl 49 _ rfl (w.heap.size + 1 + 1) rfl 49 (relC (closR r)) (0, 0) _ hC underR rfl (sizeR hco) ?_ | refine wpListIn_store_row rfl 49 _ _ rfl (w.heap.size + 1) (relC (closR r)) rfl rfl 49 (relC zeroR) hZ (sizeR hco) (by rw [relC_size, relC_size, hco.len]; rfl) (relC_one _) ?_)
    refine leaves_marks [w2.heap.size] _ (hM.out.kept (S := fun k => k = w.heap.size + 1) ⟨rfl, rfl, rfl, by rw [setRow_size]; exact Nat.le_refl _, fun k hk hn => setRow_other W _ _ _ hn⟩ (fun k hk => ⟨.cells (relC zeroR) 49 (0, 0), by rw [hk]; exact hZ, rfl⟩)) (fun w' hw' => ?_)
    exact ⟨_, results_cell_row rfl _ _ (w.heap.size + 1) 49 (relC (closR r)) (0, 0) _ rfl (hw'.blk HR.out) underR rfl (sizeR hco), rfl, hw'.below (brow HB.out (by omega) _)⟩
end Go.Proofs.YtifjenleoagefaaGreat
