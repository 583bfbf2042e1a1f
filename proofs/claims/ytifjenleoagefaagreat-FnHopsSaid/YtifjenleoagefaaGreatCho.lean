/- HELPER, no statement of the seat: several texts in one file. -/
import Derived.Test.YtifjenleoagefaaGreatHol
import Derived.Test.YtifjenleoagefaaGreatCgh
import Derived.Test.YtifjenleoagefaaGreatCgk
import Derived.Test.YtifjenleoagefaaGreatCgl
import Derived.Test.YtifjenleoagefaaGreatEdg
import Derived.Test.YtifjenleoagefaaGreatNrm
import Derived.Test.YtifjenleoagefaaGreatCrd
import Derived.Test.YtifjenleoagefaaGreatRs
import Derived.Test.YtifjenleoagefaaGreatRfn
/- HELPER, no statement of the seat: the program's Hops: a range over an iterator inside a range over an iterator, that appends. -/
namespace Go.Proofs.YtifjenleoagefaaGreat
open Go.RowKit Go.Sort Go.Shelf
set_option linter.unusedSimpArgs false
set_option linter.unusedVariables false
attribute [local go_sem] Oper.semAt_some

/-- A list of entries in the box B, in blocks of its own that hold cells, outside the zone of four from lo. -/
def LsW (base B lo : Nat) (es : List Ent) (W : World) : Prop :=
  ∃ A c css F, Blk W B 23 #[.slice A es.length c] ∧ SlF EntO 2 33 W (tightF A F) A c es css F ∧ ∀ k, tightF A F k → base ≤ k ∧ (k < lo ∨ lo + 4 ≤ k) ∧ k ≠ B ∧ ∃ o, W.heap[k]? = some o ∧ o.isCells = true
theorem LsW.same {base B lo : Nat} {es : List Ent} {W W' : World} (h : LsW base B lo es W) (hk : ∀ (k : Nat) (o : Obj), (k < lo ∨ lo + 4 ≤ k) → W.heap[k]? = some o → o.isCells = true → W'.heap[k]? = some o) (hB : B < lo) : LsW base B lo es W' := by
  obtain ⟨A, c, css, F, h1, h2, h3⟩ := h
  have hq : ∀ k, tightF A F k → W'.heap[k]? = W.heap[k]? := fun k hk' => by
    obtain ⟨-, hz, -, o, ho, hc⟩ := h3 k hk'
    rw [hk k o hz ho hc, ho]
  exact ⟨A, c, css, F, hk _ _ (.inl hB) h1 rfl, h2.loc entO hq, fun k hk' => by rw [hq k hk']; exact h3 k hk'⟩
theorem LsW.below {base B lo : Nat} {es : List Ent} {W W' : World} (h : LsW base B lo es W) (hb : Below W.heap.size W W') (hB : B < lo) : LsW base B lo es W' :=
  h.same (fun k o _ ho _ => (hb.block k (Array.getElem?_eq_some_iff.1 ho).1).trans ho) hB
theorem LsW.stays {base B lo : Nat} {es : List Ent} {W W' : World} {row : Option Nat} (h : LsW base B lo es W) (hg : W.grownBy W' row) (hr : ∀ r, row = some r → lo ≤ r ∧ r < lo + 4) (hB : B < lo) : LsW base B lo es W' :=
  h.same (fun k o hz ho _ => (hg.block k (Array.getElem?_eq_some_iff.1 ho).1 (fun e => by have := hr k e.symm; omega)).trans ho) hB
theorem LsW.toI {base B lo : Nat} {es : List Ent} {W : World} (h : LsW base B lo es W) (hr : lo + 4 ≤ W.heap.size) (hB : B < lo) : LsI base B [B, lo, lo + 1, lo + 2, lo + 3] es W := by
  obtain ⟨A, c, css, F, h1, h2, h3⟩ := h
  refine ⟨A, c, css, F, h1, h2, fun k hk => ⟨(h3 k hk).1, (h3 k hk).2.2.2⟩, fun x hx => ?_⟩
  have hlt := h1.lt
  simp only [List.mem_cons, List.not_mem_nil, or_false] at hx
  refine ⟨fun ht => ?_, by omega⟩
  have h4 := (h3 x ht).2.1
  have h5 := (h3 x ht).2.2.1
  omega
theorem LsI.toW {base B lo : Nat} {es : List Ent} {W : World} (h : LsI base B [B, lo, lo + 1, lo + 2, lo + 3] es W) : LsW base B lo es W := by
  obtain ⟨A, c, css, F, h1, h2, h3, h4⟩ := h
  refine ⟨A, c, css, F, h1, h2, fun k hk => ⟨(h3 k hk).1, ?_, fun e => (h4 B (by simp)).1 (e ▸ hk), (h3 k hk).2⟩⟩
  have n0 : k ≠ lo := fun e => (h4 lo (by simp)).1 (e ▸ hk)
  have n1 : k ≠ lo + 1 := fun e => (h4 (lo + 1) (by simp)).1 (e ▸ hk)
  have n2 : k ≠ lo + 2 := fun e => (h4 (lo + 2) (by simp)).1 (e ▸ hk)
  have n3 : k ≠ lo + 3 := fun e => (h4 (lo + 3) (by simp)).1 (e ▸ hk)
  omega
theorem btr1 {a m : Nat} {w W W' : World} (h : Below a w W) (k : Below m W W') (ham : a ≤ m) : Below a w W' :=
  ⟨k.os.trans h.os, k.tape.trans h.tape, k.output.trans h.output, Nat.le_trans h.size k.size, fun q hq => (k.block q (by omega)).trans (h.block q hq)⟩
/-- What stands inside a round of the outer range. -/
def HpJ (w W0 : World) (l g B0 b lo : Nat) (d : Nat) (n : Int) (es : List Ent) (W : World) : Prop :=
  LsI (w.heap.size + 1) B0 [B0, lo, lo + 1, lo + 2, lo + 3] es W ∧ (∃ A k c, Blk W B0 23 #[.slice A k c] ∧ blk A ≠ some g) ∧ Blk W g 3 #[.int .i64 (d : Int)] ∧ (∃ rec, W.heap[l]? = some (.loop rec)) ∧ KeepsFrom b W0 W ∧ KpO [B0] (w.heap.size + 1) W0 W ∧ W0.heap.size ≤ W.heap.size ∧ Below w.heap.size w W ∧ Blk W w.heap.size 3 #[.int .i64 n]
theorem HpJ.below {w W0 : World} {l g B0 b lo d : Nat} {n : Int} {es : List Ent} {W W' : World} (h : HpJ w W0 l g B0 b lo d n es W) (hb : Below W.heap.size W W') (hw : w.heap.size + 1 ≤ W.heap.size) : HpJ w W0 l g B0 b lo d n es W' := by
  obtain ⟨h1, ⟨A, k, c, h2, h2'⟩, h3, ⟨rec, h4⟩, h5, h6, h7, h8, h9⟩ := h
  refine ⟨h1.below hb, ⟨A, k, c, h2.below hb, h2'⟩, h3.below hb, ⟨rec, (hb.block l (Array.getElem?_eq_some_iff.1 h4).1).trans h4⟩, ⟨Nat.le_trans h5.size hb.size, fun k o hk h0 ho => ?_⟩, kpO_t h6 (kpO_below hw hb), Nat.le_trans h7 hb.size, btr h8 hb, h9.below hb⟩
  have := h5.same k o hk h0 ho
  exact (hb.block k (Array.getElem?_eq_some_iff.1 this).1).trans this
theorem hpJ_own {β : Type} {w W0 : World} {l g B0 b lo d L : Nat} {n : Int} (T : β → List Ent) (hw : w.heap.size + 1 ≤ L) (hW0 : W0.heap.size ≤ L) (hl : l < L) (hB : B0 < L) (hw0 : w.heap.size + 1 ≤ W0.heap.size) : OwnFrom L (fun s W => HpJ w W0 l g B0 b lo d n (T s) W) := by
  rintro s X Y row ⟨h1, ⟨A, k, c, h2, h2'⟩, h3, ⟨rec, h4⟩, h5, h6, h7, h8, h9⟩ hg hr
  have hb : ∀ (g : Nat) (t : TypeId) (cs : Array Value), Blk X g t cs → Blk Y g t cs := fun g t cs h => ownBlk (β := Unit) g t (fun _ => cs) () X Y row h hg (fun r e => (hr r e).2)
  exact ⟨lsI_own T s X Y row h1 hg hr, ⟨A, k, c, hb _ _ _ h2, h2'⟩, hb _ _ _ h3, ⟨rec, (hg.block l (Array.getElem?_eq_some_iff.1 h4).1 (fun e => by have := (hr l e.symm).1; omega)).trans h4⟩, ownFrom_keepsFrom (β := Unit) hW0 () X Y row h5 hg hr, kpO_t h6 (kpO_own hg hr hw (Nat.le_trans hw0 h7) (fun B hB' => by simp at hB'; omega)), Nat.le_trans h7 hg.size, below_stays h8 hg (fun r e => (hr r e).1) (by omega), hb _ _ _ h9⟩
theorem leaves_mark1 {F : Fence} {n : Nat} {P : Program} {fn : Func} {tmps : Array Value} {R : Ending → World → Prop} (D : Nat) (w : World) (hD : w.heap[D]? = some (.deferred (some [])))
    (h : LeavesIn F n P fn tmps R [] .returning (w.putObj D (.deferred none))) : LeavesInM F n P fn tmps R (markL [D]) .returning w :=
  ⟨by simp, .inl ⟨D, _, rfl, run_takeDeferred hD, h⟩⟩
def hopP (s : Nat) (pre : List Rnd) : List Ent := (pre.map fun x => (vtx (x.1.2.getD s 0)).map (fun y => pr y x.1.1)).flatten
theorem hopP_snoc (s : Nat) (pre : List Rnd) (x : Rnd) : hopP s (pre ++ [x]) = hopP s pre ++ (vtx (x.1.2.getD s 0)).map (fun y => pr y x.1.1) := by simp [hopP]
theorem hopN_flat (s : Nat) : ∀ (L : List (List Nat)) (n : Nat), hopN s n L = ((numR n L).map fun p => (vtx (p.2.getD s 0)).map (fun y => pr y p.1)).flatten
  | [], n => rfl
  | l :: L, n => by rw [hopN, hopN_flat s L (n + 1)]; rfl
theorem hopP_end (s : Nat) {ys : List Rnd} {r : List Nat} (h : ys.map Subtype.val = numR 1 (rds r)) : hopP s ys = hopN s 1 (rds r) := by
  rw [hopN_flat, ← h, List.map_map]; rfl
theorem hopP_len (s : Nat) (pre : List Rnd) : (hopP s pre).length ≤ 20 * pre.length := by
  induction pre with
  | nil => simp [hopP]
  | cons x pre ih =>
    have h1 := vtx_len (x.1.2.getD s 0)
    have e : hopP s (x :: pre) = (vtx (x.1.2.getD s 0)).map (fun y => pr y x.1.1) ++ hopP s pre := rfl
    rw [e, List.length_append, List.length_map, List.length_cons]; omega
set_option maxRecDepth 100000 in
set_option maxHeartbeats 6400000 in
theorem hops_core (A : Option Addr) (c : Nat) (es : List Ent) (s : Nat) (w : World) (hx : EntsAt w A es) (hn : es.length ≤ 4194304) (hr : rowsIn es 4194304) (h1 : edgB es = true) (hs20 : s < 20)
    (HNI : ∀ (A : Option Addr) (c : Nat) (W : World), EntsAt W A (hopN s 1 (rds (relOf es))) → Calls Tryz.prog 26 #[.slice A (hopN s 1 (rds (relOf es))).length c] W fun e w' => ∃ A' c', e = .returned (.slice A' (AddL [] (hopN s 1 (rds (relOf es)))).length c') ∧ EntsOw w' (news W w') A' c' (AddL [] (hopN s 1 (rds (relOf es)))) ∧ Below W.heap.size W w') :
    Calls Tryz.prog 6 #[.slice A es.length c, .int .i64 (s : Int)] w fun e w' => ∃ A' c', e = .returned (.slice A' (AddL [] (hopN s 1 (rds (relOf es)))).length c') ∧ EntsOw w' (news w w') A' c' (AddL [] (hopN s 1 (rds (relOf es)))) ∧ Below w.heap.size w w' := by
  have hbn : Below w.heap.size w (w.alloc (.cells #[.int .i64 (s : Int)] 3)) := bal (Below.refl _ _) _
  have hv := ValidEdges_i A c es _ (hx.below entR hbn) hn hr
  obtain ⟨i0, hi, hz0, hz1, hz2⟩ := info_parts Tryz.infoEnt
  have HX := Lib.hid hx
  have hro := relOf_ok h1
  have HE := Lib.hid h1
  have hin : inB (s : Int) 0 19 = true := by simp [inB]; omega
  have hiv := fun W => isVertex_w (s : Int) W
  rw [hin] at hiv
  rw [h1] at hv
  clear h1 hx hin
  refine (callsIn_wide (n := 12)).1 ?_
  refine callsIn_of_wp_marks Tryz.func6 rfl trivial ?_ rfl
  simp only [Tryz.ntmps6, List.size_toArray, List.length_cons, List.length_nil, Nat.reduceAdd, Nat.reduceSub, Array.replicate_succ, Array.replicate_zero, List.push_toArray, List.append_toArray, List.nil_append, List.cons_append]
  gi_wp2_with (first | (refine ⟨trivial, ?_⟩; gi_at_call 9; refine (callsIn_wide.2 hv).mono ?_; rintro e w1 ⟨rfl, b1⟩; have c1 : Blk w1 w.heap.size 3 #[.int .i64 (s : Int)] := Blk.below (Blk.newAt rfl) b1; have hbx := bal (btr hbn b1) (.cells #[.slice none 0 0] 23); have HBX := Lib.hid hbx; have z1 := c1.cell 0; simp at z1; clear hv) | (refine ⟨trivial, ?_⟩; gi_at_call 22; refine (callsIn_wide.2 (hiv _)).mono ?_; rintro e wv ⟨rfl, rfl⟩) | (refine ⟨trivial, ?_⟩; gi_at_call 23; refine (callsIn_wide.2 (relationOf_i _ _ es _ (HX.out.below entR HBX.out) HE.out)).mono ?_; rintro e w2 ⟨rfl, b2⟩; have HB2 := Lib.hid b2) | (refine ⟨trivial, ?_⟩; gi_at_call 24; refine (callsIn_wide.2 (rounds_i _ _ hro)).mono ?_; rintro e w3 ⟨rfl, hV, b3⟩))
  have hB3 := btr b2 b3
  have kB : Blk w3 w1.heap.size 23 #[.slice none 0 0] := (Blk.newAt rfl).below hB3
  have hs12 : w1.heap.size < w2.heap.size := by have := b2.size; simp at this; omega
  have hs23 : w2.heap.size < w3.heap.size := hV.lt
  have hs01 : w.heap.size + 1 ≤ w1.heap.size := by have := b1.size; simpa using this
  have hbw : Below w.heap.size w w3 := btr hbx hB3
  have kN : Blk w3 w.heap.size 3 #[.int .i64 (s : Int)] := (c1.alloc _).below hB3
  have nt : ∀ k, ¬ tightF none (fun _ _ => False) k := fun k hk => by rcases hk with hk | ⟨_, hk⟩ <;> cases hk
  have hI0 : LsW (w.heap.size + 1) w1.heap.size w3.heap.size [] w3 := ⟨none, 0, [], fun _ _ => False, kB, SlF.nil (fun k hk => (nt k hk).elim), fun k hk => (nt k hk).elim⟩
  have key : ∀ k, OwB [w1.heap.size] w3 k → k = w1.heap.size := by
    rintro k ⟨B', hB', e | ⟨n, c2, T, e⟩⟩
    · simp at hB'; omega
    · simp only [List.mem_singleton] at hB'
      subst hB'
      unfold Blk at kB
      rw [kB] at e
      injection e with e
      injection e with e _ _
      have e2 := congrArg (fun a : Array Value => a[0]?) e
      simp at e2
  have hG : GoodO [w1.heap.size] (w.heap.size + 1) w3 := ⟨fun B' hB' => by simp at hB'; subst hB'; exact ⟨hs01, kB.lt⟩, fun k hk => by rw [key k hk]; exact ⟨hs01, kB.lt⟩⟩
  have hno : ¬ OwB [w1.heap.size] w3 w2.heap.size := fun ho => by have := key _ ho; omega
  have HI := Lib.hid (And.intro hI0 (And.intro hbw kN))
  clear b1 hbx HBX HB2 b2 b3 hB3 kB nt hI0 hbw kN c1 key hbn z1
  refine range_givesH (n := 12) (m := 2) (N := (rds (relOf es)).length) (gf := 52) (lb := #[.pointer (some ⟨w2.heap.size, 0, none⟩)]) (encs := encR) (Kp := KpO [w1.heap.size] (w.heap.size + 1)) (S := fun ys : List Rnd => ys.map Subtype.val = numR 1 (rds (relOf es)))
    (by omega) rfl (fun _ _ => rfl)
    (fun W1 hb hsz => rounds_own w2.heap.size (w.heap.size + 1) (12 - 1) (relOf es) W1 [w1.heap.size] (hV.below hb) hro (hG.below hb) (fun ho => hno ((owB_same (fun B hB => hb.block B (hG.1 B hB).2) _).1 ho)) (by omega))
    kpO_t (kpO_b (by omega) (by simp; omega)) (fun _ => rfl)
    (fun pre W => LsW (w.heap.size + 1) w1.heap.size w3.heap.size (hopP s pre) W ∧ Below w.heap.size w W ∧ Blk W w.heap.size 3 #[.int .i64 (s : Int)])
    (fun pre X Y row hs hg hr => ⟨hs.1.stays hg (fun r e => by have := hr r e; omega) (by omega), below_stays hs.2.1 hg (fun r e => (hr r e).1) (by omega), (hg.block _ hs.2.2.lt (fun e => by have := hr _ e.symm; omega)).trans hs.2.2⟩) HI.out
    (fun x a' W => ∃ g, w3.heap.size + 2 ≤ g ∧ Blk W g 3 #[.int .i64 ((x.1.1 : Nat) : Int)] ∧ Blk W (g + 1) 49 (relC x.1.2) ∧ (∃ A k c, Blk W w1.heap.size 23 #[.slice A k c] ∧ blk A ≠ some g) ∧ a' = { tmps := #[.slice A es.length c, .int .i64 (s : Int), undef, .pointer (some ⟨w.heap.size, 0, none⟩), .slice none 0 0, .pointer (some ⟨w1.heap.size, 0, none⟩), .pointer (some ⟨g, 0, none⟩), .pointer (some ⟨g + 1, 0, none⟩), undef, .slice A es.length c, .bool true, .bool false, .bool false, .int .i64 (s : Int), .bool true, .bool false, .bool false, .slice A es.length c, .agg (relC (relOf es)), .func (.func 52) #[] #[.pointer (some ⟨w2.heap.size, 0, none⟩)], .int .i64 ((x.1.1 : Nat) : Int), .agg (relC x.1.2), undef, undef, undef, undef, undef, undef, undef, undef, undef, undef, undef, undef, undef, undef], defers := [] })
    (fun x a' _ X Y row hs hg hr => by
      obtain ⟨g, h1, h2, h3, ⟨A2, k2, c2, h4, h5⟩, h6⟩ := hs
      exact ⟨g, h1, (hg.block g h2.lt (fun e => by have := hr g e.symm; omega)).trans h2, (hg.block (g + 1) h3.lt (fun e => by have := hr (g + 1) e.symm; omega)).trans h3, ⟨A2, k2, c2, (hg.block _ h4.lt (fun e => by have := hr _ e.symm; omega)).trans h4, h5⟩, h6⟩)
    ?assign ?body ?done
  case assign =>
    rintro l pre x W K hI hsz hK
    have hx := x.2
    gi_wp2_with (refine wpListIn_store_row rfl 49 _ _ rfl (W.heap.size + 1) (relC x.1.2) rfl rfl 49 (relC zeroR) (show Blk _ (W.heap.size + 1) 49 (relC zeroR) from Blk.newAt (by simp)) (sizeR hx) (by rw [relC_size, relC_size, hx.len]; rfl) (relC_one _) ?_)
    have hb : Below W.heap.size W (((W.alloc (.cells #[.int .i64 ((x.1.1 : Nat) : Int)] 3)).alloc (.cells (relC zeroR) 49)).setRow (W.heap.size + 1) (relC x.1.2)) := brow (bal (bal (Below.refl _ _) _) _) (by omega) _
    obtain ⟨A2, c2, css2, F2, g1, g2, g3⟩ := hI.1
    exact hK _ _ (keepsFrom_grown (GrownS.ofBelow (S := fun _ => False) hb) (fun _ _ h => h.elim)) (kpO_below (by omega) hb) ⟨hI.1.below hb (by omega), btr hI.2.1 hb, hI.2.2.below hb⟩ ⟨W.heap.size, by omega, ((Blk.newAt rfl).alloc _).rowFar (by omega) _, (Blk.newAt (cs := relC zeroR) (by simp)).row _, ⟨A2, _, c2, g1.below hb, fun e => by have := g2.lt _ (.inl e); omega⟩, rfl⟩
  case body =>
    rintro l pre x a' W hl hl2 hI ⟨g, hg, hX, hXq, ⟨A0, k0, c0, hS0, hS0'⟩, rfl⟩ hlt hroom ⟨rec0, hrec⟩
    have hq := x.2
    have HSN := Lib.hid (hopP_snoc s pre x)
    have HPL : Hid ((hopP s pre).length ≤ 8000) := by
      have h1 := hopP_len s pre
      have h2 := rds_len hro
      show _ ≤ _
      omega
    generalize hopP s pre = E0 at *
    obtain ⟨⟨d, q⟩, hq0⟩ := x
    simp only at hq hX hXq HSN
    have hN0 : HpJ w W l g w1.heap.size w3.heap.size w3.heap.size d (s : Int) E0 W := ⟨hI.1.toI (by omega) (by omega), ⟨A0, k0, c0, hS0, hS0'⟩, hX, ⟨rec0, hrec⟩, (KeepsOthers.refl _).from _, kpO_below (by omega) (Below.refl _ _), Nat.le_refl _, hI.2.1, hI.2.2⟩
    have cN := hI.2.2.cell 0
    simp at cN
    have cQ := (hXq.cell s).trans (relC_at (by rw [hq.len]; exact hs20))
    have ha := hq.at s
    generalize q.getD s 0 = a at *
    have hgl := hX.lt
    have hnb : ∀ w4, Below W.heap.size W w4 → ¬ OwB [w1.heap.size] w4 W.heap.size := by
      rintro w4 hb4 ⟨B, hB, e | ⟨n, c, T, e⟩⟩
      · simp at hB; have := hS0.lt; omega
      · simp only [List.mem_singleton] at hB
        subst hB
        obtain ⟨A2, c2, css, F, g1, g2, g3, g4⟩ := hN0.1
        have g1' := g1.below hb4
        unfold Blk at g1'
        rw [g1'] at e
        injection e with e
        injection e with e _ _
        have e2 := congrArg (fun a : Array Value => a[0]?) e
        simp at e2
        have := g2.lt W.heap.size (.inl (by rw [e2.1]; rfl))
        omega
    have HN0 := Lib.hid hN0
    clear hI hX hXq hS0 hS0' hrec hlt hN0
    gi_wp2_with (refine ⟨trivial, ?_⟩; gi_at_call 25; refine (CallsIn.inRound l (callsIn_wide.2 (vertices_i a _))).mono ?_; rintro e w4 ⟨rfl, hV4, hb4⟩)
    have hV1 : Blk w4 W.heap.size 47 #[.int .u32 (a : Int)] := by simpa using hV4
    have hN4 := HN0.out.below hb4 (by omega)
    have hs4 : W.heap.size < w4.heap.size := hV1.lt
    have hG4 := lsI_row hN4.1 hs01
    have hno4 := hnb w4 hb4
    obtain ⟨recI, hrecI⟩ := hN4.2.2.2.1
    have HI4 : Hid (HpJ w W l g w1.heap.size w3.heap.size w3.heap.size d (s : Int) (E0 ++ (([] : List (Fin 20)).map Fin.val).map (fun y => pr y d)) w4) := by simpa [Hid] using hN4
    clear hV4 hb4 hN4 hnb HN0
    refine wpIn_rangeFunc_ownN (l₀ := l) rfl hrecI (by omega) (gf := 57) (lb := #[.pointer (some ⟨W.heap.size, 0, none⟩)]) rfl trivial (fun _ _ => rfl)
      (SeqStopsK.inRound l (vertices_stops W.heap.size a (w.heap.size + 1) w4 [w1.heap.size] hV1 ha hG4 hno4 (12 - 1 - 1 - 1) (by omega))) kpO_t (kpO_b (by omega) (by simp; omega)) (Below.refl _ _) (fun _ => rfl)
      (fun pre W' => HpJ w W l g w1.heap.size w3.heap.size w3.heap.size d (s : Int) (E0 ++ (pre.map Fin.val).map (fun y => pr y d)) W') (fun _ _ _ => False)
      (hpJ_own (fun pre : List (Fin 20) => E0 ++ (pre.map Fin.val).map (fun y => pr y d)) (by omega) (by omega) (by omega) (by omega) (by omega)) (fun _ _ _ _ _ hs _ _ => hs) HI4.out
      (fun y a' W' => a' = { tmps := #[.slice A es.length c, .int .i64 (s : Int), undef, .pointer (some ⟨w.heap.size, 0, none⟩), .slice none 0 0, .pointer (some ⟨w1.heap.size, 0, none⟩), .pointer (some ⟨g, 0, none⟩), .pointer (some ⟨g + 1, 0, none⟩), .int .i64 ((y.1 : Nat) : Int), .slice A es.length c, .bool true, .bool false, .bool false, .int .i64 (s : Int), .bool true, .bool false, .bool false, .slice A es.length c, .agg (relC (relOf es)), .func (.func 52) #[] #[.pointer (some ⟨w2.heap.size, 0, none⟩)], .int .i64 ((d : Nat) : Int), .agg (relC q), .int .i64 (s : Int), .pointer (some ⟨g + 1, s, none⟩), .int .u32 (a : Int), .func (.func 57) #[] #[.pointer (some ⟨W.heap.size, 0, none⟩)], .int .i64 ((y.1 : Nat) : Int), undef, undef, undef, undef, undef, undef, undef, undef, undef], defers := [] })
      (fun x a' W X Y row hs hg hr => hs)
      ?asg2 ?bdy2 ?don2 ?stp2
    case asg2 =>
      rintro l3 pre y W' K hI hK
      gi_wp2
      exact hK _ _ ((KeepsOthers.refl _).from _) (kpO_below (by have := hI.2.2.2.2.2.2.1; omega) (Below.refl _ _)) hI rfl
    case bdy2 =>
      rintro l3 pre y a' W' hl3 - hI rfl hlt3
      obtain ⟨⟨A2, c2, css, F, g1, g2, g3, g4⟩, ⟨A3, k3, c3, hS, hS'⟩, hG, ⟨rec, hL⟩, hKF, hKO, hsz, hB, hNb⟩ := hI
      have hy20 : y.1 < 20 := y.2
      have hAg : blk A2 ≠ some g := by
        have e := g1
        unfold Blk at e hS
        rw [hS] at e
        injection e with e
        injection e with e _ _
        have e2 := congrArg (fun a : Array Value => a[0]?) e
        simp at e2
        rw [← e2.1]; exact hS'
      have hpl : pre.length ≤ 20 := by
        have : (vtxF a).length ≤ 20 := by have := List.length_filter_le (fun y : Fin 20 => a.testBit y.1) (List.finRange 20); simpa [vtxF] using this
        omega
      have hen : (E0 ++ (pre.map Fin.val).map (fun y => pr y d)).length ≤ 9000 := by
        have := HPL.out
        rw [List.length_append, List.length_map, List.length_map]; omega
      have HE2 : Hid (E0 ++ ((pre ++ [y]).map Fin.val).map (fun y => pr y d) = (E0 ++ (pre.map Fin.val).map (fun y => pr y d)) ++ [pr y.1 d]) := by simp [Hid]
      generalize E0 ++ (pre.map Fin.val).map (fun y => pr y d) = es1 at *
      have cX := hG.cell 0
      simp at cX
      have cB := g1.cell 0
      have fB := g1.frozen 0
      simp at cB
      have hbA1 := bal (Below.refl W'.heap.size W') (.cells #[.int .i64 ((y.1 : Nat) : Int), .int .i64 (d : Int)] 3)
      have hrow2 := (g2.loc entO (fun q hq => (bal hbA1 (.cells #[.slice (some ⟨W'.heap.size, 0, none⟩) 2 2, .int .i64 1] 33)).block q (g2.lt q hq))).row
      have HG := Lib.hid (And.intro hG (And.intro hL (And.intro hKF (And.intro hKO (And.intro hB hNb)))))
      have HS := Lib.hid (And.intro g1 (And.intro g2 (And.intro g3 (And.intro g4 hAg))))
      have HI5 := Lib.hid HI4
      clear g2 g3 g4 hbA1 hG hL hKF hKO hB hNb hS hS' hAg HI4 hG4 hno4 hV1
      gi_wp2_with (gi_at_builtin; refine wpListIn_append_own_at _ rfl _ _ 23 rfl 0 33 i0 (.agg #[.slice none 0 0, .int .i64 0]) 2 32 Tryz.underlying23 hi hz0 hz1 hz2 rfl (by decide) _ _ _ rfl hrow2 ⟨W'.heap.size + 1, 0, none⟩ 1 1 [.slice (some ⟨W'.heap.size, 0, none⟩) 2 2, .int .i64 1] rfl rfl (prs_srcs (by simp)) ent_ones (by unfold maxLen; omega) (by omega) (by simp) ?_)
      intro v' w6 hrow' hgrow hnil hat
      obtain ⟨A', c', rfl⟩ := own_slice hrow'
      rw [ownBlock_slice] at hgrow
      obtain ⟨g1', g2, g3, g4, hAg⟩ := HS.out
      obtain ⟨hG, hL, hKF, hKO, hB, hNb⟩ := HG.out
      have hat' : (Value.slice A' (es1.length + 1) c').ownBlock = blk A2 ∨ (Value.slice A' (es1.length + 1) c').ownBlock = some (W'.heap.size + 2) := by rw [ownBlock_slice] at hat ⊢; rw [ownBlock_slice] at hat; exact hat
      obtain ⟨p1, p2, p3, p4, p5⟩ := ls_push y.1 d g1' g2 g3 g4 (by simp) hs01 hrow' hgrow hat'
      have cB4 := p5.cell 0
      have fB4 := p5.frozen 0
      simp at cB4
      have hnew : HpJ w W l g w1.heap.size w3.heap.size w3.heap.size d (s : Int) (E0 ++ ((pre ++ [y]).map Fin.val).map (fun y => pr y d)) (w6.setCell ⟨w1.heap.size, 0, none⟩ (.slice A' (es1.length + 1) c')) := by
        rw [HE2.out]
        refine ⟨p1, ⟨A', _, c', by simpa using p5.set_ 0 (.slice A' (es1.length + 1) c'), fun e => ?_⟩, (p4.block g hG.lt (fun hq => ?_)).trans hG, ⟨rec, (p4.block l (Array.getElem?_eq_some_iff.1 hL).1 (fun hq => ?_)).trans hL⟩, ⟨Nat.le_trans hKF.size (p3 0).size, fun k o hk h0 ho => (p3 _).same k o hk (hKF.same k o hk h0 ho) ho⟩, kpO_t hKO p2, Nat.le_trans hsz (p3 0).size, btr1 hB p2.1 (by omega), (p2.1.block _ (by omega)).trans hNb⟩
        · rcases hat' with h | h
          · rw [ownBlock_slice] at h; exact hAg (h ▸ e)
          · rw [ownBlock_slice, e] at h
            have := Option.some.inj h
            omega
        · rcases hq with hq | hq
          · omega
          · exact hAg hq
        · rcases hq with hq | hq
          · omega
          · exact (g4 l (by simp; omega)).1 (.inl hq)
      have HN := Lib.hid (And.intro (p3 w4.heap.size) (And.intro p2 hnew))
      clear p1 p2 p3 p4 p5 hnew hrow' hgrow hnil hat hat' g1' g2 g3 g4 hAg hG hL hKF hKO hB hNb HS HG hrow2 g1 cX cB fB
      gi_wp2
      exact HN.out
    case don2 =>
      rintro ys W2 rfl hI
      rw [vtxF_val, ← HSN.out] at hI
      have HI2 := Lib.hid hI
      clear hI
      gi_wp2_with fail
      obtain ⟨p1, p2, p3, p4, p5, p6, p7, p8, p9⟩ := HI2.out
      first | exact ⟨rfl, p5, p6, p1.toW, p8, p9⟩ | exact ⟨p5, p6, p1.toW, p8, p9⟩
    case stp2 =>
      rintro c pre W' _ h
      exact h.elim
  case done =>
    rintro ys W hS hI hD
    rw [hopP_end s hS] at hI
    obtain ⟨⟨AL, cL, css, F, g1, g2, g3⟩, hBW, -⟩ := hI
    have cB := g1.cell 0
    simp at cB
    have hni := HNI AL cL W (SlOw.at_ entO ⟨_, _, g2⟩)
    have HG := Lib.hid (And.intro hD hBW)
    have hDl : w3.heap.size < W.heap.size := (Array.getElem?_eq_some_iff.1 hD).1
    clear g1 g2 g3 hBW hD
    gi_wp2_with (refine ⟨trivial, ?_⟩; gi_at_call 26; refine (callsIn_wide.2 hni).mono ?_; rintro e w5 ⟨A5, c5, rfl, ho5, b5⟩; have HO5 := Lib.hid (And.intro ho5 b5); clear ho5 b5 hni)
    obtain ⟨ho5, b5⟩ := HO5.out
    refine leaves_mark1 w3.heap.size _ ((b5.block _ hDl).trans HG.out.1) ?_
    refine ⟨_, results_tmp rfl _ _ _, A5, c5, rfl, SlOw.mono (SlOw.loc entO ho5 (fun k hk => World.putObj_heap_other (by have := hk.1; omega))) (fun k hk => ⟨by have := hk.1; have := HG.out.2.size; omega, by have := hk.2; simpa using this⟩) (fun k hk => by have := hk.2; simpa using this), ?_⟩
    have hbz := btr HG.out.2 b5
    exact ⟨hbz.os, hbz.tape, hbz.output, by simpa using hbz.size, fun k hk => (World.putObj_heap_other (by omega)).trans (hbz.block k hk)⟩
end Go.Proofs.YtifjenleoagefaaGreat

/- HELPER, no statement of the seat: the program's Hops. -/
namespace Go.Proofs.YtifjenleoagefaaGreat
open Go.RowKit Go.Sort Go.Shelf
set_option linter.unusedSimpArgs false
set_option linter.unusedVariables false
attribute [local go_sem] Oper.semAt_some

set_option maxRecDepth 100000 in
set_option maxHeartbeats 6400000 in
theorem Hops_i (A : Option Addr) (c : Nat) (es : List Ent) (n : Int) (w : World) (hx : EntsAt w A es) (hn : es.length ≤ 4194304) (hr : rowsIn es 4194304) :
    Calls Tryz.prog 6 #[.slice A es.length c, .int .i64 n] w fun e w' => ∃ A' c', e = .returned (.slice A' (HopsF es n).length c') ∧ EntsOw w' (news w w') A' c' (HopsF es n) ∧ Below w.heap.size w w' := by
  have hbn : Below w.heap.size w (w.alloc (.cells #[.int .i64 n] 3)) := bal (Below.refl _ _) _
  have hv := ValidEdges_i A c es _ (hx.below entR hbn) hn hr
  cases h1 : edgB es
  · have HT : Hid (HopsF es n = []) := by simp [Hid, HopsF, h1]
    rw [h1] at hv
    clear h1
    refine (callsIn_wide (n := 12)).1 ?_
    refine callsIn_of_wp_marks Tryz.func6 rfl trivial ?_ rfl
    simp only [Tryz.ntmps6, List.size_toArray, List.length_cons, List.length_nil, Nat.reduceAdd, Nat.reduceSub, Array.replicate_succ, Array.replicate_zero, List.push_toArray, List.append_toArray, List.nil_append, List.cons_append]
    gi_wp2_with (first | (refine ⟨trivial, ?_⟩; gi_at_call 9; refine (callsIn_wide.2 hv).mono ?_; rintro e w1 ⟨rfl, b1⟩; have HB := Lib.hid (btr hbn b1); clear b1) | refine ⟨trivial, ?_⟩)
    refine leaves_marks [] _ (MarksAt.nil w.heap.size _) (fun w' hw' => ?_)
    rw [HT.out]
    exact ⟨_, results_tmp rfl _ _ _, none, 0, rfl, ⟨_, _, SlF.nil (fun k hk => hk.2)⟩, hw'.below HB.out⟩
  cases hin : inB n 0 19
  · have HT : Hid (HopsF es n = []) := by
      have h2 : ¬ (0 ≤ n ∧ n ≤ 19) := fun h => by simp [inB] at hin; omega
      simp [Hid, HopsF, h2]
    have hiv := fun W => isVertex_w n W
    rw [hin] at hiv
    rw [h1] at hv
    clear h1 hin
    refine (callsIn_wide (n := 12)).1 ?_
    refine callsIn_of_wp_marks Tryz.func6 rfl trivial ?_ rfl
    simp only [Tryz.ntmps6, List.size_toArray, List.length_cons, List.length_nil, Nat.reduceAdd, Nat.reduceSub, Array.replicate_succ, Array.replicate_zero, List.push_toArray, List.append_toArray, List.nil_append, List.cons_append]
    gi_wp2_with (first | (refine ⟨trivial, ?_⟩; gi_at_call 9; refine (callsIn_wide.2 hv).mono ?_; rintro e w1 ⟨rfl, b1⟩; have c1 : Blk w1 w.heap.size 3 #[.int .i64 n] := Blk.below (Blk.newAt rfl) b1; have z1 := c1.cell 0; simp at z1; have HB := Lib.hid (btr hbn b1); clear b1) | (refine ⟨trivial, ?_⟩; gi_at_call 22; refine (callsIn_wide.2 (hiv _)).mono ?_; rintro e wv ⟨rfl, rfl⟩))
    refine leaves_marks [] _ (MarksAt.nil w.heap.size _) (fun w' hw' => ?_)
    rw [HT.out]
    exact ⟨_, results_tmp rfl _ _ _, none, 0, rfl, ⟨_, _, SlF.nil (fun k hk => hk.2)⟩, hw'.below HB.out⟩
  have hro := relOf_ok h1
  have hn19 : 0 ≤ n ∧ n ≤ 19 := by simp [inB] at hin; omega
  obtain ⟨s, rfl⟩ : ∃ s : Nat, n = s := ⟨n.toNat, by omega⟩
  have HT : HopsF es (s : Int) = AddL [] (hopN s 1 (rds (relOf es))) := by simp [HopsF, h1, hn19]
  rw [HT]
  refine hops_core A c es s w hx hn hr h1 (by omega) (fun A2 c2 W h => ?_)
  have hl := hopN_len hro s
  have := Normalize_i A2 c2 _ W h (by omega) (fun e he => by have := (hopN_two s _ _ e he).1; omega)
  rw [hop_norm hro s] at this
  exact this
end Go.Proofs.YtifjenleoagefaaGreat

/- HELPER, no statement of the seat: the model's Hops. -/
namespace Go.Proofs.YtifjenleoagefaaGreat
open Go.RowKit Go.Sort
set_option linter.unusedSimpArgs false
set_option linter.unusedVariables false

theorem adl2_ok : ∀ (xs M : List Ent) (n : Nat), (∀ e ∈ xs, e.1.length = 2 ∧ e.2 = 1) → n + xs.length ≤ 1000000 → M.length ≤ n → rowsIn M 4194304 → wts M (1000000 + (n : Int) * 1000000) →
    (AddL M xs).length ≤ n + xs.length ∧ rowsIn (AddL M xs) 4194304 ∧ wts (AddL M xs) (1000000 + ((n + xs.length : Nat) : Int) * 1000000)
  | [], M, n, _, _, h1, h2, h3 => ⟨by simpa [AddL] using h1, h2, by simpa [AddL] using h3⟩
  | e :: xs, M, n, he, hn, h1, h2, h3 => by
    have hee := he e (by simp)
    simp only [List.length_cons] at hn ⊢
    have := adl2_ok xs (insK lessB M e.1 e.2) (n + 1) (fun f hf => he f (by simp [hf])) (by omega) (by have := insK_length (lt := lessB) M e.1 e.2; omega) (rows_ins h2 (by omega) e.2) (by
      have hw := wts_ins (d := 1000000) h3 (x := e.2) ⟨by omega, by omega⟩ (by omega) (by omega) e.1
      intro f hf
      have := hw f hf
      push_cast
      constructor <;> omega)
    rw [show n + (xs.length + 1) = n + 1 + xs.length from by omega]
    exact this
theorem made_s (w : World) : EntsOw (w.alloc (.cells #[] 33)) (news w (w.alloc (.cells #[] 33))) (some ⟨w.heap.size, 0, none⟩) 0 [] :=
  ⟨_, _, SlF.made EntO 2 33 w #[] 0 (by simp [maxLen]) (by simp) (S := news w (w.alloc (.cells #[] 33))) ⟨Nat.le_refl _, by simp⟩ (fun k hk => by have := hk.2; simpa using this)⟩
set_option maxRecDepth 100000 in
set_option maxHeartbeats 6400000 in
theorem Hops_s (A : Option Addr) (c : Nat) (es : List Ent) (n : Int) (w : World) (hx : EntsAt w A es) (hn : es.length ≤ 4194304) (hr : rowsIn es 4194304) :
    Calls Tryz.prog 8 #[.slice A es.length c, .int .i64 n] w fun e w' => ∃ A' c', e = .returned (.slice A' (HopsF es n).length c') ∧ EntsOw w' (news w w') A' c' (HopsF es n) ∧ Below w.heap.size w w' := by
  have hv := validEdges_s A c es (w.alloc (.cells #[] 33)) (hx.below entR (bal (Below.refl w.heap.size w) _)) hn hr
  have hbA := bal (Below.refl w.heap.size w) (.cells #[] 33)
  have HM0 := Lib.hid (made_s w)
  cases h1 : edgB es
  · have HT : Hid (HopsF es n = []) := by simp [Hid, HopsF, h1]
    rw [h1] at hv
    clear h1
    go_enter Tryz.func8, Tryz.ntmps8
    go_wp2_with fail
    refine hv.mono ?_
    rintro e w1 ⟨rfl, b1⟩
    clear hv
    have HO := Lib.hid ((HM0.out.below entO b1).mono (S' := news w w1) (fun k hk => ⟨hk.1, Nat.lt_of_lt_of_le hk.2 b1.size⟩) (fun k hk => hk.2))
    have HB := Lib.hid (btr hbA b1)
    clear b1 hbA HM0
    go_wp2
    go_ret
    rw [HT.out]
    exact ⟨_, 0, rfl, HO.out, HB.out⟩
  have hir := fun W => inRange_any n 0 19 W
  cases hin : inB n 0 19
  · have HT : Hid (HopsF es n = []) := by
      have h2 : ¬ (0 ≤ n ∧ n ≤ 19) := fun h => by simp [inB] at hin; omega
      simp [Hid, HopsF, h2]
    rw [h1] at hv
    rw [hin] at hir
    clear h1 hin
    go_enter Tryz.func8, Tryz.ntmps8
    go_wp2_with fail
    refine hv.mono ?_
    rintro e w1 ⟨rfl, b1⟩
    clear hv
    have HO := Lib.hid ((HM0.out.below entO b1).mono (S' := news w w1) (fun k hk => ⟨hk.1, Nat.lt_of_lt_of_le hk.2 b1.size⟩) (fun k hk => hk.2))
    have HB := Lib.hid (btr hbA b1)
    clear b1 hbA HM0
    go_wp2_with fail
    refine (hir _).mono ?_
    rintro e wx ⟨rfl, rfl⟩
    clear hir
    go_wp2
    go_ret
    rw [HT.out]
    exact ⟨_, 0, rfl, HO.out, HB.out⟩
  have hr := relOf_ok h1
  have hpr := prs_relOf h1
  have hn19 : 0 ≤ n ∧ n ≤ 19 := by simp [inB] at hin; omega
  obtain ⟨s, rfl⟩ : ∃ s : Nat, n = s := ⟨n.toNat, by omega⟩
  have hs20 : s < 20 := by omega
  have HT : Hid (HopsF es (s : Int) = AddL [] (hopN s 1 (rds (relOf es)))) := by simp [Hid, HopsF, h1, hn19]
  have hlr := rds_len hr
  have hcr := fun (W : World) (hb : Below w.heap.size w W) => closureRounds_r A c (relOf es) W (by rw [hpr]; exact hx.below entR hb) hr
  rw [hpr] at hcr
  rw [h1] at hv
  rw [hin] at hir
  rw [HT.out]
  clear h1 hin hpr HT hx
  generalize relOf es = r at *
  have hok : ∀ i k, (AddL [] (hpTo s (rds r) i k)).length ≤ 160400 ∧ rowsIn (AddL [] (hpTo s (rds r) i k)) 4194304 ∧ wts (AddL [] (hpTo s (rds r) i k)) 1099511627776 := fun i k => by
    have h1 := hpTo_len s hlr i k
    have := adl2_ok (hpTo s (rds r) i k) [] 0 (hpTo_two hs20 _ i k) (by omega) (by simp) (fun e he => by cases he) (fun e he => by cases he)
    exact ⟨by omega, this.2.1, fun e he => by have := this.2.2 e he; omega⟩
  have HOK := Lib.hid hok
  clear hok
  go_enter Tryz.func8, Tryz.ntmps8
  go_wp2_with fail
  refine hv.mono ?_
  rintro e w0 ⟨rfl, b0⟩
  clear hv
  have hb0 := btr hbA b0
  have HM1 := Lib.hid (HM0.out.below entO b0)
  have hsw0 : w.heap.size < w0.heap.size := by have := b0.size; simp at this; omega
  have HBA := Lib.hid hb0
  clear b0 hbA HM0
  go_wp2_with fail
  refine (hir _).mono ?_
  rintro e wx ⟨rfl, rfl⟩
  clear hir
  go_wp2_with fail
  refine (hcr _ hb0).mono ?_
  clear hcr hb0
  rintro e w1 ⟨AR, cR, rfl, ho1, b1⟩
  have HB1 := Lib.hid (btr HBA.out b1)
  have hs0 : w.heap.size < w1.heap.size := by have := b1.size; omega
  have HOL := Lib.hid ho1
  have HO1 : Hid (EntsOw w1 (fun k => k = w.heap.size ∨ (w1.heap.size ≤ k ∧ k < w1.heap.size)) (some ⟨w.heap.size, 0, none⟩) 0 (AddL [] (hpTo s (rds r) 0 0))) := (HM1.out.below entO b1).mono (fun k hk => .inl (by have h1 := hk.1; have h2 := hk.2; simp at h2; omega)) (fun k hk => by rcases hk with hk | hk <;> omega)
  have HRD : Hid (∀ wr, GrownS w1 wr (fun k => k = w.heap.size) → ZssAt wr AR ((rds r).map prs)) := fun wr hg => SlOw.at_ zlO (SlOw.loc zlO HOL.out (fun k hk => hg.block k hk.2 (fun e => by have := hk.1; omega)))
  clear ho1 b1 HM1 HBA
  go_wp2
  go_loopw [5, 7] (fun v iv wr => ∃ (i : Nat) (B : Option Addr) (cb : Nat), i ≤ (rds r).length ∧ iv = .int .i64 (i : Nat) ∧ v = .slice B (AddL [] (hpTo s (rds r) i 0)).length cb ∧ B ≠ none ∧ EntsOw wr (fun k => k = w.heap.size ∨ (w1.heap.size ≤ k ∧ k < wr.heap.size)) B cb (AddL [] (hpTo s (rds r) i 0)) ∧ GrownS w1 wr (fun k => k = w.heap.size)) (fun _ iv _ => (rds r).length - (intOf iv).toNat)
  case atStart => exact ⟨0, _, 0, Nat.zero_le _, rfl, rfl, by simp, HO1.out, GrownS.refl _ _⟩
  case round =>
    obtain ⟨i, B, cb, hi, rfl, rfl, hB, hO, hbel⟩ := hrel
    by_cases hil : i < (rds r).length
    · have hiI : (i : Int) < (rds r).length := by omega
      have HO := Lib.hid hO
      have HBn := Lib.hid hB
      have HBV := Lib.hid hbel
      have HN := Lib.hid (hpTo_next hs20 hil)
      clear hO hbel hB
      have hg : ((rds r).map prs)[i]'(by simpa using hil) = prs (rds r)[i] := by simp
      have HGET : Hid (∀ wr, GrownS w1 wr (fun k => k = w.heap.size) → ∃ b off ZA zc, AR = some ⟨b, off, none⟩ ∧ wr.cell? ⟨b, off + i, none⟩ = some (.slice ZA (prs (rds r)[i]).length zc) ∧ EntsAt wr ZA (prs (rds r)[i])) := fun wr hgr => by
        obtain ⟨b, off, ZA, zc, h1, h2, h3, -, h5⟩ := (HRD.out wr hgr).get i (by simpa using hil)
        rw [hg] at h3 h5
        exact ⟨b, off, ZA, zc, h1, h3, h5⟩
      have HST := Lib.hid (fun k (hk : k < (prs (rds r)[i]).length) => hpTo_step (s := s) hil hk)
      have HTW := Lib.hid (fun k (hk : k < (prs (rds r)[i]).length) => (prs_row (rds r)[i] _ (List.getElem_mem hk)).2)
      have hpl := prs_len (rds r)[i]
      clear hg
      generalize prs (rds r)[i] = Q at *
      go_wp2
      obtain ⟨V, rfl⟩ : ∃ V : World, V = wr := ⟨_, rfl⟩
      go_loopw [5, 8] (fun v j wr => ∃ (k : Nat) (B : Option Addr) (cb : Nat), k ≤ Q.length ∧ j = .int .i64 (k : Nat) ∧ v = .slice B (AddL [] (hpTo s (rds r) i k)).length cb ∧ B ≠ none ∧ EntsOw wr (fun k => k = w.heap.size ∨ (w1.heap.size ≤ k ∧ k < wr.heap.size)) B cb (AddL [] (hpTo s (rds r) i k)) ∧ GrownS w1 wr (fun k => k = w.heap.size)) (fun _ j _ => Q.length - (intOf j).toNat)
      case atStart => exact ⟨0, B, cb, Nat.zero_le _, rfl, rfl, HBn.out, HO.out, HBV.out⟩
      case round =>
        clear HO HBn HBV
        obtain ⟨k, B, cb, hk, rfl, rfl, hB, hO, hbel⟩ := hrel
        obtain ⟨b, off, ZA, zc, hAe, q0, hz⟩ := HGET.out wr hbel
        subst hAe
        by_cases hkl : k < Q.length
        · have hkI : (k : Int) < Q.length := by omega
          have hst := HST.out k hkl
          have htw := HTW.out k hkl
          obtain ⟨eb, eo, PA, pc, hZe, heb, q1, -, -, herow⟩ := hz.get k hkl
          subst hZe
          have HKK := Lib.hid (HOK.out i k)
          have hML := (HOK.out i k).1
          have hasc : Hid (Asc lessB (AddL [] (hpTo s (rds r) i k))) := AddL_asc asc_nil _
          obtain ⟨x0, y0, hxy⟩ : ∃ x0 y0, Q[k].1 = [x0, y0] := by
            match hQ : Q[k].1, htw with
            | [x0, y0], _ => exact ⟨x0, y0, rfl⟩
          rw [hxy] at hst herow q1
          have hst : hpTo s (rds r) i (k + 1) = hpTo s (rds r) i k ++ if x0 = (s : Int) then [([y0, ((i + 1 : Nat) : Int)], 1)] else [] := by simpa using hst
          obtain ⟨rb, ro, hPe, hrb, hrc⟩ := herow (by simp)
          subst hPe
          have cr0 := hrc 0 (by simp)
          have cr1 := hrc 1 (by simp)
          simp at cr0 cr1
          by_cases hp : x0 = (s : Int)
          · rw [if_pos hp] at hst
            have hpB : (x0 == (s : Int)) = true := by simpa using hp
            have HSTI : Hid (AddL [] (hpTo s (rds r) i (k + 1)) = insK lessB (AddL [] (hpTo s (rds r) i k)) [y0, ((i + 1 : Nat) : Int)] 1) := by rw [Hid, hst, AddL_snoc]
            generalize hM : AddL [] (hpTo s (rds r) i k) = M at *
            have HM := Lib.hid hM
            clear hM herow hst hz hrc hxy htw
            have HO := Lib.hid hO
            have HBn := Lib.hid hB
            have HBV := Lib.hid hbel
            clear hO hB hbel
            have hb4 : Below wr.heap.size wr (wr.alloc (.cells #[.int .i64 y0, .int .i64 ((i : Int) + 1)] 3)) := bal (Below.refl _ _) _
            have hrow4 : IntsOwn (wr.alloc (.cells #[.int .i64 y0, .int .i64 ((i : Int) + 1)] 3)) wr.heap.size (some ⟨wr.heap.size, 0, none⟩) 2 [y0, (i : Int) + 1] := World.ownsRow_lit (base := wr.heap.size) (size := 1) (e := 3) wr #[.int .i64 y0, .int .i64 ((i : Int) + 1)] 2 (Nat.le_refl _) (by simp [maxLen]) (by simp)
            have hO4 : EntsOw (wr.alloc (.cells #[.int .i64 y0, .int .i64 ((i : Int) + 1)] 3)) (fun k => k = w.heap.size ∨ (w1.heap.size ≤ k ∧ k < (wr.alloc (.cells #[.int .i64 y0, .int .i64 ((i : Int) + 1)] 3)).heap.size)) B cb M := (HO.out.below entO hb4).mono (fun q hq => hq.imp id (fun h => ⟨h.1, by have := h.2; have := hb4.size; omega⟩)) (fun q hq => by have := HBV.out.size; have := hb4.size; rcases hq with hq | hq <;> omega)
            have hadd := addEntry_s _ B cb M (some ⟨wr.heap.size, 0, none⟩) 2 [y0, (i : Int) + 1] 1 _ hO4 HBn.out hasc.out hrow4.at_ (by omega) HKK.out.2.1 (by simp) HKK.out.2.2 (by omega) (by omega)
            rw [show ([y0, (i : Int) + 1] : List Int).length = 2 from rfl] at hadd
            clear hrow4 hO4
            go_wp2_with fail
            refine hadd.mono ?_
            clear hadd
            rintro e w5 ⟨A5, c5, rfl, ho5, g5⟩
            have hs4 := hb4.size
            have hs5 := g5.size
            have hs1 := HBV.out.size
            have hb5 : GrownS w1 w5 (fun k => k = w.heap.size) := ⟨g5.os.trans (hb4.os.trans HBV.out.os), g5.tape.trans (hb4.tape.trans HBV.out.tape), g5.output.trans (hb4.output.trans HBV.out.output), by omega, fun k hk hn => (g5.block k (by omega) (fun h => by rcases h with h | h; exact hn h; omega)).trans ((hb4.block k (by omega)).trans (HBV.out.block k hk hn))⟩
            have ho6 : EntsOw w5 (fun k => k = w.heap.size ∨ (w1.heap.size ≤ k ∧ k < w5.heap.size)) A5 c5 (insK lessB M [y0, (i : Int) + 1] 1) := ho5.mono (fun q hq => by
              rcases hq with hq | hq
              · exact hq.imp id (fun h => ⟨h.1, by have := h.2; omega⟩)
              · exact .inr ⟨by have := hq.1; omega, hq.2⟩) (fun q hq => by rcases hq with hq | hq <;> omega)
            have hA5 := some_of_pos ho6 (insK_pos _ _ _)
            have HLN : Hid ((insK lessB M [y0, (i : Int) + 1] 1).length = (AddL [] (hpTo s (rds r) i (k + 1))).length ∧ AddL [] (hpTo s (rds r) i (k + 1)) = insK lessB M [y0, (i : Int) + 1] 1) := by
              have h1 := HSTI.out
              push_cast at h1
              exact ⟨by rw [h1], h1⟩
            have HO6 := Lib.hid ho6
            have HA6 := Lib.hid hA5
            have HB6 := Lib.hid hb5
            clear ho5 ho6 g5 hb5 hA5 hb4 q0 q1 cr0 cr1
            go_wp2
            go_roundw
            case rel => exact ⟨k + 1, A5, c5, by omega, by go_num, by rw [HLN.out.1], HA6.out, by rw [HLN.out.2]; exact HO6.out, HB6.out⟩
            case measure => simp [intOf]; omega
          · rw [if_neg hp, List.append_nil] at hst
            have hpB : (x0 == (s : Int)) = false := by simpa using hp
            have HST2 := Lib.hid hst
            clear herow hst hz hrc hxy htw hp
            have HO := Lib.hid hO
            have HBn := Lib.hid hB
            have HBV := Lib.hid hbel
            clear hO hB hbel
            go_wp2
            go_roundw
            case rel => exact ⟨k + 1, B, cb, by omega, by go_num, by rw [HST2.out], HBn.out, by rw [HST2.out]; exact HO.out, HBV.out⟩
            case measure => simp [intOf]; omega
        · obtain rfl : k = Q.length := by omega
          rw [HN.out] at hO
          have HO := Lib.hid hO
          have HBn := Lib.hid hB
          have HBV := Lib.hid hbel
          have HNL : Hid ((AddL [] (hpTo s (rds r) i Q.length)).length = (AddL [] (hpTo s (rds r) (i + 1) 0)).length) := by rw [Hid, HN.out]
          clear hO hB hbel
          go_wp2
          go_roundw
          case rel => exact ⟨i + 1, B, cb, by omega, by go_num, by rw [HNL.out], HBn.out, HO.out, HBV.out⟩
          case measure => simp [intOf]; omega
    · obtain rfl : i = (rds r).length := by omega
      rw [hpTo_end] at hO ⊢
      have hs2 := hbel.size
      have HO := Lib.hid (hO.mono (S' := news w wr) (fun q hq => ⟨by rcases hq with hq | hq <;> omega, by rcases hq with hq | hq <;> omega⟩) (fun q hq => hq.2))
      have HB := Lib.hid (HB1.out.trans (below_grown hbel HB1.out.size (fun q hq => by omega)))
      clear hO hbel hB
      go_wp2
      go_ret
      exact ⟨B, cb, rfl, HO.out, HB.out⟩
end Go.Proofs.YtifjenleoagefaaGreat
