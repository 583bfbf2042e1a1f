/- HELPER, no statement of the seat: relations one after the other (then). -/
import Derived.Test.YtifjenleoagefaaGreatRc
import Derived.Test.YtifjenleoagefaaGreatMk
namespace Go.Proofs.YtifjenleoagefaaGreat
open Go.RowKit Go.Sort Go.Shelf
set_option linter.unusedSimpArgs false
set_option linter.unusedVariables false
attribute [local go_sem] Oper.semAt_some

def thenTo (r s : List Nat) (k : Nat) : List Nat := (thenR r s).take k ++ List.replicate (20 - k) 0
theorem thenTo_zero (r s : List Nat) : thenTo r s 0 = zeroR := by simp [thenTo, zeroR]
theorem thenTo_len {r s : List Nat} (hr : r.length = 20) {k : Nat} (hk : k ≤ 20) : (thenTo r s k).length = 20 := by simp [thenTo, thenR, hr]; omega
theorem thenTo_end {r s : List Nat} (hr : r.length = 20) : thenTo r s 20 = thenR r s := by
  unfold thenTo
  rw [List.take_of_length_le (by simp [thenR, hr])]
  simp
theorem thenTo_at {r s : List Nat} (hr : r.length = 20) {k : Nat} (hk : k < 20) : (thenTo r s k).getD k 0 = 0 := by
  rw [gd_lt (by rw [thenTo_len hr (by omega)]; exact hk)]
  unfold thenTo
  rw [List.getElem_append_right (by simp [thenR, hr]; omega)]
  simp
theorem thenTo_step {r s : List Nat} (hr : r.length = 20) {k : Nat} (hk : k < 20) : (thenTo r s k).set k (orTo s 0 (vtx (r.getD k 0))) = thenTo r s (k + 1) := by
  have hl : (thenR r s).length = 20 := by simp [thenR, hr]
  unfold thenTo
  have h0 : k - ((thenR r s).take k).length = 0 := by rw [List.length_take, hl]; omega
  rw [List.set_append_right _ _ (by rw [List.length_take, hl]; omega), h0, List.take_succ_eq_append_getElem (by omega), List.append_assoc]
  congr 1
  rw [show 20 - k = (20 - (k + 1)) + 1 from by omega, List.replicate_succ, List.set_cons_zero]
  rw [gd_lt (by omega)]
  simp [thenR]
theorem set_set {r : List Nat} {k a b : Nat} : (r.set k a).set k b = r.set k b := by simp
theorem set_self {r : List Nat} {k : Nat} (h : k < r.length) (e : r.getD k 0 = 0) : r.set k 0 = r := by
  apply List.ext_getElem (by simp)
  intro i h1 h2
  rw [List.getElem_set]
  split
  · rename_i hi; subst hi; rw [gd_lt h] at e; exact e.symm
  · rfl
theorem orTo_snoc (s : List Nat) (l : List Nat) (y : Nat) : orTo s 0 (l ++ [y]) = orTo s 0 l ||| s.getD y 0 := by simp [orTo]
theorem ownBlk {β : Type} (g : Nat) (t : TypeId) (cs : β → Array Value) : Own (fun s W => Blk W g t (cs s)) := by
  rintro s X Y row h hg hrow
  refine (hg.block g h.lt (fun e => ?_)).trans h
  obtain ⟨o, ho, hc⟩ := hrow g e.symm
  rw [show X.heap[g]? = _ from h] at ho
  cases ho
  cases hc
theorem good20 {B n₀ : Nat} {W : World} {t : TypeId} {cs : Array Value} (h : Blk W B t cs) (hs : cs.size = 20) (hn : n₀ ≤ B) : GoodO [B] n₀ W ∧ ∀ k, OwB [B] W k → k = B := by
  have hr : ∀ k, ¬ RowOf W B k := by
    rintro k ⟨n, c, T, e⟩
    rw [show W.heap[B]? = _ from h] at e
    injection e with e
    injection e with e
    rw [e] at hs
    simp at hs
  have ho : ∀ k, OwB [B] W k → k = B := by
    rintro k ⟨B', hB', rfl | h'⟩
    · simpa using hB'
    · simp at hB'; subst hB'; exact absurd h' (hr k)
  refine ⟨⟨fun B' hB' => ?_, fun k hk => ?_⟩, ho⟩
  · simp at hB'; subst hB'; exact ⟨hn, h.lt⟩
  · rw [ho k hk]; exact ⟨hn, h.lt⟩
theorem grown_cell (W : World) (g x : Nat) (v : Value) : GrownS W (W.drew.setCell ⟨g, x, none⟩ v) (fun k => k = g) :=
  (GrownS.ofBelow (S := fun k => k = g) (Below.refl _ W).drew).set_ (p := ⟨g, x, none⟩) rfl v
theorem kpO_cell {W : World} {g x n₀ : Nat} {t : TypeId} {cs : Array Value} {v : Value} (h : Blk W g t cs) (hs : cs.size = 20) (hn : n₀ ≤ g) : KpO [g] n₀ W (W.drew.setCell ⟨g, x, none⟩ v) ∧ ∀ B, KeepsFrom B W (W.drew.setCell ⟨g, x, none⟩ v) := by
  have hW' : Blk (W.drew.setCell ⟨g, x, none⟩ v) g t (cs.setIfInBounds x v) := h.drew.set_ x v
  obtain ⟨g1, o1⟩ := good20 (n₀ := n₀) h hs hn
  obtain ⟨g2, o2⟩ := good20 (n₀ := n₀) hW' (by simpa using hs) hn
  have hg := grown_cell W g x v
  refine ⟨kpO_grown hg (Nat.le_trans hn (Nat.le_of_lt h.lt)) (fun k hk => ⟨by rw [hk]; exact hn, fun _ => ⟨g, by simp, .inl hk⟩⟩) (fun k hk _ => ⟨g, by simp, .inl (o2 k hk)⟩) (fun _ => g2), fun B => keepsFrom_grown hg (fun k o hk ho => ?_)⟩
  subst hk
  exact blk_cells h o ho
/-- What stands while the continuations of one vertex are collected. -/
def ThI (w : World) (ds : List Nat) (BX k : Nat) (c s : List Nat) (W : World) : Prop :=
  MarksAt ds w.heap.size W ∧ Blk W (w.heap.size + 1 + 1 + 1) 49 (relC c) ∧ Blk W BX 3 #[.int .i64 (k : Int)] ∧ Blk W (w.heap.size + 1) 49 (relC s) ∧ Blk W (w.heap.size + 1 + 1) 49 (relC zeroR) ∧ Below w.heap.size w W
theorem ThI.below {w : World} {ds : List Nat} {BX k : Nat} {c s : List Nat} {W W' : World} (h : ThI w ds BX k c s W) (hb : Below W.heap.size W W') : ThI w ds BX k c s W' :=
  ⟨h.1.below hb, h.2.1.below hb, h.2.2.1.below hb, h.2.2.2.1.below hb, h.2.2.2.2.1.below hb, btr h.2.2.2.2.2 hb⟩
theorem thI_own {β : Type} (w : World) (ds : List Nat) (BX k : Nat) (c : β → List Nat) (s : List Nat) {B : Nat} (hB : w.heap.size ≤ B) (hd : ∀ D ∈ ds, D < B) : OwnFrom B (fun x W => ThI w ds BX k (c x) s W) :=
  OwnFrom.and (marks_own hd) (OwnFrom.and ((ownBlk _ _ (fun x => relC (c x))).from _) (OwnFrom.and ((ownBlk _ _ (fun _ : β => #[.int .i64 (k : Int)])).from _) (OwnFrom.and ((ownBlk _ _ (fun _ : β => relC s)).from _) (OwnFrom.and ((ownBlk _ _ (fun _ : β => relC zeroR)).from _) (ownFrom_below (Nat.le_refl _) hB)))))
set_option maxRecDepth 100000 in
set_option maxHeartbeats 6400000 in
theorem then_w (r s : List Nat) (w : World) (hr : OkR r) (hs : OkR s) :
    Calls Tryz.prog 55 #[.agg (relC r), .agg (relC s)] w fun e w' => e = .returned (.agg (relC (thenR r s))) ∧ Below w.heap.size w w' := by
  refine (callsIn_wide (n := 9)).1 ?_
  refine callsIn_of_wp_marks Tryz.func55 rfl trivial ?_ rfl
  simp only [Tryz.ntmps55, List.size_toArray, List.length_cons, List.length_nil, Nat.reduceAdd, Nat.reduceSub, Array.replicate_succ, Array.replicate_zero, List.push_toArray, List.append_toArray, List.nil_append, List.cons_append]
  gi_wp2_with (refine wpListIn_load_row rfl 49 _ rfl w.heap.size rfl 49 (relC r) (0, 0) _ (show Blk _ w.heap.size 49 (relC r) from (((Blk.newAt rfl).alloc _).alloc _).alloc _) underR rfl (sizeR hr) ?_)
  refine wpIn_loop (fun a' wr => ∃ (ds : List Nat) (k : Nat) (u6 u7 u8 u11 u12 u13 u14 u15 u16 u17 u18 u19 u20 u21 u22 u23 u24 u25 : Value), a' = { tmps := #[.agg (relC r), .agg (relC s), .pointer (some ⟨w.heap.size, 0, none⟩), .pointer (some ⟨w.heap.size + 1, 0, none⟩), .pointer (some ⟨w.heap.size + 1 + 1, 0, none⟩), .pointer (some ⟨w.heap.size + 1 + 1 + 1, 0, none⟩), u6, u7, u8, .agg (relC r), .int .i64 ((k : Nat) : Int), u11, u12, u13, u14, u15, u16, u17, u18, u19, u20, u21, u22, u23, u24, u25, undef], defers := markL ds } ∧ k ≤ 20 ∧ MarksAt ds w.heap.size wr ∧ Blk wr (w.heap.size + 1 + 1 + 1) 49 (relC (thenTo r s k)) ∧ Blk wr (w.heap.size + 1) 49 (relC s) ∧ Blk wr (w.heap.size + 1 + 1) 49 (relC zeroR) ∧ Below w.heap.size w wr) (fun a' _ => 20 - (intOf (a'.tmps.getD 10 undef)).toNat) ?_ ?_
  · refine ⟨[], 0, _, _, _, _, _, _, _, _, _, _, _, _, _, _, _, _, _, _, rfl, by omega, MarksAt.nil _ _, by rw [thenTo_zero]; exact Blk.newAt (by simp), (((Blk.newAt (by simp)).alloc _).alloc _), (Blk.newAt (by simp)).alloc _, bal (bal (bal (bal (Below.refl _ _) _) _) _) _⟩
  · rintro _ wr ⟨ds, k, u6, u7, u8, u11, u12, u13, u14, u15, u16, u17, u18, u19, u20, u21, u22, u23, u24, u25, rfl, hk, hM, hC, hN, hZ, hbel⟩
    by_cases hlt : k < 20
    · have hix : ∀ W, (Instr.index 49 (.agg (relC r)) (.int .i64 (k : Int))).run Tryz.prog W = .ok (.int .u32 ((r.getD k 0 : Nat) : Int)) W := fun W => run_indexR _ k _ hlt (relC_at (by rw [hr.len]; exact hlt)) W
      have hlt' : (k : Int) < 20 := by omega
      have ha := hr.at k
      have HST := Lib.hid (thenTo_step (s := s) hr.len hlt)
      have HLEN := Lib.hid (thenTo_len (s := s) hr.len hk)
      have HAT := Lib.hid (thenTo_at (s := s) hr.len hlt)
      generalize r.getD k 0 = a at *
      have hX : Blk (wr.alloc (.cells #[.int .i64 (k : Int)] 3)) wr.heap.size 3 #[.int .i64 (k : Int)] := Blk.newAt rfl
      have hC := hC.alloc (.cells #[.int .i64 (k : Int)] 3)
      have hN := hN.alloc (.cells #[.int .i64 (k : Int)] 3)
      have hZ := hZ.alloc (.cells #[.int .i64 (k : Int)] 3)
      have hB0 := bal hbel (.cells #[.int .i64 (k : Int)] 3)
      have HM := Lib.hid (hM.below (bal (Below.refl _ _) (.cells #[.int .i64 (k : Int)] 3)))
      have HML := Lib.hid hM.lt
      clear hM
      have HH := Lib.hid (And.intro hX (And.intro hC (And.intro hN (And.intro hZ hB0))))
      clear hX hC hN hZ hB0
      gi_wp2_with (refine ⟨trivial, ?_⟩; gi_at_call 25; refine (callsIn_wide.2 (vertices_i a _)).mono ?_; rintro e w2 ⟨rfl, hV, hb2⟩)
      obtain ⟨hX, hC, hN, hZ, hB0⟩ := HH.out
      have hV1 : Blk w2 (wr.heap.size + 1) 47 #[.int .u32 (a : Int)] := by simpa using hV
      have hI0 : ThI w ds wr.heap.size k ((thenTo r s k).set k (orTo s 0 ([] : List Nat))) s w2 := by
        rw [show orTo s 0 [] = 0 from rfl, set_self (by rw [HLEN.out]; exact hlt) HAT.out]
        exact ThI.below ⟨HM.out, hC, hX, hN, hZ, hB0⟩ hb2
      have hCl : w.heap.size + 1 + 1 + 1 < wr.heap.size := by
        have := hC.lt
        have h2 := hbel
        apply Decidable.byContradiction
        intro hh
        have e : w.heap.size + 1 + 1 + 1 = wr.heap.size := by simp at this; omega
        rw [e] at hC
        unfold Blk at hC hX
        rw [hX] at hC
        injection hC with hC
        injection hC with hC
        have := congrArg Array.size hC
        rw [relC_size, HLEN.out] at this
        simp at this
      have hs2 := hb2.size
      simp at hs2
      obtain ⟨hG, hOw⟩ := good20 (n₀ := w.heap.size) hI0.2.1 (by rw [relC_size, List.length_set, HLEN.out]) (by omega)
      have hno : ¬ OwB [w.heap.size + 1 + 1 + 1] w2 (wr.heap.size + 1) := fun ho => by have := hOw _ ho; omega
      have HI := Lib.hid hI0
      clear hX hC hN hZ hB0 hV hI0 HH hOw hbel hb2
      refine wpIn_rangeFunc_ownH rfl (by omega) (gf := 57) (lb := #[.pointer (some ⟨wr.heap.size + 1, 0, none⟩)]) rfl trivial (fun _ _ => rfl)
        (vertices_stops (wr.heap.size + 1) a w.heap.size w2 [w.heap.size + 1 + 1 + 1] hV1 ha hG hno (9 - 1) (by omega)) kpO_t (kpO_b (by omega) (by simp; omega)) (Below.refl _ _) (fun _ => rfl)
        (fun pre W => ThI w ds wr.heap.size k ((thenTo r s k).set k (orTo s 0 (pre.map Fin.val))) s W) (fun _ _ _ => False)
        (thI_own w ds wr.heap.size k (fun pre : List (Fin 20) => (thenTo r s k).set k (orTo s 0 (pre.map Fin.val))) s (by omega) (fun D hD => by have := HML.out D hD; omega)) (fun _ _ _ _ _ hs _ _ => hs) HI.out
        (fun x a' W => a' = { tmps := #[.agg (relC r), .agg (relC s), .pointer (some ⟨w.heap.size, 0, none⟩), .pointer (some ⟨w.heap.size + 1, 0, none⟩), .pointer (some ⟨w.heap.size + 1 + 1, 0, none⟩), .pointer (some ⟨w.heap.size + 1 + 1 + 1, 0, none⟩), .pointer (some ⟨wr.heap.size, 0, none⟩), .int .u32 (a : Int), .int .i64 ((x.1 : Nat) : Int), .agg (relC r), .int .i64 (k : Int), .bool true, .int .i64 (k : Int), .int .u32 (a : Int), .int .u32 (a : Int), .func (.func 57) #[] #[.pointer (some ⟨wr.heap.size + 1, 0, none⟩)], .int .i64 ((x.1 : Nat) : Int), u17, u18, u19, u20, u21, u22, u23, u24, u25, undef], defers := [] })
        (fun x a' _ X Y row hs hg hr => hs)
        ?assign ?body ?done ?stop
      case assign =>
        rintro l pre x W K hI hK
        gi_wp2
        exact hK _ _ ((KeepsOthers.refl _).from _) (kpO_below hI.2.2.2.2.2.size (Below.refl _ _)) hI rfl
      case body =>
        rintro l pre x a' W hl - hI rfl hlt2
        have hx20 : x.1 < 20 := x.2
        have hI' := Lib.hid hI
        obtain ⟨hMk, hC, hX, hN, hZ, hB⟩ := hI
        have hl20 : ((thenTo r s k).set k (orTo s 0 (pre.map Fin.val))).length = 20 := by rw [List.length_set, HLEN.out]
        have hCs : (relC ((thenTo r s k).set k (orTo s 0 (pre.map Fin.val)))).size = 20 := by rw [relC_size, hl20]
        have hgv : ((thenTo r s k).set k (orTo s 0 (pre.map Fin.val))).getD k 0 = orTo s 0 (pre.map Fin.val) := by
          rw [gd_lt (by omega)]; simp
        have cX := hX.cell 0
        simp at cX
        have cC := (hC.cell k).trans (relC_at (by omega))
        rw [hgv] at cC
        have fC := hC.frozen k
        have cN := (hN.cell x.1).trans (relC_at (by rw [hs.len]; exact hx20))
        have hbits : bits .or .u32 ((orTo s 0 (pre.map Fin.val) : Nat) : Int) ((s.getD x.1 0 : Nat) : Int) = ((orTo s 0 (pre.map Fin.val) ||| s.getD x.1 0 : Nat) : Int) := u32_or_nat _ _ (by have := orTo_lt hs (pre.map Fin.val) 0 (by decide); omega) (by have := hs.at x.1; omega)
        have hnew : ThI w ds wr.heap.size k ((thenTo r s k).set k (orTo s 0 ((pre ++ [x]).map Fin.val))) s (W.drew.setCell ⟨w.heap.size + 1 + 1 + 1, k, none⟩ (.int .u32 ((orTo s 0 (pre.map Fin.val) ||| s.getD x.1 0 : Nat) : Int))) := by
          have e : relC ((thenTo r s k).set k (orTo s 0 ((pre ++ [x]).map Fin.val))) = (relC ((thenTo r s k).set k (orTo s 0 (pre.map Fin.val)))).setIfInBounds k (.int .u32 ((orTo s 0 (pre.map Fin.val) ||| s.getD x.1 0 : Nat) : Int)) := by
            rw [relC_set, set_set, List.map_append, List.map_cons, List.map_nil, orTo_snoc]
          refine ⟨(hMk.below (Below.refl _ _).drew).cell hC.drew _ _, by rw [e]; exact hC.drew.set_ _ _, hX.drew.far (by simp; omega) _, hN.drew.far (by simp) _, hZ.drew.far (by simp) _, bset hB.drew (by simp; omega) _⟩
        obtain ⟨hkp, hkf⟩ := kpO_cell (x := k) (v := .int .u32 ((orTo s 0 (pre.map Fin.val) ||| s.getD x.1 0 : Nat) : Int)) hC hCs (show w.heap.size ≤ w.heap.size + 1 + 1 + 1 by omega)
        have HNEW := Lib.hid hnew
        have HKP := Lib.hid hkp
        have HKF := Lib.hid hkf
        clear hnew hkp hkf hMk hC hX hN hZ hB hgv hl20 hCs hI'
        generalize orTo s 0 (pre.map Fin.val) = ov at *
        generalize s.getD x.1 0 = sv at *
        gi_wp2_with fail
        gi_region_with (fail)
        all_goals exact ⟨HKF.out _, HKP.out, HNEW.out⟩
      case done =>
        rintro D ys W hD rfl hI hK
        have HI2 := Lib.hid hI
        have HK2 := Lib.hid hK
        clear hI hK
        gi_wp2_with fail
        obtain ⟨hMk, hC, hX, hN, hZ, hB⟩ := HI2.out
        rw [vtxF_val, HST.out] at hC
        exact ⟨⟨D :: ds, k + 1, _, _, _, _, _, _, _, _, _, _, _, _, _, _, _, _, _, _, rfl, by omega, hMk.cons HK2.out (by omega) (fun x hx => by have := HML.out x hx; omega), hC, hN, hZ, hB⟩, by simp [intOf]; omega⟩
      case stop =>
        rintro D c pre W _ _ h _
        exact h.elim
    · obtain rfl : k = 20 := by omega
      have ho : OkR (thenR r s) := thenR_ok hr hs
      rw [thenTo_end hr.len] at hC
      have HM := Lib.hid hM
      have H3 := Lib.hid hbel
      have HR := Lib.hid (hZ.row (relC (thenR r s)))
      have HCC := Lib.hid hC
      clear hM hbel
      gi_wp2_with (first | refine wpListIn_load_row rfl 49 _ rfl (w.heap.size + 1 + 1 + 1) rfl 49 (relC (thenR r s)) (0, 0) _ hC underR rfl (sizeR ho) ?_ | refine wpListIn_store_row rfl 49 _ _ rfl (w.heap.size + 1 + 1) (relC (thenR r s)) rfl rfl 49 (relC zeroR) hZ (sizeR ho) (by rw [relC_size, relC_size, ho.len]; rfl) (relC_one _) ?_)
      refine leaves_marks ds _ (HM.out.kept (S := fun k => k = w.heap.size + 1 + 1) ⟨rfl, rfl, rfl, by rw [setRow_size]; exact Nat.le_refl _, fun k hk hn => setRow_other wr _ _ _ hn⟩ (fun k hk => ⟨.cells (relC zeroR) 49 (0, 0), by rw [hk]; exact hZ, rfl⟩)) (fun w' hw' => ?_)
      exact ⟨_, results_cell_row rfl _ _ (w.heap.size + 1 + 1) 49 (relC (thenR r s)) (0, 0) _ rfl (hw'.blk HR.out) underR rfl (sizeR ho), rfl, hw'.below (brow H3.out (by omega) _)⟩
end Go.Proofs.YtifjenleoagefaaGreat
