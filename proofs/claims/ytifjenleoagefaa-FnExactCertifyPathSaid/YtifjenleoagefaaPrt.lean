/- HELPER, no statement of the seat: the pairs of a relation, as a list of entries. -/
import Derived.Test.YtifjenleoagefaaPrs
namespace Go.Proofs.Ytifjenleoagefaa
open Go.RowKit Go.Sort Go.Shelf
set_option linter.unusedSimpArgs false
set_option linter.unusedVariables false
attribute [local go_sem] Oper.semAt_some

def prsTo (r : List Nat) (k : Nat) : List Ent := (List.range k).flatMap fun x => (vtx (r.getD x 0)).map (pr x)
theorem prsTo_step (r : List Nat) (k : Nat) : prsTo r (k + 1) = prsTo r k ++ (vtx (r.getD k 0)).map (pr k) := by simp [prsTo, List.range_succ]
theorem prsTo_len (r : List Nat) (k : Nat) : (prsTo r k).length ≤ 20 * k := by
  induction k with
  | zero => simp [prsTo]
  | succ k ih =>
    have : (vtx (r.getD k 0)).length ≤ 20 := by
      have := List.length_filter_le (fun y => (r.getD k 0).testBit y) (List.range 20)
      simpa [vtx] using this
    rw [prsTo_step, List.length_append, List.length_map]; omega
theorem prs_srcs {w1 : World} {RA : Option Addr} {n rc : Nat} {x : Int} {E : TypeId} {g : Nat} (hg : w1.heap.size = g) : ∀ j u, [Value.slice RA n rc, .int .i64 x][j]? = some u → (w1.alloc (.cells #[.slice RA n rc, .int .i64 x] E)).cell? ((⟨g, 0, none⟩ : Addr).add j) = some u := by
  intro j u hu
  subst hg
  exact ent_srcs _ rfl j u hu
/-- What stands while the pairs of one vertex are collected. -/
def PrI (w : World) (ds : List Nat) (BX k : Nat) (es : List Ent) (W : World) : Prop :=
  MarksAt ds w.heap.size W ∧ LsI w.heap.size (w.heap.size + 1) [BX, w.heap.size + 1] es W ∧ Blk W BX 3 #[.int .i64 (k : Int)] ∧ Below w.heap.size w W
theorem PrI.below {w : World} {ds : List Nat} {BX k : Nat} {es : List Ent} {W W' : World} (h : PrI w ds BX k es W) (hb : Below W.heap.size W W') : PrI w ds BX k es W' :=
  ⟨h.1.below hb, h.2.1.below hb, h.2.2.1.below hb, btr h.2.2.2 hb⟩
theorem prI_own {β : Type} (w : World) (ds : List Nat) (BX k : Nat) (es : β → List Ent) {B : Nat} (hB : w.heap.size ≤ B) (hd : ∀ D ∈ ds, D < B) : OwnFrom B (fun x W => PrI w ds BX k (es x) W) :=
  OwnFrom.and (marks_own hd) (OwnFrom.and (lsI_own es) (OwnFrom.and ((ownBlk _ _ (fun _ : β => #[.int .i64 (k : Int)])).from _) (ownFrom_below (Nat.le_refl _) hB)))
set_option maxRecDepth 100000 in
set_option maxHeartbeats 6400000 in
theorem pairs_t (r : List Nat) (w : World) (hr : OkR r) :
    Calls Try.prog 71 #[.agg (relC r)] w fun e w' => ∃ A c S, e = .returned (.slice A (prs r).length c) ∧ EntsOw w' S A c (prs r) ∧ (∀ k, S k → w.heap.size ≤ k ∧ ∃ o, w'.heap[k]? = some o ∧ o.isCells = true) ∧ Below w.heap.size w w' := by
  obtain ⟨i0, hi, hz0, hz1, hz2⟩ := info_parts Try.infoEnt
  refine (callsIn_wide (n := 9)).1 ?_
  refine callsIn_of_wp_marks Try.func71 rfl trivial ?_ rfl
  simp only [Try.ntmps71, List.size_toArray, List.length_cons, List.length_nil, Nat.reduceAdd, Nat.reduceSub, Array.replicate_succ, Array.replicate_zero, List.push_toArray, List.append_toArray, List.nil_append, List.cons_append]
  have nt : ∀ k, ¬ tightF none (fun _ _ => False) k := fun k hk => by rcases hk with hk | ⟨_, hk⟩ <;> cases hk
  have hL0 : LsI w.heap.size (w.heap.size + 1) [w.heap.size + 1] [] ((w.alloc (.cells (relC r) 61)).alloc (.cells #[.slice none 0 0] 27)) :=
    ⟨none, 0, [], fun _ _ => False, Blk.newAt (by simp), SlF.nil (fun k hk => (nt k hk).elim), fun k hk => (nt k hk).elim, fun x hx => ⟨nt x, by simp at hx; subst hx; simp⟩⟩
  have HL0 := Lib.hid hL0
  have HB0 : Hid (Below w.heap.size w ((w.alloc (.cells (relC r) 61)).alloc (.cells #[.slice none 0 0] 27))) := bal (bal (Below.refl _ _) _) _
  clear hL0
  gi_wp2_with (refine wpListIn_load_row rfl 61 _ rfl w.heap.size rfl 61 (relC r) (0, 0) _ (show Blk _ w.heap.size 61 (relC r) from (Blk.newAt rfl).alloc _) underR rfl (sizeR hr) ?_)
  refine wpIn_loop (fun a' wr => ∃ (ds : List Nat) (k : Nat) (u4 u5 u6 u9 u10 u11 u12 u13 u14 u15 u16 u17 u18 u19 u20 u21 u22 u23 : Value), a' = { tmps := #[.agg (relC r), .pointer (some ⟨w.heap.size, 0, none⟩), .slice none 0 0, .pointer (some ⟨w.heap.size + 1, 0, none⟩), u4, u5, u6, .agg (relC r), .int .i64 ((k : Nat) : Int), u9, u10, u11, u12, u13, u14, u15, u16, u17, u18, u19, u20, u21, u22, u23], defers := markL ds } ∧ k ≤ 20 ∧ MarksAt ds w.heap.size wr ∧ LsI w.heap.size (w.heap.size + 1) [w.heap.size + 1] (prsTo r k) wr ∧ Below w.heap.size w wr) (fun a' _ => 20 - (intOf (a'.tmps.getD 8 undef)).toNat) ?_ ?_
  · exact ⟨[], 0, _, _, _, _, _, _, _, _, _, _, _, _, _, _, _, _, _, _, rfl, by omega, MarksAt.nil _ _, HL0.out, HB0.out⟩
  · rintro _ wr ⟨ds, k, u4, u5, u6, u9, u10, u11, u12, u13, u14, u15, u16, u17, u18, u19, u20, u21, u22, u23, rfl, hk, hM, hL, hbel⟩
    by_cases hlt : k < 20
    · have hix : ∀ W, (Instr.index 61 (.agg (relC r)) (.int .i64 (k : Int))).run Try.prog W = .ok (.int .u32 ((r.getD k 0 : Nat) : Int)) W := fun W => run_indexR _ k _ hlt (relC_at (by rw [hr.len]; exact hlt)) W
      have hlt' : (k : Int) < 20 := by omega
      have ha := hr.at k
      have HST := Lib.hid (prsTo_step r k)
      have HLEN := Lib.hid (prsTo_len r k)
      generalize r.getD k 0 = a at *
      have hbA : Below wr.heap.size wr (wr.alloc (.cells #[.int .i64 (k : Int)] 3)) := bal (Below.refl _ _) _
      have hBl := hL.choose_spec.choose_spec.choose_spec.choose_spec.1.lt
      have HH : Hid (PrI w ds wr.heap.size k (prsTo r k) (wr.alloc (.cells #[.int .i64 (k : Int)] 3))) := ⟨hM.below hbA, (hL.more hbA (Nat.le_refl _) (by simp)), Blk.newAt rfl, bal hbel _⟩
      have HML := Lib.hid hM.lt
      clear hM hL hbA
      gi_wp2_with (refine ⟨trivial, ?_⟩; gi_at_call 57; refine (callsIn_wide.2 (vertices_i a _)).mono ?_; rintro e w2 ⟨rfl, hV, hb2⟩)
      have hV1 : Blk w2 (wr.heap.size + 1) 59 #[.int .u32 (a : Int)] := by simpa using hV
      have hI0 := HH.out.below hb2
      have hs2 := hb2.size
      simp at hs2
      have hG := lsI_row hI0.2.1 (Nat.le_succ _)
      have hno : ¬ OwB [w.heap.size + 1] w2 (wr.heap.size + 1) := fun ho => by
        obtain ⟨B, hB, e | ⟨n, c, T, e⟩⟩ := ho
        · simp at hB; subst hB; have := hBl; omega
        · simp only [List.mem_singleton] at hB
          subst hB
          obtain ⟨A, c', css, F, g1, g2, g3, g4⟩ := HH.out.2.1
          have g1' := g1.below hb2
          unfold Blk at g1'
          rw [g1'] at e
          injection e with e
          injection e with e _ _
          have e2 := congrArg (fun a : Array Value => a[0]?) e
          simp at e2
          have := g2.lt (wr.heap.size + 1) (.inl (by rw [e2.1]; rfl))
          simp at this
      have HI := Lib.hid hI0
      clear hV hI0 hbel hb2 HH
      refine wpIn_rangeFunc_ownH rfl (by omega) (gf := 92) (lb := #[.pointer (some ⟨wr.heap.size + 1, 0, none⟩)]) rfl trivial (fun _ _ => rfl)
        (vertices_stops (wr.heap.size + 1) a w.heap.size w2 [w.heap.size + 1] hV1 ha hG hno (9 - 1) (by omega)) kpO_t (kpO_b (by omega) (by simp; omega)) (Below.refl _ _) (fun _ => rfl)
        (fun pre W => PrI w ds wr.heap.size k (prsTo r k ++ (pre.map Fin.val).map (pr k)) W) (fun _ _ _ => False)
        (prI_own w ds wr.heap.size k (fun pre : List (Fin 20) => prsTo r k ++ (pre.map Fin.val).map (pr k)) (by omega) (fun D hD => by have := HML.out D hD; omega)) (fun _ _ _ _ _ hs _ _ => hs) (by simpa using HI.out)
        (fun x a' W => a' = { tmps := #[.agg (relC r), .pointer (some ⟨w.heap.size, 0, none⟩), .slice none 0 0, .pointer (some ⟨w.heap.size + 1, 0, none⟩), .pointer (some ⟨wr.heap.size, 0, none⟩), .int .u32 (a : Int), .int .i64 ((x.1 : Nat) : Int), .agg (relC r), .int .i64 (k : Int), .bool true, .int .i64 (k : Int), .int .u32 (a : Int), .int .u32 (a : Int), .func (.func 92) #[] #[.pointer (some ⟨wr.heap.size + 1, 0, none⟩)], .int .i64 ((x.1 : Nat) : Int), u15, u16, u17, u18, u19, u20, u21, u22, u23], defers := [] })
        (fun x a' _ X Y row hs hg hr => hs)
        ?assign ?body ?done ?stop
      case assign =>
        rintro l pre x W K hI hK
        gi_wp2
        exact hK _ _ ((KeepsOthers.refl _).from _) (kpO_below hI.2.2.2.size (Below.refl _ _)) hI rfl
      case body =>
        rintro l pre x a' W hl - hI rfl hlt2
        obtain ⟨hMk, ⟨A, c, css, F, g1, g2, g3, g4⟩, hX, hB⟩ := hI
        have hx20 : x.1 < 20 := x.2
        have hpl : pre.length ≤ 20 := by
          have : (vtxF a).length ≤ 20 := by have := List.length_filter_le (fun y : Fin 20 => a.testBit y.1) (List.finRange 20); simpa [vtxF] using this
          omega
        have hen : (prsTo r k ++ (pre.map Fin.val).map (pr k)).length ≤ 800 := by
          have := HLEN.out
          rw [List.length_append, List.length_map, List.length_map]; omega
        have HE : Hid (prsTo r k ++ ((pre ++ [x]).map Fin.val).map (pr k) = (prsTo r k ++ (pre.map Fin.val).map (pr k)) ++ [pr k x.1]) := by simp [Hid]
        generalize prsTo r k ++ (pre.map Fin.val).map (pr k) = es at *
        have cX := hX.cell 0
        simp at cX
        have cB := g1.cell 0
        have fB := g1.frozen 0
        simp at cB
        have hbase : ∀ q, blk A = some q → 0 ≤ q := fun q _ => Nat.zero_le _
        have hrow0 := ownsRow_base g2.row hbase
        have hbA1 := bal (Below.refl W.heap.size W) (.cells #[.int .i64 (k : Int), .int .i64 ((x.1 : Nat) : Int)] 3)
        have hrow2 := (g2.loc entO (fun q hq => (bal hbA1 (.cells #[.slice (some ⟨W.heap.size, 0, none⟩) 2 2, .int .i64 1] 40)).block q (g2.lt q hq))).row
        have HG := Lib.hid (And.intro hMk (And.intro hX hB))
        have HS := Lib.hid (And.intro g1 (And.intro g2 (And.intro g3 g4)))
        clear hMk g2 g3 g4 hB hbA1 hrow0
        gi_wp2_with (gi_at_builtin; refine wpListIn_append_own_at _ rfl _ _ 27 rfl 0 40 i0 (.agg #[.slice none 0 0, .int .i64 0]) 2 32 Try.underlying27 hi hz0 hz1 hz2 rfl (by decide) _ _ _ rfl hrow2 ⟨W.heap.size + 1, 0, none⟩ 1 1 [.slice (some ⟨W.heap.size, 0, none⟩) 2 2, .int .i64 1] rfl rfl (prs_srcs (by simp)) ent_ones (by unfold maxLen; omega) (by omega) (by simp) ?_)
        intro v' w4 hrow' hgrow hnil hat
        obtain ⟨A', c', rfl⟩ := own_slice hrow'
        rw [ownBlock_slice] at hgrow
        obtain ⟨g1', g2, g3, g4⟩ := HS.out
        obtain ⟨hMk, hX', hB⟩ := HG.out
        obtain ⟨p1, p2, p3, p4, p5⟩ := ls_push k x.1 g1' g2 g3 g4 (by simp) (Nat.le_succ _) hrow' hgrow (by rw [ownBlock_slice] at hat ⊢; rw [ownBlock_slice] at hat; exact hat)
        have cB4 := p5.cell 0
        have fB4 := p5.frozen 0
        simp at cB4
        have hnew : PrI w ds wr.heap.size k (prsTo r k ++ ((pre ++ [x]).map Fin.val).map (pr k)) (w4.setCell ⟨w.heap.size + 1, 0, none⟩ (.slice A' (es.length + 1) c')) := by
          rw [HE.out]
          refine ⟨hMk.kept p4 (fun q hq => ?_), p1, (p4.block wr.heap.size hX'.lt (fun hq => ?_)).trans hX', hB.trans (below_grown p4 hB.size (fun q hq => ?_))⟩
          · rcases hq with rfl | hq
            · exact ⟨_, g1', rfl⟩
            · exact (g3 q (.inl hq)).2
          · rcases hq with hq | hq
            · omega
            · exact (g4 wr.heap.size (by simp)).1 (.inl hq)
          · rcases hq with rfl | hq
            · omega
            · exact (g3 q (.inl hq)).1
        have HN := Lib.hid (And.intro (p3 w2.heap.size) (And.intro p2 hnew))
        clear p1 p2 p3 p4 p5 hnew hrow' hgrow hnil hat g1' g2 g3 g4 hMk hX' hB HS HG hrow2 hX g1 cX cB fB
        gi_wp2
        exact HN.out
      case done =>
        rintro D ys W hD rfl hI hK
        have HI2 := Lib.hid hI
        have HK2 := Lib.hid hK
        clear hI hK
        gi_wp2_with fail
        obtain ⟨hMk, hL, hX, hB⟩ := HI2.out
        rw [vtxF_val, ← HST.out] at hL
        exact ⟨⟨D :: ds, k + 1, _, _, _, _, _, _, _, _, _, _, _, _, _, _, _, _, _, _, rfl, by omega, hMk.cons HK2.out (by omega) (fun x hx => by have := HML.out x hx; omega), hL.less (by simp), hB⟩, by simp [intOf]; omega⟩
      case stop =>
        rintro D c pre W _ _ h _
        exact h.elim
    · obtain rfl : k = 20 := by omega
      have HM := Lib.hid hM
      have H3 := Lib.hid hbel
      rw [show prsTo r 20 = prs r from rfl] at hL
      obtain ⟨A, c, css, F, g1, g2, g3, g4⟩ := hL
      have cB := g1.cell 0
      simp at cB
      have HG := Lib.hid (And.intro g2 g3)
      clear hM hbel g1 g2 g3 g4
      gi_wp2_with fail
      refine leaves_marks ds _ HM.out (fun w' hw' => ?_)
      have hq : ∀ q, tightF A F q → w'.heap[q]? = wr.heap[q]? := fun q hq => by
        obtain ⟨-, o, ho, hc⟩ := HG.out.2 q hq
        rw [hw'.cells q o ho hc, ho]
      exact ⟨_, results_tmp rfl _ _ _, A, c, tightF A F, rfl, ⟨_, _, HG.out.1.loc entO hq⟩, fun q h => ⟨(HG.out.2 q h).1, by rw [hq q h]; exact (HG.out.2 q h).2⟩, hw'.below H3.out⟩
theorem pairs_i (r : List Nat) (w : World) (hr : OkR r) :
    Calls Try.prog 71 #[.agg (relC r)] w fun e w' => ∃ A c, e = .returned (.slice A (prs r).length c) ∧ EntsOw w' (news w w') A c (prs r) ∧ Below w.heap.size w w' :=
  (pairs_t r w hr).mono fun _ w' ⟨A, c, S, he, ho, hS, hb⟩ => ⟨A, c, he, SlOw.mono ho (fun k hk => ⟨(hS k hk).1, SlOw.lt ho k hk⟩) (fun k hk => hk.2), hb⟩
end Go.Proofs.Ytifjenleoagefaa
