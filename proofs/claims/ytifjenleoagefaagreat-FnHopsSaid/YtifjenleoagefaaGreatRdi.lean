/- HELPER, no statement of the seat: the program's ClosureRounds. -/
import Derived.Test.YtifjenleoagefaaGreatLz
import Derived.Test.YtifjenleoagefaaGreatCgl
import Derived.Test.YtifjenleoagefaaGreatEdg
import Derived.Test.YtifjenleoagefaaGreatRgr
namespace Go.Proofs.YtifjenleoagefaaGreat
open Go.RowKit Go.Sort Go.Shelf
set_option linter.unusedSimpArgs false
set_option linter.unusedVariables false
attribute [local go_sem] Oper.semAt_some

theorem zl_srcs3 {w : World} {A : Option Addr} {n c : Nat} {g : Nat} (hg : w.cell? ⟨g, 0, none⟩ = #[Value.slice A n c][0]?) : ∀ j u, [Value.slice A n c][j]? = some u → w.cell? ((⟨g, 0, none⟩ : Addr).add j) = some u := by
  intro j u hu
  match j, hu with
  | 0, hu => simp at hu; subst hu; simpa [Addr.add] using hg
theorem zl_ones3 {A : Option Addr} {n c : Nat} : ∀ u ∈ [Value.slice A n c], u.oneCell' = true := by
  intro u hu
  simp at hu
  subst hu
  rfl
/-- Pairs of a call's own, in blocks that hold cells. -/
def PrV (base : Nat) (z : Zs) (v : Value) (w : World) : Prop := ∃ A c T, v = .slice A z.length c ∧ EntsOw w T A c z ∧ ∀ k, T k → base ≤ k ∧ ∃ o, w.heap[k]? = some o ∧ o.isCells = true
theorem stable_prV (base : Nat) (z : Zs) : Stable (PrV base z) := fun _ _ _ hb ⟨A, c, T, e, h, ht⟩ => ⟨A, c, T, e, h.below entO hb, fun k hk => ⟨(ht k hk).1, by obtain ⟨o, h1, h2⟩ := (ht k hk).2; exact ⟨o, (hb.block k (SlOw.lt h k hk)).trans h1, h2⟩⟩⟩
/-- A list of one: such pairs. -/
def BxV (base : Nat) (z : Zs) (v : Value) (w : World) : Prop := ∃ b A c T, v = .slice (some ⟨b, 0, none⟩) 1 1 ∧ base ≤ b ∧ Blk w b 23 #[.slice A z.length c] ∧ EntsOw w T A c z ∧ ∀ k, T k → base ≤ k ∧ ∃ o, w.heap[k]? = some o ∧ o.isCells = true
theorem stable_bxV (base : Nat) (z : Zs) : Stable (BxV base z) := fun _ _ _ hb ⟨b, A, c, T, e, hl, hB, h, ht⟩ => ⟨b, A, c, T, e, hl, hB.below hb, h.below entO hb, fun k hk => ⟨(ht k hk).1, by obtain ⟨o, h1, h2⟩ := (ht k hk).2; exact ⟨o, (hb.block k (SlOw.lt h k hk)).trans h1, h2⟩⟩⟩
theorem below_stays {w W W' : World} {row : Option Nat} {lo : Nat} (h : Below w.heap.size w W) (hg : W.grownBy W' row) (hr : ∀ r, row = some r → lo ≤ r) (hlo : w.heap.size ≤ lo) : Below w.heap.size w W' :=
  ⟨hg.os.trans h.os, hg.tape.trans h.tape, hg.output.trans h.output, Nat.le_trans h.size hg.size, fun k hk => (hg.block k (Nat.lt_of_lt_of_le hk h.size) (fun e => by have := hr k e.symm; omega)).trans (h.block k hk)⟩
def rdL (pre : List Rnd) : List Zs := pre.map fun x => prs x.1.2
theorem rdL_end {ys : List Rnd} {r : List Nat} (h : ys.map Subtype.val = numR 1 (rds r)) : rdL ys = (rds r).map prs := by
  have h2 := congrArg (List.map (·.2)) h
  rw [numR_snd, List.map_map] at h2
  rw [← h2, List.map_map]; rfl
set_option maxRecDepth 100000 in
set_option maxHeartbeats 6400000 in
theorem ClosureRounds_i (A : Option Addr) (c : Nat) (es : List Ent) (w : World) (hx : EntsAt w A es) (hn : es.length ≤ 4194304) (hr : rowsIn es 4194304) :
    Calls Tryz.prog 10 #[.slice A es.length c] w fun e w' => ∃ A' c', e = .returned (.slice A' (RoundsF es).length c') ∧ SlOw ZlO 1 23 w' (news w w') A' c' (RoundsF es) ∧ Below w.heap.size w w' := by
  obtain ⟨i0, hi, hz0, hz1, hz2⟩ := info_parts (show (Tryz.prog.info? 23).map (fun i => (i.zero, i.size, i.bytes)) = some (some (.slice none 0 0), 1, 24) by kernel_rfl)
  have hv := ValidEdges_i A c es w hx hn hr
  have HX := Lib.hid hx
  cases h1 : edgB es
  · have HT : Hid (RoundsF es = []) := by simp [Hid, RoundsF, h1]
    rw [h1] at hv
    clear h1
    refine (callsIn_wide (n := 9)).1 ?_
    refine callsIn_of_wp_marks Tryz.func10 rfl trivial ?_ rfl
    simp only [Tryz.ntmps10, List.size_toArray, List.length_cons, List.length_nil, Nat.reduceAdd, Nat.reduceSub, Array.replicate_succ, Array.replicate_zero, List.push_toArray, List.append_toArray, List.nil_append, List.cons_append]
    gi_wp2_with (refine ⟨trivial, ?_⟩; gi_at_call 9; refine (callsIn_wide.2 hv).mono ?_; rintro e w1 ⟨rfl, b1⟩; have HB := Lib.hid b1; clear b1)
    refine leaves_marks [] _ (MarksAt.nil w.heap.size _) (fun w' hw' => ?_)
    rw [HT.out]
    exact ⟨_, results_tmp rfl _ _ _, none, 0, rfl, ⟨_, _, SlF.nil (fun k hk => hk.2)⟩, hw'.below HB.out⟩
  · have hro := relOf_ok h1
    have HT : Hid (RoundsF es = (rds (relOf es)).map prs) := by simp [Hid, RoundsF, h1]
    have HE := Lib.hid h1
    rw [h1] at hv
    clear h1
    refine (callsIn_wide (n := 9)).1 ?_
    refine callsIn_of_wp_marks Tryz.func10 rfl trivial ?_ rfl
    simp only [Tryz.ntmps10, List.size_toArray, List.length_cons, List.length_nil, Nat.reduceAdd, Nat.reduceSub, Array.replicate_succ, Array.replicate_zero, List.push_toArray, List.append_toArray, List.nil_append, List.cons_append]
    gi_wp2_with (first | (refine ⟨trivial, ?_⟩; gi_at_call 9; refine (callsIn_wide.2 hv).mono ?_; rintro e w1 ⟨rfl, b1⟩; have hbx := bal b1 (.cells #[.slice none 0 0] 29); have HBX := Lib.hid hbx; clear hv) | (refine ⟨trivial, ?_⟩; gi_at_call 23; refine (callsIn_wide.2 (relationOf_i _ _ es _ (HX.out.below entR HBX.out) HE.out)).mono ?_; rintro e w2 ⟨rfl, b2⟩; have HB2 := Lib.hid b2) | (refine ⟨trivial, ?_⟩; gi_at_call 24; refine (callsIn_wide.2 (rounds_i _ _ hro)).mono ?_; rintro e w3 ⟨rfl, hV, b3⟩))
    have hB3 := btr b2 b3
    have kB : Blk w3 w1.heap.size 29 #[.slice none 0 0] := (Blk.newAt rfl).below hB3
    have hs12 : w1.heap.size < w2.heap.size := by have := b2.size; simp at this; omega
    have hs23 : w2.heap.size < w3.heap.size := hV.lt
    have hs01 := b1.size
    have hbw : Below w.heap.size w w3 := btr (btr hbx b2) b3
    have nt : ∀ k, ¬ tightF none (fun _ _ => False) k := fun k hk => by rcases hk with hk | ⟨_, hk⟩ <;> cases hk
    have hI0 : LzI w.heap.size w1.heap.size w3.heap.size (w3.heap.size + 2 + 2) [] w3 := ⟨none, 0, [], fun _ _ => False, kB, SlF.nil (fun k hk => (nt k hk).elim), fun k hk => (nt k hk).elim⟩
    have hG := (lzI_row hI0 hs01).1
    have hno : ¬ OwB [w1.heap.size] w3 w2.heap.size := by
      rintro ⟨B', hB', e | ⟨n, c2, T, e⟩⟩
      · simp at hB'; omega
      · simp only [List.mem_singleton] at hB'
        subst hB'
        unfold Blk at kB
        rw [kB] at e
        injection e with e
        injection e with e _ _
        have e2 := congrArg (fun a : Array Value => a[0]?) e
        simp at e2
    have HI := Lib.hid (And.intro hI0 hbw)
    clear b1 hbx HBX HB2 b2 b3 hB3 kB nt hI0 hbw
    refine range_gives (n := 9) (m := 2) (N := (rds (relOf es)).length) (gf := 52) (lb := #[.pointer (some ⟨w2.heap.size, 0, none⟩)]) (encs := encR) (Kp := KpO [w1.heap.size] w.heap.size) (S := fun ys : List Rnd => ys.map Subtype.val = numR 1 (rds (relOf es)))
      (by omega) rfl (fun _ _ => rfl)
      (fun W1 hb hsz => rounds_own w2.heap.size w.heap.size (9 - 1) (relOf es) W1 [w1.heap.size] (hV.below hb) hro (hG.below hb) (fun ho => hno ((owB_same (fun B hB => hb.block B (hG.1 B hB).2) _).1 ho)) (by omega))
      kpO_t (kpO_b (by omega) (by simp; omega)) (fun _ => rfl)
      (fun pre W => LzI w.heap.size w1.heap.size w3.heap.size (w3.heap.size + 2 + 2) (rdL pre) W ∧ Below w.heap.size w W)
      (fun pre X Y row hs hg hr => ⟨lzI_stays rdL (by omega) pre X Y row hs.1 hg hr, below_stays hs.2 hg (fun r e => (hr r e).1) (by omega)⟩) HI.out
      (fun x a' W => ∃ g, w3.heap.size + 2 ≤ g ∧ Blk W g 49 (relC x.1.2) ∧ a' = { tmps := #[.slice A es.length c, undef, .slice none 0 0, .pointer (some ⟨w1.heap.size, 0, none⟩), undef, .pointer (some ⟨g, 0, none⟩), .slice A es.length c, .bool true, .bool false, .slice A es.length c, .agg (relC (relOf es)), .func (.func 52) #[] #[.pointer (some ⟨w2.heap.size, 0, none⟩)], .int .i64 ((x.1.1 : Nat) : Int), .agg (relC x.1.2), undef, undef, undef, undef, undef, undef], defers := [] })
      (fun x a' _ X Y row hs hg hr => by
        obtain ⟨g, h1, h2, h3⟩ := hs
        exact ⟨g, h1, (hg.block g h2.lt (fun e => by have := hr g e.symm; omega)).trans h2, h3⟩)
      ?assign ?body ?done
    case assign =>
      rintro l pre x W K hI hsz hK
      have hx := x.2
      gi_wp2_with (refine wpListIn_store_row rfl 49 _ _ rfl W.heap.size (relC x.1.2) rfl rfl 49 (relC zeroR) (show Blk _ W.heap.size 49 (relC zeroR) from Blk.newAt rfl) (sizeR hx) (by rw [relC_size, relC_size, hx.len]; rfl) (relC_one _) ?_)
      have hb : Below W.heap.size W ((W.alloc (.cells (relC zeroR) 49)).setRow W.heap.size (relC x.1.2)) := brow (bal (Below.refl _ _) _) (Nat.le_refl _) _
      exact hK _ _ (keepsFrom_grown (GrownS.ofBelow (S := fun _ => False) hb) (fun _ _ h => h.elim)) (kpO_below hI.2.size hb) ⟨hI.1.below hb (by omega), btr hI.2 hb⟩ ⟨W.heap.size, by omega, (Blk.newAt (cs := relC zeroR) rfl).row _, rfl⟩
    case body =>
      rintro l pre x a' W hl - hI ⟨g, hg, hX, rfl⟩ hlt hroom
      obtain ⟨⟨AL, cL, css, F, g1, g2, g3⟩, hBW⟩ := hI
      have hx := x.2
      have hpl := rds_len hro
      have hll : (rdL pre).length ≤ 400 := by rw [rdL, List.length_map]; omega
      have HE : Hid (rdL (pre ++ [x]) = rdL pre ++ [prs x.1.2]) := by simp [Hid, rdL]
      generalize rdL pre = zs at *
      have cB := g1.cell 0
      simp at cB
      have hBlt := g1.lt
      have HS := Lib.hid (And.intro g1 (And.intro g2 (And.intro g3 hBW)))
      clear g1 g2 g3 hBW
      gi_wp2_with fail
      refine wp_region_factsR [[], [], [1], [2]] [fun v' _ => v' = .slice AL zs.length cL, fun v' _ => v' = .agg (relC x.1.2), PrV W.heap.size (prs x.1.2), BxV W.heap.size (prs x.1.2)]
        (by kernel_rfl) (by kernel_rfl) rfl ⟨stable_pure _, stable_pure _, stable_prV _ _, stable_bxV _ _, trivial⟩ (by kernel_rfl) (fun _ _ h => by cases h.1) ?_
      refine wf_stepK [] [] (by kernel_rfl) (by kernel_rfl) (fun wf hb hf => ?_) (fun t0 => ?_)
      · refine ⟨?_⟩
        have z0 := (hb.cell (p := ⟨w1.heap.size, 0, none⟩) hBlt).trans cB
        clear hX HS
        go_wp2
        exact ⟨rfl, .slice AL zs.length cL, by kernel_rfl, Below.refl _ _, rfl⟩
      refine wf_stepK [] [] (by kernel_rfl) (by kernel_rfl) (fun wf hb hf => ?_) (fun t1 => ?_)
      · refine ⟨?_⟩
        go_wp2_with (refine wpList_load_row rfl 49 _ rfl g rfl 49 (relC x.1.2) (0, 0) _ (hX.below hb) underR rfl (sizeR hx) ?_)
        exact ⟨rfl, _, by kernel_rfl, Below.refl _ _, rfl⟩
      refine wf_stepK [1] [fun _ => t1 = .agg (relC x.1.2)] (by kernel_rfl) (by kernel_rfl) (fun wf hb hf => ?_) (fun t2 => ?_)
      · obtain ⟨rfl, -⟩ := hf
        refine ⟨?_⟩
        go_wp2_with (go_at_call 33; refine (pairs_t x.1.2 _ hx).mono ?_; rintro e w4 ⟨Ad, cd, T, rfl, ho, hT, hb4⟩)
        exact ⟨rfl, _, by kernel_rfl, hb4, Ad, cd, T, rfl, ho, fun k hk => ⟨Nat.le_trans hb.size (hT k hk).1, (hT k hk).2⟩⟩
      refine wf_stepK [2] [PrV W.heap.size (prs x.1.2) t2] (by kernel_rfl) (by kernel_rfl) (fun wf hb hf => ?_) (fun t3 => ?_)
      · obtain ⟨⟨Ad, cd, T, rfl, ho, hT⟩, -⟩ := hf
        have hnb := bal (Below.refl wf.heap.size wf) (.cells #[.slice Ad (prs x.1.2).length cd] 23)
        have HP : Hid (BxV W.heap.size (prs x.1.2) (.slice (some ⟨wf.heap.size, 0, none⟩) 1 1) (wf.alloc (.cells #[.slice Ad (prs x.1.2).length cd] 23))) := ⟨wf.heap.size, Ad, cd, T, rfl, hb.size, Blk.newAt rfl, ho.below entO hnb, fun k hk => ⟨(hT k hk).1, by obtain ⟨o, h1, h2⟩ := (hT k hk).2; exact ⟨o, (hnb.block k (SlOw.lt ho k hk)).trans h1, h2⟩⟩⟩
        have HN := Lib.hid hnb
        clear ho hT hnb
        refine ⟨?_⟩
        go_wp2
        exact ⟨rfl, .slice (some ⟨wf.heap.size, 0, none⟩) 1 1, by kernel_rfl, HN.out, HP.out⟩
      refine wf_doneK [0, 3] [fun _ => t0 = .slice AL zs.length cL, BxV W.heap.size (prs x.1.2) t3] (by kernel_rfl) (by kernel_rfl) (fun w4 b4 hf => ?_)
      obtain ⟨rfl, ⟨b, Ad, cd, T, rfl, hbb, hBb, ho, hT⟩, -⟩ := hf
      show wpList _ _ _ [_, _] _ _
      refine wpList_frame (by simp [Act.put]; rfl) ?_
      have hrow4 := (HS.out.2.1.loc zlO (fun q hq => b4.block q (HS.out.2.1.lt q hq))).row
      have c0 := hBb.cell 0
      have HO := Lib.hid (And.intro b4 (And.intro ho hT))
      clear ho hT hX cB hBb
      refine wpList_append_own_at _ rfl _ _ 29 rfl 0 23 i0 (.slice none 0 0) 1 24 Tryz.underlying29 hi hz0 hz1 hz2 rfl (by decide) (.slice AL zs.length cL) _ _ rfl hrow4 ⟨b, 0, none⟩ 1 1 [.slice Ad (prs x.1.2).length cd] rfl rfl (zl_srcs3 c0) zl_ones3 (by unfold maxLen; omega) (by omega) (by simp) ?_
      intro v' w5 hrow' hgrow hnil hat
      obtain ⟨A', c', rfl⟩ := own_slice hrow'
      rw [ownBlock_slice] at hgrow
      have hat2 : (Value.slice A' (zs.length + 1) c').ownBlock = blk AL ∨ (Value.slice A' (zs.length + 1) c').ownBlock = some w4.heap.size := by rw [ownBlock_slice AL] at hat; exact hat
      obtain ⟨b4, ho, hT⟩ := HO.out
      obtain ⟨g1, g2, g3, hBW⟩ := HS.out
      obtain ⟨p1, p2, p3, p4, p5⟩ := lz_push g1 g2 g3 hs01 (by omega) (by omega) (by omega) b4 ho hT hrow' hgrow hat2
      have cB5 := p5.cell 0
      have fB5 := p5.frozen 0
      simp at cB5
      rw [← HE.out] at p1
      have HN := Lib.hid (And.intro (p3 w3.heap.size) (And.intro p2 (And.intro p1 (hBW.trans (below_grown p4 hBW.size (fun q hq => by
        rcases hq with rfl | hq
        · omega
        · exact (g3 q (.inl hq)).1))))))
      clear p1 p2 p3 p4 p5 hrow' hgrow hnil hat hat2 g1 g2 g3 hBW b4 ho hT HS HO HE hrow4
      refine wpList_frame (by simp [Act.put]; rfl) ?_
      go_wp2
      exact HN.out
    case done =>
      rintro ys W hS hI hD
      rw [rdL_end hS] at hI
      obtain ⟨⟨AL, cL, css, F, g1, g2, g3⟩, hBW⟩ := hI
      have cB := g1.cell 0
      simp at cB
      have hM : Hid (MarksAt [w3.heap.size] w.heap.size W) := (MarksAt.nil _ _).cons hD (by omega) (fun x hx => by cases hx)
      have HG := Lib.hid (And.intro g2 (And.intro g3 hBW))
      clear g1 g2 g3 hBW hD
      gi_wp2_with fail
      refine leaves_marks [w3.heap.size] _ hM.out (fun w' hw' => ?_)
      rw [HT.out]
      have hq : ∀ q, tightF AL F q → w'.heap[q]? = W.heap[q]? := fun q hq => by
        obtain ⟨-, -, -, o, ho, hc⟩ := HG.out.2.1 q hq
        rw [hw'.cells q o ho hc, ho]
      exact ⟨_, results_tmp rfl _ _ _, AL, cL, by simp, SlOw.mono ⟨_, _, HG.out.1.loc zlO hq⟩ (fun q h => ⟨(HG.out.2.1 q h).1, by rw [hw'.size]; exact HG.out.1.lt q h⟩) (fun q h => h.2), hw'.below HG.out.2.2⟩
end Go.Proofs.YtifjenleoagefaaGreat
