/- HELPER, no statement of the seat: the rounds of a closure, one by one. -/
import Derived.Test.YtifjenleoagefaaGreatRd
import Derived.Test.YtifjenleoagefaaGreatCgb
namespace Go.Proofs.YtifjenleoagefaaGreat
open Go.RowKit Go.Sort Go.Shelf
set_option linter.unusedSimpArgs false
set_option linter.unusedVariables false
attribute [local go_sem] Oper.semAt_some

abbrev Rnd := { x : Nat × List Nat // OkR x.2 }
abbrev encR (x : Rnd) : Array Value := #[.int .i64 ((x.1.1 : Nat) : Int), .agg (relC x.1.2)]
def numR : Nat → List (List Nat) → List (Nat × List Nat)
  | _, [] => []
  | d, l :: L => (d, l) :: numR (d + 1) L
theorem numR_len : ∀ (L : List (List Nat)) (d : Nat), (numR d L).length = L.length
  | [], _ => rfl
  | _ :: L, d => by simp [numR, numR_len L (d + 1)]
theorem numR_snd : ∀ (L : List (List Nat)) (d : Nat), (numR d L).map (·.2) = L
  | [], _ => rfl
  | _ :: L, d => by simp [numR, numR_snd L (d + 1)]
def RdK (Bl : List Nat) (n₀ Bs B : Nat) (r f q : List Nat) (W : World) : Prop :=
  Blk W Bs 49 (relC r) ∧ Blk W B 49 (relC f) ∧ Blk W (B + 1) 49 (relC q) ∧ GoodO Bl n₀ W ∧ ¬ OwB Bl W Bs ∧ ¬ OwB Bl W B ∧ ¬ OwB Bl W (B + 1)
theorem RdK.below {Bl : List Nat} {n₀ Bs B : Nat} {r f q : List Nat} {W W' : World} (h : RdK Bl n₀ Bs B r f q W) (hb : Below W.heap.size W W') : RdK Bl n₀ Bs B r f q W' := by
  obtain ⟨h1, h2, h3, h4, h5, h6, h7⟩ := h
  have ho := owB_same (fun B hB => hb.block B (h4.1 B hB).2)
  exact ⟨h1.below hb, h2.below hb, h3.below hb, h4.below hb, fun e => h5 ((ho _).1 e), fun e => h6 ((ho _).1 e), fun e => h7 ((ho _).1 e)⟩
theorem RdK.kp {Bl : List Nat} {n₀ Bs B : Nat} {r f q : List Nat} {W W' : World} (h : RdK Bl n₀ Bs B r f q W) (hk : KpO Bl n₀ W W') : RdK Bl n₀ Bs B r f q W' := by
  obtain ⟨h1, h2, h3, h4, h5, h6, h7⟩ := h
  have a := hk.blk h4 h1 h5
  have b := hk.blk h4 h2 h6
  have c := hk.blk h4 h3 h7
  exact ⟨a.1, b.1, c.1, a.2.1, a.2.2, b.2.2, c.2.2⟩
theorem grown_row (W : World) (g : Nat) (c : Array Value) : W.grownBy (W.setRow g c) (some g) :=
  ⟨rfl, rfl, rfl, by rw [setRow_size]; exact Nat.le_refl _, fun k hk hne => setRow_other W g k c (fun e => hne (by rw [e]))⟩
theorem good_rowR {Bl : List Nat} {n₀ : Nat} {W : World} (h : GoodO Bl n₀ W) {g : Nat} (hg : ¬ OwB Bl W g) (c : Array Value) : GoodO Bl n₀ (W.setRow g c) ∧ ∀ k, OwB Bl (W.setRow g c) k ↔ OwB Bl W k := by
  have hs : ∀ B ∈ Bl, (W.setRow g c).heap[B]? = W.heap[B]? := fun B hB => setRow_other W g B c (fun e => hg ⟨B, hB, .inl e.symm⟩)
  have ho := owB_same hs
  refine ⟨⟨fun B hB => ?_, fun k hk => ?_⟩, ho⟩
  · rw [setRow_size]; exact h.1 B hB
  · rw [setRow_size]; exact h.2 k ((ho k).1 hk)
theorem RdK.setF {Bl : List Nat} {n₀ Bs B : Nat} {r f q : List Nat} {W : World} (h : RdK Bl n₀ Bs B r f q W) (hn : Bs ≠ B) (f' : List Nat) : RdK Bl n₀ Bs B r f' q (W.setRow B (relC f')) := by
  obtain ⟨h1, h2, h3, h4, h5, h6, h7⟩ := h
  obtain ⟨g1, g2⟩ := good_rowR h4 h6 (relC f')
  exact ⟨h1.rowFar hn _, h2.row _, h3.rowFar (by omega) _, g1, fun e => h5 ((g2 _).1 e), fun e => h6 ((g2 _).1 e), fun e => h7 ((g2 _).1 e)⟩
theorem RdK.setQ {Bl : List Nat} {n₀ Bs B : Nat} {r f q : List Nat} {W : World} (h : RdK Bl n₀ Bs B r f q W) (hn : Bs ≠ B + 1) (q' : List Nat) : RdK Bl n₀ Bs B r f q' (W.setRow (B + 1) (relC q')) := by
  obtain ⟨h1, h2, h3, h4, h5, h6, h7⟩ := h
  obtain ⟨g1, g2⟩ := good_rowR h4 h7 (relC q')
  exact ⟨h1.rowFar hn _, h2.rowFar (by omega) _, h3.row _, g1, fun e => h5 ((g2 _).1 e), fun e => h6 ((g2 _).1 e), fun e => h7 ((g2 _).1 e)⟩
theorem rounds_i (r : List Nat) (w : World) (hr : OkR r) :
    Calls Tryz.prog 24 #[.agg (relC r)] w fun e w' => e = .returned (.func (.func 52) #[] #[.pointer (some ⟨w.heap.size, 0, none⟩)]) ∧ Blk w' w.heap.size 49 (relC r) ∧ Below w.heap.size w w' := by
  go_enter Tryz.func24, Tryz.ntmps24
  go_wp2
  go_ret
  exact ⟨rfl, Blk.newAt rfl, bal (Below.refl _ _) _⟩
theorem below_none {W W' : World} (hb : Below W.heap.size W W') (r : Option Nat) : W.grownBy W' r := ⟨hb.os, hb.tape, hb.output, hb.size, fun k hk _ => hb.block k hk⟩
theorem StaysIn.below {β : Type} {lo hi : Nat} {J : β → World → Prop} (h : StaysIn lo hi J) {s : β} {W W' : World} (hs : J s W) (hb : Below W.heap.size W W') : J s W' :=
  h s W W' none hs (below_none hb none) (fun r e => by cases e)
theorem StaysIn.row {β : Type} {lo hi : Nat} {J : β → World → Prop} (h : StaysIn lo hi J) {s : β} {W : World} {g : Nat} (hs : J s W) (h1 : lo ≤ g) (h2 : g < hi) (c : Array Value) : J s (W.setRow g c) :=
  h s W _ (some g) hs (grown_row W g c) (fun r e => by injection e with e; omega)
theorem numR_step {d : Nat} {f q r : List Nat} {pre : List Rnd} {X : List (Nat × List Nat)} (hr : OkR r) (hI : RdInv f q) (hz : q ≠ zeroR) (hq : OkR q) (h : pre.map Subtype.val ++ numR d (restR r f q) = X) :
    (pre ++ [(⟨(d, q), hq⟩ : Rnd)]).map Subtype.val ++ numR (d + 1) (restR r (orR f q) (nandR (thenR q r) (orR f q))) = X := by
  rw [restR_step hr hI hz] at h
  simpa [numR] using h
theorem numR_lt {d : Nat} {f q r : List Nat} {pre : List Rnd} (hr : OkR r) (hI : RdInv f q) (hz : q ≠ zeroR) (h : pre.map Subtype.val ++ numR d (restR r f q) = numR 1 (rds r)) : pre.length < (rds r).length := by
  rw [restR_step hr hI hz] at h
  have := congrArg List.length h
  simp [numR, numR_len] at this
  omega
set_option maxRecDepth 100000 in
set_option maxHeartbeats 6400000 in
theorem rounds_own (Bs n₀ n : Nat) (r : List Nat) (w : World) (Bl : List Nat) (hBs : Blk w Bs 49 (relC r)) (hr : OkR r) (hgd : GoodO Bl n₀ w) (hno : ¬ OwB Bl w Bs) (h1 : 1 ≤ n) :
    SeqOwn 2 n Tryz.prog 52 #[.pointer (some ⟨Bs, 0, none⟩)] encR (KpO Bl n₀) (fun ys : List Rnd => ys.map Subtype.val = numR 1 (rds r)) (rds r).length w := by
  intro l J hJ hY h0
  have hBlt := hBs.lt
  have hJ0 := Lib.hid (hJ.row (hJ.alloc (.cells (relC zeroR) 49) (hJ.alloc (.cells (relC zeroR) 49) h0)) (g := w.heap.size + 1) (by omega) (by omega) (relC r))
  have hbb : Below w.heap.size w ((w.alloc (.cells (relC zeroR) 49)).alloc (.cells (relC zeroR) 49)) := bal (bal (Below.refl _ _) _) _
  have hg2 := hgd.below hbb
  have hno2 : ∀ k, w.heap.size ≤ k ∨ k = Bs → ¬ OwB Bl ((w.alloc (.cells (relC zeroR) 49)).alloc (.cells (relC zeroR) 49)) k := fun k hk e => by
    have := (owB_same (fun B hB => hbb.block B (hgd.1 B hB).2) k).1 e
    rcases hk with hk | rfl
    · have := (hgd.2 k this).2; omega
    · exact hno this
  obtain ⟨g3, g4⟩ := good_rowR hg2 (hno2 (w.heap.size + 1) (.inl (by omega))) (relC r)
  have hK0 : Hid (RdK Bl n₀ Bs w.heap.size r zeroR r (((w.alloc (.cells (relC zeroR) 49)).alloc (.cells (relC zeroR) 49)).setRow (w.heap.size + 1) (relC r))) :=
    ⟨((hBs.alloc _).alloc _).rowFar (by omega) _, ((Blk.newAt rfl).alloc _).rowFar (by omega) _, (Blk.newAt (cs := relC zeroR) (by simp)).row _, g3, fun e => hno2 _ (.inr rfl) ((g4 _).1 e), fun e => hno2 _ (.inl (Nat.le_refl _)) ((g4 _).1 e), fun e => hno2 _ (.inl (by omega)) ((g4 _).1 e)⟩
  have hem := fun (q : List Nat) (W : World) (hq : OkR q) => isEmpty_w q W hq
  clear g3 g4 hno2 hg2 hbb
  refine callsIn_of_wp Tryz.func52 rfl trivial ?_ rfl
  simp only [Tryz.ntmps52, List.size_toArray, List.length_cons, List.length_nil, Nat.reduceAdd, Nat.reduceSub, Array.replicate_succ, Array.replicate_zero, List.push_toArray, List.append_toArray, List.nil_append, List.cons_append]
  gi_wp2_with (first | refine wpListIn_load_row rfl 49 _ rfl Bs rfl 49 (relC r) (0, 0) _ (hBs.alloc _) underR rfl (sizeR hr) ?_ | refine wpListIn_store_row rfl 49 _ _ rfl (w.heap.size + 1) (relC r) rfl rfl 49 (relC zeroR) (show Blk _ (w.heap.size + 1) 49 (relC zeroR) from Blk.newAt (by simp)) (sizeR hr) (by rw [relC_size, relC_size, hr.len]; rfl) (relC_one _) ?_)
  clear hBs hgd hno h0
  gi_loopw [5] (fun dv wr => ∃ (d : Nat) (f q : List Nat) (pre : List Rnd), dv = .int .i64 d ∧ RdInv f q ∧ Hid (pre.map Subtype.val ++ numR d (restR r f q) = numR 1 (rds r)) ∧ 1 ≤ d ∧ d ≤ szR f + 1 ∧ J pre wr ∧ RdK Bl n₀ Bs w.heap.size r f q wr) (fun dv _ => 402 - (intOf dv).toNat)
  case atStart => exact ⟨1, zeroR, r, [], rfl, RdInv.start hr, rfl, Nat.le_refl _, by omega, hJ0.out, hK0.out⟩
  case round =>
    obtain ⟨d, f, q, pre, rfl, hI, hpre, hd1, hd2, hJs, hK⟩ := hrel
    have hqo : OkR q := hI.okl
    have hfo : OkR f := hI.okf
    have hQ := hK.2.2.1
    have HP := Lib.hid hpre.out
    clear hpre
    by_cases hz : q = zeroR
    · have hem1 := hem q wr hqo
      rw [decide_eq_true hz] at hem1
      have HX := Lib.hid hz
      have HJ := Lib.hid hJs
      clear hz hJs hK
      gi_wp2_with (first | refine wpListIn_load_row rfl 49 _ rfl (w.heap.size + 1) rfl 49 (relC q) (0, 0) _ hQ underR rfl (sizeR hqo) ?_ | (refine ⟨trivial, ?_⟩; gi_at_call 53; refine (callsIn_wide.2 hem1).mono ?_; rintro e w2 ⟨rfl, hb2⟩; have HJ2 := Lib.hid (hJ.below HJ.out hb2); clear hb2 hQ hem1))
      go_end0
      refine ⟨⟨_, rfl⟩, pre, ?_, HJ2.out⟩
      have := HP.out
      rw [HX.out, restR_end] at this
      simpa [numR] using this
    · have hem1 := hem q wr hqo
      rw [decide_eq_false hz] at hem1
      have HI := Lib.hid hI
      have HX := Lib.hid hz
      have HJ := Lib.hid hJs
      have HK := Lib.hid hK
      have HL := Lib.hid (numR_lt hr hI hz HP.out)
      have hto : OkR (thenR q r) := thenR_ok hqo hr
      have hgo : OkR (orR f q) := orR_ok hfo hqo
      have hno2 : OkR (nandR (thenR q r) (orR f q)) := nandR_ok hto hgo
      have hdd : d ≤ 401 := by have := hI.sz hz; omega
      clear hz hJs hK hI
      gi_wp2_with (first | refine wpListIn_load_row rfl 49 _ rfl (w.heap.size + 1) rfl 49 (relC q) (0, 0) _ hQ underR rfl (sizeR hqo) ?_ | refine wpListIn_load_row rfl 49 _ rfl (w.heap.size + 1) rfl 49 (relC q) (0, 0) _ hQ2 underR rfl (sizeR hqo) ?_ | (refine ⟨trivial, ?_⟩; gi_at_call 53; refine (callsIn_wide.2 hem1).mono ?_; rintro e w2 ⟨rfl, hb2⟩; have hJ2 := hJ.below HJ.out hb2; have hK2 := HK.out.below hb2; have hQ2 := hK2.2.2.1; obtain ⟨fn, tmps, assign, body, hy, hR⟩ := hY pre ⟨(d, q), hqo⟩ w2 hJ2 HL.out (by have := hQ2.lt; omega); have HK2 := Lib.hid hK2; clear hb2 hJ2 hK2 hQ hem1) | (refine hR.mono ?_; rintro e w3 ⟨rfl, hJ3, hk3⟩; have HJ3 := Lib.hid hJ3; have hK3 := HK2.out.kp hk3; have hF3 := hK3.2.1; have hQ3 := hK3.2.2.1; have HK3 := Lib.hid hK3; clear hJ3 hk3 hK3 hR HK2) | refine wpListIn_load_row rfl 49 _ rfl w.heap.size rfl 49 (relC f) (0, 0) _ hF3 underR rfl (sizeR hfo) ?_ | refine wpListIn_load_row rfl 49 _ rfl (w.heap.size + 1) rfl 49 (relC q) (0, 0) _ hQ3 underR rfl (sizeR hqo) ?_ | (refine ⟨trivial, ?_⟩; gi_at_call 54; refine (callsIn_wide.2 (union_w f q _ hfo hqo)).mono ?_; rintro e w4 ⟨rfl, hb4⟩; have HJ4 := Lib.hid (hJ.below HJ3.out hb4); have hK4 := HK3.out.below hb4; have hF4 := hK4.2.1; have HK4 := Lib.hid hK4; clear hb4 hK4 hF3 hQ3) | refine wpListIn_store_row rfl 49 _ _ rfl w.heap.size (relC (orR f q)) rfl rfl 49 (relC f) hF4 (sizeR hgo) (by rw [relC_size, relC_size, hfo.len, hgo.len]) (relC_one _) ?_)
      have hJ5 := hJ.row HJ4.out (g := w.heap.size) (Nat.le_refl _) (by omega) (relC (orR f q))
      have hK5 := HK4.out.setF (by omega) (orR f q)
      clear hF4 HJ4 HK4 HJ3 HK3 HJ HK hQ2 hy
      generalize w4.setRow w.heap.size (relC (orR f q)) = w5 at *
      have hS5 := hK5.1
      have hF5 := hK5.2.1
      have hQ5 := hK5.2.2.1
      have HJ5 := Lib.hid hJ5
      have HK5 := Lib.hid hK5
      clear hJ5 hK5
      refine wpIn_wide.2 ?_
      refine wp_region_facts [[], [], [0, 1], [], List.range 4]
        [fun v' _ => v' = .agg (relC (q)), fun v' _ => v' = .agg (relC (r)), fun v' _ => v' = .agg (relC (thenR q r)), fun v' _ => v' = .agg (relC (orR f q)), fun v' _ => v' = .agg (relC (nandR (thenR q r) (orR f q)))]
        (by kernel_rfl) (by kernel_rfl) rfl ⟨stable_pure _, stable_pure _, stable_pure _, stable_pure _, stable_pure _, trivial⟩ ?_
      refine wf_stepK [] [] (by kernel_rfl) (by kernel_rfl) (fun wf hb hf => ?_) (fun t0 => ?_)
      · refine ⟨?_⟩
        go_wp2_with (refine wpList_load_row rfl 49 _ rfl (w.heap.size + 1) rfl 49 (relC (q)) (0, 0) _ (hQ5.below hb) underR rfl (sizeR hqo) ?_)
        exact ⟨rfl, _, by kernel_rfl, Below.refl _ _, rfl⟩
      refine wf_stepK [] [] (by kernel_rfl) (by kernel_rfl) (fun wf hb hf => ?_) (fun t1 => ?_)
      · refine ⟨?_⟩
        go_wp2_with (refine wpList_load_row rfl 49 _ rfl Bs rfl 49 (relC (r)) (0, 0) _ (hS5.below hb) underR rfl (sizeR hr) ?_)
        exact ⟨rfl, _, by kernel_rfl, Below.refl _ _, rfl⟩
      refine wf_stepK [0, 1] [fun _ => t0 = .agg (relC (q)), fun _ => t1 = .agg (relC (r))] (by kernel_rfl) (by kernel_rfl) (fun wf hb hf => ?_) (fun t2 => ?_)
      · obtain ⟨rfl, rfl, -⟩ := hf
        refine ⟨?_⟩
        go_wp2_with (go_at_call 55; refine (then_w _ _ _ hqo hr).mono ?_; rintro e w2 ⟨rfl, hb2⟩)
        exact ⟨rfl, _, by kernel_rfl, hb2, rfl⟩
      refine wf_stepK [] [] (by kernel_rfl) (by kernel_rfl) (fun wf hb hf => ?_) (fun t3 => ?_)
      · refine ⟨?_⟩
        go_wp2_with (refine wpList_load_row rfl 49 _ rfl w.heap.size rfl 49 (relC (orR f q)) (0, 0) _ (hF5.below hb) underR rfl (sizeR hgo) ?_)
        exact ⟨rfl, _, by kernel_rfl, Below.refl _ _, rfl⟩
      refine wf_stepK [2, 3] [fun _ => t2 = .agg (relC (thenR q r)), fun _ => t3 = .agg (relC (orR f q))] (by kernel_rfl) (by kernel_rfl) (fun wf hb hf => ?_) (fun t4 => ?_)
      · obtain ⟨rfl, rfl, -⟩ := hf
        refine ⟨?_⟩
        go_wp2_with (go_at_call 56; refine (without_w _ _ _ hto hgo).mono ?_; rintro e w2 ⟨rfl, hb2⟩)
        exact ⟨rfl, _, by kernel_rfl, hb2, rfl⟩
      refine wf_doneK [4] [fun _ => t4 = .agg (relC (nandR (thenR q r) (orR f q)))] (by kernel_rfl) (by kernel_rfl) (fun w7 b7 hf => ?_)
      obtain ⟨rfl, -⟩ := hf
      show wpList _ _ _ [_] _ _
      refine wpList_frame (by simp [Act.put]; rfl) ?_
      have hK7 := HK5.out.below b7
      have HJ7 := Lib.hid (hJ.row (hJ.below HJ5.out b7) (g := w.heap.size + 1) (by omega) (by omega) (relC (nandR (thenR q r) (orR f q))))
      have HK8 := Lib.hid (hK7.setQ (by omega) (nandR (thenR q r) (orR f q)))
      refine wpList_store_row rfl 49 _ _ rfl (w.heap.size + 1) (relC (nandR (thenR q r) (orR f q))) rfl rfl 49 (relC q) hK7.2.2.1 (sizeR hno2) (by rw [relC_size, relC_size, hqo.len, hno2.len]) (relC_one _) ?_
      clear hS5 hF5 hQ5 hK7 b7 HJ5 HK5
      rw [wpList]
      gi_wp2
      go_roundw
      case rel => exact ⟨d + 1, orR f q, nandR (thenR q r) (orR f q), pre ++ [⟨(d, q), hqo⟩], by simp, HI.out.next hr, Lib.hid (numR_step hr HI.out HX.out hqo HP.out), by omega, by have := (HI.out.sz HX.out).1; omega, HJ7.out, HK8.out⟩
      case measure => simp [intOf]; omega
end Go.Proofs.YtifjenleoagefaaGreat
