/- HELPER, no statement of the seat: the minimal times of what an iterator yields (minimalOf). -/
import Derived.Test.YtkonhjdfcfljpaaFrL
import Derived.Test.YtkonhjdfcfljpaaRfn
namespace Go.Proofs.Ytkonhjdfcfljpaa
open Go.RowKit Go.Sort Go.Shelf
set_option linter.unusedSimpArgs false
set_option linter.unusedVariables false
attribute [local go_sem] Oper.semAt_some

abbrev encT (t : Tm) : Array Value := #[.agg #[.int .i64 t.1, .int .i64 t.2]]
theorem minT_snoc (l : List Tm) (t : Tm) : minT (l ++ [t]) = insT (minT l) t := by simp [minT]
set_option maxRecDepth 100000 in
set_option maxHeartbeats 4000000 in
theorem minimalOf_i (gf : Nat) (lb : Array Value) (ts : List Tm) (w : World) (eg : ∀ args w, (callFunc gf args).run Try.prog w = .ok (.enter gf args) w)
    (hseq : ∀ w0, Below w.heap.size w w0 → GoodO [w.heap.size] w.heap.size w0 → ∀ n, 1 ≤ n → SeqStopsK Fence.wide n Try.prog gf lb encT (KpO [w.heap.size] w.heap.size) (fun ys => ys = ts) (fun _ => True) ts.length w0) (hn : ts.length ≤ 4180000) :
    Calls Try.prog 94 #[.func (.func gf) #[] lb] w fun e w' => ∃ A c, e = .returned (.slice A (minT ts).length c) ∧ TmOwn w' w.heap.size A c (minT ts) ∧ Below w.heap.size w w' := by
  refine (callsIn_wide (n := 9)).1 ?_
  refine callsIn_of_wp_marks Try.func94 rfl trivial ?_ rfl
  simp only [Try.ntmps94, List.size_toArray, List.length_cons, List.length_nil, Nat.reduceAdd, Nat.reduceSub, Array.replicate_succ, Array.replicate_zero, List.push_toArray, List.append_toArray, List.nil_append, List.cons_append]
  gi_wp2
  have bM : Blk (w.alloc (.cells #[.slice none 0 0] 106)) w.heap.size 106 #[.slice none 0 0] := Blk.newAt rfl
  have hB0 : Below w.heap.size w (w.alloc (.cells #[.slice none 0 0] 106)) := bal (Below.refl _ _) _
  have hG0 : GoodO [w.heap.size] w.heap.size (w.alloc (.cells #[.slice none 0 0] 106)) := by
    refine ⟨fun B hB => by simp at hB; subst hB; simp, fun k hk => ?_⟩
    obtain ⟨B, hB, rfl | ⟨n, c, T, hr⟩⟩ := hk
    · simp at hB; subst hB; simp
    · simp only [List.mem_singleton] at hB
      subst hB
      unfold Blk at bM
      rw [bM] at hr
      cases hr
  refine wpIn_rangeFunc_ownH rfl (by omega) (gf := gf) (lb := lb) rfl trivial eg
    (hseq _ hB0 hG0 (9 - 1) (by omega)) kpO_t (kpO_b (by simp) (by simp)) (Below.refl _ _) (fun _ => rfl)
    (fun pre W => (∃ v, Boxed W w.heap.size 106 v ∧ W.ownsRow w.heap.size 52 2 v (minT pre).length (timeL (minT pre)) ∧ (∃ A c, v = .slice A (minT pre).length c)) ∧ Below w.heap.size w W)
    (fun _ _ _ => False)
    (OwnFrom.and (Own.from (holdsRow_own w.heap.size w.heap.size 106 52 2 (fun pre => (minT pre).length) (fun pre => timeL (minT pre)) (fun pre v => ∃ A c, v = .slice A (minT pre).length c)) _) (ownFrom_below (Nat.le_refl _) (by simp)))
    (fun _ _ _ _ _ hs _ _ => hs)
    ⟨⟨_, bM, World.ownsRow_nil _ _ _ _, none, 0, rfl⟩, hB0⟩
    (fun x a' W => ∃ Bx, w.heap.size < Bx ∧ Blk W Bx 52 #[.int .i64 x.1, .int .i64 x.2] ∧ a' = { tmps := #[.func (.func gf) #[] lb, undef, .slice none 0 0, .pointer (some ⟨w.heap.size, 0, none⟩), .pointer (some ⟨Bx, 0, none⟩), .func (.func gf) #[] lb, .agg #[.int .i64 x.1, .int .i64 x.2], undef, undef, undef], defers := [] })
    (fun x a' _ X Y row hs hg hr => by
      obtain ⟨Bx, h1, h2, h3⟩ := hs
      refine ⟨Bx, h1, (hg.block Bx h2.lt (fun e => ?_)).trans h2, h3⟩
      obtain ⟨_, o, ho, hc⟩ := hr Bx e.symm
      rw [blk_cells h2 o ho] at hc; cases hc)
    ?assign ?body ?done ?stop
  case assign =>
    rintro l pre x W K ⟨⟨v, bv, hr, hv⟩, hB⟩ hK
    gi_wp2
    exact hK _ _ ((KeepsOthers.alloc _ _).from _) (kpO_below hB.size (bal (Below.refl _ _) _)) ⟨⟨v, bv.alloc _, hr.alloc _, hv⟩, hB.alloc hB.size _⟩ ⟨W.heap.size, bv.lt, Blk.newAt rfl, rfl⟩
  case body =>
    rintro l pre x a' W hl - ⟨⟨v, bv, hr, A, c, rfl⟩, hB⟩ ⟨Bx, hBx, kX, rfl⟩ hlt
    have cX0 := kX.cell 0
    have cX1 := kX.cell 1
    simp at cX0 cX1
    have hml := minT_len pre
    have hMB : Blk W w.heap.size 106 #[.slice A (minT pre).length c] := bv
    have hTM : TmOwn W w.heap.size A c (minT pre) := hr
    have hcon := insert_i w.heap.size w.heap.size A c (minT pre) x.1 x.2 W hMB hTM (by omega) hB.size
    have hcell := row_cells hTM
    have hcb := blk_cells hMB
    have hAlt := hTM.lt
    have HN := Lib.hid (minT_snoc pre x)
    have HRW : Hid (∀ k, blk A = some k → RowOf W w.heap.size k) := fun k hk => by
      rcases ownsRow_form hTM with ⟨rfl, _, _⟩ | ⟨g, rfl, _, _, _, _⟩
      · cases hk
      · have : g = k := by simpa [blk] using hk
        subst this
        exact ⟨_, _, _, hMB⟩
    have HCC := Lib.hid hcell
    have HCB := Lib.hid hcb
    have HAL := Lib.hid hAlt
    clear hMB hTM hr bv hcell hcb hAlt
    gi_wp2_with (refine ⟨trivial, ?_⟩; gi_at_call 133; refine (CallsIn.inRound l (callsIn_wide.2 hcon)).mono ?_; rintro e w2 ⟨rfl, A', c', hb2, ho2, hg2, hn2⟩)
    have hb := below_grown hg2 hB.size (fun k hk => by
      rcases hk with rfl | hk
      · exact Nat.le_refl _
      · exact (HAL.out k hk).1)
    have hlt2 := ho2.lt
    have hrow2 : ∀ k, OwB [w.heap.size] w2 k → k = w.heap.size ∨ blk A' = some k := by
      rintro k ⟨B, hB, rfl | ⟨n, c2, T, hr⟩⟩
      · simp at hB; exact .inl hB
      · simp only [List.mem_singleton] at hB
        subst hB
        have hb3 := hb2
        unfold Blk at hb3
        rw [hb3] at hr
        injection hr with hr
        injection hr with hr _ _
        have hr2 := congrArg (fun a : Array Value => a[0]?) hr
        simp at hr2
        exact .inr (by rw [hr2.1]; rfl)
    have hkp : KpO [w.heap.size] w.heap.size W w2 := by
      refine kpO_grown hg2 hB.size (fun k hk => ?_) (fun k hk hlt => ?_) (fun hg => ⟨fun B hB => ⟨(hg.1 B hB).1, Nat.lt_of_lt_of_le (hg.1 B hB).2 hg2.size⟩, fun k hk => ?_⟩)
      · rcases hk with rfl | hk
        · exact ⟨Nat.le_refl _, fun _ => ⟨_, List.mem_singleton.2 rfl, .inl rfl⟩⟩
        · exact ⟨(HAL.out k hk).1, fun _ => ⟨_, List.mem_singleton.2 rfl, .inr (HRW.out k hk)⟩⟩
      · rcases hrow2 k hk with rfl | hk
        · exact ⟨_, List.mem_singleton.2 rfl, .inl rfl⟩
        · rcases hn2 k hk with h | h
          · exact ⟨_, List.mem_singleton.2 rfl, .inr (HRW.out k h)⟩
          · omega
      · rcases hrow2 k hk with rfl | hk
        · exact ⟨Nat.le_refl _, hb2.lt⟩
        · exact hlt2 k hk
    refine ⟨keepsFrom_grown hg2 (fun k o hk ho => ?_), hkp, ⟨.slice A' (insT (minT pre) x).length c', hb2, ?_, A', c', ?_⟩, hB.trans hb⟩
    · rcases hk with rfl | hk
      · exact HCB.out o ho
      · exact HCC.out k o hk ho
    · simp only [HN.out]; exact ho2
    · simp only [HN.out]
  case done =>
    rintro D ys W hD rfl ⟨⟨v, bv, hr, A, c, rfl⟩, hB⟩ hK
    have cM := bv.cell
    gi_wp2
    refine ⟨by simp, .inl ⟨_, _, rfl, run_takeDeferred hK, ?_⟩⟩
    exact ⟨_, results_tmp rfl _ _ _, A, c, rfl, ownsRow_putObj hr _ hK rfl, hB.trans (belowK_b (w := w) (Nat.le_refl _) W D _ _ (by simp at hD; omega) hK rfl rfl)⟩
  case stop =>
    rintro D c pre W _ _ h _
    exact h.elim
end Go.Proofs.Ytkonhjdfcfljpaa
