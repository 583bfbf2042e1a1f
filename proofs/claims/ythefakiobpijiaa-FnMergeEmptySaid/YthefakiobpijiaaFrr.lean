/- HELPER, no statement of the seat: several texts in one file. -/
import Derived.Test.YthefakiobpijiaaFro
import Derived.Test.YthefakiobpijiaaFrq
import Derived.Test.YthefakiobpijiaaFrt
import Derived.Test.YthefakiobpijiaaZba
/- HELPER, no statement of the seat: MinimalTimes of both sides. -/
namespace Go.Proofs.Ythefakiobpijiaa
open Go.RowKit Go.Sort
set_option linter.unusedSimpArgs false
set_option linter.unusedVariables false

def allVt (l : List Tm) : Bool := l.all fun e => vtB e.1 e.2
def MinF (l : List Tm) : List Tm := if l.length ≤ 400 ∧ allVt l = true then minT l else []
theorem allVt_mem {l : List Tm} (h : allVt l = true) : ∀ e ∈ l, vtB e.1 e.2 = true := fun e he => List.all_eq_true.1 h e he
theorem allVt_no {l : List Tm} {k : Nat} (h : k < l.length) (e : vtB l[k].1 l[k].2 = false) : allVt l = false := by
  cases ha : allVt l
  · rfl
  · rw [allVt_mem ha _ (List.getElem_mem h)] at e; cases e
theorem allVt_yes {l : List Tm} (h : ∀ j (hj : j < l.length), vtB l[j].1 l[j].2 = true) : allVt l = true := List.all_eq_true.2 (fun e he => by
  obtain ⟨i, hi, rfl⟩ := List.getElem_of_mem he
  exact h i hi)
theorem MinF_len (l : List Tm) : (MinF l).length ≤ 100 := by
  unfold MinF
  split
  · rename_i h; exact minT_100 (allVt_mem h.2)
  · simp
end Go.Proofs.Ythefakiobpijiaa

/- HELPER, no statement of the seat: FrontierJoin and FrontierMeet of both sides. -/
namespace Go.Proofs.Ythefakiobpijiaa
open Go.RowKit Go.Sort
set_option linter.unusedSimpArgs false
set_option linter.unusedVariables false

/-- v is a new slice of this time. -/
def NewT (base : Nat) (t : Tm) (v : Value) (w : World) : Prop := ∃ V, v = .slice (some ⟨V, 0, none⟩) 1 1 ∧ base ≤ V ∧ Blk w V 117 #[.int .i64 t.1, .int .i64 t.2]
theorem stable_newT (base : Nat) (t : Tm) : Stable (NewT base t) := fun _ _ _ hb ⟨V, e, h, k⟩ => ⟨V, e, h, k.below hb⟩
theorem joinsTo_le (f g : List Tm) (i k : Nat) (hi : i ≤ f.length) (hk : k ≤ g.length) (h : k = 0 ∨ i < f.length) : (joinsTo f g i k).length ≤ f.length * g.length := by
  unfold joinsTo
  rw [List.length_append, joinsT_len, List.length_map, List.length_take, List.length_take, Nat.min_eq_left hi, Nat.min_eq_left hk]
  rcases h with rfl | h
  · have := Nat.mul_le_mul_right g.length hi; omega
  · have h1 : (i + 1) * g.length ≤ f.length * g.length := Nat.mul_le_mul_right _ (by omega)
    rw [Nat.add_mul, Nat.one_mul] at h1
    omega
theorem blk_src {w : World} {V : Nat} {E : TypeId} {x y : Int} (hV : Blk w V E #[.int .i64 x, .int .i64 y]) : ∀ a, some (⟨V, 0, none⟩ : Addr) = some a → ∀ j u, [Value.int .i64 x, .int .i64 y][j]? = some u → w.cell? (a.add j) = some u := by
  intro a e j u hu
  injection e with e
  subst e
  have h0 := hV.cell 0
  have h1 := hV.cell 1
  simp at h0 h1
  match j, hu with
  | 0, hu => simp at hu; subst hu; simpa [Addr.add] using h0
  | 1, hu => simp at hu; subst hu; simpa [Addr.add] using h1
set_option maxRecDepth 100000 in
set_option maxHeartbeats 6400000 in
theorem joins_s (A B : Option Addr) (c d : Nat) (f g : List Tm) (w : World) (hf : TimesAt w A f) (hg : TimesAt w B g) (hn : f.length ≤ 1000) (hm : g.length ≤ 1000) :
    Calls Try.prog 96 #[.slice A f.length c, .slice B g.length d] w fun e w' => ∃ A' c', e = .returned (.slice A' (joinsT f g).length c') ∧ TmOwn w' w.heap.size A' c' (joinsT f g) ∧ Below w.heap.size w w' := by
  obtain ⟨i0, hi, hz0, hz1, hz2⟩ := info_parts Try.infoTime
  have HL := Lib.hid (TmOwn.lit w)
  have hfg : f.length * g.length ≤ 1000000 := Nat.mul_le_mul hn hm
  go_enter Try.func96, Try.ntmps96
  go_wp2
  go_loopw [5, 6, 7] (fun o i _ wr => ∃ (k : Nat) (A' : Option Addr) (c' : Nat), k ≤ f.length ∧ i = .int .i64 k ∧ o = .slice A' (joinsTo f g k 0).length c' ∧ TmOwn wr w.heap.size A' c' (joinsTo f g k 0) ∧ Below w.heap.size w wr) (fun _ i _ _ => f.length - (intOf i).toNat)
  case atStart => exact ⟨0, _, 0, by omega, rfl, rfl, HL.out, bal (Below.refl _ _) _⟩
  case round =>
    obtain ⟨i, A', c', hk, rfl, rfl, ho, hbel⟩ := hrel
    clear HL
    by_cases hlt : i < f.length
    · obtain ⟨fb, fo, rfl, hfb0, hc⟩ := hf (by omega)
      have hcf := hc i hlt
      change _ = some (Value.int .i64 (tg f i).1) ∧ _ = some (Value.int .i64 (tg f i).2) at hcf
      have HN := Lib.hid (joinsTo_next f g i hlt)
      have HO := Lib.hid ho
      clear hc ho
      go_wp2
      obtain ⟨V, rfl⟩ : ∃ V : World, V = wr := ⟨_, rfl⟩
      go_loopw [5, 7] (fun o jv wr => ∃ (j : Nat) (A' : Option Addr) (c' : Nat), j ≤ g.length ∧ jv = .int .i64 j ∧ o = .slice A' (joinsTo f g i j).length c' ∧ TmOwn wr w.heap.size A' c' (joinsTo f g i j) ∧ Below w.heap.size w wr) (fun _ j _ => g.length - (intOf j).toNat)
      case atStart => exact ⟨0, A', c', by omega, rfl, rfl, HO.out, hbel⟩
      case round =>
        obtain ⟨j, A', c', hj, rfl, rfl, ho, hbel⟩ := hrel
        by_cases hlj : j < g.length
        · obtain ⟨gb, go, rfl, hgb0, hc⟩ := hg (by omega)
          have hcg := hc j hlj
          change _ = some (Value.int .i64 (tg g j).1) ∧ _ = some (Value.int .i64 (tg g j).2) at hcg
          have q1 := (hbel.cell (p := ⟨fb, fo + i * 2, none⟩) hfb0).trans hcf.1
          have q2 := (hbel.cell (p := ⟨fb, fo + i * 2 + 1, none⟩) hfb0).trans hcf.2
          have q3 := (hbel.cell (p := ⟨gb, go + j * 2, none⟩) hgb0).trans hcg.1
          have q4 := (hbel.cell (p := ⟨gb, go + j * 2 + 1, none⟩) hgb0).trans hcg.2
          have hfb : fb < wr.heap.size := Nat.lt_of_lt_of_le hfb0 hbel.size
          have hgb : gb < wr.heap.size := Nat.lt_of_lt_of_le hgb0 hbel.size
          have hii : (i : Int) < f.length := by omega
          have hjj : (j : Int) < g.length := by omega
          have HS := Lib.hid (joinsTo_step f g i j hlj)
          have hln := joinsTo_le f g i j hk hj (.inr hlt)
          have HCF := Lib.hid hcf
          clear hc hcg hcf
          go_wp2_with fail
          refine wp_region_facts [[], [], [], [1, 2], [1, 2, 3], [], [], [5, 6], [5, 6, 7], [1, 2, 3, 4, 5, 6, 7, 8], [1, 2, 3, 4, 5, 6, 7, 8, 9]]
            [fun v' _ => v' = .slice A' (joinsTo f g i j).length c', fun v' _ => v' = .slice (some ⟨fb, fo, none⟩) f.length c, fun v' _ => v' = .int .i64 ((i : Nat)), fun v' _ => v' = .pointer (some ⟨fb, fo + i * 2, none⟩), fun v' _ => v' = .agg #[.int .i64 (tg f i).1, .int .i64 (tg f i).2], fun v' _ => v' = .slice (some ⟨gb, go, none⟩) g.length d, fun v' _ => v' = .int .i64 ((j : Nat)), fun v' _ => v' = .pointer (some ⟨gb, go + j * 2, none⟩), fun v' _ => v' = .agg #[.int .i64 (tg g j).1, .int .i64 (tg g j).2], fun v' _ => v' = .agg #[.int .i64 (max (tg f i).1 (tg g j).1), .int .i64 (max (tg f i).2 (tg g j).2)], NewT wr.heap.size (joinT (tg f i) (tg g j))]
            (by kernel_rfl) (by kernel_rfl) rfl ⟨stable_pure _, stable_pure _, stable_pure _, stable_pure _, stable_pure _, stable_pure _, stable_pure _, stable_pure _, stable_pure _, stable_pure _, stable_newT _ _, trivial⟩ ?_
          refine wf_stepK [] [] (by kernel_rfl) (by kernel_rfl) (fun wf hb hf => ?_) (fun t0 => ?_)
          · refine ⟨?_⟩
            go_wp2
            exact ⟨rfl, .slice A' (joinsTo f g i j).length c', by kernel_rfl, Below.refl _ _, rfl⟩
          refine wf_stepK [] [] (by kernel_rfl) (by kernel_rfl) (fun wf hb hf => ?_) (fun t1 => ?_)
          · refine ⟨?_⟩
            go_wp2
            exact ⟨rfl, .slice (some ⟨fb, fo, none⟩) f.length c, by kernel_rfl, Below.refl _ _, rfl⟩
          refine wf_stepK [] [] (by kernel_rfl) (by kernel_rfl) (fun wf hb hf => ?_) (fun t2 => ?_)
          · refine ⟨?_⟩
            go_wp2
            exact ⟨rfl, .int .i64 ((i : Nat)), by kernel_rfl, Below.refl _ _, rfl⟩
          refine wf_stepK [1, 2] [fun _ => t1 = .slice (some ⟨fb, fo, none⟩) f.length c, fun _ => t2 = .int .i64 ((i : Nat))] (by kernel_rfl) (by kernel_rfl) (fun wf hb hf => ?_) (fun t3 => ?_)
          · obtain ⟨rfl, rfl, -⟩ := hf
            refine ⟨?_⟩
            go_wp2
            exact ⟨rfl, .pointer (some ⟨fb, fo + i * 2, none⟩), by kernel_rfl, Below.refl _ _, rfl⟩
          refine wf_stepK [3] [fun _ => t3 = .pointer (some ⟨fb, fo + i * 2, none⟩)] (by kernel_rfl) (by kernel_rfl) (fun wf hb hf => ?_) (fun t4 => ?_)
          · obtain ⟨rfl, -⟩ := hf
            refine ⟨?_⟩
            have p0 := (hb.cell (p := ⟨fb, fo + i * 2, none⟩) hfb).trans q1
            have p1 := (hb.cell (p := ⟨fb, fo + i * 2 + 1, none⟩) hfb).trans q2
            go_wp2
            exact ⟨rfl, .agg #[.int .i64 (tg f i).1, .int .i64 (tg f i).2], by kernel_rfl, Below.refl _ _, rfl⟩
          refine wf_stepK [] [] (by kernel_rfl) (by kernel_rfl) (fun wf hb hf => ?_) (fun t5 => ?_)
          · refine ⟨?_⟩
            go_wp2
            exact ⟨rfl, .slice (some ⟨gb, go, none⟩) g.length d, by kernel_rfl, Below.refl _ _, rfl⟩
          refine wf_stepK [] [] (by kernel_rfl) (by kernel_rfl) (fun wf hb hf => ?_) (fun t6 => ?_)
          · refine ⟨?_⟩
            go_wp2
            exact ⟨rfl, .int .i64 ((j : Nat)), by kernel_rfl, Below.refl _ _, rfl⟩
          refine wf_stepK [5, 6] [fun _ => t5 = .slice (some ⟨gb, go, none⟩) g.length d, fun _ => t6 = .int .i64 ((j : Nat))] (by kernel_rfl) (by kernel_rfl) (fun wf hb hf => ?_) (fun t7 => ?_)
          · obtain ⟨rfl, rfl, -⟩ := hf
            refine ⟨?_⟩
            go_wp2
            exact ⟨rfl, .pointer (some ⟨gb, go + j * 2, none⟩), by kernel_rfl, Below.refl _ _, rfl⟩
          refine wf_stepK [7] [fun _ => t7 = .pointer (some ⟨gb, go + j * 2, none⟩)] (by kernel_rfl) (by kernel_rfl) (fun wf hb hf => ?_) (fun t8 => ?_)
          · obtain ⟨rfl, -⟩ := hf
            refine ⟨?_⟩
            have p0 := (hb.cell (p := ⟨gb, go + j * 2, none⟩) hgb).trans q3
            have p1 := (hb.cell (p := ⟨gb, go + j * 2 + 1, none⟩) hgb).trans q4
            go_wp2
            exact ⟨rfl, .agg #[.int .i64 (tg g j).1, .int .i64 (tg g j).2], by kernel_rfl, Below.refl _ _, rfl⟩
          refine wf_stepK [4, 8] [fun _ => t4 = .agg #[.int .i64 (tg f i).1, .int .i64 (tg f i).2], fun _ => t8 = .agg #[.int .i64 (tg g j).1, .int .i64 (tg g j).2]] (by kernel_rfl) (by kernel_rfl) (fun wf hb hf => ?_) (fun t9 => ?_)
          · obtain ⟨rfl, rfl, -⟩ := hf
            refine ⟨?_⟩
            go_wp2_with (go_at_call 155; refine (timeJoin_s _ _ _ _ _).mono ?_; rintro e w2 ⟨rfl, hb2⟩)
            exact ⟨rfl, _, by kernel_rfl, hb2, rfl⟩
          refine wf_stepK [9] [fun _ => t9 = .agg #[.int .i64 (max (tg f i).1 (tg g j).1), .int .i64 (max (tg f i).2 (tg g j).2)]] (by kernel_rfl) (by kernel_rfl) (fun wf hb hf => ?_) (fun t10 => ?_)
          · obtain ⟨rfl, -⟩ := hf
            refine ⟨?_⟩
            go_wp2
            exact ⟨rfl, .slice (some ⟨wf.heap.size, 0, none⟩) 1 1, by kernel_rfl, bal (Below.refl _ _) _, _, rfl, hb.size, Blk.newAt rfl⟩
          refine wf_doneK [0, 10] [fun _ => t0 = .slice A' (joinsTo f g i j).length c', NewT wr.heap.size (joinT (tg f i) (tg g j)) t10] (by kernel_rfl) (by kernel_rfl) (fun w5 b5 hf => ?_)
          obtain ⟨rfl, ⟨NV, rfl, hNV, kNV⟩, -⟩ := hf
          show wpList _ _ _ [_, _] _ _
          refine wpList_frame (by simp [Act.put]; rfl) ?_
          have ho5 := ho.below b5
          have hbs := blk_src kNV
          have hb5 := btr hbel b5
          have hs5 := hb5.size
          clear ho hbel
          go_wp2_with (at_builtin; refine wpList_append_src _ rfl _ _ 23 rfl w.heap.size 117 i0 (.agg #[.int .i64 0, .int .i64 0]) 2 16 Try.underlying23 hi hz0 hz1 hz2 rfl (by decide) _ _ _ rfl ho5 (some ⟨NV, 0, none⟩) 1 1 [.int .i64 (joinT (tg f i) (tg g j)).1, .int .i64 (joinT (tg f i) (tg g j)).2] rfl rfl (fun e => by cases e) hbs (tm_ones _ _) (by unfold maxLen; omega) (by omega) hs5 ?_)
          intro v' w6 hown' hgrow _
          obtain ⟨A6, c6, hv, ho6⟩ := TmOwn.push hown'
          subst hv
          have hb6 : Below w.heap.size w w6 := hb5.grown hgrow hs5 (fun k hk => (ho5.lt k (by rw [ownBlock_slice] at hk; exact hk)).1)
          have HO6 := Lib.hid ho6
          clear hown' hgrow ho6 ho5 hb5
          have hl6 : (joinsTo f g i j).length + 1 = (joinsTo f g i (j + 1)).length := by rw [HS.out]; simp
          have e6 : joinsTo f g i j ++ [joinT (tg f i) (tg g j)] = joinsTo f g i (j + 1) := by rw [HS.out, tg_lt hlj]
          have HL6 := Lib.hid hl6
          have HE6 := Lib.hid e6
          clear hl6 e6
          go_wp2
          go_roundw
          case rel => exact ⟨j + 1, A6, c6, by omega, by go_num, by rw [HL6.out], by rw [← HE6.out]; exact HO6.out, hb6⟩
          case measure => simp [intOf]; omega
        · obtain rfl : j = g.length := by omega
          rw [HN.out] at ho
          have HO2 := Lib.hid ho
          have HLN : Hid ((joinsTo f g i g.length).length = (joinsTo f g (i + 1) 0).length) := by rw [HN.out]; exact rfl
          clear ho
          go_wp2
          go_roundw
          case rel => exact ⟨i + 1, A', c', by omega, by go_num, by rw [HLN.out], HO2.out, hbel⟩
          case measure => simp [intOf]; omega
    · obtain rfl : i = f.length := by omega
      rw [joinsTo_end] at ho
      have HO2 := Lib.hid ho
      have HE : Hid ((joinsTo f g f.length 0).length = (joinsT f g).length) := by rw [joinsTo_end]; exact rfl
      clear ho
      go_wp2
      go_ret
      exact ⟨A', c', by rw [← HE.out]; rfl, HO2.out, hbel⟩
end Go.Proofs.Ythefakiobpijiaa
