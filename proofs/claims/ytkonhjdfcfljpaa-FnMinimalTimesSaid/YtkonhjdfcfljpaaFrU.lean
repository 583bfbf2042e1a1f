/- HELPER, no statement of the seat: slices.Concat of two lists of times. -/
import Derived.Test.YtkonhjdfcfljpaaFrK
import Derived.Test.YtkonhjdfcfljpaaZba
namespace Go.Proofs.Ytkonhjdfcfljpaa
open Go.RowKit Go.Sort
set_option linter.unusedSimpArgs false
set_option linter.unusedVariables false

set_option maxRecDepth 100000 in
set_option maxHeartbeats 1600000 in
/-- slices.Grow of nil. -/
theorem growNil_i (m : Nat) (w : World) (hm : m ≤ 8388608) :
    Calls Try.prog 139 #[.slice none 0 0, .int .i64 m] w fun e w' => ∃ A' c', e = .returned (.slice A' 0 c') ∧ TmOwn w' w.heap.size A' c' [] ∧ Below w.heap.size w w' := by
  rcases Nat.eq_zero_or_pos m with rfl | hp
  · go_enter Try.func139, Try.ntmps139
    go_wp2
    go_ret
    exact ⟨none, 0, rfl, World.ownsRow_nil _ _ _ _, Below.refl _ _⟩
  · obtain ⟨i0, hi, hz0, hz1, hz2⟩ := info_parts Try.infoTime
    have hold : (Builtin.firstCells i0.size 0 (.slice none 0 0)).run Try.prog w.drew = .ok ([] : List Value).toArray w.drew := by rw [hz1]; exact run_firstCells_none w.drew 2 0 0 0
    have h := fun ty => Lib.run_append_grow_zeros w 30 3 ty 52 i0 _ .i64 .i64 Try.underlying30 Try.underlying3 hi hz0 none 0 0 [] hold m hp (by omega) (by omega) (by omega) (by rw [hz2]; omega) (by rw [hz2]; exact growslice_fits (by omega) (by omega))
    rw [Nat.zero_add] at h
    have hGn := grownCap_ge w m 0 52
    have hGm := grownCap_le_maxLen w m 0 52 (by unfold maxLen; omega)
    generalize grownCap w m 0 52 = G at h hGn hGm
    obtain ⟨W1, hW1⟩ : ∃ W1, W1 = w.drew.alloc (.cells (([] : List Value).toArray ++ Builtin.zeroCells (Value.agg #[.int .i64 0, .int .i64 0]).cells m ++ Builtin.zeroCells (Value.agg #[.int .i64 0, .int .i64 0]).cells (G - m)) 52) := ⟨_, rfl⟩
    rw [← hW1] at h
    have hown : TmOwn W1 w.heap.size (some ⟨w.heap.size, 0, none⟩) G [] := by
      refine ⟨rfl, .inr ⟨w.heap.size, G, _, rfl, Nat.le_refl _, by rw [hW1]; exact heap_alloc_new w.drew _, by simp, hGm, ?_, by simp [timeL]⟩⟩
      simp only [Array.size_append, List.size_toArray, List.length_nil, zeros_size]
      simp [Value.cells]
      omega
    have hB : Below w.heap.size w W1 := by rw [hW1]; exact ((Below.refl _ w).drew).alloc (by simp) _
    have HO := Lib.hid hown
    have HB := Lib.hid hB
    have hG3 : (G : Int) ≤ 9223372036854775807 := by unfold maxLen at hGm; omega
    clear hown hB hW1 hold
    go_enter Try.func139, Try.ntmps139
    go_wp2_with (at_builtin; refine Lib.wpList_append_run _ rfl _ _ _ _ rfl _ _ rfl rfl _ _ (h _) ?_)
    go_ret
    exact ⟨_, _, rfl, HO.out, HB.out⟩

set_option maxRecDepth 100000 in
set_option maxHeartbeats 3200000 in
/-- slices.Concat of two. -/
theorem concat2_i (A B : Option Addr) (c d : Nat) (f g : List Tm) (V : Nat) (w : World) (hV : Blk w V 30 #[.slice A f.length c, .slice B g.length d]) (hf : TimesAt w A f) (hg : TimesAt w B g) (hn : f.length ≤ 4000000) (hm : g.length ≤ 4000000) :
    Calls Try.prog 99 #[.slice (some ⟨V, 0, none⟩) 2 2] w fun e w' => ∃ A' c', e = .returned (.slice A' (f ++ g).length c') ∧ TmOwn w' w.heap.size A' c' (f ++ g) ∧ Below w.heap.size w w' := by
  obtain ⟨i0, hi, hz0, hz1, hz2⟩ := info_parts Try.infoTime
  have c0 := hV.cell 0
  have c1 := hV.cell 1
  simp at c0 c1
  go_enter Try.func99, Try.ntmps99
  go_wp2
  go_loop [3, 5, 11] (fun s _ i => (i = .int .i64 (0 : Nat) ∧ s = .int .i64 (0 : Nat)) ∨ (i = .int .i64 (1 : Nat) ∧ s = .int .i64 (f.length : Nat)) ∨ (i = .int .i64 (2 : Nat) ∧ s = .int .i64 ((f.length + g.length : Nat)))) (fun _ _ i => 2 - (intOf i).toNat)
  case atStart => exact .inl ⟨rfl, rfl⟩
  case round =>
    rcases hrel with ⟨rfl, rfl⟩ | ⟨rfl, rfl⟩ | ⟨rfl, rfl⟩
    · go_wp2
      go_round
      case rel => exact .inr (.inl ⟨rfl, by simp⟩)
      case measure => simp [intOf]
    · go_wp2
      go_round
      case rel => exact .inr (.inr ⟨rfl, by go_num⟩)
      case measure => simp [intOf]
    · have HV := Lib.hid hV
      have HF := Lib.hid hf
      have HG := Lib.hid hg
      clear hV hf hg c0 c1
      go_wp2_with fail
      refine (growNil_i (f.length + g.length) w (by omega)).mono ?_
      rintro e w1 ⟨A1, k1, rfl, ho1, hb1⟩
      have HO1 := Lib.hid ho1
      have HB1 := Lib.hid hb1
      clear ho1 hb1
      go_wp2
      go_loopw [6, 8, 27] (fun r _ i wr => ∃ (z : List Tm) (A' : Option Addr) (c' : Nat), ((i = .int .i64 (0 : Nat) ∧ z = []) ∨ (i = .int .i64 (1 : Nat) ∧ z = f) ∨ (i = .int .i64 (2 : Nat) ∧ z = f ++ g)) ∧ r = .slice A' z.length c' ∧ TmOwn wr w.heap.size A' c' z ∧ Below w.heap.size w wr) (fun _ _ i _ => 2 - (intOf i).toNat)
      case atStart => exact ⟨[], A1, k1, .inl ⟨rfl, rfl⟩, rfl, HO1.out, HB1.out⟩
      case round =>
        obtain ⟨z, A', c', hz, rfl, ho, hbel⟩ := hrel
        have hs := hbel.size
        have p0 := (HV.out.below hbel).cell 0
        have p1 := (HV.out.below hbel).cell 1
        simp at p0 p1
        rcases hz with ⟨rfl, rfl⟩ | ⟨rfl, rfl⟩ | ⟨rfl, rfl⟩
        · have hsrc := tms_src (HF.out.below hbel)
          go_wp2_with (at_builtin; refine wpList_append_src _ rfl _ _ 30 rfl w.heap.size 52 i0 (.agg #[.int .i64 0, .int .i64 0]) 2 16 Try.underlying30 hi hz0 hz1 hz2 rfl (by decide) _ _ _ rfl ho A f.length c (timeL f) rfl (timeL_len f) hsrc.1 hsrc.2 (tms_one f) (by simp [maxLen]; omega) (by simp; omega) hs ?_)
          intro v' w6 hown' hgrow _
          have hb6 : Below w.heap.size w w6 := hbel.grown hgrow hs (fun k hk => (ho.lt k (by rw [ownBlock_slice] at hk; exact hk)).1)
          obtain ⟨A6, c6, hv⟩ := own_slice hown'
          subst hv
          have HO6 : Hid (TmOwn w6 w.heap.size A6 c6 f) := by unfold Hid TmOwn; simpa [timeL] using hown'
          clear hown' hgrow ho hbel
          go_wp2
          go_roundw
          case rel => exact ⟨f, A6, c6, .inr (.inl ⟨rfl, rfl⟩), by simp, HO6.out, hb6⟩
          case measure => simp [intOf]
        · have hsrc := tms_src (HG.out.below hbel)
          go_wp2_with (at_builtin; refine wpList_append_src _ rfl _ _ 30 rfl w.heap.size 52 i0 (.agg #[.int .i64 0, .int .i64 0]) 2 16 Try.underlying30 hi hz0 hz1 hz2 rfl (by decide) _ _ _ rfl ho B g.length d (timeL g) rfl (timeL_len g) hsrc.1 hsrc.2 (tms_one g) (by unfold maxLen; omega) (by omega) hs ?_)
          intro v' w6 hown' hgrow _
          have hb6 : Below w.heap.size w w6 := hbel.grown hgrow hs (fun k hk => (ho.lt k (by rw [ownBlock_slice] at hk; exact hk)).1)
          obtain ⟨A6, c6, hv⟩ := own_slice hown'
          subst hv
          have HO6 : Hid (TmOwn w6 w.heap.size A6 c6 (z ++ g)) := by unfold Hid TmOwn; rw [timeL_append, List.length_append]; exact hown'
          clear hown' hgrow ho hbel
          go_wp2
          go_roundw
          case rel => exact ⟨z ++ g, A6, c6, .inr (.inr ⟨rfl, rfl⟩), by simp, HO6.out, hb6⟩
          case measure => simp [intOf]
        · have HO := Lib.hid ho
          clear ho
          go_wp2
          go_ret
          exact ⟨A', c', by simp, HO.out, hbel⟩
end Go.Proofs.Ytkonhjdfcfljpaa
