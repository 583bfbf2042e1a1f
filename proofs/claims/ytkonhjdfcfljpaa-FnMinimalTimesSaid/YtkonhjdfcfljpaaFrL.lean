/- HELPER, no statement of the seat: the program's insertion of a time into an antichain (antichain.insert). -/
import Derived.Test.YtkonhjdfcfljpaaFrK
import Derived.Test.YtkonhjdfcfljpaaFrt
import Derived.Test.YtkonhjdfcfljpaaTcm
import Derived.Test.YtkonhjdfcfljpaaGrf
namespace Go.Proofs.Ytkonhjdfcfljpaa
open Go.RowKit Go.Sort
set_option linter.unusedSimpArgs false
set_option linter.unusedVariables false

/-- slices.Insert of one time at whatever place. -/
theorem insAt_i (base : Nat) (A : Option Addr) (c : Nat) (ks : List Tm) (p : Nat) (hp : p ≤ ks.length) (x y : Int) (V : Nat) (w : World) (ho : TmOwn w base A c ks) (hV : Blk w V 52 #[.int .i64 x, .int .i64 y]) (hVA : blk A ≠ some V) (hn : ks.length ≤ 4194000) (hb : base ≤ w.heap.size) :
    Calls Try.prog 162 #[.slice A ks.length c, .int .i64 p, .slice (some ⟨V, 0, none⟩) 1 1] w fun e w' => ∃ A' c', e = .returned (.slice A' (ks.length + 1) c') ∧ TmOwn w' base A' c' (ks.take p ++ [(x, y)] ++ ks.drop p) ∧ GrownS w w' (fun k => blk A = some k) ∧ ∀ k, blk A' = some k → blk A = some k ∨ w.heap.size ≤ k := by
  rcases Nat.lt_or_ge p ks.length with h | h
  · obtain ⟨g, rfl, hbg, hgl, hnc, hcm⟩ : ∃ g, A = some ⟨g, 0, none⟩ ∧ base ≤ g ∧ g < w.heap.size ∧ ks.length ≤ c ∧ c ≤ maxLen := by
      rcases ownsRow_form ho with ⟨_, _, h0⟩ | h0
      · omega
      · exact h0
    have hVg : V ≠ g := fun e => hVA (by rw [e]; rfl)
    rcases Nat.lt_or_ge ks.length c with hr | hr
    · exact (insRoom_i base g c ks p h x y V w ho hV hVg hn hb hr).mono fun e w' ⟨h1, h2, h3⟩ => ⟨_, _, h1, h2, h3.mono (fun k hk => by rw [hk]; rfl), fun k hk => .inl hk⟩
    · obtain rfl : c = ks.length := by omega
      exact (insGrow_i base g ks p h x y V w ho hV hVg hn hb).mono fun e w' ⟨A', c', h1, h2, h3, h4⟩ => ⟨A', c', h1, h2, h3.mono (fun k hk => hk.elim), fun k hk => .inr (h4 k hk)⟩
  · obtain rfl : p = ks.length := by omega
    refine (insEnd_i base A c ks x y V w ho hV hn hb).mono fun e w' ⟨A', c', h1, h2, h3, h4⟩ => ⟨A', c', h1, ?_, h3, h4⟩
    rw [List.take_length, List.drop_length, List.append_nil]
    exact h2
theorem keepF_len (t : Tm) (xs : List Tm) : (keepF t xs).length ≤ xs.length := List.length_filter_le _ _
set_option maxRecDepth 100000 in
set_option maxHeartbeats 12800000 in
theorem insert_i (base B : Nat) (A : Option Addr) (c : Nat) (xs : List Tm) (x y : Int) (w : World) (kB0 : Blk w B 106 #[.slice A xs.length c]) (ho : TmOwn w base A c xs) (hn : xs.length ≤ 4190000) (hb0 : base ≤ w.heap.size) :
    Calls Try.prog 133 #[.pointer (some ⟨B, 0, none⟩), .agg #[.int .i64 x, .int .i64 y]] w fun e w' => e = .returned (.tuple #[]) ∧ ∃ A' c', Blk w' B 106 #[.slice A' (insT xs (x, y)).length c'] ∧ TmOwn w' base A' c' (insT xs (x, y)) ∧ GrownS w w' (fun k => k = B ∨ blk A = some k) ∧ ∀ k, blk A' = some k → blk A = some k ∨ w.heap.size ≤ k := by
  have hAB : blk A ≠ some B := by
    rcases ownsRow_form ho with ⟨rfl, _, _⟩ | ⟨g, rfl, _, _, _, _⟩
    · simp [blk]
    · intro e
      have hgB : g = B := by simpa [blk] using e
      subst hgB
      obtain ⟨_, ⟨e1, _⟩ | ⟨g', cap, cur, e1, _, hg, _⟩⟩ := ho
      · cases e1
      · injection e1 with e1 _ _
        injection e1 with e1
        injection e1 with e1
        subst e1
        unfold Blk at kB0
        rw [kB0] at hg
        injection hg with hg
        injection hg with _ hg _
        exact absurd hg (by decide)
  have hAw : ∀ k, blk A = some k → base ≤ k ∧ k < w.heap.size := ho.lt
  have hB0w : B < w.heap.size := kB0.lt
  have HAB := Lib.hid hAB
  have HAW := Lib.hid hAw
  clear hAB hAw
  go_enter Try.func133, Try.ntmps133
  go_wp2_with fail
  refine abs_world (fun W => Below w.heap.size w W ∧ Blk W w.heap.size 52 #[.int .i64 x, .int .i64 y]) ⟨bal (Below.refl _ _) _, Blk.newAt rfl⟩ ?_
  rintro w0 ⟨hB0, kT⟩
  obtain ⟨T, hT⟩ : ∃ T, T = w.heap.size := ⟨_, rfl⟩
  rw [← hT] at kT ⊢
  have HT := Lib.hid hT
  clear hT
  have kB := kB0.below hB0
  have ho0 := ho.below hB0
  have hAT : Hid (blk A ≠ some T) := fun e => by have := (HAW.out T e).2; rw [HT.out] at this; exact Nat.lt_irrefl _ this
  have hTB : Hid (T ≠ B) := fun e => by rw [HT.out] at e; rw [e] at hB0w; exact Nat.lt_irrefl _ hB0w
  have hcon := fun W (h : TimesAt W A xs) => covers_i A c xs x y W h (by omega)
  by_cases hcv : cvB xs x y = true
  · simp only [hcv] at hcon
    have HR := Lib.hid (insT_cv (xs := xs) (t := (x, y)) hcv)
    clear hcv
    refine wp_region_facts [[], [0], [0, 1], []]
      [fun v' _ => v' = .pointer (some ⟨B, 0, none⟩), fun v' _ => v' = .pointer (some ⟨B, 0, none⟩), fun v' _ => v' = .slice A xs.length c, fun v' _ => v' = .agg #[.int .i64 x, .int .i64 y]]
      (by kernel_rfl) (by kernel_rfl) rfl ⟨stable_pure _, stable_pure _, stable_pure _, stable_pure _, trivial⟩ ?_
    refine wf_stepK [] [] (by kernel_rfl) (by kernel_rfl) (fun wf hb hf => ?_) (fun t0 => ?_)
    · refine ⟨?_⟩
      go_wp2
      exact ⟨rfl, .pointer (some ⟨B, 0, none⟩), by kernel_rfl, Below.refl _ _, rfl⟩
    refine wf_stepK [0] [fun _ => t0 = .pointer (some ⟨B, 0, none⟩)] (by kernel_rfl) (by kernel_rfl) (fun wf hb hf => ?_) (fun t1 => ?_)
    · obtain ⟨rfl, -⟩ := hf
      refine ⟨?_⟩
      go_wp2
      exact ⟨rfl, .pointer (some ⟨B, 0, none⟩), by kernel_rfl, Below.refl _ _, rfl⟩
    refine wf_stepK [1] [fun _ => t1 = .pointer (some ⟨B, 0, none⟩)] (by kernel_rfl) (by kernel_rfl) (fun wf hb hf => ?_) (fun t2 => ?_)
    · obtain ⟨rfl, -⟩ := hf
      refine ⟨?_⟩
      have p0 := (kB.below hb).cell 0
      simp at p0
      go_wp2
      exact ⟨rfl, .slice A xs.length c, by kernel_rfl, Below.refl _ _, rfl⟩
    refine wf_stepK [] [] (by kernel_rfl) (by kernel_rfl) (fun wf hb hf => ?_) (fun t3 => ?_)
    · refine ⟨?_⟩
      have p0 := (kT.below hb).cell 0
      have p1 := (kT.below hb).cell 1
      simp at p0 p1
      go_wp2
      exact ⟨rfl, .agg #[.int .i64 x, .int .i64 y], by kernel_rfl, Below.refl _ _, rfl⟩
    refine wf_doneK [2, 3] [fun _ => t2 = .slice A xs.length c, fun _ => t3 = .agg #[.int .i64 x, .int .i64 y]] (by kernel_rfl) (by kernel_rfl) (fun w1 b1 hf => ?_)
    obtain ⟨rfl, rfl, -⟩ := hf
    show wpList _ _ _ [_] _ _
    refine wpList_frame (by simp [Act.put]; rfl) ?_
    go_wp2_with fail
    refine (hcon _ (ho0.below b1).at_).mono ?_
    rintro e w2 ⟨rfl, b2⟩
    have hB2 := Lib.hid (btr hB0 (btr b1 b2))
    clear hcon
    go_wp2
    refine bodyPost_ret (results_none rfl _ _ _) rfl ?_
    refine ⟨rfl, A, c, ?_, ?_, GrownS.ofBelow hB2.out, fun k hk => .inl hk⟩
    · rw [HR.out]; exact kB0.below hB2.out
    · rw [HR.out]; exact ho.below hB2.out
  · have hcv' : cvB xs x y = false := by simpa using hcv
    simp only [hcv'] at hcon
    have HR := Lib.hid (insT_at (xs := xs) (t := (x, y)) hcv')
    clear hcv hcv'
    refine wp_region_facts [[], [0], [0, 1], []]
      [fun v' _ => v' = .pointer (some ⟨B, 0, none⟩), fun v' _ => v' = .pointer (some ⟨B, 0, none⟩), fun v' _ => v' = .slice A xs.length c, fun v' _ => v' = .agg #[.int .i64 x, .int .i64 y]]
      (by kernel_rfl) (by kernel_rfl) rfl ⟨stable_pure _, stable_pure _, stable_pure _, stable_pure _, trivial⟩ ?_
    refine wf_stepK [] [] (by kernel_rfl) (by kernel_rfl) (fun wf hb hf => ?_) (fun t0 => ?_)
    · refine ⟨?_⟩
      go_wp2
      exact ⟨rfl, .pointer (some ⟨B, 0, none⟩), by kernel_rfl, Below.refl _ _, rfl⟩
    refine wf_stepK [0] [fun _ => t0 = .pointer (some ⟨B, 0, none⟩)] (by kernel_rfl) (by kernel_rfl) (fun wf hb hf => ?_) (fun t1 => ?_)
    · obtain ⟨rfl, -⟩ := hf
      refine ⟨?_⟩
      go_wp2
      exact ⟨rfl, .pointer (some ⟨B, 0, none⟩), by kernel_rfl, Below.refl _ _, rfl⟩
    refine wf_stepK [1] [fun _ => t1 = .pointer (some ⟨B, 0, none⟩)] (by kernel_rfl) (by kernel_rfl) (fun wf hb hf => ?_) (fun t2 => ?_)
    · obtain ⟨rfl, -⟩ := hf
      refine ⟨?_⟩
      have p0 := (kB.below hb).cell 0
      simp at p0
      go_wp2
      exact ⟨rfl, .slice A xs.length c, by kernel_rfl, Below.refl _ _, rfl⟩
    refine wf_stepK [] [] (by kernel_rfl) (by kernel_rfl) (fun wf hb hf => ?_) (fun t3 => ?_)
    · refine ⟨?_⟩
      have p0 := (kT.below hb).cell 0
      have p1 := (kT.below hb).cell 1
      simp at p0 p1
      go_wp2
      exact ⟨rfl, .agg #[.int .i64 x, .int .i64 y], by kernel_rfl, Below.refl _ _, rfl⟩
    refine wf_doneK [2, 3] [fun _ => t2 = .slice A xs.length c, fun _ => t3 = .agg #[.int .i64 x, .int .i64 y]] (by kernel_rfl) (by kernel_rfl) (fun w1 b1 hf => ?_)
    obtain ⟨rfl, rfl, -⟩ := hf
    show wpList _ _ _ [_] _ _
    refine wpList_frame (by simp [Act.put]; rfl) ?_
    go_wp2_with fail
    refine (hcon _ (ho0.below b1).at_).mono ?_
    rintro e w2 ⟨rfl, b2⟩
    have b02 := btr b1 b2
    have hB2 := Lib.hid (btr hB0 b02)
    have kB2 := kB.below b02
    have kT2 := kT.below b02
    have ho2 := ho0.below b02
    clear hcon kB kT ho0 b1 b2 b02 hB0
    have kB := kB2
    have kT := kT2
    clear kB2 kT2
    go_wp2_with fail
    refine wp_region_facts [[], [0], [0, 1], [], [3]]
      [fun v' _ => v' = .pointer (some ⟨B, 0, none⟩), fun v' _ => v' = .pointer (some ⟨B, 0, none⟩), fun v' _ => v' = .slice A xs.length c, fun v' _ => v' = .agg #[.int .i64 x, .int .i64 y], fun v' _ => v' = leFn x y]
      (by kernel_rfl) (by kernel_rfl) rfl ⟨stable_pure _, stable_pure _, stable_pure _, stable_pure _, stable_pure _, trivial⟩ ?_
    refine wf_stepK [] [] (by kernel_rfl) (by kernel_rfl) (fun wf hb hf => ?_) (fun t0 => ?_)
    · refine ⟨?_⟩
      go_wp2
      exact ⟨rfl, .pointer (some ⟨B, 0, none⟩), by kernel_rfl, Below.refl _ _, rfl⟩
    refine wf_stepK [0] [fun _ => t0 = .pointer (some ⟨B, 0, none⟩)] (by kernel_rfl) (by kernel_rfl) (fun wf hb hf => ?_) (fun t1 => ?_)
    · obtain ⟨rfl, -⟩ := hf
      refine ⟨?_⟩
      go_wp2
      exact ⟨rfl, .pointer (some ⟨B, 0, none⟩), by kernel_rfl, Below.refl _ _, rfl⟩
    refine wf_stepK [1] [fun _ => t1 = .pointer (some ⟨B, 0, none⟩)] (by kernel_rfl) (by kernel_rfl) (fun wf hb hf => ?_) (fun t2 => ?_)
    · obtain ⟨rfl, -⟩ := hf
      refine ⟨?_⟩
      have p0 := (kB.below hb).cell 0
      simp at p0
      go_wp2
      exact ⟨rfl, .slice A xs.length c, by kernel_rfl, Below.refl _ _, rfl⟩
    refine wf_stepK [] [] (by kernel_rfl) (by kernel_rfl) (fun wf hb hf => ?_) (fun t3 => ?_)
    · refine ⟨?_⟩
      have p0 := (kT.below hb).cell 0
      have p1 := (kT.below hb).cell 1
      simp at p0 p1
      go_wp2
      exact ⟨rfl, .agg #[.int .i64 x, .int .i64 y], by kernel_rfl, Below.refl _ _, rfl⟩
    refine wf_stepK [3] [fun _ => t3 = .agg #[.int .i64 x, .int .i64 y]] (by kernel_rfl) (by kernel_rfl) (fun wf hb hf => ?_) (fun t4 => ?_)
    · obtain ⟨rfl, -⟩ := hf
      refine ⟨?_⟩
      go_wp2
      exact ⟨rfl, leFn x y, by kernel_rfl, Below.refl _ _, rfl⟩
    refine wf_doneK [2, 4] [fun _ => t2 = .slice A xs.length c, fun _ => t4 = leFn x y] (by kernel_rfl) (by kernel_rfl) (fun w3 b3 hf => ?_)
    obtain ⟨rfl, rfl, -⟩ := hf
    show wpList _ _ _ [_, _] _ _
    refine wpList_frame (by simp [Act.put]; rfl) ?_
    go_wp2_with fail
    refine (delT_i base A c xs x y _ (ho2.below b3) (by omega)).mono ?_
    rintro e w4 ⟨rfl, ho4, g4⟩
    have kB3 := kB.below b3
    have kT3 := kT.below b3
    have hs3 := b3.size
    have kT4 : Blk w4 T 52 #[.int .i64 x, .int .i64 y] := (g4.block T kT3.lt (fun e => hAT.out e)).trans kT3
    have kB4 : Blk w4 B 106 #[.slice A xs.length c] := (g4.block B kB3.lt (fun e => HAB.out e)).trans kB3
    have hG4 : Hid (GrownS w w4 (fun k => k = B ∨ blk A = some k)) := ((GrownS.ofBelow hB2.out).trans (GrownS.ofBelow b3)).trans (g4.mono (fun k hk => .inr hk))
    clear kB kT kB3 kT3 ho2 g4 b3
    have hkl := keepF_len (x, y) xs
    generalize keepF (x, y) xs = ks at ho4 hkl HR ⊢
    have hcap := ho4.cap
    go_wp2_with fail
    go_loopw [5] (fun pl wr => ∃ k : Nat, k ≤ ks.length ∧ pl = .int .i64 k ∧ Hid (∀ j (h : j < ks.length), j < k → bfB ks[j].1 ks[j].2 x y = true) ∧ Below w4.heap.size w4 wr) (fun pl _ => ks.length - (intOf pl).toNat)
    case atStart => exact ⟨0, by omega, rfl, fun j h hj => absurd hj (by omega), RowKit.Below.refl _ _⟩
    case round =>
      obtain ⟨k, hk, rfl, hall, hbel⟩ := hrel
      have kT := kT4.below hbel
      have hor := ho4.below hbel
      by_cases hlt : k < ks.length
      · obtain ⟨kb, koff, rfl, hkb, hc⟩ := hor.at_ (by omega)
        have q1 := (hc k hlt).1
        have q2 := (hc k hlt).2
        rw [getD_lt _ hlt] at q1 q2
        clear hc
        have hkI : (k : Int) < ks.length := by omega
        by_cases hz : bfB ks[k].1 ks[k].2 x y = true
        · have hbf := fun W => Tcm.before_i ks[k].1 ks[k].2 x y W
          simp only [hz] at hbf
          have HA : Hid (∀ j (h : j < ks.length), j < k + 1 → bfB ks[j].1 ks[j].2 x y = true) := fun j h hj => by
            rcases Nat.lt_or_ge j k with h2 | h2
            · exact hall.out j h h2
            · obtain rfl : j = k := by omega
              exact hz
          clear hz
          go_wp2_with fail
          refine wp_region_facts [[], [], [1], [0, 1, 2], List.range 4, List.range 5, List.range 5, List.range 7, List.range 8, List.range 5, List.range 10]
            [fun v' _ => v' = .int .i64 ((k : Nat)), fun v' _ => v' = .slice (some ⟨kb, koff, none⟩) ks.length c, fun v' _ => v' = .int .i64 ((ks.length : Nat)), fun v' _ => v' = .bool true, fun v' _ => v' = .bool true, fun v' _ => v' = .slice (some ⟨kb, koff, none⟩) ks.length c, fun v' _ => v' = .int .i64 ((k : Nat)), fun v' _ => v' = .pointer (some ⟨kb, koff + k * 2, none⟩), fun v' _ => v' = .agg #[.int .i64 ks[k].1, .int .i64 ks[k].2], fun v' _ => v' = .agg #[.int .i64 x, .int .i64 y], fun v' _ => v' = .bool true]
            (by kernel_rfl) (by kernel_rfl) rfl ⟨stable_pure _, stable_pure _, stable_pure _, stable_pure _, stable_pure _, stable_pure _, stable_pure _, stable_pure _, stable_pure _, stable_pure _, stable_pure _, trivial⟩ ?_
          refine wf_stepK [] [] (by kernel_rfl) (by kernel_rfl) (fun wf hb hf => ?_) (fun t0 => ?_)
          · refine ⟨?_⟩
            go_wp2
            exact ⟨rfl, .int .i64 ((k : Nat)), by kernel_rfl, Below.refl _ _, rfl⟩
          refine wf_stepK [] [] (by kernel_rfl) (by kernel_rfl) (fun wf hb hf => ?_) (fun t1 => ?_)
          · refine ⟨?_⟩
            go_wp2
            exact ⟨rfl, .slice (some ⟨kb, koff, none⟩) ks.length c, by kernel_rfl, Below.refl _ _, rfl⟩
          refine wf_stepK [1] [fun _ => t1 = .slice (some ⟨kb, koff, none⟩) ks.length c] (by kernel_rfl) (by kernel_rfl) (fun wf hb hf => ?_) (fun t2 => ?_)
          · obtain ⟨rfl, -⟩ := hf
            refine ⟨?_⟩
            go_wp2
            exact ⟨rfl, .int .i64 ((ks.length : Nat)), by kernel_rfl, Below.refl _ _, rfl⟩
          refine wf_stepK [0, 2] [fun _ => t0 = .int .i64 ((k : Nat)), fun _ => t2 = .int .i64 ((ks.length : Nat))] (by kernel_rfl) (by kernel_rfl) (fun wf hb hf => ?_) (fun t3 => ?_)
          · obtain ⟨rfl, rfl, -⟩ := hf
            refine ⟨?_⟩
            go_wp2
            exact ⟨rfl, .bool true, by kernel_rfl, Below.refl _ _, rfl⟩
          refine wf_stepK [3] [fun _ => t3 = .bool true] (by kernel_rfl) (by kernel_rfl) (fun wf hb hf => ?_) (fun t4 => ?_)
          · obtain ⟨rfl, -⟩ := hf
            refine ⟨?_⟩
            go_wp2
            exact ⟨rfl, .bool true, by kernel_rfl, Below.refl _ _, rfl⟩
          refine wf_stepK [4] [fun _ => t4 = .bool true] (by kernel_rfl) (by kernel_rfl) (fun wf hb hf => ?_) (fun t5 => ?_)
          · obtain ⟨rfl, -⟩ := hf
            refine WfOp.yes (by kernel_rfl) ?_
            dsimp only
            go_wp2
            exact ⟨rfl, .slice (some ⟨kb, koff, none⟩) ks.length c, by kernel_rfl, Below.refl _ _, rfl⟩
          refine wf_stepK [4] [fun _ => t4 = .bool true] (by kernel_rfl) (by kernel_rfl) (fun wf hb hf => ?_) (fun t6 => ?_)
          · obtain ⟨rfl, -⟩ := hf
            refine WfOp.yes (by kernel_rfl) ?_
            dsimp only
            go_wp2
            exact ⟨rfl, .int .i64 ((k : Nat)), by kernel_rfl, Below.refl _ _, rfl⟩
          refine wf_stepK [4, 5, 6] [fun _ => t4 = .bool true, fun _ => t5 = .slice (some ⟨kb, koff, none⟩) ks.length c, fun _ => t6 = .int .i64 ((k : Nat))] (by kernel_rfl) (by kernel_rfl) (fun wf hb hf => ?_) (fun t7 => ?_)
          · obtain ⟨rfl, rfl, rfl, -⟩ := hf
            refine WfOp.yes (by kernel_rfl) ?_
            dsimp only
            go_wp2
            exact ⟨rfl, .pointer (some ⟨kb, koff + k * 2, none⟩), by kernel_rfl, Below.refl _ _, rfl⟩
          refine wf_stepK [4, 7] [fun _ => t4 = .bool true, fun _ => t7 = .pointer (some ⟨kb, koff + k * 2, none⟩)] (by kernel_rfl) (by kernel_rfl) (fun wf hb hf => ?_) (fun t8 => ?_)
          · obtain ⟨rfl, rfl, -⟩ := hf
            refine WfOp.yes (by kernel_rfl) ?_
            dsimp only
            have p0 := (hb.cell (p := ⟨kb, koff + k * 2, none⟩) hkb).trans q1
            have p1 := (hb.cell (p := ⟨kb, koff + k * 2 + 1, none⟩) hkb).trans q2
            go_wp2
            exact ⟨rfl, .agg #[.int .i64 ks[k].1, .int .i64 ks[k].2], by kernel_rfl, Below.refl _ _, rfl⟩
          refine wf_stepK [4] [fun _ => t4 = .bool true] (by kernel_rfl) (by kernel_rfl) (fun wf hb hf => ?_) (fun t9 => ?_)
          · obtain ⟨rfl, -⟩ := hf
            refine WfOp.yes (by kernel_rfl) ?_
            dsimp only
            have p0 := (kT.below hb).cell 0
            have p1 := (kT.below hb).cell 1
            simp at p0 p1
            go_wp2
            exact ⟨rfl, .agg #[.int .i64 x, .int .i64 y], by kernel_rfl, Below.refl _ _, rfl⟩
          refine wf_stepK [4, 8, 9] [fun _ => t4 = .bool true, fun _ => t8 = .agg #[.int .i64 ks[k].1, .int .i64 ks[k].2], fun _ => t9 = .agg #[.int .i64 x, .int .i64 y]] (by kernel_rfl) (by kernel_rfl) (fun wf hb hf => ?_) (fun t10 => ?_)
          · obtain ⟨rfl, rfl, rfl, -⟩ := hf
            refine WfOp.yes (by kernel_rfl) ?_
            dsimp only
            go_wp2_with (go_at_call 89; refine (hbf _).mono ?_; rintro e w2 ⟨rfl, hb2⟩)
            exact ⟨rfl, .bool true, by kernel_rfl, hb2, rfl⟩
          refine wf_doneK [4, 10] [fun _ => t4 = .bool true, fun _ => t10 = .bool true] (by kernel_rfl) (by kernel_rfl) (fun w5 b5 hf => ?_)
          obtain ⟨rfl, rfl, -⟩ := hf
          show wpList _ _ _ [_] _ _
          refine wpList_frame (by simp [Act.put]; rfl) ?_
          go_wp2
          go_roundw
          case rel => exact ⟨k + 1, by omega, by go_num, HA, btr hbel b5⟩
          case measure => simp [intOf]; omega
        · have hz2 : bfB ks[k].1 ks[k].2 x y = false := by simpa using hz
          have hbf := fun W => Tcm.before_i ks[k].1 ks[k].2 x y W
          simp only [hz2] at hbf
          have HP : Hid (plc (x, y) ks = k) := plc_of (x, y) ks k hk hall.out (fun _ => hz2)
          clear hz hz2
          go_wp2_with fail
          refine wp_region_facts [[], [], [1], [0, 1, 2], List.range 4, List.range 5, List.range 5, List.range 7, List.range 8, List.range 5, List.range 10]
            [fun v' _ => v' = .int .i64 ((k : Nat)), fun v' _ => v' = .slice (some ⟨kb, koff, none⟩) ks.length c, fun v' _ => v' = .int .i64 ((ks.length : Nat)), fun v' _ => v' = .bool true, fun v' _ => v' = .bool true, fun v' _ => v' = .slice (some ⟨kb, koff, none⟩) ks.length c, fun v' _ => v' = .int .i64 ((k : Nat)), fun v' _ => v' = .pointer (some ⟨kb, koff + k * 2, none⟩), fun v' _ => v' = .agg #[.int .i64 ks[k].1, .int .i64 ks[k].2], fun v' _ => v' = .agg #[.int .i64 x, .int .i64 y], fun v' _ => v' = .bool false]
            (by kernel_rfl) (by kernel_rfl) rfl ⟨stable_pure _, stable_pure _, stable_pure _, stable_pure _, stable_pure _, stable_pure _, stable_pure _, stable_pure _, stable_pure _, stable_pure _, stable_pure _, trivial⟩ ?_
          refine wf_stepK [] [] (by kernel_rfl) (by kernel_rfl) (fun wf hb hf => ?_) (fun t0 => ?_)
          · refine ⟨?_⟩
            go_wp2
            exact ⟨rfl, .int .i64 ((k : Nat)), by kernel_rfl, Below.refl _ _, rfl⟩
          refine wf_stepK [] [] (by kernel_rfl) (by kernel_rfl) (fun wf hb hf => ?_) (fun t1 => ?_)
          · refine ⟨?_⟩
            go_wp2
            exact ⟨rfl, .slice (some ⟨kb, koff, none⟩) ks.length c, by kernel_rfl, Below.refl _ _, rfl⟩
          refine wf_stepK [1] [fun _ => t1 = .slice (some ⟨kb, koff, none⟩) ks.length c] (by kernel_rfl) (by kernel_rfl) (fun wf hb hf => ?_) (fun t2 => ?_)
          · obtain ⟨rfl, -⟩ := hf
            refine ⟨?_⟩
            go_wp2
            exact ⟨rfl, .int .i64 ((ks.length : Nat)), by kernel_rfl, Below.refl _ _, rfl⟩
          refine wf_stepK [0, 2] [fun _ => t0 = .int .i64 ((k : Nat)), fun _ => t2 = .int .i64 ((ks.length : Nat))] (by kernel_rfl) (by kernel_rfl) (fun wf hb hf => ?_) (fun t3 => ?_)
          · obtain ⟨rfl, rfl, -⟩ := hf
            refine ⟨?_⟩
            go_wp2
            exact ⟨rfl, .bool true, by kernel_rfl, Below.refl _ _, rfl⟩
          refine wf_stepK [3] [fun _ => t3 = .bool true] (by kernel_rfl) (by kernel_rfl) (fun wf hb hf => ?_) (fun t4 => ?_)
          · obtain ⟨rfl, -⟩ := hf
            refine ⟨?_⟩
            go_wp2
            exact ⟨rfl, .bool true, by kernel_rfl, Below.refl _ _, rfl⟩
          refine wf_stepK [4] [fun _ => t4 = .bool true] (by kernel_rfl) (by kernel_rfl) (fun wf hb hf => ?_) (fun t5 => ?_)
          · obtain ⟨rfl, -⟩ := hf
            refine WfOp.yes (by kernel_rfl) ?_
            dsimp only
            go_wp2
            exact ⟨rfl, .slice (some ⟨kb, koff, none⟩) ks.length c, by kernel_rfl, Below.refl _ _, rfl⟩
          refine wf_stepK [4] [fun _ => t4 = .bool true] (by kernel_rfl) (by kernel_rfl) (fun wf hb hf => ?_) (fun t6 => ?_)
          · obtain ⟨rfl, -⟩ := hf
            refine WfOp.yes (by kernel_rfl) ?_
            dsimp only
            go_wp2
            exact ⟨rfl, .int .i64 ((k : Nat)), by kernel_rfl, Below.refl _ _, rfl⟩
          refine wf_stepK [4, 5, 6] [fun _ => t4 = .bool true, fun _ => t5 = .slice (some ⟨kb, koff, none⟩) ks.length c, fun _ => t6 = .int .i64 ((k : Nat))] (by kernel_rfl) (by kernel_rfl) (fun wf hb hf => ?_) (fun t7 => ?_)
          · obtain ⟨rfl, rfl, rfl, -⟩ := hf
            refine WfOp.yes (by kernel_rfl) ?_
            dsimp only
            go_wp2
            exact ⟨rfl, .pointer (some ⟨kb, koff + k * 2, none⟩), by kernel_rfl, Below.refl _ _, rfl⟩
          refine wf_stepK [4, 7] [fun _ => t4 = .bool true, fun _ => t7 = .pointer (some ⟨kb, koff + k * 2, none⟩)] (by kernel_rfl) (by kernel_rfl) (fun wf hb hf => ?_) (fun t8 => ?_)
          · obtain ⟨rfl, rfl, -⟩ := hf
            refine WfOp.yes (by kernel_rfl) ?_
            dsimp only
            have p0 := (hb.cell (p := ⟨kb, koff + k * 2, none⟩) hkb).trans q1
            have p1 := (hb.cell (p := ⟨kb, koff + k * 2 + 1, none⟩) hkb).trans q2
            go_wp2
            exact ⟨rfl, .agg #[.int .i64 ks[k].1, .int .i64 ks[k].2], by kernel_rfl, Below.refl _ _, rfl⟩
          refine wf_stepK [4] [fun _ => t4 = .bool true] (by kernel_rfl) (by kernel_rfl) (fun wf hb hf => ?_) (fun t9 => ?_)
          · obtain ⟨rfl, -⟩ := hf
            refine WfOp.yes (by kernel_rfl) ?_
            dsimp only
            have p0 := (kT.below hb).cell 0
            have p1 := (kT.below hb).cell 1
            simp at p0 p1
            go_wp2
            exact ⟨rfl, .agg #[.int .i64 x, .int .i64 y], by kernel_rfl, Below.refl _ _, rfl⟩
          refine wf_stepK [4, 8, 9] [fun _ => t4 = .bool true, fun _ => t8 = .agg #[.int .i64 ks[k].1, .int .i64 ks[k].2], fun _ => t9 = .agg #[.int .i64 x, .int .i64 y]] (by kernel_rfl) (by kernel_rfl) (fun wf hb hf => ?_) (fun t10 => ?_)
          · obtain ⟨rfl, rfl, rfl, -⟩ := hf
            refine WfOp.yes (by kernel_rfl) ?_
            dsimp only
            go_wp2_with (go_at_call 89; refine (hbf _).mono ?_; rintro e w2 ⟨rfl, hb2⟩)
            exact ⟨rfl, .bool false, by kernel_rfl, hb2, rfl⟩
          refine wf_doneK [4, 10] [fun _ => t4 = .bool true, fun _ => t10 = .bool false] (by kernel_rfl) (by kernel_rfl) (fun w5 b5 hf => ?_)
          obtain ⟨rfl, rfl, -⟩ := hf
          show wpList _ _ _ [_] _ _
          refine wpList_frame (by simp [Act.put]; rfl) ?_
          have hF := btr hbel b5
          have kT5 := kT4.below hF
          have kB5 := kB4.below hF
          have ho5 := ho4.below hF
          have hG5 := hG4.out.trans (GrownS.ofBelow hF)
          have c0 := kT5.cell 0
          have c1 := kT5.cell 1
          simp at c0 c1
          have HH : Hid (w.heap.size ≤ w5.heap.size) := hG5.size
          have HG5 := Lib.hid hG5
          have HTB := Lib.hid kB5
          have hb5 : base ≤ w5.heap.size := by have := HH.out; omega
          clear hbf hbel kT hor kT5 hall hG5 kB5 kT4 hG4 kB4 ho4
          go_wp2_with fail
          refine (insAt_i base _ c ks k (by omega) x y w5.heap.size _ (ho5.below (bal (Below.refl _ _) _)) (Blk.newAt rfl) (fun e => by have := (ho5.lt _ e).2; omega) (by omega) (by simp; omega)).mono ?_
          rintro e w6 ⟨A6, c6, rfl, ho6, g6, n6⟩
          have hB6 : Blk w6 B 106 #[.slice (some ⟨kb, koff, none⟩) xs.length c] := (g6.block B (by have := HTB.out.lt; simp; omega) (fun e => HAB.out e)).trans (HTB.out.alloc _)
          have e0 := hB6.cell 0
          have f0 := hB6.frozen 0
          simp at e0
          have h6A : Hid (blk A6 ≠ some B) := by
            intro e
            rcases ownsRow_form ho6 with ⟨rfl, _, _⟩ | ⟨g, rfl, _, _, _, _⟩
            · simp [blk] at e
            · have hgB : g = B := by simpa [blk] using e
              subst hgB
              obtain ⟨_, ⟨e1, _⟩ | ⟨g', cap, cur, e1, _, hg, _⟩⟩ := ho6
              · cases e1
              · injection e1 with e1 _ _
                injection e1 with e1
                injection e1 with e1
                subst e1
                unfold Blk at hB6
                rw [hB6] at hg
                injection hg with hg
                injection hg with _ hg _
                exact absurd hg (by decide)
          have HN6 : Hid (∀ k, blk A6 = some k → blk (some ⟨kb, koff, none⟩) = some k ∨ w.heap.size ≤ k) := fun k hk => by
            rcases n6 k hk with h | h
            · exact .inl h
            · have h2 := HH.out; simp at h; exact .inr (by omega)
          have HB6 := Lib.hid hB6
          have HO6 := Lib.hid ho6
          have HG6 : Hid (GrownS w w6 (fun k => k = B ∨ blk (some ⟨kb, koff, none⟩) = some k)) := HG5.out.trans ((GrownS.ofBelow (bal (Below.refl _ _) _)).trans (g6.mono (fun k hk => .inr hk)))
          clear hB6 ho6 g6 n6
          go_wp2
          go_end0
          have hln : (insT xs (x, y)).length = ks.length + 1 := by
            rw [HR.out]; unfold insAt; have := plc_le (x, y) ks; simp; omega
          refine ⟨rfl, A6, c6, ?_, ?_, HG6.out.set_ (p := ⟨B, 0, none⟩) (.inl rfl) _, HN6.out⟩
          · rw [hln]; exact HB6.out.set_ 0 _
          · have h1 : TmOwn w6 base A6 c6 (insT xs (x, y)) := by rw [HR.out]; unfold insAt; rw [HP.out]; exact HO6.out
            exact h1.loc (fun k hk => Below.heap_setCell _ _ _ k (fun e => h6A.out (by rw [hk, e])))
      · obtain rfl : k = ks.length := by omega
        have HP : Hid (plc (x, y) ks = ks.length) := plc_of (x, y) ks ks.length hk hall.out (fun h => absurd h (Nat.lt_irrefl _))
        go_wp2_with fail
        refine wp_region_facts [[], [], [1], [0, 1, 2], List.range 4, List.range 5, List.range 5, List.range 7, List.range 8, List.range 5, List.range 10]
          [fun v' _ => v' = .int .i64 ((ks.length : Nat)), fun v' _ => v' = .slice A ks.length c, fun v' _ => v' = .int .i64 ((ks.length : Nat)), fun v' _ => v' = .bool false, fun v' _ => v' = .bool false, fun v' _ => v' = undef, fun v' _ => v' = undef, fun v' _ => v' = undef, fun v' _ => v' = undef, fun v' _ => v' = undef, fun v' _ => v' = undef]
          (by kernel_rfl) (by kernel_rfl) rfl ⟨stable_pure _, stable_pure _, stable_pure _, stable_pure _, stable_pure _, stable_pure _, stable_pure _, stable_pure _, stable_pure _, stable_pure _, stable_pure _, trivial⟩ ?_
        refine wf_stepK [] [] (by kernel_rfl) (by kernel_rfl) (fun wf hb hf => ?_) (fun t0 => ?_)
        · refine ⟨?_⟩
          go_wp2
          exact ⟨rfl, .int .i64 ((ks.length : Nat)), by kernel_rfl, Below.refl _ _, rfl⟩
        refine wf_stepK [] [] (by kernel_rfl) (by kernel_rfl) (fun wf hb hf => ?_) (fun t1 => ?_)
        · refine ⟨?_⟩
          go_wp2
          exact ⟨rfl, .slice A ks.length c, by kernel_rfl, Below.refl _ _, rfl⟩
        refine wf_stepK [1] [fun _ => t1 = .slice A ks.length c] (by kernel_rfl) (by kernel_rfl) (fun wf hb hf => ?_) (fun t2 => ?_)
        · obtain ⟨rfl, -⟩ := hf
          refine ⟨?_⟩
          go_wp2
          exact ⟨rfl, .int .i64 ((ks.length : Nat)), by kernel_rfl, Below.refl _ _, rfl⟩
        refine wf_stepK [0, 2] [fun _ => t0 = .int .i64 ((ks.length : Nat)), fun _ => t2 = .int .i64 ((ks.length : Nat))] (by kernel_rfl) (by kernel_rfl) (fun wf hb hf => ?_) (fun t3 => ?_)
        · obtain ⟨rfl, rfl, -⟩ := hf
          refine ⟨?_⟩
          go_wp2
          exact ⟨rfl, .bool false, by kernel_rfl, Below.refl _ _, rfl⟩
        refine wf_stepK [3] [fun _ => t3 = .bool false] (by kernel_rfl) (by kernel_rfl) (fun wf hb hf => ?_) (fun t4 => ?_)
        · obtain ⟨rfl, -⟩ := hf
          refine ⟨?_⟩
          go_wp2
          exact ⟨rfl, .bool false, by kernel_rfl, Below.refl _ _, rfl⟩
        refine wf_stepK [4] [fun _ => t4 = .bool false] (by kernel_rfl) (by kernel_rfl) (fun wf hb hf => ?_) (fun t5 => ?_)
        · obtain ⟨rfl, -⟩ := hf
          exact WfOp.no (by kernel_rfl) rfl
        refine wf_stepK [4] [fun _ => t4 = .bool false] (by kernel_rfl) (by kernel_rfl) (fun wf hb hf => ?_) (fun t6 => ?_)
        · obtain ⟨rfl, -⟩ := hf
          exact WfOp.no (by kernel_rfl) rfl
        refine wf_stepK [4, 5, 6] [fun _ => t4 = .bool false, fun _ => t5 = undef, fun _ => t6 = undef] (by kernel_rfl) (by kernel_rfl) (fun wf hb hf => ?_) (fun t7 => ?_)
        · obtain ⟨rfl, rfl, rfl, -⟩ := hf
          exact WfOp.no (by kernel_rfl) rfl
        refine wf_stepK [4, 7] [fun _ => t4 = .bool false, fun _ => t7 = undef] (by kernel_rfl) (by kernel_rfl) (fun wf hb hf => ?_) (fun t8 => ?_)
        · obtain ⟨rfl, rfl, -⟩ := hf
          exact WfOp.no (by kernel_rfl) rfl
        refine wf_stepK [4] [fun _ => t4 = .bool false] (by kernel_rfl) (by kernel_rfl) (fun wf hb hf => ?_) (fun t9 => ?_)
        · obtain ⟨rfl, -⟩ := hf
          exact WfOp.no (by kernel_rfl) rfl
        refine wf_stepK [4, 8, 9] [fun _ => t4 = .bool false, fun _ => t8 = undef, fun _ => t9 = undef] (by kernel_rfl) (by kernel_rfl) (fun wf hb hf => ?_) (fun t10 => ?_)
        · obtain ⟨rfl, rfl, rfl, -⟩ := hf
          exact WfOp.no (by kernel_rfl) rfl
        refine wf_doneK [4, 10] [fun _ => t4 = .bool false, fun _ => t10 = undef] (by kernel_rfl) (by kernel_rfl) (fun w5 b5 hf => ?_)
        obtain ⟨rfl, rfl, -⟩ := hf
        show wpList _ _ _ [_] _ _
        refine wpList_frame (by simp [Act.put]; rfl) ?_
        have hF := btr hbel b5
        have kT5 := kT4.below hF
        have kB5 := kB4.below hF
        have ho5 := ho4.below hF
        have hG5 := hG4.out.trans (GrownS.ofBelow hF)
        have c0 := kT5.cell 0
        have c1 := kT5.cell 1
        simp at c0 c1
        have HH : Hid (w.heap.size ≤ w5.heap.size) := hG5.size
        have HG5 := Lib.hid hG5
        have HTB := Lib.hid kB5
        have hb5 : base ≤ w5.heap.size := by have := HH.out; omega
        clear hbel kT hor kT5 hall hG5 kB5 kT4 hG4 kB4 ho4
        go_wp2_with fail
        refine (insAt_i base _ c ks ks.length (by omega) x y w5.heap.size _ (ho5.below (bal (Below.refl _ _) _)) (Blk.newAt rfl) (fun e => by have := (ho5.lt _ e).2; omega) (by omega) (by simp; omega)).mono ?_
        rintro e w6 ⟨A6, c6, rfl, ho6, g6, n6⟩
        have hB6 : Blk w6 B 106 #[.slice A xs.length c] := (g6.block B (by have := HTB.out.lt; simp; omega) (fun e => HAB.out e)).trans (HTB.out.alloc _)
        have e0 := hB6.cell 0
        have f0 := hB6.frozen 0
        simp at e0
        have h6A : Hid (blk A6 ≠ some B) := by
          intro e
          rcases ownsRow_form ho6 with ⟨rfl, _, _⟩ | ⟨g, rfl, _, _, _, _⟩
          · simp [blk] at e
          · have hgB : g = B := by simpa [blk] using e
            subst hgB
            obtain ⟨_, ⟨e1, _⟩ | ⟨g', cap, cur, e1, _, hg, _⟩⟩ := ho6
            · cases e1
            · injection e1 with e1 _ _
              injection e1 with e1
              injection e1 with e1
              subst e1
              unfold Blk at hB6
              rw [hB6] at hg
              injection hg with hg
              injection hg with _ hg _
              exact absurd hg (by decide)
        have HN6 : Hid (∀ k, blk A6 = some k → blk A = some k ∨ w.heap.size ≤ k) := fun k hk => by
          rcases n6 k hk with h | h
          · exact .inl h
          · have h2 := HH.out; simp at h; exact .inr (by omega)
        have HB6 := Lib.hid hB6
        have HO6 := Lib.hid ho6
        have HG6 : Hid (GrownS w w6 (fun k => k = B ∨ blk A = some k)) := HG5.out.trans ((GrownS.ofBelow (bal (Below.refl _ _) _)).trans (g6.mono (fun k hk => .inr hk)))
        clear hB6 ho6 g6 n6
        go_wp2
        go_end0
        have hln : (insT xs (x, y)).length = ks.length + 1 := by
          rw [HR.out]; unfold insAt; have := plc_le (x, y) ks; simp; omega
        refine ⟨rfl, A6, c6, ?_, ?_, HG6.out.set_ (p := ⟨B, 0, none⟩) (.inl rfl) _, HN6.out⟩
        · rw [hln]; exact HB6.out.set_ 0 _
        · have h1 : TmOwn w6 base A6 c6 (insT xs (x, y)) := by rw [HR.out]; unfold insAt; rw [HP.out]; exact HO6.out
          exact h1.loc (fun k hk => Below.heap_setCell _ _ _ k (fun e => h6A.out (by rw [hk, e])))
end Go.Proofs.Ytkonhjdfcfljpaa
