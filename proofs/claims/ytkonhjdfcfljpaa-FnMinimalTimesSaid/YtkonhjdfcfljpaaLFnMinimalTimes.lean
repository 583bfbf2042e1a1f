/- The law FnMinimalTimes returns true at every two codes; no condition. -/
import Derived.Test.YtkonhjdfcfljpaaDrawH
import Derived.Test.YtkonhjdfcfljpaaEqM
import Derived.Test.YtkonhjdfcfljpaaFrX
import Derived.Test.YtkonhjdfcfljpaaDrawMt
import Derived.Test.YtkonhjdfcfljpaaGrf
import Derived.Test.YtkonhjdfcfljpaaClo
import Derived.Carry
import Derived.ChangeOld
import Derived.Lib.SmallJoins
import Derived.Lib.QuietBelow
namespace Go.Proofs.Ytkonhjdfcfljpaa
open Go.ChangeShapes Go.WideShapes Go.ChangeAt Go.RowKit Go.Sort
set_option linter.unusedVariables false
set_option linter.unusedSimpArgs false

theorem absCF {P : Program} {f : FuncId} {args : Array Value} {w : World} {Q : Ending → World → Prop} (R : World → Prop) (h : R w) (k : ∀ W, R W → Calls P f args W Q) : Calls P f args w Q := k w h
theorem validO {A : Option Addr} {c : Nat} {fr : List Tm} {w : World} (r : Bool) (he : frB fr = r) (hx : TimesAt w A fr) (hn : fr.length ≤ 4194304) :
    Calls Try.prog 48 #[.slice A fr.length c] w fun e w' => e = .returned (.bool r) ∧ Below w.heap.size w w' := he ▸ ValidFrontier_i A c fr w hx hn
theorem coversO {A : Option Addr} {c : Nat} {fr : List Tm} {u v : Int} {w : World} (r : Bool) (he : fcB fr u v = r) (hx : TimesAt w A fr) (hn : fr.length ≤ 4194304) :
    Calls Try.prog 49 #[.slice A fr.length c, .agg #[.int .i64 u, .int .i64 v]] w fun e w' => e = .returned (.bool r) ∧ Below w.heap.size w w' := he ▸ FrontierCovers_i A c fr u v w hx hn

set_option maxRecDepth 100000 in
set_option maxHeartbeats 6400000 in
theorem FnMinimalTimes_walk (A : Option Addr) (n c : Nat) (AA : Option Addr) (nn cc : Nat) (w : World) (hc : n ≤ c) (hl : n ≤ maxLen) (hb : BytesAt w w.heap.size A n) (hcc : nn ≤ cc) (hll : nn ≤ maxLen) (hbb : BytesAt w w.heap.size AA nn) :
    Calls Try.prog 9 #[.slice A n c, .slice AA nn cc] w fun e w' => e = .returned (.bool true) ∧ Below w.heap.size w w' := by
  unfold maxLen at hl hll
  by_cases hbign : 1048576 < n
  · have hb' : (1048576 : Int) < n := by omega
    go_enter Try.func9, Try.ntmps9
    go_wp2
    go_ret
    exact ⟨rfl, Below.refl _ _⟩
  have hbn' : (n : Int) ≤ 1048576 := by omega
  by_cases hbignn : 1048576 < nn
  · have hb' : (1048576 : Int) < nn := by omega
    go_enter Try.func9, Try.ntmps9
    go_wp2
    go_ret
    exact ⟨rfl, Below.refl _ _⟩
  have hbnn' : (nn : Int) ≤ 1048576 := by omega
  have HB := Lib.hid hb
  clear hb hbign
  have HBB := Lib.hid hbb
  clear hbb hbignn
  go_enter Try.func9, Try.ntmps9
  go_wp2_with fail
  refine (DrawMinimalTimes_r _ _ _ _ HB.out hc (by omega)).mono ?_
  rintro e w1 ⟨x, Ax, cx, rfl, hox, hxl, b1⟩
  have B1 := b1
  have nx : x.length ≤ 4180000 := by omega
  have nx' : x.length ≤ 4194304 := by omega
  have nf : (MinF x).length ≤ 4180000 := by have := MinF_len x; omega
  have nf' : (MinF x).length ≤ 4194304 := by omega
  have hx1 := hox.at_
  clear hox
  go_wp2_with fail
  refine (MinimalTimes_i Ax cx x _ hx1 nx).mono ?_
  rintro e w2 ⟨Af, cf, rfl, hof, b2⟩
  have B2 := btr B1 b2
  have hx2 := hx1.below b2
  clear hx1
  have hf2 := hof.at_
  clear hof
  go_wp2_with fail
  refine (MinimalTimes_s Ax cx x _ hx2 nx).mono ?_
  rintro e w3 ⟨As2, cs2, rfl, hos, b3⟩
  have B3 := btr B2 b3
  have hx3 := hx2.below b3
  have hf3 := hf2.below b3
  clear hx2 hf2
  have hs3 := hos.at_
  clear hos
  go_wp2_with fail
  refine (equalM true (decide_eq_true rfl) hf3 hs3 nf' nf').mono ?_
  rintro e w4 ⟨rfl, b4⟩
  have B4 := btr B3 b4
  have hx4 := hx3.below b4
  have hf4 := hf3.below b4
  clear hx3 hf3
  clear hs3
  by_cases h0 : (MinF x).length = 0
  · have h0' : (((MinF x).length : Int) == 0) = true := by rw [h0]; rfl
    have HZ := Lib.hid h0
    clear h0
    go_wp2_with fail
    refine (MinimalTimes_s Ax cx x _ hx4 nx).mono ?_
    rintro e w5 ⟨As4, cs4, rfl, hos, b5⟩
    have B5 := btr B4 b5
    have hx5 := hx4.below b5
    have hf5 := hf4.below b5
    clear hx4 hf4
    have hs5 := hos.at_
    clear hos
    go_wp2_with fail
    refine (equalM true (decide_eq_true rfl) hf5 hs5 nf' nf').mono ?_
    rintro e w6 ⟨rfl, b6⟩
    have B6 := btr B5 b6
    have hx6 := hx5.below b6
    have hf6 := hf5.below b6
    clear hx5 hf5
    clear hs5
    go_wp2_with fail
    go_ret
    exact ⟨rfl, B6⟩
  have h0' : (((MinF x).length : Int) == 0) = false := by rw [beq_eq_false_iff_ne]; omega
  have hmf : MinF x = minT x := by
    unfold MinF at h0 ⊢
    split
    · rfl
    · rename_i hn; rw [if_neg hn] at h0; exact absurd rfl h0
  have hfc : ∀ u v, fcB (MinF x) u v = (cvB x u v && vtB u v) := fun u v => by
    unfold fcB
    rw [MinF_frB, hmf, minT_covers]
    cases vtB u v <;> simp
  have HFC := Lib.hid hfc
  clear hfc hmf h0
  have hbb : BytesAt w4 w4.heap.size AA nn := fun hp => by
    obtain ⟨b, off, e, h1, h2⟩ := (HBB.out.below B4 (Nat.le_refl _)) hp
    exact ⟨b, off, e, by have := B4.size; omega, h2⟩
  go_wp2_with fail
  refine (DrawVT_r _ _ _ _ hbb hcc (by omega)).mono ?_
  rintro e w5 ⟨tx, ty, rfl, b5⟩
  have B5 := btr B4 b5
  have hx5 := hx4.below b5
  have hf5 := hf4.below b5
  clear hx4 hf4
  clear hbb
  have hbT := bal (Below.refl w5.heap.size w5) (.cells #[.int .i64 tx, .int .i64 ty] 52)
  have kT0 : Blk (w5.alloc (.cells #[.int .i64 tx, .int .i64 ty] 52)) w5.heap.size 52 #[.int .i64 tx, .int .i64 ty] := Blk.newAt rfl
  obtain ⟨T, hT⟩ : ∃ T, T = w5.heap.size := ⟨_, rfl⟩
  have hB0 := btr B5 hbT
  have hx0 := hx5.below hbT
  have hf0 := hf5.below hbT
  clear hx5 hf5 hbT
  go_wp2
  rw [← hT] at kT0 ⊢
  clear hT
  obtain ⟨W0, hW0⟩ : ∃ W0, W0 = w5.alloc (.cells #[.int .i64 tx, .int .i64 ty] 52) := ⟨_, rfl⟩
  rw [← hW0] at kT0 hB0 hx0 hf0 ⊢
  clear hW0
  go_loopw [8, 9] (fun s iv wr => ∃ i : Nat, i ≤ x.length ∧ iv = .int .i64 i ∧ s = .bool (cvB (x.take i) tx ty) ∧ Below W0.heap.size W0 wr) (fun _ iv _ => x.length - (intOf iv).toNat)
  case atStart => exact ⟨0, by omega, rfl, rfl, RowKit.Below.refl _ _⟩
  case round =>
    obtain ⟨i, hi, rfl, rfl, hbel⟩ := hrel
    have kT := kT0.below hbel
    by_cases hlt : i < x.length
    · obtain ⟨xb, xo, rfl, hxb0, hc⟩ := (hx0) (by omega)
      have q1 := (hbel.cell (p := ⟨xb, xo + i * 2, none⟩) hxb0).trans (hc i hlt).1
      have q2 := (hbel.cell (p := ⟨xb, xo + i * 2 + 1, none⟩) hxb0).trans (hc i hlt).2
      rw [getD_lt _ hlt] at q1 q2
      have hxb : xb < wr.heap.size := Nat.lt_of_lt_of_le hxb0 hbel.size
      have hiI : (i : Int) < x.length := by omega
      have hst : cvB (x.take (i + 1)) tx ty = (cvB (x.take i) tx ty || leB x[i].1 x[i].2 tx ty) := by rw [List.take_succ_eq_append_getElem hlt, append_covers]; simp [cvB]
      clear hc
      cases hs : cvB (x.take i) tx ty
      · rw [hs] at hst
        cases hz : leB x[i].1 x[i].2 tx ty
        · rw [hz] at hst
          have hle := fun W => TimeLe_i x[i].1 x[i].2 tx ty W
          simp only [hz] at hle
          have HS := Lib.hid hst
          clear hst hz hs
          go_wp2_with fail
          refine wp_region_facts [[], [0], [0, 1], [0, 1], List.range 4, List.range 5, [0, 1], List.range 7, List.range 8]
            [fun v' _ => v' = .bool false, fun v' _ => v' = .bool false, fun v' _ => v' = .slice (some ⟨xb, xo, none⟩) x.length cx, fun v' _ => v' = .int .i64 ((i : Nat)), fun v' _ => v' = .pointer (some ⟨xb, xo + i * 2, none⟩), fun v' _ => v' = .agg #[.int .i64 x[i].1, .int .i64 x[i].2], fun v' _ => v' = .agg #[.int .i64 tx, .int .i64 ty], fun v' _ => v' = .bool false, fun v' _ => v' = .bool false]
            (by kernel_rfl) (by kernel_rfl) rfl ⟨stable_pure _, stable_pure _, stable_pure _, stable_pure _, stable_pure _, stable_pure _, stable_pure _, stable_pure _, stable_pure _, trivial⟩ ?_
          refine wf_stepK [] [] (by kernel_rfl) (by kernel_rfl) (fun wf hb hf => ?_) (fun t0 => ?_)
          · refine ⟨?_⟩
            go_wp2
            exact ⟨rfl, .bool false, by kernel_rfl, Below.refl _ _, rfl⟩
          refine wf_stepK [0] [fun _ => t0 = .bool false] (by kernel_rfl) (by kernel_rfl) (fun wf hb hf => ?_) (fun t1 => ?_)
          · obtain ⟨rfl, -⟩ := hf
            refine ⟨?_⟩
            go_wp2
            exact ⟨rfl, .bool false, by kernel_rfl, Below.refl _ _, rfl⟩
          refine wf_stepK [1] [fun _ => t1 = .bool false] (by kernel_rfl) (by kernel_rfl) (fun wf hb hf => ?_) (fun t2 => ?_)
          · obtain ⟨rfl, -⟩ := hf
            refine WfOp.yes (by kernel_rfl) ?_
            dsimp only
            go_wp2
            exact ⟨rfl, .slice (some ⟨xb, xo, none⟩) x.length cx, by kernel_rfl, Below.refl _ _, rfl⟩
          refine wf_stepK [1] [fun _ => t1 = .bool false] (by kernel_rfl) (by kernel_rfl) (fun wf hb hf => ?_) (fun t3 => ?_)
          · obtain ⟨rfl, -⟩ := hf
            refine WfOp.yes (by kernel_rfl) ?_
            dsimp only
            go_wp2
            exact ⟨rfl, .int .i64 ((i : Nat)), by kernel_rfl, Below.refl _ _, rfl⟩
          refine wf_stepK [1, 2, 3] [fun _ => t1 = .bool false, fun _ => t2 = .slice (some ⟨xb, xo, none⟩) x.length cx, fun _ => t3 = .int .i64 ((i : Nat))] (by kernel_rfl) (by kernel_rfl) (fun wf hb hf => ?_) (fun t4 => ?_)
          · obtain ⟨rfl, rfl, rfl, -⟩ := hf
            refine WfOp.yes (by kernel_rfl) ?_
            dsimp only
            go_wp2
            exact ⟨rfl, .pointer (some ⟨xb, xo + i * 2, none⟩), by kernel_rfl, Below.refl _ _, rfl⟩
          refine wf_stepK [1, 4] [fun _ => t1 = .bool false, fun _ => t4 = .pointer (some ⟨xb, xo + i * 2, none⟩)] (by kernel_rfl) (by kernel_rfl) (fun wf hb hf => ?_) (fun t5 => ?_)
          · obtain ⟨rfl, rfl, -⟩ := hf
            refine WfOp.yes (by kernel_rfl) ?_
            dsimp only
            have p0 := (hb.cell (p := ⟨xb, xo + i * 2, none⟩) hxb).trans q1
            have p1 := (hb.cell (p := ⟨xb, xo + i * 2 + 1, none⟩) hxb).trans q2
            go_wp2
            exact ⟨rfl, .agg #[.int .i64 x[i].1, .int .i64 x[i].2], by kernel_rfl, Below.refl _ _, rfl⟩
          refine wf_stepK [1] [fun _ => t1 = .bool false] (by kernel_rfl) (by kernel_rfl) (fun wf hb hf => ?_) (fun t6 => ?_)
          · obtain ⟨rfl, -⟩ := hf
            refine WfOp.yes (by kernel_rfl) ?_
            dsimp only
            have p0 := (kT.below hb).cell 0
            have p1 := (kT.below hb).cell 1
            simp at p0 p1
            go_wp2
            exact ⟨rfl, .agg #[.int .i64 tx, .int .i64 ty], by kernel_rfl, Below.refl _ _, rfl⟩
          refine wf_stepK [1, 5, 6] [fun _ => t1 = .bool false, fun _ => t5 = .agg #[.int .i64 x[i].1, .int .i64 x[i].2], fun _ => t6 = .agg #[.int .i64 tx, .int .i64 ty]] (by kernel_rfl) (by kernel_rfl) (fun wf hb hf => ?_) (fun t7 => ?_)
          · obtain ⟨rfl, rfl, rfl, -⟩ := hf
            refine WfOp.yes (by kernel_rfl) ?_
            dsimp only
            go_wp2_with (go_at_call 47; refine (hle _).mono ?_; rintro e w2 ⟨rfl, hb2⟩)
            exact ⟨rfl, .bool false, by kernel_rfl, hb2, rfl⟩
          refine wf_stepK [1, 7] [fun _ => t1 = .bool false, fun _ => t7 = .bool false] (by kernel_rfl) (by kernel_rfl) (fun wf hb hf => ?_) (fun t8 => ?_)
          · obtain ⟨rfl, rfl, -⟩ := hf
            refine ⟨?_⟩
            go_wp2
            exact ⟨rfl, .bool false, by kernel_rfl, Below.refl _ _, rfl⟩
          refine wf_doneK [8] [fun _ => t8 = .bool false] (by kernel_rfl) (by kernel_rfl) (fun w50 b50 hf => ?_)
          obtain ⟨rfl, -⟩ := hf
          show wpList _ _ _ [_] _ _
          refine wpList_frame (by simp [Act.put]; rfl) ?_
          go_wp2
          go_roundw
          case rel => exact ⟨i + 1, by omega, by go_num, by rw [HS.out]; rfl, btr hbel b50⟩
          case measure => simp [intOf]; omega
        · rw [hz] at hst
          have hle := fun W => TimeLe_i x[i].1 x[i].2 tx ty W
          simp only [hz] at hle
          have HS := Lib.hid hst
          clear hst hz hs
          go_wp2_with fail
          refine wp_region_facts [[], [0], [0, 1], [0, 1], List.range 4, List.range 5, [0, 1], List.range 7, List.range 8]
            [fun v' _ => v' = .bool false, fun v' _ => v' = .bool false, fun v' _ => v' = .slice (some ⟨xb, xo, none⟩) x.length cx, fun v' _ => v' = .int .i64 ((i : Nat)), fun v' _ => v' = .pointer (some ⟨xb, xo + i * 2, none⟩), fun v' _ => v' = .agg #[.int .i64 x[i].1, .int .i64 x[i].2], fun v' _ => v' = .agg #[.int .i64 tx, .int .i64 ty], fun v' _ => v' = .bool true, fun v' _ => v' = .bool true]
            (by kernel_rfl) (by kernel_rfl) rfl ⟨stable_pure _, stable_pure _, stable_pure _, stable_pure _, stable_pure _, stable_pure _, stable_pure _, stable_pure _, stable_pure _, trivial⟩ ?_
          refine wf_stepK [] [] (by kernel_rfl) (by kernel_rfl) (fun wf hb hf => ?_) (fun t0 => ?_)
          · refine ⟨?_⟩
            go_wp2
            exact ⟨rfl, .bool false, by kernel_rfl, Below.refl _ _, rfl⟩
          refine wf_stepK [0] [fun _ => t0 = .bool false] (by kernel_rfl) (by kernel_rfl) (fun wf hb hf => ?_) (fun t1 => ?_)
          · obtain ⟨rfl, -⟩ := hf
            refine ⟨?_⟩
            go_wp2
            exact ⟨rfl, .bool false, by kernel_rfl, Below.refl _ _, rfl⟩
          refine wf_stepK [1] [fun _ => t1 = .bool false] (by kernel_rfl) (by kernel_rfl) (fun wf hb hf => ?_) (fun t2 => ?_)
          · obtain ⟨rfl, -⟩ := hf
            refine WfOp.yes (by kernel_rfl) ?_
            dsimp only
            go_wp2
            exact ⟨rfl, .slice (some ⟨xb, xo, none⟩) x.length cx, by kernel_rfl, Below.refl _ _, rfl⟩
          refine wf_stepK [1] [fun _ => t1 = .bool false] (by kernel_rfl) (by kernel_rfl) (fun wf hb hf => ?_) (fun t3 => ?_)
          · obtain ⟨rfl, -⟩ := hf
            refine WfOp.yes (by kernel_rfl) ?_
            dsimp only
            go_wp2
            exact ⟨rfl, .int .i64 ((i : Nat)), by kernel_rfl, Below.refl _ _, rfl⟩
          refine wf_stepK [1, 2, 3] [fun _ => t1 = .bool false, fun _ => t2 = .slice (some ⟨xb, xo, none⟩) x.length cx, fun _ => t3 = .int .i64 ((i : Nat))] (by kernel_rfl) (by kernel_rfl) (fun wf hb hf => ?_) (fun t4 => ?_)
          · obtain ⟨rfl, rfl, rfl, -⟩ := hf
            refine WfOp.yes (by kernel_rfl) ?_
            dsimp only
            go_wp2
            exact ⟨rfl, .pointer (some ⟨xb, xo + i * 2, none⟩), by kernel_rfl, Below.refl _ _, rfl⟩
          refine wf_stepK [1, 4] [fun _ => t1 = .bool false, fun _ => t4 = .pointer (some ⟨xb, xo + i * 2, none⟩)] (by kernel_rfl) (by kernel_rfl) (fun wf hb hf => ?_) (fun t5 => ?_)
          · obtain ⟨rfl, rfl, -⟩ := hf
            refine WfOp.yes (by kernel_rfl) ?_
            dsimp only
            have p0 := (hb.cell (p := ⟨xb, xo + i * 2, none⟩) hxb).trans q1
            have p1 := (hb.cell (p := ⟨xb, xo + i * 2 + 1, none⟩) hxb).trans q2
            go_wp2
            exact ⟨rfl, .agg #[.int .i64 x[i].1, .int .i64 x[i].2], by kernel_rfl, Below.refl _ _, rfl⟩
          refine wf_stepK [1] [fun _ => t1 = .bool false] (by kernel_rfl) (by kernel_rfl) (fun wf hb hf => ?_) (fun t6 => ?_)
          · obtain ⟨rfl, -⟩ := hf
            refine WfOp.yes (by kernel_rfl) ?_
            dsimp only
            have p0 := (kT.below hb).cell 0
            have p1 := (kT.below hb).cell 1
            simp at p0 p1
            go_wp2
            exact ⟨rfl, .agg #[.int .i64 tx, .int .i64 ty], by kernel_rfl, Below.refl _ _, rfl⟩
          refine wf_stepK [1, 5, 6] [fun _ => t1 = .bool false, fun _ => t5 = .agg #[.int .i64 x[i].1, .int .i64 x[i].2], fun _ => t6 = .agg #[.int .i64 tx, .int .i64 ty]] (by kernel_rfl) (by kernel_rfl) (fun wf hb hf => ?_) (fun t7 => ?_)
          · obtain ⟨rfl, rfl, rfl, -⟩ := hf
            refine WfOp.yes (by kernel_rfl) ?_
            dsimp only
            go_wp2_with (go_at_call 47; refine (hle _).mono ?_; rintro e w2 ⟨rfl, hb2⟩)
            exact ⟨rfl, .bool true, by kernel_rfl, hb2, rfl⟩
          refine wf_stepK [1, 7] [fun _ => t1 = .bool false, fun _ => t7 = .bool true] (by kernel_rfl) (by kernel_rfl) (fun wf hb hf => ?_) (fun t8 => ?_)
          · obtain ⟨rfl, rfl, -⟩ := hf
            refine ⟨?_⟩
            go_wp2
            exact ⟨rfl, .bool true, by kernel_rfl, Below.refl _ _, rfl⟩
          refine wf_doneK [8] [fun _ => t8 = .bool true] (by kernel_rfl) (by kernel_rfl) (fun w50 b50 hf => ?_)
          obtain ⟨rfl, -⟩ := hf
          show wpList _ _ _ [_] _ _
          refine wpList_frame (by simp [Act.put]; rfl) ?_
          go_wp2
          go_roundw
          case rel => exact ⟨i + 1, by omega, by go_num, by rw [HS.out]; rfl, btr hbel b50⟩
          case measure => simp [intOf]; omega
      · rw [hs] at hst
        have HS := Lib.hid hst
        clear hst hs
        go_wp2_with fail
        refine wp_region_facts [[], [0], [0, 1], [0, 1], List.range 4, List.range 5, [0, 1], List.range 7, List.range 8]
          [fun v' _ => v' = .bool true, fun v' _ => v' = .bool true, fun v' _ => v' = undef, fun v' _ => v' = undef, fun v' _ => v' = undef, fun v' _ => v' = undef, fun v' _ => v' = undef, fun v' _ => v' = undef, fun v' _ => v' = .bool true]
          (by kernel_rfl) (by kernel_rfl) rfl ⟨stable_pure _, stable_pure _, stable_pure _, stable_pure _, stable_pure _, stable_pure _, stable_pure _, stable_pure _, stable_pure _, trivial⟩ ?_
        refine wf_stepK [] [] (by kernel_rfl) (by kernel_rfl) (fun wf hb hf => ?_) (fun t0 => ?_)
        · refine ⟨?_⟩
          go_wp2
          exact ⟨rfl, .bool true, by kernel_rfl, Below.refl _ _, rfl⟩
        refine wf_stepK [0] [fun _ => t0 = .bool true] (by kernel_rfl) (by kernel_rfl) (fun wf hb hf => ?_) (fun t1 => ?_)
        · obtain ⟨rfl, -⟩ := hf
          refine ⟨?_⟩
          go_wp2
          exact ⟨rfl, .bool true, by kernel_rfl, Below.refl _ _, rfl⟩
        refine wf_stepK [1] [fun _ => t1 = .bool true] (by kernel_rfl) (by kernel_rfl) (fun wf hb hf => ?_) (fun t2 => ?_)
        · obtain ⟨rfl, -⟩ := hf
          exact WfOp.no (by kernel_rfl) rfl
        refine wf_stepK [1] [fun _ => t1 = .bool true] (by kernel_rfl) (by kernel_rfl) (fun wf hb hf => ?_) (fun t3 => ?_)
        · obtain ⟨rfl, -⟩ := hf
          exact WfOp.no (by kernel_rfl) rfl
        refine wf_stepK [1, 2, 3] [fun _ => t1 = .bool true, fun _ => t2 = undef, fun _ => t3 = undef] (by kernel_rfl) (by kernel_rfl) (fun wf hb hf => ?_) (fun t4 => ?_)
        · obtain ⟨rfl, rfl, rfl, -⟩ := hf
          exact WfOp.no (by kernel_rfl) rfl
        refine wf_stepK [1, 4] [fun _ => t1 = .bool true, fun _ => t4 = undef] (by kernel_rfl) (by kernel_rfl) (fun wf hb hf => ?_) (fun t5 => ?_)
        · obtain ⟨rfl, rfl, -⟩ := hf
          exact WfOp.no (by kernel_rfl) rfl
        refine wf_stepK [1] [fun _ => t1 = .bool true] (by kernel_rfl) (by kernel_rfl) (fun wf hb hf => ?_) (fun t6 => ?_)
        · obtain ⟨rfl, -⟩ := hf
          exact WfOp.no (by kernel_rfl) rfl
        refine wf_stepK [1, 5, 6] [fun _ => t1 = .bool true, fun _ => t5 = undef, fun _ => t6 = undef] (by kernel_rfl) (by kernel_rfl) (fun wf hb hf => ?_) (fun t7 => ?_)
        · obtain ⟨rfl, rfl, rfl, -⟩ := hf
          exact WfOp.no (by kernel_rfl) rfl
        refine wf_stepK [1, 7] [fun _ => t1 = .bool true, fun _ => t7 = undef] (by kernel_rfl) (by kernel_rfl) (fun wf hb hf => ?_) (fun t8 => ?_)
        · obtain ⟨rfl, rfl, -⟩ := hf
          refine ⟨?_⟩
          go_wp2
          exact ⟨rfl, .bool true, by kernel_rfl, Below.refl _ _, rfl⟩
        refine wf_doneK [8] [fun _ => t8 = .bool true] (by kernel_rfl) (by kernel_rfl) (fun w50 b50 hf => ?_)
        obtain ⟨rfl, -⟩ := hf
        show wpList _ _ _ [_] _ _
        refine wpList_frame (by simp [Act.put]; rfl) ?_
        go_wp2
        go_roundw
        case rel => exact ⟨i + 1, by omega, by go_num, by rw [HS.out]; simp, btr hbel b50⟩
        case measure => simp [intOf]; omega
    · obtain rfl : i = x.length := by omega
      rw [List.take_length]
      have hB1 := btr hB0 hbel
      have hf1 := hf0.below hbel
      have hxx1 := hx0.below hbel
      have t0 := kT.cell 0
      have t1 := kT.cell 1
      simp at t0 t1
      clear hx0 hf0 hbel
      obtain ⟨w100, rfl⟩ : ∃ w100 : World, w100 = wr := ⟨_, rfl⟩
      have B100 := hB1
      have hf100 := hf1
      have hk100 := kT
      clear hB1 hf1 kT hxx1
      have HTW := Lib.hid (MinF_twice x)
      cases hcx : cvB x tx ty
      · have hfx := HFC.out tx ty
        rw [hcx] at hfx
        clear hcx
        simp only [Bool.false_and] at hfx
        have HFX := Lib.hid hfx
        clear hfx
        go_wp2_with fail
        refine (validO true (MinF_frB x) hf100 nf').mono ?_
        rintro e w101 ⟨rfl, b101⟩
        have B101 := btr B100 b101
        have hf101 := hf100.below b101
        have hk101 := hk100.below b101
        clear hf100 hk100
        clear t0 t1
        have t0 := hk101.cell 0
        have t1 := hk101.cell 1
        simp at t0 t1
        go_wp2_with fail
        refine (MinimalTimes_i Af cf (MinF x) _ hf101 nf).mono ?_
        rintro e w102 ⟨Aq, cq, rfl, hoq, b102⟩
        have B102 := btr B101 b102
        have hf102 := hf101.below b102
        have hk102 := hk101.below b102
        clear hf101 hk101
        clear t0 t1
        have t0 := hk102.cell 0
        have t1 := hk102.cell 1
        simp at t0 t1
        have hq102 := hoq.at_
        clear hoq
        have nq : (MinF (MinF x)).length ≤ 4194304 := by rw [HTW.out]; exact nf'
        go_wp2_with fail
        refine (equalM true (decide_eq_true HTW.out) hq102 hf102 nq nf').mono ?_
        rintro e w103 ⟨rfl, b103⟩
        have B103 := btr B102 b103
        have hf103 := hf102.below b103
        have hk103 := hk102.below b103
        clear hf102 hk102
        clear t0 t1
        have t0 := hk103.cell 0
        have t1 := hk103.cell 1
        simp at t0 t1
        clear hq102
        go_wp2_with fail
        refine (coversO false HFX.out hf103 nf').mono ?_
        rintro e w104 ⟨rfl, b104⟩
        have B104 := btr B103 b104
        have hf104 := hf103.below b104
        have hk104 := hk103.below b104
        clear hf103 hk103
        clear t0 t1
        have t0 := hk104.cell 0
        have t1 := hk104.cell 1
        simp at t0 t1
        clear t0 t1
        go_wp2_with fail
        go_ret
        exact ⟨rfl, B104⟩
      · have hfx := HFC.out tx ty
        rw [hcx] at hfx
        cases hv : vtB tx ty
        · rw [hv] at hfx
          simp only [Bool.true_and] at hfx
          have hvt := fun W => ValidTime_i tx ty W
          simp only [hv] at hvt
          clear hcx hv
          have HFX := Lib.hid hfx
          clear hfx
          go_wp2_with fail
          refine (validO true (MinF_frB x) hf100 nf').mono ?_
          rintro e w101 ⟨rfl, b101⟩
          have B101 := btr B100 b101
          have hf101 := hf100.below b101
          have hk101 := hk100.below b101
          clear hf100 hk100
          clear t0 t1
          have t0 := hk101.cell 0
          have t1 := hk101.cell 1
          simp at t0 t1
          go_wp2_with fail
          refine (MinimalTimes_i Af cf (MinF x) _ hf101 nf).mono ?_
          rintro e w102 ⟨Aq, cq, rfl, hoq, b102⟩
          have B102 := btr B101 b102
          have hf102 := hf101.below b102
          have hk102 := hk101.below b102
          clear hf101 hk101
          clear t0 t1
          have t0 := hk102.cell 0
          have t1 := hk102.cell 1
          simp at t0 t1
          have hq102 := hoq.at_
          clear hoq
          have nq : (MinF (MinF x)).length ≤ 4194304 := by rw [HTW.out]; exact nf'
          go_wp2_with fail
          refine (equalM true (decide_eq_true HTW.out) hq102 hf102 nq nf').mono ?_
          rintro e w103 ⟨rfl, b103⟩
          have B103 := btr B102 b103
          have hf103 := hf102.below b103
          have hk103 := hk102.below b103
          clear hf102 hk102
          clear t0 t1
          have t0 := hk103.cell 0
          have t1 := hk103.cell 1
          simp at t0 t1
          clear hq102
          go_wp2_with fail
          refine (coversO false HFX.out hf103 nf').mono ?_
          rintro e w104 ⟨rfl, b104⟩
          have B104 := btr B103 b104
          have hf104 := hf103.below b104
          have hk104 := hk103.below b104
          clear hf103 hk103
          clear t0 t1
          have t0 := hk104.cell 0
          have t1 := hk104.cell 1
          simp at t0 t1
          go_wp2_with fail
          refine (hvt _).mono ?_
          rintro e w105 ⟨rfl, b105⟩
          have B105 := btr B104 b105
          have hf105 := hf104.below b105
          have hk105 := hk104.below b105
          clear hf104 hk104
          clear t0 t1
          have t0 := hk105.cell 0
          have t1 := hk105.cell 1
          simp at t0 t1
          clear t0 t1
          go_wp2_with fail
          go_ret
          exact ⟨rfl, B105⟩
        · rw [hv] at hfx
          simp only [Bool.true_and] at hfx
          have hvt := fun W => ValidTime_i tx ty W
          simp only [hv] at hvt
          clear hcx hv
          have HFX := Lib.hid hfx
          clear hfx
          go_wp2_with fail
          refine (validO true (MinF_frB x) hf100 nf').mono ?_
          rintro e w101 ⟨rfl, b101⟩
          have B101 := btr B100 b101
          have hf101 := hf100.below b101
          have hk101 := hk100.below b101
          clear hf100 hk100
          clear t0 t1
          have t0 := hk101.cell 0
          have t1 := hk101.cell 1
          simp at t0 t1
          go_wp2_with fail
          refine (MinimalTimes_i Af cf (MinF x) _ hf101 nf).mono ?_
          rintro e w102 ⟨Aq, cq, rfl, hoq, b102⟩
          have B102 := btr B101 b102
          have hf102 := hf101.below b102
          have hk102 := hk101.below b102
          clear hf101 hk101
          clear t0 t1
          have t0 := hk102.cell 0
          have t1 := hk102.cell 1
          simp at t0 t1
          have hq102 := hoq.at_
          clear hoq
          have nq : (MinF (MinF x)).length ≤ 4194304 := by rw [HTW.out]; exact nf'
          go_wp2_with fail
          refine (equalM true (decide_eq_true HTW.out) hq102 hf102 nq nf').mono ?_
          rintro e w103 ⟨rfl, b103⟩
          have B103 := btr B102 b103
          have hf103 := hf102.below b103
          have hk103 := hk102.below b103
          clear hf102 hk102
          clear t0 t1
          have t0 := hk103.cell 0
          have t1 := hk103.cell 1
          simp at t0 t1
          clear hq102
          go_wp2_with fail
          refine (coversO true HFX.out hf103 nf').mono ?_
          rintro e w104 ⟨rfl, b104⟩
          have B104 := btr B103 b104
          have hf104 := hf103.below b104
          have hk104 := hk103.below b104
          clear hf103 hk103
          clear t0 t1
          have t0 := hk104.cell 0
          have t1 := hk104.cell 1
          simp at t0 t1
          go_wp2_with fail
          refine (hvt _).mono ?_
          rintro e w105 ⟨rfl, b105⟩
          have B105 := btr B104 b105
          have hf105 := hf104.below b105
          have hk105 := hk104.below b105
          clear hf104 hk104
          clear t0 t1
          have t0 := hk105.cell 0
          have t1 := hk105.cell 1
          simp at t0 t1
          clear t0 t1
          go_wp2_with fail
          go_ret
          exact ⟨rfl, B105⟩

namespace lawFnMinimalTimes
theorem own : ownKnob Try.prog.godebug = none := by kernel_rfl
theorem laidOut : laidOutB Try.prog = true := clo_laid
set_option maxRecDepth 100000 in
theorem lifted (os : Os) (started : os.Started) (H : Type) (enc : TypeId × Value → H) :
    ReturnsInHanded {} Try.checked os 9 .any (Rows.fnMinimalTimesSpec.pre6 enc Try.prog Try.f9 Rows.fnMinimalTimesRow.domain false) (Rows.fnMinimalTimesSpec.post enc Try.prog Try.f9 false true false false) := by
  refine returnsInHanded_of_change (C := Try.checked) own started (by kernel_rfl) Try.func9
    (ChangeSpec.witness6 (enc := enc) (C := Try.checked) false ⟨#[], #[.slice none 0 0, .slice none 0 0], []⟩ 8 (by kernel_rfl) (by kernel_rfl) (by kernel_rfl) (by kernel_rfl)) ?_
  intro W base args ds gs before hval0 hW hcnd _
  have hval : ∀ (j : Nat) t v, Try.f9.params[j]? = some t → args[j]? = some v → Value.okWide Try.prog W .any base t v := hval0
  have hW' := hW
  obtain ⟨p, q, hA0, hV, rfl, hfz, hnd⟩ := hW
  have hA : DataW.TrodAll enc Try.prog W 0 (fun _ => true) true Try.f9.params.toList args.toList ds p := hA0
  rw [Try.params9] at hA hval
  obtain ⟨v0, vs0, d0, ds0, p0, q0, hargs, rfl, rfl, h0, r0⟩ := trodAll_cons hA
  obtain ⟨v1, vs1, d1, ds1, p1, q1, rfl, rfl, rfl, h1, r1⟩ := trodAll_cons r0
  obtain ⟨rfl, rfl, rfl⟩ := trodAll_nil r1
  obtain rfl : args = #[v0, v1] := by cases args; simp_all
  obtain ⟨rfl, rfl⟩ := trodVars_none hV
  have k0 := h0
  have lt0 : ∀ x ∈ p0, x.block < W.heap.size := by obtain ⟨m, hm⟩ := k0; exact DataW.trod_lt m _ _ _ hm
  obtain ⟨a0, len0, cap0, rfl⟩ := okWide_slice Try.underlying48 (hval 0 48 v0 rfl rfl)
  obtain ⟨l0, m0, w0⟩ := bytes_of Try.underlying48 Try.underlying5 (by kernel_rfl) h0
  have k1 := h1
  have lt1 : ∀ x ∈ p1, x.block < W.heap.size := by obtain ⟨m, hm⟩ := k1; exact DataW.trod_lt m _ _ _ hm
  obtain ⟨a1, len1, cap1, rfl⟩ := okWide_slice Try.underlying48 (hval 1 48 v1 rfl rfl)
  obtain ⟨l1, m1, w1⟩ := bytes_of Try.underlying48 Try.underlying5 (by kernel_rfl) h1
  clear hA0 hval0
  refine (FnMinimalTimes_walk a0 len0 cap0 a1 len1 cap1 W l0 m0 w0 l1 m1 w1).mono fun e W' ⟨he, bel⟩ => ?_
  subst he
  exact ⟨_, rfl, _, _, _, [], _, [], hW', trodAll_mk1 (shut_bool Try.underlying4 _), (trodAll_cons_mk (Below.trod laidOut (by kernel_rfl) (of_decide_eq_true (by kernel_rfl)) k0 bel lt0) (trodAll_cons_mk (Below.trod laidOut (by kernel_rfl) (of_decide_eq_true (by kernel_rfl)) k1 bel lt1) trodAll_mk0)), rfl, bel.frame _, fun h => by cases h⟩
theorem andTT {a b : Bool} (h1 : a = true) (h2 : b = true) : (a && b) = true := by rw [h1, h2]; rfl
set_option maxHeartbeats 8000000 in
theorem closed : joinedFacts Try.prog 9 Try.f9 Rows.fnMinimalTimesSpec Rows.fnMinimalTimesRow = true := by
  unfold joinedFacts
  repeat' (with_reducible refine andTT ?_ ?_)
  all_goals (first | (with_reducible exact clo_laid) | (with_reducible exact clo_maps) | (with_reducible exact clo_heard) | (with_reducible exact clo_enter) | ((with_reducible refine clo_plain _ ?_); rfl) | ((with_reducible refine clo_lifts _ ?_); rfl) | (as_aux_lemma => kernel_rfl))

theorem over : Rows.fnMinimalTimesRow.holds Try.pinned (OpenSpec.ofChange Rows.fnMinimalTimesSpec) :=
  OpenClaim.holds_of_wide 9 Try.f9 rfl rfl rfl rfl rfl rfl rfl ⟨rfl, rfl, rfl, rfl, rfl⟩ rfl rfl rfl rfl rfl (by kernel_rfl) Try.func9 closed
    (of_decide_eq_true (by kernel_rfl)) (by unfold Func.isWrapper; first | (rw [if_pos (by decide +kernel)]; kernel_rfl) | (rw [if_neg (by decide +kernel)]; exact ⟨rfl, rfl⟩))
    (fun os started H enc _ => lifted os started H enc)

/-- THE STATEMENT. -/
theorem proved : Rows.FnMinimalTimesSaid := over
end lawFnMinimalTimes
end Go.Proofs.Ytkonhjdfcfljpaa
