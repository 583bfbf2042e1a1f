/- HELPER, no statement of the seat: AdvanceTime. -/
import Derived.Test.YtijjbhihlgglhabFrontD
namespace Go.Proofs.Ytijjbhihlgglhab
open Go.RowKit Go.Sort
set_option linter.unusedSimpArgs false
set_option linter.unusedVariables false

def jn (a b : Tm) : Tm := (max a.1 b.1, max a.2 b.2)
def mt (a b : Tm) : Tm := (min a.1 b.1, min a.2 b.2)
def advN (t : Tm) (xs : List Tm) : Nat → Tm
  | 0 => jn t (tg xs 0)
  | k + 1 => mt (advN t xs k) (jn t (tg xs (k + 1)))
theorem advN_next {t : Tm} {xs : List Tm} {k : Nat} (h : 1 ≤ k) : (#[.int .i64 (advN t xs (k + 1 - 1)).1, .int .i64 (advN t xs (k + 1 - 1)).2] : Array Value) = #[.int .i64 (min (advN t xs (k - 1)).1 (max t.1 (tg xs k).1)), .int .i64 (min (advN t xs (k - 1)).2 (max t.2 (tg xs k).2))] := by
  obtain ⟨j, rfl⟩ : ∃ j, k = j + 1 := ⟨k - 1, by omega⟩
  rfl
def atR (t : Tm) (xs : List Tm) : Tm := if frB xs && vtB t.1 t.2 && decide (0 < xs.length) then advN t xs (xs.length - 1) else t

set_option maxHeartbeats 2000000 in
theorem advance_s (t : Tm) (A : Option Addr) (c : Nat) (xs : List Tm) (w : World) (hx : TimesAt w A xs) (hn : xs.length ≤ 4194304) (hp : 0 < xs.length) :
    Calls Try.prog 58 #[.agg #[.int .i64 (t).1, .int .i64 (t).2], .slice A xs.length c] w fun e w' => e = .returned (.agg #[.int .i64 (advN t xs (xs.length - 1)).1, .int .i64 (advN t xs (xs.length - 1)).2]) ∧ Below w.heap.size w w' := by
  obtain ⟨b, off, rfl, hbl, hc⟩ := hx hp
  have hz : ((xs.length : Int) == 0) = false := by rw [beq_eq_false_iff_ne]; omega
  have hI0 : (0 : Int) < xs.length := by omega
  have HP := Lib.hid hp
  have HC := Lib.hid hc
  clear hp hc hx
  go_enter Try.func58, Try.ntmps58
  go_wp2_with fail
  refine abs_world (fun wB => Below w.heap.size w wB ∧ Blk wB w.heap.size 34 #[.int .i64 (t).1, .int .i64 (t).2] ∧ Blk wB (w.heap.size + 1) 34 #[.int .i64 0, .int .i64 0])
    ⟨bal (bal (Below.refl _ _) _) _, (Blk.newAt rfl).alloc _, Blk.newAt (by simp)⟩ (fun wB hh => ?_)
  obtain ⟨hB, k0, k1⟩ := hh
  refine wp_region_facts [[], [], [1], [2], [0, 3], []]
    [fun v' _ => v' = .agg #[.int .i64 (t).1, .int .i64 (t).2], fun v' _ => v' = .slice (some ⟨b, off, none⟩) xs.length c, fun v' _ => v' = .pointer (some ⟨b, off, none⟩), fun v' _ => v' = .agg #[.int .i64 (tg xs 0).1, .int .i64 (tg xs 0).2], fun v' _ => v' = .agg #[.int .i64 (max t.1 (tg xs 0).1), .int .i64 (max t.2 (tg xs 0).2)], AtBlk wB.heap.size 34 #[.int .i64 0, .int .i64 0]]
    (by kernel_rfl) (by kernel_rfl) rfl ⟨stable_pure _, stable_pure _, stable_pure _, stable_pure _, stable_pure _, stable_atBlk _ _ _, trivial⟩ ?_
  refine wf_step (fun w1 hb hf => ?_) (fun t0 => ?_)
  · have c0 := (k0.below hb).cell
    go_wp2
    exact ⟨rfl, _, rfl, Below.refl _ _, rfl⟩
  refine wf_step (fun w1 hb hf => ?_) (fun t1 => ?_)
  · go_wp2
    exact ⟨rfl, _, rfl, Below.refl _ _, rfl⟩
  refine wf_step (fun w1 hb hf => ?_) (fun t2 => ?_)
  · obtain ⟨rfl, -⟩ := hf
    go_wp2
    exact ⟨rfl, _, rfl, Below.refl _ _, rfl⟩
  refine wf_step (fun w1 hb hf => ?_) (fun t3 => ?_)
  · obtain ⟨rfl, -⟩ := hf
    have hb1 := btr hB hb
    have q := HC.out 0 HP.out
    have q1 : w1.cell? ⟨b, off, none⟩ = some (.int .i64 (tg xs 0).1) := (hb1.cell (p := ⟨b, off, none⟩) hbl).trans (by have q' := q.1; rw [Nat.zero_mul, Nat.add_zero] at q'; exact q')
    have q2 : w1.cell? ⟨b, off + 1, none⟩ = some (.int .i64 (tg xs 0).2) := (hb1.cell (p := ⟨b, off + 1, none⟩) hbl).trans (by have q' := q.2; rw [Nat.zero_mul, Nat.add_zero] at q'; exact q')
    clear q
    go_wp2
    exact ⟨rfl, _, rfl, Below.refl _ _, rfl⟩
  refine wf_step (fun w1 hb hf => ?_) (fun t4 => ?_)
  · obtain ⟨rfl, rfl, -⟩ := hf
    go_wp2_with (go_at_call 74; refine (timeJoin_s _ _ _ _ _).mono ?_; rintro e w2 ⟨rfl, hb2⟩)
    exact ⟨rfl, _, rfl, hb2, rfl⟩
  refine wf_step (fun w1 hb hf => ?_) (fun t5 => ?_)
  · go_wp2
    exact ⟨rfl, _, rfl, bal (Below.refl _ _) _, _, rfl, hb.size, Blk.newAt rfl⟩
  refine wf_done (fun wC hb hf => ?_)
  obtain ⟨rfl, rfl, rfl, rfl, rfl, ⟨b5, rfl, hle, k5⟩, -⟩ := hf
  show wpList _ _ _ [_] _ _
  refine wpList_frame (by simp [Act.put]; rfl) ?_
  have l0 := k0.lt
  have l1 := k1.lt
  refine wpList_abs (fun wD => Below w.heap.size w wD ∧ Blk wD w.heap.size 34 #[.int .i64 (t).1, .int .i64 (t).2] ∧ Blk wD (w.heap.size + 1) 34 #[.int .i64 0, .int .i64 0] ∧ Blk wD b5 34 #[.int .i64 (max t.1 (tg xs 0).1), .int .i64 (max t.2 (tg xs 0).2)]) ?_ (fun wD hh => ?_)
  · have c5 := k5.cell
    have f5 := k5.frozen
    have p1 : w.heap.size ≠ b5 := by omega
    have p2 : w.heap.size + 1 ≠ b5 := by omega
    have KB := Lib.hid k5
    clear k5
    go_wp2
    exact ⟨rfl, rfl, bset (bset (btr hB hb) (by simp; omega) _) (by simp; omega) _, ((k0.below hb).far p1 _).far p1 _, ((k1.below hb).far p2 _).far p2 _, (KB.out.set_ 0 _).set_ 1 _⟩
  clear hB k0 k1 k5 hb
  have g5 : w.heap.size + 1 < b5 := by omega
  obtain ⟨hB, k0, k1, k5⟩ := hh
  clear hle l0 l1
  go_wp2
  go_loopw [6] (fun i wr => ∃ k : Nat, 1 ≤ k ∧ k ≤ xs.length ∧ i = .int .i64 k ∧ Blk wr w.heap.size 34 #[.int .i64 (t).1, .int .i64 (t).2] ∧ Blk wr (w.heap.size + 1) 34 #[.int .i64 0, .int .i64 0] ∧ Blk wr b5 34 #[.int .i64 (advN t xs (k - 1)).1, .int .i64 (advN t xs (k - 1)).2] ∧ Below w.heap.size w wr) (fun i _ => xs.length - (intOf i).toNat)
  case atStart => exact ⟨1, by omega, HP.out, rfl, k0, k1, k5, hB⟩
  case round =>
    clear hB k0 k1 k5
    obtain ⟨k, hk1, hk, rfl, k0, k1, k5, hB⟩ := hrel
    obtain ⟨wo, rfl⟩ : ∃ wo : World, wo = wr := ⟨_, rfl⟩
    by_cases hlt : k < xs.length
    · have hI : (k : Int) < xs.length := by omega
      have q := HC.out k hlt
      go_wp2_with fail
      refine wp_region_facts [[], [], [], [], [2, 3], [4], [1, 5], [0, 6]]
        [fun v' _ => v' = .agg #[.int .i64 (advN t xs (k - 1)).1, .int .i64 (advN t xs (k - 1)).2], fun v' _ => v' = .agg #[.int .i64 (t).1, .int .i64 (t).2], fun v' _ => v' = .slice (some ⟨b, off, none⟩) xs.length c, fun v' _ => v' = .int .i64 k, fun v' _ => v' = .pointer (some ⟨b, off + k * 2, none⟩), fun v' _ => v' = .agg #[.int .i64 (tg xs k).1, .int .i64 (tg xs k).2], fun v' _ => v' = .agg #[.int .i64 (max t.1 (tg xs k).1), .int .i64 (max t.2 (tg xs k).2)], fun v' _ => v' = .agg #[.int .i64 (min (advN t xs (k - 1)).1 (max t.1 (tg xs k).1)), .int .i64 (min (advN t xs (k - 1)).2 (max t.2 (tg xs k).2))]]
        (by kernel_rfl) (by kernel_rfl) rfl ⟨stable_pure _, stable_pure _, stable_pure _, stable_pure _, stable_pure _, stable_pure _, stable_pure _, stable_pure _, trivial⟩ ?_
      refine wf_step (fun w1 hb hf => ?_) (fun t0 => ?_)
      · have c0 := (k5.below hb).cell
        go_wp2
        exact ⟨rfl, _, rfl, Below.refl _ _, rfl⟩
      refine wf_step (fun w1 hb hf => ?_) (fun t1 => ?_)
      · have c0 := (k0.below hb).cell
        go_wp2
        exact ⟨rfl, _, rfl, Below.refl _ _, rfl⟩
      refine wf_step (fun w1 hb hf => ?_) (fun t2 => ?_)
      · go_wp2
        exact ⟨rfl, _, rfl, Below.refl _ _, rfl⟩
      refine wf_step (fun w1 hb hf => ?_) (fun t3 => ?_)
      · go_wp2
        exact ⟨rfl, _, rfl, Below.refl _ _, rfl⟩
      refine wf_step (fun w1 hb hf => ?_) (fun t4 => ?_)
      · obtain ⟨rfl, rfl, -⟩ := hf
        go_wp2
        exact ⟨rfl, _, rfl, Below.refl _ _, rfl⟩
      refine wf_step (fun w1 hb hf => ?_) (fun t5 => ?_)
      · obtain ⟨rfl, -⟩ := hf
        have hb1 := btr hB hb
        have q1 : w1.cell? ⟨b, off + k * 2, none⟩ = some (.int .i64 (tg xs k).1) := (hb1.cell (p := ⟨b, off + k * 2, none⟩) hbl).trans q.1
        have q2 : w1.cell? ⟨b, off + k * 2 + 1, none⟩ = some (.int .i64 (tg xs k).2) := (hb1.cell (p := ⟨b, off + k * 2 + 1, none⟩) hbl).trans q.2
        go_wp2
        exact ⟨rfl, _, rfl, Below.refl _ _, rfl⟩
      refine wf_step (fun w1 hb hf => ?_) (fun t6 => ?_)
      · obtain ⟨rfl, rfl, -⟩ := hf
        go_wp2_with (go_at_call 74; refine (timeJoin_s _ _ _ _ _).mono ?_; rintro e w2 ⟨rfl, hb2⟩)
        exact ⟨rfl, _, rfl, hb2, rfl⟩
      refine wf_step (fun w1 hb hf => ?_) (fun t7 => ?_)
      · obtain ⟨rfl, rfl, -⟩ := hf
        go_wp2_with (go_at_call 77; refine (timeMeet_s _ _ _ _ _).mono ?_; rintro e w2 ⟨rfl, hb2⟩)
        exact ⟨rfl, _, rfl, hb2, rfl⟩
      refine wf_done (fun wC hb hf => ?_)
      obtain ⟨rfl, rfl, rfl, rfl, rfl, rfl, rfl, rfl, -⟩ := hf
      show wpList _ _ _ [_] _ _
      refine wpList_frame (by simp [Act.put]; rfl) ?_
      refine wpList_abs (fun wD => Below w.heap.size w wD ∧ Blk wD w.heap.size 34 #[.int .i64 (t).1, .int .i64 (t).2] ∧ Blk wD (w.heap.size + 1) 34 #[.int .i64 0, .int .i64 0] ∧ Blk wD b5 34 #[.int .i64 (min (advN t xs (k - 1)).1 (max t.1 (tg xs k).1)), .int .i64 (min (advN t xs (k - 1)).2 (max t.2 (tg xs k).2))]) ?_ (fun wD hh => ?_)
      · have c5 := (k5.below hb).cell
        have f5 := (k5.below hb).frozen
        have p1 : w.heap.size ≠ b5 := by omega
        have p2 : w.heap.size + 1 ≠ b5 := by omega
        have KB := Lib.hid (k5.below hb)
        clear k5
        go_wp2
        exact ⟨rfl, rfl, bset (bset (btr hB hb) (by simp; omega) _) (by simp; omega) _, ((k0.below hb).far p1 _).far p1 _, ((k1.below hb).far p2 _).far p2 _, (KB.out.set_ 0 _).set_ 1 _⟩
      clear hB k0 k1 k5 hb q
      obtain ⟨hB, k0, k1, k5⟩ := hh
      rw [← advN_next hk1] at k5
      have HH := Lib.hid (And.intro k0 (And.intro k1 k5))
      clear k0 k1 k5
      go_wp2
      go_roundw
      case rel => exact ⟨k + 1, by omega, by omega, by go_num, HH.out.1, HH.out.2.1, HH.out.2.2, hB⟩
      case measure => simp [intOf]; omega
    · obtain rfl : k = xs.length := by omega
      have c0 := k5.cell
      have c1 := k1.cell
      have f1 := k1.frozen
      clear hk hk1 HP HC hbl
      have HB := Lib.hid hB
      have KK := Lib.hid k1
      clear hB k0 k1 k5
      go_wp2
      have r0 := (KK.out.set_ 0 (.int .i64 (advN t xs (xs.length - 1)).1)).cell 0
      have r1 := ((KK.out.set_ 0 (.int .i64 (advN t xs (xs.length - 1)).1)).set_ 1 (.int .i64 (advN t xs (xs.length - 1)).2)).cell 1
      have r2 := ((KK.out.set_ 0 (.int .i64 (advN t xs (xs.length - 1)).1)).set_ 1 (.int .i64 (advN t xs (xs.length - 1)).2)).cell 0
      exact bodyPost_ret (v := .agg #[.int .i64 (advN t xs (xs.length - 1)).1, .int .i64 (advN t xs (xs.length - 1)).2]) (by simp [results, Try.results58, go_sem, r0, r1, r2]) rfl ⟨rfl, bset (bset HB.out (by simp) _) (by simp) _⟩
end Go.Proofs.Ytijjbhihlgglhab
