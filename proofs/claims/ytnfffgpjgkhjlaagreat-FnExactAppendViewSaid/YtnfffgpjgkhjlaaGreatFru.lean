/- HELPER, no statement of the seat: several texts in one file. -/
import Derived.Test.YtnfffgpjgkhjlaaGreatFrt
/- HELPER, no statement of the seat: AdvanceTime. -/
namespace Go.Proofs.YtnfffgpjgkhjlaaGreat
open Go.RowKit Go.Sort
set_option linter.unusedSimpArgs false
set_option linter.unusedVariables false

def jn (a b : Tm) : Tm := (max a.1 b.1, max a.2 b.2)
def mt (a b : Tm) : Tm := (min a.1 b.1, min a.2 b.2)
def advN (t : Tm) (xs : List Tm) : Nat → Tm
  | 0 => jn t (tg xs 0)
  | k + 1 => mt (advN t xs k) (jn t (tg xs (k + 1)))
theorem advN_next {t : Tm} {xs : List Tm} {k : Nat} (h : 1 ≤ k) : (#[.int .i64 (advN t xs (k + 1 - 1)).1, .int .i64 (advN t xs (k + 1 - 1)).2] : Array Value) = #[.int .i64 (min (advN t xs (k - 1)).1 (max t.1 (tg xs k).1)), .int .i64 (min (advN t xs (k - 1)).2 (max t.2 (tg xs k).2))] := by
  obtain ⟨j, rfl⟩ : ∃ j, k = j + 1 := ⟨k - 1, by omega⟩
  rfl
def atR (t : Tm) (xs : List Tm) : Tm := if frB xs && vtB t.1 t.2 && decide (0 < xs.length) then advN t xs (xs.length - 1) else t

set_option maxHeartbeats 2000000 in
theorem advance_s (t : Tm) (A : Option Addr) (c : Nat) (xs : List Tm) (w : World) (hx : TimesAt w A xs) (hn : xs.length ≤ 4194304) (hp : 0 < xs.length) :
    Calls Tryz.prog 71 #[.agg #[.int .i64 (t).1, .int .i64 (t).2], .slice A xs.length c] w fun e w' => e = .returned (.agg #[.int .i64 (advN t xs (xs.length - 1)).1, .int .i64 (advN t xs (xs.length - 1)).2]) ∧ Below w.heap.size w w' := by
  obtain ⟨b, off, rfl, hbl, hc⟩ := hx hp
  have hz : ((xs.length : Int) == 0) = false := by rw [beq_eq_false_iff_ne]; omega
  have hI0 : (0 : Int) < xs.length := by omega
  have HP := Lib.hid hp
  have HC := Lib.hid hc
  clear hp hc hx
  go_enter Tryz.func71, Tryz.ntmps71
  go_wp2_with fail
  refine abs_world (fun wB => Below w.heap.size w wB ∧ Blk wB w.heap.size 61 #[.int .i64 (t).1, .int .i64 (t).2] ∧ Blk wB (w.heap.size + 1) 61 #[.int .i64 0, .int .i64 0])
    ⟨bal (bal (Below.refl _ _) _) _, (Blk.newAt rfl).alloc _, Blk.newAt (by simp)⟩ (fun wB hh => ?_)
  obtain ⟨hB, k0, k1⟩ := hh
  refine wp_region_facts [[], [], [1], [2], [0, 3], []]
    [fun v' _ => v' = .agg #[.int .i64 (t).1, .int .i64 (t).2], fun v' _ => v' = .slice (some ⟨b, off, none⟩) xs.length c, fun v' _ => v' = .pointer (some ⟨b, off, none⟩), fun v' _ => v' = .agg #[.int .i64 (tg xs 0).1, .int .i64 (tg xs 0).2], fun v' _ => v' = .agg #[.int .i64 (max t.1 (tg xs 0).1), .int .i64 (max t.2 (tg xs 0).2)], AtBlk wB.heap.size 61 #[.int .i64 0, .int .i64 0]]
    (by kernel_rfl) (by kernel_rfl) rfl ⟨stable_pure _, stable_pure _, stable_pure _, stable_pure _, stable_pure _, stable_atBlk _ _ _, trivial⟩ ?_
  refine wf_step (fun w1 hb hf => ?_) (fun t0 => ?_)
  · have c0 := (k0.below hb).cell
    go_wp2
    exact ⟨rfl, _, rfl, Below.refl _ _, rfl⟩
  refine wf_step (fun w1 hb hf => ?_) (fun t1 => ?_)
  · go_wp2
    exact ⟨rfl, _, rfl, Below.refl _ _, rfl⟩
  refine wf_step (fun w1 hb hf => ?_) (fun t2 => ?_)
  · obtain ⟨rfl, -⟩ := hf
    go_wp2
    exact ⟨rfl, _, rfl, Below.refl _ _, rfl⟩
  refine wf_step (fun w1 hb hf => ?_) (fun t3 => ?_)
  · obtain ⟨rfl, -⟩ := hf
    have hb1 := btr hB hb
    have q := HC.out 0 HP.out
    have q1 : w1.cell? ⟨b, off, none⟩ = some (.int .i64 (tg xs 0).1) := (hb1.cell (p := ⟨b, off, none⟩) hbl).trans (by have q' := q.1; rw [Nat.zero_mul, Nat.add_zero] at q'; exact q')
    have q2 : w1.cell? ⟨b, off + 1, none⟩ = some (.int .i64 (tg xs 0).2) := (hb1.cell (p := ⟨b, off + 1, none⟩) hbl).trans (by have q' := q.2; rw [Nat.zero_mul, Nat.add_zero] at q'; exact q')
    clear q
    go_wp2
    exact ⟨rfl, _, rfl, Below.refl _ _, rfl⟩
  refine wf_step (fun w1 hb hf => ?_) (fun t4 => ?_)
  · obtain ⟨rfl, rfl, -⟩ := hf
    go_wp2_with (go_at_call 77; refine (timeJoin_s _ _ _ _ _).mono ?_; rintro e w2 ⟨rfl, hb2⟩)
    exact ⟨rfl, _, rfl, hb2, rfl⟩
  refine wf_step (fun w1 hb hf => ?_) (fun t5 => ?_)
  · go_wp2
    exact ⟨rfl, _, rfl, bal (Below.refl _ _) _, _, rfl, hb.size, Blk.newAt rfl⟩
  refine wf_done (fun wC hb hf => ?_)
  obtain ⟨rfl, rfl, rfl, rfl, rfl, ⟨b5, rfl, hle, k5⟩, -⟩ := hf
  show wpList _ _ _ [_] _ _
  refine wpList_frame (by simp [Act.put]; rfl) ?_
  have l0 := k0.lt
  have l1 := k1.lt
  refine wpList_abs (fun wD => Below w.heap.size w wD ∧ Blk wD w.heap.size 61 #[.int .i64 (t).1, .int .i64 (t).2] ∧ Blk wD (w.heap.size + 1) 61 #[.int .i64 0, .int .i64 0] ∧ Blk wD b5 61 #[.int .i64 (max t.1 (tg xs 0).1), .int .i64 (max t.2 (tg xs 0).2)]) ?_ (fun wD hh => ?_)
  · have c5 := k5.cell
    have f5 := k5.frozen
    have p1 : w.heap.size ≠ b5 := by omega
    have p2 : w.heap.size + 1 ≠ b5 := by omega
    have KB := Lib.hid k5
    clear k5
    go_wp2
    exact ⟨rfl, rfl, bset (bset (btr hB hb) (by simp; omega) _) (by simp; omega) _, ((k0.below hb).far p1 _).far p1 _, ((k1.below hb).far p2 _).far p2 _, (KB.out.set_ 0 _).set_ 1 _⟩
  clear hB k0 k1 k5 hb
  have g5 : w.heap.size + 1 < b5 := by omega
  obtain ⟨hB, k0, k1, k5⟩ := hh
  clear hle l0 l1
  go_wp2
  go_loopw [6] (fun i wr => ∃ k : Nat, 1 ≤ k ∧ k ≤ xs.length ∧ i = .int .i64 k ∧ Blk wr w.heap.size 61 #[.int .i64 (t).1, .int .i64 (t).2] ∧ Blk wr (w.heap.size + 1) 61 #[.int .i64 0, .int .i64 0] ∧ Blk wr b5 61 #[.int .i64 (advN t xs (k - 1)).1, .int .i64 (advN t xs (k - 1)).2] ∧ Below w.heap.size w wr) (fun i _ => xs.length - (intOf i).toNat)
  case atStart => exact ⟨1, by omega, HP.out, rfl, k0, k1, k5, hB⟩
  case round =>
    clear hB k0 k1 k5
    obtain ⟨k, hk1, hk, rfl, k0, k1, k5, hB⟩ := hrel
    obtain ⟨wo, rfl⟩ : ∃ wo : World, wo = wr := ⟨_, rfl⟩
    by_cases hlt : k < xs.length
    · have hI : (k : Int) < xs.length := by omega
      have q := HC.out k hlt
      go_wp2_with fail
      refine wp_region_facts [[], [], [], [], [2, 3], [4], [1, 5], [0, 6]]
        [fun v' _ => v' = .agg #[.int .i64 (advN t xs (k - 1)).1, .int .i64 (advN t xs (k - 1)).2], fun v' _ => v' = .agg #[.int .i64 (t).1, .int .i64 (t).2], fun v' _ => v' = .slice (some ⟨b, off, none⟩) xs.length c, fun v' _ => v' = .int .i64 k, fun v' _ => v' = .pointer (some ⟨b, off + k * 2, none⟩), fun v' _ => v' = .agg #[.int .i64 (tg xs k).1, .int .i64 (tg xs k).2], fun v' _ => v' = .agg #[.int .i64 (max t.1 (tg xs k).1), .int .i64 (max t.2 (tg xs k).2)], fun v' _ => v' = .agg #[.int .i64 (min (advN t xs (k - 1)).1 (max t.1 (tg xs k).1)), .int .i64 (min (advN t xs (k - 1)).2 (max t.2 (tg xs k).2))]]
        (by kernel_rfl) (by kernel_rfl) rfl ⟨stable_pure _, stable_pure _, stable_pure _, stable_pure _, stable_pure _, stable_pure _, stable_pure _, stable_pure _, trivial⟩ ?_
      refine wf_step (fun w1 hb hf => ?_) (fun t0 => ?_)
      · have c0 := (k5.below hb).cell
        go_wp2
        exact ⟨rfl, _, rfl, Below.refl _ _, rfl⟩
      refine wf_step (fun w1 hb hf => ?_) (fun t1 => ?_)
      · have c0 := (k0.below hb).cell
        go_wp2
        exact ⟨rfl, _, rfl, Below.refl _ _, rfl⟩
      refine wf_step (fun w1 hb hf => ?_) (fun t2 => ?_)
      · go_wp2
        exact ⟨rfl, _, rfl, Below.refl _ _, rfl⟩
      refine wf_step (fun w1 hb hf => ?_) (fun t3 => ?_)
      · go_wp2
        exact ⟨rfl, _, rfl, Below.refl _ _, rfl⟩
      refine wf_step (fun w1 hb hf => ?_) (fun t4 => ?_)
      · obtain ⟨rfl, rfl, -⟩ := hf
        go_wp2
        exact ⟨rfl, _, rfl, Below.refl _ _, rfl⟩
      refine wf_step (fun w1 hb hf => ?_) (fun t5 => ?_)
      · obtain ⟨rfl, -⟩ := hf
        have hb1 := btr hB hb
        have q1 : w1.cell? ⟨b, off + k * 2, none⟩ = some (.int .i64 (tg xs k).1) := (hb1.cell (p := ⟨b, off + k * 2, none⟩) hbl).trans q.1
        have q2 : w1.cell? ⟨b, off + k * 2 + 1, none⟩ = some (.int .i64 (tg xs k).2) := (hb1.cell (p := ⟨b, off + k * 2 + 1, none⟩) hbl).trans q.2
        go_wp2
        exact ⟨rfl, _, rfl, Below.refl _ _, rfl⟩
      refine wf_step (fun w1 hb hf => ?_) (fun t6 => ?_)
      · obtain ⟨rfl, rfl, -⟩ := hf
        go_wp2_with (go_at_call 77; refine (timeJoin_s _ _ _ _ _).mono ?_; rintro e w2 ⟨rfl, hb2⟩)
        exact ⟨rfl, _, rfl, hb2, rfl⟩
      refine wf_step (fun w1 hb hf => ?_) (fun t7 => ?_)
      · obtain ⟨rfl, rfl, -⟩ := hf
        go_wp2_with (go_at_call 93; refine (timeMeet_s _ _ _ _ _).mono ?_; rintro e w2 ⟨rfl, hb2⟩)
        exact ⟨rfl, _, rfl, hb2, rfl⟩
      refine wf_done (fun wC hb hf => ?_)
      obtain ⟨rfl, rfl, rfl, rfl, rfl, rfl, rfl, rfl, -⟩ := hf
      show wpList _ _ _ [_] _ _
      refine wpList_frame (by simp [Act.put]; rfl) ?_
      refine wpList_abs (fun wD => Below w.heap.size w wD ∧ Blk wD w.heap.size 61 #[.int .i64 (t).1, .int .i64 (t).2] ∧ Blk wD (w.heap.size + 1) 61 #[.int .i64 0, .int .i64 0] ∧ Blk wD b5 61 #[.int .i64 (min (advN t xs (k - 1)).1 (max t.1 (tg xs k).1)), .int .i64 (min (advN t xs (k - 1)).2 (max t.2 (tg xs k).2))]) ?_ (fun wD hh => ?_)
      · have c5 := (k5.below hb).cell
        have f5 := (k5.below hb).frozen
        have p1 : w.heap.size ≠ b5 := by omega
        have p2 : w.heap.size + 1 ≠ b5 := by omega
        have KB := Lib.hid (k5.below hb)
        clear k5
        go_wp2
        exact ⟨rfl, rfl, bset (bset (btr hB hb) (by simp; omega) _) (by simp; omega) _, ((k0.below hb).far p1 _).far p1 _, ((k1.below hb).far p2 _).far p2 _, (KB.out.set_ 0 _).set_ 1 _⟩
      clear hB k0 k1 k5 hb q
      obtain ⟨hB, k0, k1, k5⟩ := hh
      rw [← advN_next hk1] at k5
      have HH := Lib.hid (And.intro k0 (And.intro k1 k5))
      clear k0 k1 k5
      go_wp2
      go_roundw
      case rel => exact ⟨k + 1, by omega, by omega, by go_num, HH.out.1, HH.out.2.1, HH.out.2.2, hB⟩
      case measure => simp [intOf]; omega
    · obtain rfl : k = xs.length := by omega
      have c0 := k5.cell
      have c1 := k1.cell
      have f1 := k1.frozen
      clear hk hk1 HP HC hbl
      have HB := Lib.hid hB
      have KK := Lib.hid k1
      clear hB k0 k1 k5
      go_wp2
      have r0 := (KK.out.set_ 0 (.int .i64 (advN t xs (xs.length - 1)).1)).cell 0
      have r1 := ((KK.out.set_ 0 (.int .i64 (advN t xs (xs.length - 1)).1)).set_ 1 (.int .i64 (advN t xs (xs.length - 1)).2)).cell 1
      have r2 := ((KK.out.set_ 0 (.int .i64 (advN t xs (xs.length - 1)).1)).set_ 1 (.int .i64 (advN t xs (xs.length - 1)).2)).cell 0
      exact bodyPost_ret (v := .agg #[.int .i64 (advN t xs (xs.length - 1)).1, .int .i64 (advN t xs (xs.length - 1)).2]) (by simp [results, Tryz.results71, go_sem, r0, r1, r2]) rfl ⟨rfl, bset (bset HB.out (by simp) _) (by simp) _⟩
end Go.Proofs.YtnfffgpjgkhjlaaGreat

/- HELPER, no statement of the seat: AdvanceTime of the model. -/
namespace Go.Proofs.YtnfffgpjgkhjlaaGreat
open Go.RowKit Go.Sort
set_option linter.unusedSimpArgs false
set_option linter.unusedVariables false

theorem advance_s0 (t : Tm) (A : Option Addr) (c : Nat) (w : World) :
    Calls Tryz.prog 71 #[.agg #[.int .i64 (t).1, .int .i64 (t).2], .slice A 0 c] w fun e w' => e = .returned (.agg #[.int .i64 (t).1, .int .i64 (t).2]) ∧ Below w.heap.size w w' := by
  go_enter Tryz.func71, Tryz.ntmps71
  go_wp2
  exact bodyPost_ret (v := .agg #[.int .i64 (t).1, .int .i64 (t).2]) (by simp [results, Tryz.results71, go_sem]) rfl ⟨rfl, (by repeat (first | exact Below.refl _ _ | refine bal ?_ _ | refine Below.drew ?_ | refine bset ?_ (by simp <;> omega) _))⟩
def advT (t : Tm) (xs : List Tm) : Tm := if 0 < xs.length then advN t xs (xs.length - 1) else t
theorem advance_any (t : Tm) (A : Option Addr) (c : Nat) (xs : List Tm) (w : World) (hx : TimesAt w A xs) (hn : xs.length ≤ 4194304) :
    Calls Tryz.prog 71 #[.agg #[.int .i64 (t).1, .int .i64 (t).2], .slice A xs.length c] w fun e w' => e = .returned (.agg #[.int .i64 (advT t xs).1, .int .i64 (advT t xs).2]) ∧ Below w.heap.size w w' := by
  by_cases hp : 0 < xs.length
  · rw [show advT t xs = advN t xs (xs.length - 1) by simp [advT, hp]]
    exact advance_s t A c xs w hx hn hp
  · rw [show advT t xs = t by simp [advT, hp], show xs.length = 0 by omega]
    exact advance_s0 t A c w
theorem atR_yes {t : Tm} {xs : List Tm} (hf : frB xs = true) (hv : vtB t.1 t.2 = true) : atR t xs = advT t xs := by
  unfold atR advT
  rw [hf, hv]
  simp
theorem atR_nf {t : Tm} {xs : List Tm} (hf : frB xs = false) : atR t xs = t := by simp [atR, hf]
theorem atR_nv {t : Tm} {xs : List Tm} (hv : vtB t.1 t.2 = false) : atR t xs = t := by simp [atR, hv]

end Go.Proofs.YtnfffgpjgkhjlaaGreat

/- HELPER, no statement of the seat: AdvanceTime of the program. -/
namespace Go.Proofs.YtnfffgpjgkhjlaaGreat
open Go.RowKit Go.Sort
set_option linter.unusedSimpArgs false
set_option linter.unusedVariables false

/-- The ways on which the time comes back as it is. -/
theorem AdvanceTime_i0 (t : Tm) (A : Option Addr) (c : Nat) (w : World) :
    Calls Tryz.prog 95 #[.agg #[.int .i64 (t).1, .int .i64 (t).2], .slice A 0 c] w fun e w' => e = .returned (.agg #[.int .i64 (t).1, .int .i64 (t).2]) ∧ Below w.heap.size w w' := by
  go_enter Tryz.func95, Tryz.ntmps95
  go_wp2
  exact bodyPost_ret (v := .agg #[.int .i64 (t).1, .int .i64 (t).2]) (by simp [results, Tryz.results95, go_sem]) rfl ⟨rfl, (by repeat (first | exact Below.refl _ _ | refine bal ?_ _ | refine Below.drew ?_ | refine bset ?_ (by simp <;> omega) _))⟩
set_option maxHeartbeats 2000000 in
theorem AdvanceTime_i1 (t : Tm) (A : Option Addr) (c : Nat) (xs : List Tm) (w : World) (hx : TimesAt w A xs) (hn : xs.length ≤ 4194304) (hp : 0 < xs.length) (hno : frB xs = false ∨ vtB t.1 t.2 = false) :
    Calls Tryz.prog 95 #[.agg #[.int .i64 (t).1, .int .i64 (t).2], .slice A xs.length c] w fun e w' => e = .returned (.agg #[.int .i64 (t).1, .int .i64 (t).2]) ∧ Below w.heap.size w w' := by
  have hz : ((xs.length : Int) == 0) = false := by rw [beq_eq_false_iff_ne]; omega
  have hblk : Blk ((w.alloc (.cells #[.int .i64 (t).1, .int .i64 (t).2] 61)).alloc (.cells #[.int .i64 0, .int .i64 0] 61)) w.heap.size 61 #[.int .i64 (t).1, .int .i64 (t).2] := (Blk.newAt rfl).alloc _
  have hblk1 : Blk ((w.alloc (.cells #[.int .i64 (t).1, .int .i64 (t).2] 61)).alloc (.cells #[.int .i64 0, .int .i64 0] 61)) (w.heap.size + 1) 61 #[.int .i64 0, .int .i64 0] := Blk.newAt (by simp)
  have HK := Lib.hid hblk
  have HK1 := Lib.hid hblk1
  clear hblk hblk1
  have hb0 : Below w.heap.size w ((w.alloc (.cells #[.int .i64 (t).1, .int .i64 (t).2] 61)).alloc (.cells #[.int .i64 0, .int .i64 0] 61)) := bal (bal (Below.refl _ _) _) _
  by_cases hf : frB xs = true
  · have hv' : vtB t.1 t.2 = false := by rcases hno with h | h; · rw [hf] at h; cases h
                                         · exact h
    clear hno
    go_enter Tryz.func95, Tryz.ntmps95
    go_wp2_with fail
    refine (ValidFrontier_i _ _ _ _ (hx.below hb0) hn).mono ?_
    rintro e w1 ⟨rfl, hb1⟩
    have k1 := HK.out.below hb1
    have q1 : w1.cell? ⟨w.heap.size, 0, none⟩ = some (.int .i64 t.1) := k1.cell 0
    have q2 : w1.cell? ⟨w.heap.size, 1, none⟩ = some (.int .i64 t.2) := k1.cell 1
    have B1 := btr hb0 hb1
    have R1 := Lib.hid (HK1.out.below hb1)
    have K1 := Lib.hid k1
    clear k1 hb1 HK HK1 hb0
    go_wp2_with fail
    refine (isValid_i _ _ _).mono ?_
    rintro e w2 ⟨rfl, hb2⟩
    have k2 := K1.out.below hb2
    have q3 : w2.cell? ⟨w.heap.size, 0, none⟩ = some (.int .i64 t.1) := k2.cell 0
    have q4 : w2.cell? ⟨w.heap.size, 1, none⟩ = some (.int .i64 t.2) := k2.cell 1
    have B2 := btr B1 hb2
    have r3 := R1.out.below hb2
    have c3 := r3.cell
    have f3 := r3.frozen
    have B3 := Lib.hid B2
    have R3 := Lib.hid r3
    clear q1 q2 k2 hb2 R1 K1 B1 B2 r3
    go_wp2_with fail
    have r0 := (R3.out.set_ 0 (.int .i64 t.1)).cell 0
    have r1 := ((R3.out.set_ 0 (.int .i64 t.1)).set_ 1 (.int .i64 t.2)).cell 1
    have r2 := ((R3.out.set_ 0 (.int .i64 t.1)).set_ 1 (.int .i64 t.2)).cell 0
    exact bodyPost_ret (v := .agg #[.int .i64 (t).1, .int .i64 (t).2]) (by simp [results, Tryz.results95, go_sem, r0, r1, r2]) rfl ⟨rfl, bset (bset B3.out (by simp) _) (by simp) _⟩
  · have hf' : frB xs = false := by simpa using hf
    clear hf hno
    go_enter Tryz.func95, Tryz.ntmps95
    go_wp2_with fail
    refine (ValidFrontier_i _ _ _ _ (hx.below hb0) hn).mono ?_
    rintro e w1 ⟨rfl, hb1⟩
    have k1 := HK.out.below hb1
    have q1 : w1.cell? ⟨w.heap.size, 0, none⟩ = some (.int .i64 t.1) := k1.cell 0
    have q2 : w1.cell? ⟨w.heap.size, 1, none⟩ = some (.int .i64 t.2) := k1.cell 1
    have r3 := HK1.out.below hb1
    have c3 := r3.cell
    have f3 := r3.frozen
    have B3 := Lib.hid (btr hb0 hb1)
    have R3 := Lib.hid r3
    clear k1 hb1 HK HK1 hb0 r3
    go_wp2_with fail
    have r0 := (R3.out.set_ 0 (.int .i64 t.1)).cell 0
    have r1 := ((R3.out.set_ 0 (.int .i64 t.1)).set_ 1 (.int .i64 t.2)).cell 1
    have r2 := ((R3.out.set_ 0 (.int .i64 t.1)).set_ 1 (.int .i64 t.2)).cell 0
    exact bodyPost_ret (v := .agg #[.int .i64 (t).1, .int .i64 (t).2]) (by simp [results, Tryz.results95, go_sem, r0, r1, r2]) rfl ⟨rfl, bset (bset B3.out (by simp) _) (by simp) _⟩

set_option maxHeartbeats 4000000 in
theorem AdvanceTime_i2 (t : Tm) (A : Option Addr) (xs : List Tm) (w : World) (hx : TimesAt w A xs) (hn : xs.length ≤ 4194304) (hp : 0 < xs.length) (hf : frB xs = true) (hv : vtB t.1 t.2 = true) :
    Calls Tryz.prog 95 #[.agg #[.int .i64 (t).1, .int .i64 (t).2], .slice A xs.length xs.length] w fun e w' => e = .returned (.agg #[.int .i64 (advN t xs (xs.length - 1)).1, .int .i64 (advN t xs (xs.length - 1)).2]) ∧ Below w.heap.size w w' := by
  obtain ⟨b, off, rfl, hbl, hc⟩ := hx hp
  have hz : ((xs.length : Int) == 0) = false := by rw [beq_eq_false_iff_ne]; omega
  have hI0 : (0 : Int) < xs.length := by omega
  have HP := Lib.hid hp
  have HC := Lib.hid hc
  clear hp hc
  have hblk : Blk ((w.alloc (.cells #[.int .i64 (t).1, .int .i64 (t).2] 61)).alloc (.cells #[.int .i64 0, .int .i64 0] 61)) w.heap.size 61 #[.int .i64 (t).1, .int .i64 (t).2] := (Blk.newAt rfl).alloc _
  have hblk1 : Blk ((w.alloc (.cells #[.int .i64 (t).1, .int .i64 (t).2] 61)).alloc (.cells #[.int .i64 0, .int .i64 0] 61)) (w.heap.size + 1) 61 #[.int .i64 0, .int .i64 0] := Blk.newAt (by simp)
  have HK := Lib.hid hblk
  have HK1 := Lib.hid hblk1
  clear hblk hblk1
  have hb0 : Below w.heap.size w ((w.alloc (.cells #[.int .i64 (t).1, .int .i64 (t).2] 61)).alloc (.cells #[.int .i64 0, .int .i64 0] 61)) := bal (bal (Below.refl _ _) _) _
  go_enter Tryz.func95, Tryz.ntmps95
  go_wp2_with fail
  refine (ValidFrontier_i _ _ _ _ (hx.below hb0) hn).mono ?_
  rintro e w1 ⟨rfl, hb1⟩
  have k1 := HK.out.below hb1
  have q1 : w1.cell? ⟨w.heap.size, 0, none⟩ = some (.int .i64 t.1) := k1.cell 0
  have q2 : w1.cell? ⟨w.heap.size, 1, none⟩ = some (.int .i64 t.2) := k1.cell 1
  have B1 := btr hb0 hb1
  have R1 := Lib.hid (HK1.out.below hb1)
  have K1 := Lib.hid k1
  clear k1 hb1 HK HK1 hb0
  go_wp2_with fail
  refine (isValid_i _ _ _).mono ?_
  rintro e w2 ⟨rfl, hb2⟩
  clear q1 q2
  have k2 := K1.out.below hb2
  have r2 := R1.out.below hb2
  have b2 := btr B1 hb2
  clear hb2 R1 K1 B1 hx
  go_wp2_with fail
  refine abs_world (fun wB => Below w.heap.size w wB ∧ Blk wB w.heap.size 61 #[.int .i64 (t).1, .int .i64 (t).2] ∧ Blk wB (w.heap.size + 1) 61 #[.int .i64 0, .int .i64 0])
    ⟨b2, k2, r2⟩ (fun wB hh => ?_)
  clear b2 k2 r2
  obtain ⟨hB, k0, k1⟩ := hh
  refine wp_region_facts [[], [], [1], [2], [0, 3], []]
    [fun v' _ => v' = .agg #[.int .i64 (t).1, .int .i64 (t).2], fun v' _ => v' = .slice (some ⟨b, off, none⟩) xs.length xs.length, fun v' _ => v' = .pointer (some ⟨b, off, none⟩), fun v' _ => v' = .agg #[.int .i64 (tg xs 0).1, .int .i64 (tg xs 0).2], fun v' _ => v' = .agg #[.int .i64 (max t.1 (tg xs 0).1), .int .i64 (max t.2 (tg xs 0).2)], AtBlk wB.heap.size 61 #[.int .i64 0, .int .i64 0]]
    (by kernel_rfl) (by kernel_rfl) rfl ⟨stable_pure _, stable_pure _, stable_pure _, stable_pure _, stable_pure _, stable_atBlk _ _ _, trivial⟩ ?_
  refine wf_step (fun w1 hb hf => ?_) (fun t0 => ?_)
  · have c0 := (k0.below hb).cell
    go_wp2
    exact ⟨rfl, _, rfl, Below.refl _ _, rfl⟩
  refine wf_step (fun w1 hb hf => ?_) (fun t1 => ?_)
  · go_wp2
    exact ⟨rfl, _, rfl, Below.refl _ _, rfl⟩
  refine wf_step (fun w1 hb hf => ?_) (fun t2 => ?_)
  · obtain ⟨rfl, -⟩ := hf
    go_wp2
    exact ⟨rfl, _, rfl, Below.refl _ _, rfl⟩
  refine wf_step (fun w1 hb hf => ?_) (fun t3 => ?_)
  · obtain ⟨rfl, -⟩ := hf
    have hb1 := btr hB hb
    have q := HC.out 0 (by have := HP.out; omega)
    have q1 : w1.cell? ⟨b, off, none⟩ = some (.int .i64 (tg xs 0).1) := (hb1.cell (p := ⟨b, off, none⟩) hbl).trans (by have q' := q.1; rw [Nat.zero_mul, Nat.add_zero] at q'; exact q')
    have q2 : w1.cell? ⟨b, off + 1, none⟩ = some (.int .i64 (tg xs 0).2) := (hb1.cell (p := ⟨b, off + 1, none⟩) hbl).trans (by have q' := q.2; rw [Nat.zero_mul, Nat.add_zero] at q'; exact q')
    clear q
    go_wp2
    exact ⟨rfl, _, rfl, Below.refl _ _, rfl⟩
  refine wf_step (fun w1 hb hf => ?_) (fun t4 => ?_)
  · obtain ⟨rfl, rfl, -⟩ := hf
    go_wp2_with (go_at_call 112; refine (timeJoin_i _ _ _ _ _).mono ?_; rintro e w2 ⟨rfl, hb2⟩)
    exact ⟨rfl, _, rfl, hb2, rfl⟩
  refine wf_step (fun w1 hb hf => ?_) (fun t5 => ?_)
  · go_wp2
    exact ⟨rfl, _, rfl, bal (Below.refl _ _) _, _, rfl, hb.size, Blk.newAt rfl⟩
  refine wf_done (fun wC hb hf => ?_)
  obtain ⟨rfl, rfl, rfl, rfl, rfl, ⟨b5, rfl, hle, k5⟩, -⟩ := hf
  show wpList _ _ _ [_] _ _
  refine wpList_frame (by simp [Act.put]; rfl) ?_
  have l0 := k0.lt
  have l1 := k1.lt
  refine wpList_abs (fun wD => Below w.heap.size w wD ∧ Blk wD w.heap.size 61 #[.int .i64 (t).1, .int .i64 (t).2] ∧ Blk wD (w.heap.size + 1) 61 #[.int .i64 0, .int .i64 0] ∧ Blk wD b5 61 #[.int .i64 (max t.1 (tg xs 0).1), .int .i64 (max t.2 (tg xs 0).2)]) ?_ (fun wD hh => ?_)
  · have c5 := k5.cell
    have f5 := k5.frozen
    have p1 : w.heap.size ≠ b5 := by omega
    have p2 : w.heap.size + 1 ≠ b5 := by omega
    have KB := Lib.hid k5
    clear k5
    go_wp2
    exact ⟨rfl, rfl, bset (bset (btr hB hb) (by simp; omega) _) (by simp; omega) _, ((k0.below hb).far p1 _).far p1 _, ((k1.below hb).far p2 _).far p2 _, (KB.out.set_ 0 _).set_ 1 _⟩
  clear hB k0 k1 k5 hb
  have g5 : w.heap.size + 1 < b5 := by omega
  obtain ⟨hB, k0, k1, k5⟩ := hh
  clear hle l0 l1
  by_cases hone : xs.length = 1
  · have HH := Lib.hid (And.intro k0 (And.intro k1 (And.intro k5 hB)))
    have H1 := Lib.hid hone
    rw [hone]
    clear k0 k1 k5 hB HP HC hz hI0 hn hone
    go_wp2
    refine wp_loop_rounds 1 ?_
    rw [rounds_succ]
    have c0 := HH.out.2.2.1.cell
    have c1 := HH.out.2.1.cell
    have f1 := HH.out.2.1.frozen
    go_wp2
    have KK := Lib.hid HH.out.2.1
    have r0 := (KK.out.set_ 0 (.int .i64 (advN t xs 0).1)).cell 0
    have r1 := ((KK.out.set_ 0 (.int .i64 (advN t xs 0).1)).set_ 1 (.int .i64 (advN t xs 0).2)).cell 1
    have r2 := ((KK.out.set_ 0 (.int .i64 (advN t xs 0).1)).set_ 1 (.int .i64 (advN t xs 0).2)).cell 0
    simp only [advN, jn] at r0 r1 r2
    exact bodyPost_ret (v := .agg #[.int .i64 (max t.1 (tg xs 0).1), .int .i64 (max t.2 (tg xs 0).2)]) (by simp [results, Tryz.results95, go_sem, r0, r1, r2]) rfl ⟨by rw [H1.out]; rfl, bset (bset HH.out.2.2.2 (by simp) _) (by simp) _⟩
  have hI1 : (1 : Int) < xs.length := by have := HP.out; omega
  go_wp2
  clear hI1 hone
  have HP2 : Hid (xs.length - 1 + 1 = xs.length) := by have := HP.out; unfold Hid; omega
  go_loopw [7, 30] (fun _ i wr => ∃ k : Nat, k ≤ xs.length - 1 ∧ i = .int .i64 k ∧ Blk wr w.heap.size 61 #[.int .i64 (t).1, .int .i64 (t).2] ∧ Blk wr (w.heap.size + 1) 61 #[.int .i64 0, .int .i64 0] ∧ Blk wr b5 61 #[.int .i64 (advN t xs k).1, .int .i64 (advN t xs k).2] ∧ Below w.heap.size w wr) (fun _ i _ => xs.length - 1 - (intOf i).toNat)
  case atStart => exact ⟨0, by omega, rfl, k0, k1, k5, hB⟩
  case round =>
    clear hB k0 k1 k5
    obtain ⟨k, hk, rfl, k0, k1, k5, hB⟩ := hrel
    obtain ⟨wo, rfl⟩ : ∃ wo : World, wo = wr := ⟨_, rfl⟩
    by_cases hlt : k < xs.length - 1
    · have hI : (k : Int) < ((xs.length - 1 : Nat) : Int) := by omega
      have q := HC.out (k + 1) (by omega)
      have q1 : wo.cell? ⟨b, off + 2 + k * 2, none⟩ = some (.int .i64 (tg xs (k + 1)).1) := by
        rw [show off + 2 + k * 2 = off + (k + 1) * 2 by omega]
        exact (hB.cell (p := ⟨b, off + (k + 1) * 2, none⟩) hbl).trans q.1
      have q2 : wo.cell? ⟨b, off + 2 + k * 2 + 1, none⟩ = some (.int .i64 (tg xs (k + 1)).2) := by
        rw [show off + 2 + k * 2 + 1 = off + (k + 1) * 2 + 1 by omega]
        exact (hB.cell (p := ⟨b, off + (k + 1) * 2 + 1, none⟩) hbl).trans q.2
      clear q
      have HH := Lib.hid (And.intro k0 (And.intro k1 (And.intro k5 hB)))
      clear k0 k1 k5 hB
      go_wp2_with fail
      have l5 := HH.out.2.2.1.lt
      refine abs_world (fun wB => Below w.heap.size w wB ∧ Blk wB w.heap.size 61 #[.int .i64 (t).1, .int .i64 (t).2] ∧ Blk wB (w.heap.size + 1) 61 #[.int .i64 0, .int .i64 0] ∧ Blk wB b5 61 #[.int .i64 (advN t xs k).1, .int .i64 (advN t xs k).2] ∧ Blk wB wo.heap.size 61 #[.int .i64 (tg xs (k + 1)).1, .int .i64 (tg xs (k + 1)).2])
        ⟨bal HH.out.2.2.2 _, HH.out.1.alloc _, HH.out.2.1.alloc _, HH.out.2.2.1.alloc _, Blk.newAt rfl⟩ (fun wB hh => ?_)
      clear HH q1 q2
      obtain ⟨hB, k0, k1, k5, k7⟩ := hh
      refine wp_region_facts [[], [], [], [1, 2], [0, 3]]
        [fun v' _ => v' = .agg #[.int .i64 (advN t xs k).1, .int .i64 (advN t xs k).2], fun v' _ => v' = .agg #[.int .i64 (t).1, .int .i64 (t).2], fun v' _ => v' = .agg #[.int .i64 (tg xs (k + 1)).1, .int .i64 (tg xs (k + 1)).2], fun v' _ => v' = .agg #[.int .i64 (max t.1 (tg xs (k + 1)).1), .int .i64 (max t.2 (tg xs (k + 1)).2)], fun v' _ => v' = .agg #[.int .i64 (min (advN t xs k).1 (max t.1 (tg xs (k + 1)).1)), .int .i64 (min (advN t xs k).2 (max t.2 (tg xs (k + 1)).2))]]
        (by kernel_rfl) (by kernel_rfl) rfl ⟨stable_pure _, stable_pure _, stable_pure _, stable_pure _, stable_pure _, trivial⟩ ?_
      refine wf_step (fun w1 hb hf => ?_) (fun t0 => ?_)
      · have c0 := (k5.below hb).cell
        go_wp2
        exact ⟨rfl, _, rfl, Below.refl _ _, rfl⟩
      refine wf_step (fun w1 hb hf => ?_) (fun t1 => ?_)
      · have c0 := (k0.below hb).cell
        go_wp2
        exact ⟨rfl, _, rfl, Below.refl _ _, rfl⟩
      refine wf_step (fun w1 hb hf => ?_) (fun t2 => ?_)
      · have c0 := (k7.below hb).cell
        go_wp2
        exact ⟨rfl, _, rfl, Below.refl _ _, rfl⟩
      refine wf_step (fun w1 hb hf => ?_) (fun t3 => ?_)
      · obtain ⟨rfl, rfl, -⟩ := hf
        go_wp2_with (go_at_call 112; refine (timeJoin_i _ _ _ _ _).mono ?_; rintro e w2 ⟨rfl, hb2⟩)
        exact ⟨rfl, _, rfl, hb2, rfl⟩
      refine wf_step (fun w1 hb hf => ?_) (fun t4 => ?_)
      · obtain ⟨rfl, rfl, -⟩ := hf
        go_wp2_with (go_at_call 113; refine (timeMeet_i _ _ _ _ _).mono ?_; rintro e w2 ⟨rfl, hb2⟩)
        exact ⟨rfl, _, rfl, hb2, rfl⟩
      refine wf_done (fun wC hb hf => ?_)
      obtain ⟨rfl, rfl, rfl, rfl, rfl, -⟩ := hf
      show wpList _ _ _ [_] _ _
      refine wpList_frame (by simp [Act.put]; rfl) ?_
      refine wpList_abs (fun wD => Below w.heap.size w wD ∧ Blk wD w.heap.size 61 #[.int .i64 (t).1, .int .i64 (t).2] ∧ Blk wD (w.heap.size + 1) 61 #[.int .i64 0, .int .i64 0] ∧ Blk wD b5 61 #[.int .i64 (min (advN t xs k).1 (max t.1 (tg xs (k + 1)).1)), .int .i64 (min (advN t xs k).2 (max t.2 (tg xs (k + 1)).2))]) ?_ (fun wD hh => ?_)
      · have c5 := (k5.below hb).cell
        have f5 := (k5.below hb).frozen
        have p1 : w.heap.size ≠ b5 := by omega
        have p2 : w.heap.size + 1 ≠ b5 := by omega
        have KB := Lib.hid (k5.below hb)
        clear k5
        go_wp2
        exact ⟨rfl, rfl, bset (bset (btr hB hb) (by simp; omega) _) (by simp; omega) _, ((k0.below hb).far p1 _).far p1 _, ((k1.below hb).far p2 _).far p2 _, (KB.out.set_ 0 _).set_ 1 _⟩
      clear hB k0 k1 k5 k7 hb
      obtain ⟨hB, k0, k1, k5⟩ := hh
      have HH := Lib.hid (And.intro k0 (And.intro k1 k5))
      clear k0 k1 k5
      go_wp2
      go_roundw
      case rel => exact ⟨k + 1, by omega, by go_num, HH.out.1, HH.out.2.1, HH.out.2.2, hB⟩
      case measure => simp [intOf]; omega
    · obtain rfl : k = xs.length - 1 := by omega
      have c0 := k5.cell
      have c1 := k1.cell
      have f1 := k1.frozen
      clear hk HP HC hbl
      have HB := Lib.hid hB
      have KK := Lib.hid k1
      clear hB k0 k1 k5
      go_wp2
      have r0 := (KK.out.set_ 0 (.int .i64 (advN t xs (xs.length - 1)).1)).cell 0
      have r1 := ((KK.out.set_ 0 (.int .i64 (advN t xs (xs.length - 1)).1)).set_ 1 (.int .i64 (advN t xs (xs.length - 1)).2)).cell 1
      have r2 := ((KK.out.set_ 0 (.int .i64 (advN t xs (xs.length - 1)).1)).set_ 1 (.int .i64 (advN t xs (xs.length - 1)).2)).cell 0
      exact bodyPost_ret (v := .agg #[.int .i64 (advN t xs (xs.length - 1)).1, .int .i64 (advN t xs (xs.length - 1)).2]) (by simp [results, Tryz.results95, go_sem, r0, r1, r2]) rfl ⟨rfl, bset (bset HB.out (by simp) _) (by simp) _⟩

theorem AdvanceTime_i (t : Tm) (A : Option Addr) (xs : List Tm) (w : World) (hx : TimesAt w A xs) (hn : xs.length ≤ 4194304) :
    Calls Tryz.prog 95 #[.agg #[.int .i64 (t).1, .int .i64 (t).2], .slice A xs.length xs.length] w fun e w' => e = .returned (.agg #[.int .i64 (atR t xs).1, .int .i64 (atR t xs).2]) ∧ Below w.heap.size w w' := by
  by_cases hp : 0 < xs.length
  · by_cases hf : frB xs = true
    · by_cases hv : vtB t.1 t.2 = true
      · rw [show atR t xs = advN t xs (xs.length - 1) by rw [atR_yes hf hv, advT, if_pos hp]]
        exact AdvanceTime_i2 t A xs w hx hn hp hf hv
      · rw [atR_nv (by simpa using hv)]
        exact AdvanceTime_i1 t A _ xs w hx hn hp (.inr (by simpa using hv))
    · rw [atR_nf (by simpa using hf)]
      exact AdvanceTime_i1 t A _ xs w hx hn hp (.inl (by simpa using hf))
  · have h0 : xs.length = 0 := by omega
    rw [show atR t xs = t by simp [atR, h0], h0]
    exact AdvanceTime_i0 t A 0 w
end Go.Proofs.YtnfffgpjgkhjlaaGreat
