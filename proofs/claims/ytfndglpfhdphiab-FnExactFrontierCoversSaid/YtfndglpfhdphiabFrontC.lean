/- HELPER, no statement of the seat: what a frontier covers. -/
import Derived.Test.YtfndglpfhdphiabFrontV
namespace Go.Proofs.Ytfndglpfhdphiab
open Go.RowKit Go.Sort
set_option linter.unusedSimpArgs false
set_option linter.unusedVariables false

def cvB (xs : List Tm) (u v : Int) : Bool := xs.any fun e => leB e.1 e.2 u v
def noCv (xs : List Tm) (u v : Int) (k : Nat) : Prop := ∀ j, j < k → leB (tg xs j).1 (tg xs j).2 u v = false
theorem noCv_step {xs : List Tm} {u v : Int} {k : Nat} (h : noCv xs u v k) (e : leB (tg xs k).1 (tg xs k).2 u v = false) : noCv xs u v (k + 1) := fun j hj => by
  rcases Nat.lt_succ_iff_lt_or_eq.1 hj with h' | rfl
  · exact h j h'
  · exact e
theorem cv_yes {xs : List Tm} {u v : Int} {k : Nat} (h : k < xs.length) (e : leB (tg xs k).1 (tg xs k).2 u v = true) : cvB xs u v = true := by
  unfold cvB
  rw [List.any_eq_true]
  exact ⟨xs[k], List.getElem_mem h, by rw [tg_lt h] at e; exact e⟩
theorem cv_no {xs : List Tm} {u v : Int} (h : noCv xs u v xs.length) : cvB xs u v = false := by
  unfold cvB
  rw [List.any_eq_false]
  intro e he
  obtain ⟨j, hj, rfl⟩ := List.getElem_of_mem he
  have := h j hj
  rw [tg_lt hj] at this
  simp [this]

set_option maxHeartbeats 1000000 in
theorem covers_s (A : Option Addr) (c : Nat) (xs : List Tm) (u v : Int) (w : World) (hx : TimesAt w A xs) (hn : xs.length ≤ 4194304) :
    Calls Try.prog 52 #[.slice A xs.length c, .agg #[.int .i64 u, .int .i64 v]] w fun e w' => e = .returned (.bool (cvB xs u v)) ∧ Below w.heap.size w w' := by
  go_enter Try.func52, Try.ntmps52
  go_wp2
  go_loopw [5] (fun i wr => ∃ k : Nat, k ≤ xs.length ∧ i = .int .i64 k ∧ noCv xs u v k ∧ Blk wr w.heap.size 34 #[.int .i64 u, .int .i64 v] ∧ Below w.heap.size w wr) (fun i _ => xs.length - (intOf i).toNat)
  case atStart => exact ⟨0, by omega, rfl, fun i hi => by omega, Blk.newAt rfl, bal (Below.refl _ _) _⟩
  case round =>
    obtain ⟨k, hk, rfl, hno, hblk, hbel⟩ := hrel
    have HN := Lib.hid hno
    have HB := Lib.hid hblk
    clear hno
    by_cases hlt : k < xs.length
    · obtain ⟨b, off, rfl, hbl, hc⟩ := hx (by omega)
      have q1 := cgrow ((hbel.cell (p := ⟨b, off + k * 2, none⟩) hbl).trans (hc k hlt).1)
      have q2 := cgrow ((hbel.cell (p := ⟨b, off + k * 2 + 1, none⟩) hbl).trans (hc k hlt).2)
      change ∀ d os, _ = some (Value.int .i64 (tg xs k).1) at q1
      change ∀ d os, _ = some (Value.int .i64 (tg xs k).2) at q2
      have q3 := cgrow (hblk.cell 0)
      have q4 := cgrow (hblk.cell 1)
      change ∀ d os, _ = some (Value.int .i64 u) at q3
      change ∀ d os, _ = some (Value.int .i64 v) at q4
      have hI : (k : Int) < xs.length := by omega
      clear hc hblk
      by_cases hL : leB (tg xs k).1 (tg xs k).2 u v = true
      · have HF := Lib.hid (cv_yes hlt hL)
        go_wp2_with fail
        refine wp_region_quiet_below (by kernel_rfl) (by kernel_rfl) ?_
        repeat (go_big_quiet_step (exact Calls.regrown_of (timeLe_s _ _ _ _ _)))
        refine wpQuiet_nil ?_
        intro w3 hw3
        obtain ⟨⟨dq, osq⟩, rfl⟩ := hw3
        have hbq := btr hbel (below_regrown wr dq osq)
        generalize grow (redrawn wr dq) osq = w5 at hbq
        clear q1 q2 q3 q4 hbel
        go_wp2
        · go_ret
          exact ⟨ret_bool HF.out.symm, hbq⟩
        · exact absurd (hL.symm.trans (by assumption)) (by simp)
      · have hL' : leB (tg xs k).1 (tg xs k).2 u v = false := by simpa using hL
        clear hL
        have HS := Lib.hid (noCv_step HN.out hL')
        go_wp2_with fail
        refine wp_region_quiet_below (by kernel_rfl) (by kernel_rfl) ?_
        repeat (go_big_quiet_step (exact Calls.regrown_of (timeLe_s _ _ _ _ _)))
        refine wpQuiet_nil ?_
        intro w3 hw3
        obtain ⟨⟨dq, osq⟩, rfl⟩ := hw3
        have hb1 := below_regrown wr dq osq
        have hbq := btr hbel hb1
        have HB2 := Lib.hid (HB.out.below hb1)
        clear hb1
        generalize grow (redrawn wr dq) osq = w5 at hbq HB2
        clear q1 q2 q3 q4 hbel
        go_wp2
        · exact absurd (hL'.symm.trans (by assumption)) (by simp)
        · go_roundw
          case rel => exact ⟨k + 1, by omega, by go_num, HS.out, HB2.out, hbq⟩
          case measure => simp [intOf]; omega
    · obtain rfl : k = xs.length := by omega
      have HF := Lib.hid (cv_no HN.out)
      go_wp2
      go_ret
      exact ⟨ret_bool HF.out.symm, hbel⟩
set_option maxHeartbeats 1000000 in
theorem covers_i (A : Option Addr) (c : Nat) (xs : List Tm) (u v : Int) (w : World) (hx : TimesAt w A xs) (hn : xs.length ≤ 4194304) :
    Calls Try.prog 53 #[.slice A xs.length c, .agg #[.int .i64 u, .int .i64 v]] w fun e w' => e = .returned (.bool (cvB xs u v)) ∧ Below w.heap.size w w' := by
  go_enter Try.func53, Try.ntmps53
  go_wp2
  go_loopw [6, 9] (fun _ i wr => ∃ k : Nat, k ≤ xs.length ∧ i = .int .i64 k ∧ noCv xs u v k ∧ Blk wr w.heap.size 34 #[.int .i64 u, .int .i64 v] ∧ Below w.heap.size w wr) (fun _ i _ => xs.length - (intOf i).toNat)
  case atStart => exact ⟨0, by omega, rfl, fun i hi => by omega, Blk.newAt rfl, bal (Below.refl _ _) _⟩
  case round =>
    obtain ⟨k, hk, rfl, hno, hblk, hbel⟩ := hrel
    have HN := Lib.hid hno
    have HB := Lib.hid hblk
    clear hno
    by_cases hlt : k < xs.length
    · obtain ⟨b, off, rfl, hbl, hc⟩ := hx (by omega)
      have q1 := (hbel.cell (p := ⟨b, off + k * 2, none⟩) hbl).trans (hc k hlt).1
      have q2 := (hbel.cell (p := ⟨b, off + k * 2 + 1, none⟩) hbl).trans (hc k hlt).2
      change _ = some (Value.int .i64 (tg xs k).1) at q1
      change _ = some (Value.int .i64 (tg xs k).2) at q2
      have hblk2 : Blk (wr.alloc (.cells #[.int .i64 (tg xs k).1, .int .i64 (tg xs k).2] 34)) w.heap.size 34 #[.int .i64 u, .int .i64 v] := hblk.alloc _
      have q3 := hblk2.cell 0
      have q4 := hblk2.cell 1
      simp only [List.getElem?_toArray, List.getElem?_cons_zero, List.getElem?_cons_succ] at q3 q4
      have hI : (k : Int) < xs.length := by omega
      clear hc hblk hblk2
      by_cases hL : leB (tg xs k).1 (tg xs k).2 u v = true
      · have HF := Lib.hid (cv_yes hlt hL)
        go_wp2_with fail
        refine (timeLe_i _ _ _ _ _).mono ?_
        rintro e w2 ⟨rfl, hb2⟩
        have hbq := btr (bal hbel _) hb2
        clear q1 q2 q3 q4 hbel hb2
        go_wp2
        go_ret
        exact ⟨ret_bool HF.out.symm, hbq⟩
      · have hL' : leB (tg xs k).1 (tg xs k).2 u v = false := by simpa using hL
        clear hL
        have HS := Lib.hid (noCv_step HN.out hL')
        go_wp2_with fail
        refine (timeLe_i _ _ _ _ _).mono ?_
        rintro e w2 ⟨rfl, hb2⟩
        have hbq := btr (bal hbel _) hb2
        have HB2 := Lib.hid ((HB.out.alloc _).below hb2)
        clear q1 q2 q3 q4 hbel hb2
        go_wp2
        go_roundw
        case rel => exact ⟨k + 1, by omega, by go_num, HS.out, HB2.out, hbq⟩
        case measure => simp [intOf]; omega
    · obtain rfl : k = xs.length := by omega
      have HF := Lib.hid (cv_no HN.out)
      go_wp2
      go_ret
      exact ⟨ret_bool HF.out.symm, hbel⟩
end Go.Proofs.Ytfndglpfhdphiab
