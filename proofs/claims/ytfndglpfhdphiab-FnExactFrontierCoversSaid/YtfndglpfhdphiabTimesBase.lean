/- HELPER, no statement of the seat: contracts of the functions on lists of times. -/
import Derived.Test.YtfndglpfhdphiabTimeBase
import Derived.OwnWalk
import Derived.LoopTactic
import Derived.Deep.QuietTactic
import Derived.BigQuiet
import Derived.Lib.QuietBelow
import Derived.Lib.Hide
namespace Go.Proofs.Ytfndglpfhdphiab
open Go.RowKit Go.Sort
set_option linter.unusedSimpArgs false
set_option linter.unusedVariables false

abbrev Tm := Int × Int
/-- The cells of a list of times. -/
def timeC (l : List Tm) : Array Value := (l.flatMap fun t => [Value.int .i64 t.1, Value.int .i64 t.2]).toArray
theorem timeC_get (l : List Tm) : ∀ j, j < l.length → (timeC l)[j * 2]? = some (.int .i64 (l.getD j (0, 0)).1) ∧ (timeC l)[j * 2 + 1]? = some (.int .i64 (l.getD j (0, 0)).2) := by
  unfold timeC
  induction l with
  | nil => intro j hj; simp at hj
  | cons t l ih =>
    intro j hj
    cases j with
    | zero => simp
    | succ j =>
      have := ih j (by simpa using hj)
      have e1 : (j + 1) * 2 = (j * 2) + 1 + 1 := by omega
      rw [e1]
      simpa [List.flatMap_cons] using this
theorem timeC_size (l : List Tm) : (timeC l).size = l.length * 2 := by
  unfold timeC
  induction l with
  | nil => rfl
  | cons t l ih => simp [List.flatMap_cons] at ih ⊢; omega
theorem timeC_set (l : List Tm) (x y : Int) : ∀ k, k < l.length → ((timeC l).setIfInBounds (k * 2) (.int .i64 x)).setIfInBounds (k * 2 + 1) (.int .i64 y) = timeC (l.set k (x, y)) := by
  unfold timeC
  induction l with
  | nil => intro k hk; simp at hk
  | cons t l ih =>
    intro k hk
    cases k with
    | zero => simp
    | succ k =>
      have := ih k (by simpa using hk)
      have e1 : (k + 1) * 2 = (k * 2) + 1 + 1 := by omega
      rw [e1]
      simp [List.flatMap_cons] at this ⊢
      exact this
theorem timeC_made (n : Nat) : madeCells #[.int .i64 0, .int .i64 0] (n * 2) = timeC (List.replicate n (0, 0)) := by
  apply Array.ext
  · rw [timeC_size]; simp [madeCells]
  · intro i h1 h2
    have hi : i < n * 2 := by simpa [madeCells] using h1
    have hz : (#[Value.int .i64 0, Value.int .i64 0] : Array Value)[i % 2]! = .int .i64 0 := by
      have : i % 2 = 0 ∨ i % 2 = 1 := by omega
      rcases this with h | h <;> simp [h]
    have g := timeC_get (List.replicate n (0, 0)) (i / 2) (by simp; omega)
    have e : (timeC (List.replicate n (0, 0)))[i]? = some (.int .i64 0) := by
      rcases (show i = i / 2 * 2 ∨ i = i / 2 * 2 + 1 by omega) with h | h
      · have g1 := g.1
        rw [← h] at g1
        rw [g1]
        simp [List.getElem?_replicate, show i / 2 < n by omega]
      · have g1 := g.2
        rw [← h] at g1
        rw [g1]
        simp [List.getElem?_replicate, show i / 2 < n by omega]
    rw [Array.getElem?_eq_getElem h2] at e
    injection e with e
    rw [e]
    simpa [madeCells] using hz

/-- The slice at A reads as xs. -/
def TimesAt (w : World) (A : Option Addr) (xs : List Tm) : Prop :=
  0 < xs.length → ∃ b off, A = some ⟨b, off, none⟩ ∧ b < w.heap.size ∧ ∀ j, j < xs.length → w.cell? ⟨b, off + j * 2, none⟩ = some (.int .i64 (xs.getD j (0, 0)).1) ∧ w.cell? ⟨b, off + j * 2 + 1, none⟩ = some (.int .i64 (xs.getD j (0, 0)).2)
theorem TimesAt.below {w w' : World} {A : Option Addr} {xs : List Tm} (h : TimesAt w A xs) (hb : Below w.heap.size w w') : TimesAt w' A xs := fun hn => by
  obtain ⟨b, off, e, hlt, hc⟩ := h hn
  exact ⟨b, off, e, Nat.lt_of_lt_of_le hlt hb.size, fun j hj => ⟨(hb.cell (p := ⟨b, off + j * 2, none⟩) hlt).trans (hc j hj).1, (hb.cell (p := ⟨b, off + j * 2 + 1, none⟩) hlt).trans (hc j hj).2⟩⟩
theorem TimesAt.ofBlk {w : World} {g : Nat} {t : TypeId} {xs : List Tm} (h : Blk w g t (timeC xs)) : TimesAt w (some ⟨g, 0, none⟩) xs := fun _ =>
  ⟨g, 0, rfl, h.lt, fun j hj => by rw [Nat.zero_add, h.cell, h.cell]; exact timeC_get xs j hj⟩

theorem Try.infoTime : (Try.prog.info? 34).map (fun i => (i.zero, i.size, i.bytes)) = some (some (.agg #[.int .i64 0, .int .i64 0]), 2, 16) := by kernel_rfl

theorem fill_stepT (zs : List Tm) (k : Nat) (hk : k < zs.length) : (zs.take k ++ List.replicate (zs.length - k) (0, 0)).set k (zs.getD k (0, 0)) = zs.take (k + 1) ++ List.replicate (zs.length - (k + 1)) (0, 0) := by
  have e : zs.length - k = (zs.length - (k + 1)) + 1 := by omega
  rw [List.set_append_right _ _ (by simp; omega), e, List.replicate_succ]
  have e2 : k - (zs.take k).length = 0 := by simp; omega
  rw [e2, List.set_cons_zero, List.take_succ_eq_append_getElem hk, List.append_assoc]
  simp [hk]
theorem ret_int {k : IntKind} {a b : Int} (h : a = b) : Ending.returned (.int k a) = .returned (.int k b) := by rw [h]
theorem bdn {a w : World} (h : Below a.heap.size a w) (n : Nat) : Below a.heap.size a (w.drewN n) := ⟨h.os, h.tape, h.output, h.size, h.block⟩

theorem szTimeS_any (A : Option Addr) (c n : Nat) (left : Int) (w : World) (h0 : 0 ≤ left) (h1 : left ≤ 1048576) (hn : n ≤ maxLen) :
    Calls Try.prog 15 #[.slice A n c, .int .i64 left] w fun e w' => e = .returned (.int .i64 (if left < n then -1 else left - n)) ∧ w = w' := by
  unfold maxLen at hn
  by_cases h : left < n
  · have h' : left - n < 0 := by omega
    go_enter Try.func15, Try.ntmps15
    go_wp2
    go_ret
    exact ⟨ret_int (by simp [h]), rfl⟩
  · have h' : 0 ≤ left - n := by omega
    go_enter Try.func15, Try.ntmps15
    go_wp2
    go_ret
    exact ⟨ret_int (by simp [h]), rfl⟩

set_option maxHeartbeats 800000 in
theorem toTimeS_any (A : Option Addr) (c : Nat) (xs : List Tm) (w : World) (hx : TimesAt w A xs) (hn : xs.length ≤ 4194304) :
    Calls Try.prog 17 #[.slice A xs.length c] w fun e w' => e = .returned (.slice (some ⟨w.heap.size, 0, none⟩) xs.length xs.length) ∧ Blk w' w.heap.size 34 (timeC xs) ∧ Below w.heap.size w w' := by
  obtain ⟨i0, hi, hz0, hz1, hz2⟩ := info_parts Try.infoTime
  have hmk := run_make (P := Try.prog) w 25 34 i0 (.agg #[.int .i64 0, .int .i64 0]) Try.underlying25 hi hz0 .i64 .i64 xs.length xs.length (by omega) (by omega) (by rw [hz2]; omega) (by omega)
  simp only [Int.toNat_natCast, hz1, Value.cells, timeC_made] at hmk
  go_enter Try.func17, Try.ntmps17
  go_wp2
  go_loopw [4] (fun i wr => ∃ k : Nat, k ≤ xs.length ∧ i = .int .i64 k ∧ Blk wr w.heap.size 34 (timeC (xs.take k ++ List.replicate (xs.length - k) (0, 0))) ∧ Below w.heap.size w wr) (fun i _ => xs.length - (intOf i).toNat)
  case atStart => exact ⟨0, by omega, rfl, by simpa using Blk.newAt rfl, bal (Below.refl _ _) _⟩
  case round =>
    obtain ⟨k, hk, rfl, hblk, hbel⟩ := hrel
    by_cases hlt : k < xs.length
    · obtain ⟨b, off, rfl, hbl, hc⟩ := hx (by omega)
      have eg : xs.getD k (0, 0) = xs[k] := by simp [hlt]
      have hck : wr.cell? ⟨b, off + k * 2, none⟩ = some (.int .i64 xs[k].1) := (hbel.cell (p := ⟨b, off + k * 2, none⟩) hbl).trans (eg ▸ (hc k hlt).1)
      have hck' : wr.cell? ⟨b, off + k * 2 + 1, none⟩ = some (.int .i64 xs[k].2) := (hbel.cell (p := ⟨b, off + k * 2 + 1, none⟩) hbl).trans (eg ▸ (hc k hlt).2)
      clear hc hmk
      go_wp2_with fail
      refine (toTime_any _ _ _).mono ?_
      rintro e w2 ⟨rfl, hb2⟩
      have hblk2 := hblk.below hb2
      have hbel2 : Below w.heap.size w w2 := btr hbel hb2
      have hcl : (xs.take k ++ List.replicate (xs.length - k) (0, 0)).length = xs.length := by simp; omega
      have g := timeC_get (xs.take k ++ List.replicate (xs.length - k) (0, 0)) k (by rw [hcl]; exact hlt)
      have hco : w2.cell? ⟨w.heap.size, k * 2, none⟩ = _ := (hblk2.cell (k * 2)).trans g.1
      have hco' : w2.cell? ⟨w.heap.size, k * 2 + 1, none⟩ = _ := (hblk2.cell (k * 2 + 1)).trans g.2
      have hfo := hblk2.frozen (k * 2)
      have hfo' := hblk2.frozen (k * 2 + 1)
      have hset := (hblk2.set_ (k * 2) (.int .i64 xs[k].1)).set_ (k * 2 + 1) (.int .i64 xs[k].2)
      rw [timeC_set _ _ _ _ (by rw [hcl]; exact hlt), show (xs[k].1, xs[k].2) = xs.getD k (0, 0) by rw [eg], fill_stepT _ _ hlt] at hset
      have HS := Lib.hid hset
      have HB := Lib.hid hbel2
      generalize ((xs.take k ++ List.replicate (xs.length - k) (0, 0)).getD k (0, 0)).1 = u1 at hco
      generalize ((xs.take k ++ List.replicate (xs.length - k) (0, 0)).getD k (0, 0)).2 = u2 at hco'
      clear hset hcl hblk hbel hblk2 hbel2 g eg hb2 hck hck'
      go_wp2
      go_roundw
      case rel => exact ⟨k + 1, by omega, by go_num, HS.out, bset (bset HB.out (Nat.le_refl _) _) (Nat.le_refl _) _⟩
      case measure => simp [intOf]; omega
    · obtain rfl : k = xs.length := by omega
      have e : xs.take xs.length ++ List.replicate (xs.length - xs.length) (0, 0) = xs := by simp
      rw [e] at hblk
      have HBl := Lib.hid hblk
      have HB := Lib.hid hbel
      clear hblk e hbel hmk
      go_wp2
      go_ret
      exact ⟨rfl, HBl.out, HB.out⟩

theorem take_eq_stepT {xs ys : List Tm} {k : Nat} (h1 : k < xs.length) (h2 : k < ys.length) (h : xs.take k = ys.take k) (e : xs[k] = ys[k]) : xs.take (k + 1) = ys.take (k + 1) := by
  rw [List.take_succ_eq_append_getElem h1, List.take_succ_eq_append_getElem h2, h, e]
theorem eqB_iff (a b : Tm) : eqB a.1 a.2 b.1 b.2 = decide (a = b) := by
  unfold eqB
  congr 1
  rw [eq_iff_iff, Prod.ext_iff]

/-- A cell below, in every world that has only grown. -/
theorem cgrow {w : World} {b o : Nat} {v : Value} (h : w.cell? ⟨b, o, none⟩ = some v) : ∀ d os, (grow (redrawn w d) os).cell? ⟨b, o, none⟩ = some v := fun d os => cell_regrown h d os

set_option maxHeartbeats 800000 in
theorem eqTimeS_any (A B : Option Addr) (c d : Nat) (xs ys : List Tm) (w : World) (hx : TimesAt w A xs) (hy : TimesAt w B ys) (hn : xs.length ≤ 4194304) (hm : ys.length ≤ 4194304) :
    Calls Try.prog 19 #[.slice A xs.length c, .slice B ys.length d] w fun e w' => e = .returned (.bool (decide (xs = ys))) ∧ Below w.heap.size w w' := by
  by_cases hl : xs.length = ys.length
  · have hb : ((xs.length : Int) != (ys.length : Int)) = false := by simp [hl]
    have HL := Lib.hid hl
    clear hl
    go_enter Try.func19, Try.ntmps19
    go_wp2
    go_loopw [5] (fun i wr => ∃ k : Nat, k ≤ xs.length ∧ i = .int .i64 k ∧ xs.take k = ys.take k ∧ Below w.heap.size w wr) (fun i _ => xs.length - (intOf i).toNat)
    case atStart => exact ⟨0, by omega, rfl, rfl, Below.refl _ _⟩
    case round =>
      obtain ⟨k, hk, rfl, htk, hbel⟩ := hrel
      have HT := Lib.hid htk
      clear htk
      by_cases hlt : k < xs.length
      · have hlt2 : k < ys.length := by have := HL.out; omega
        obtain ⟨b, off, rfl, hbl, hc⟩ := hx (by omega)
        obtain ⟨b2, off2, rfl, hbl2, hc2⟩ := hy (by omega)
        have hc := hc k hlt
        have hc2 := hc2 k hlt2
        rw [show xs.getD k (0, 0) = xs[k] by simp [hlt]] at hc
        rw [show ys.getD k (0, 0) = ys[k] by simp [hlt2]] at hc2
        have q1 := cgrow ((hbel.cell (p := ⟨b, off + k * 2, none⟩) hbl).trans hc.1)
        have q2 := cgrow ((hbel.cell (p := ⟨b, off + k * 2 + 1, none⟩) hbl).trans hc.2)
        have q3 := cgrow ((hbel.cell (p := ⟨b2, off2 + k * 2, none⟩) hbl2).trans hc2.1)
        have q4 := cgrow ((hbel.cell (p := ⟨b2, off2 + k * 2 + 1, none⟩) hbl2).trans hc2.2)
        clear hc hc2
        by_cases he : xs[k] = ys[k]
        · have hne : eqB xs[k].1 xs[k].2 ys[k].1 ys[k].2 = true := by rw [eqB_iff]; simp [he]
          have HE := Lib.hid he
          clear he
          go_wp2_with fail
          refine wp_region_quiet_below (by kernel_rfl) (by kernel_rfl) ?_
          repeat (quiet_step (exact Calls.regrown_of (eqTime_any _ _ _ _ _)))
          refine wpQuiet_nil ?_
          intro w3 hw3
          obtain ⟨⟨dq, osq⟩, rfl⟩ := hw3
          have hbq := below_regrown wr dq osq
          generalize grow (redrawn wr dq) osq = w4 at hbq
          clear q1 q2 q3 q4
          go_wp2
          go_roundw
          case rel => exact ⟨k + 1, by omega, by go_num, take_eq_stepT hlt hlt2 HT.out HE.out, btr hbel hbq⟩
          case measure => simp [intOf]; omega
        · have hne : eqB xs[k].1 xs[k].2 ys[k].1 ys[k].2 = false := by rw [eqB_iff]; simp [he]
          go_wp2_with fail
          refine wp_region_quiet_below (by kernel_rfl) (by kernel_rfl) ?_
          repeat (quiet_step (exact Calls.regrown_of (eqTime_any _ _ _ _ _)))
          refine wpQuiet_nil ?_
          intro w3 hw3
          obtain ⟨⟨dq, osq⟩, rfl⟩ := hw3
          have hbq := below_regrown wr dq osq
          generalize grow (redrawn wr dq) osq = w4 at hbq
          clear q1 q2 q3 q4
          go_wp2
          go_ret
          exact ⟨ret_bool (by simp; rintro rfl; exact he rfl), btr hbel hbq⟩
      · obtain rfl : k = xs.length := by omega
        have hfin : decide (xs = ys) = true := by
          have h1 := HT.out
          have h2 := HL.out
          rw [List.take_length, h2, List.take_length] at h1
          simp [h1]
        have HF := Lib.hid hfin
        clear hfin
        go_wp2
        go_ret
        exact ⟨ret_bool HF.out.symm, hbel⟩
  · have hb : ((xs.length : Int) != (ys.length : Int)) = true := by simp; omega
    have hfin : decide (xs = ys) = false := by simp; rintro rfl; exact hl rfl
    have HF := Lib.hid hfin
    clear hfin
    go_enter Try.func19, Try.ntmps19
    go_wp2
    go_ret
    exact ⟨ret_bool HF.out.symm, Below.refl _ _⟩
end Go.Proofs.Ytfndglpfhdphiab
