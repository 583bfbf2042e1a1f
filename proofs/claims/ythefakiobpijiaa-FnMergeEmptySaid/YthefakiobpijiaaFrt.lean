/- HELPER, no statement of the seat: several texts in one file. -/
import Derived.Test.YthefakiobpijiaaTimeBase
import Derived.OwnWalk
import Derived.LoopTactic
import Derived.Deep.QuietTactic
import Derived.BigQuiet
import Derived.Lib.QuietBelow
import Derived.Lib.Hide
/- HELPER, no statement of the seat: contracts of the functions on lists of times. -/
namespace Go.Proofs.Ythefakiobpijiaa
open Go.RowKit Go.Sort
set_option linter.unusedSimpArgs false
set_option linter.unusedVariables false

abbrev Tm := Int × Int
/-- The cells of a list of times. -/
def timeC (l : List Tm) : Array Value := (l.flatMap fun t => [Value.int .i64 t.1, Value.int .i64 t.2]).toArray
theorem timeC_get (l : List Tm) : ∀ j, j < l.length → (timeC l)[j * 2]? = some (.int .i64 (l.getD j (0, 0)).1) ∧ (timeC l)[j * 2 + 1]? = some (.int .i64 (l.getD j (0, 0)).2) := by
  unfold timeC
  induction l with
  | nil => intro j hj; simp at hj
  | cons t l ih =>
    intro j hj
    cases j with
    | zero => simp
    | succ j =>
      have := ih j (by simpa using hj)
      have e1 : (j + 1) * 2 = (j * 2) + 1 + 1 := by omega
      rw [e1]
      simpa [List.flatMap_cons] using this
theorem timeC_size (l : List Tm) : (timeC l).size = l.length * 2 := by
  unfold timeC
  induction l with
  | nil => rfl
  | cons t l ih => simp [List.flatMap_cons] at ih ⊢; omega
theorem timeC_set (l : List Tm) (x y : Int) : ∀ k, k < l.length → ((timeC l).setIfInBounds (k * 2) (.int .i64 x)).setIfInBounds (k * 2 + 1) (.int .i64 y) = timeC (l.set k (x, y)) := by
  unfold timeC
  induction l with
  | nil => intro k hk; simp at hk
  | cons t l ih =>
    intro k hk
    cases k with
    | zero => simp
    | succ k =>
      have := ih k (by simpa using hk)
      have e1 : (k + 1) * 2 = (k * 2) + 1 + 1 := by omega
      rw [e1]
      simp [List.flatMap_cons] at this ⊢
      exact this
theorem timeC_made (n : Nat) : madeCells #[.int .i64 0, .int .i64 0] (n * 2) = timeC (List.replicate n (0, 0)) := by
  apply Array.ext
  · rw [timeC_size]; simp [madeCells]
  · intro i h1 h2
    have hi : i < n * 2 := by simpa [madeCells] using h1
    have hz : (#[Value.int .i64 0, Value.int .i64 0] : Array Value)[i % 2]! = .int .i64 0 := by
      have : i % 2 = 0 ∨ i % 2 = 1 := by omega
      rcases this with h | h <;> simp [h]
    have g := timeC_get (List.replicate n (0, 0)) (i / 2) (by simp; omega)
    have e : (timeC (List.replicate n (0, 0)))[i]? = some (.int .i64 0) := by
      rcases (show i = i / 2 * 2 ∨ i = i / 2 * 2 + 1 by omega) with h | h
      · have g1 := g.1
        rw [← h] at g1
        rw [g1]
        simp [List.getElem?_replicate, show i / 2 < n by omega]
      · have g1 := g.2
        rw [← h] at g1
        rw [g1]
        simp [List.getElem?_replicate, show i / 2 < n by omega]
    rw [Array.getElem?_eq_getElem h2] at e
    injection e with e
    rw [e]
    simpa [madeCells] using hz

/-- The slice at A reads as xs. -/
def TimesAt (w : World) (A : Option Addr) (xs : List Tm) : Prop :=
  0 < xs.length → ∃ b off, A = some ⟨b, off, none⟩ ∧ b < w.heap.size ∧ ∀ j, j < xs.length → w.cell? ⟨b, off + j * 2, none⟩ = some (.int .i64 (xs.getD j (0, 0)).1) ∧ w.cell? ⟨b, off + j * 2 + 1, none⟩ = some (.int .i64 (xs.getD j (0, 0)).2)
theorem TimesAt.below {w w' : World} {A : Option Addr} {xs : List Tm} (h : TimesAt w A xs) (hb : Below w.heap.size w w') : TimesAt w' A xs := fun hn => by
  obtain ⟨b, off, e, hlt, hc⟩ := h hn
  exact ⟨b, off, e, Nat.lt_of_lt_of_le hlt hb.size, fun j hj => ⟨(hb.cell (p := ⟨b, off + j * 2, none⟩) hlt).trans (hc j hj).1, (hb.cell (p := ⟨b, off + j * 2 + 1, none⟩) hlt).trans (hc j hj).2⟩⟩
theorem TimesAt.ofBlk {w : World} {g : Nat} {t : TypeId} {xs : List Tm} (h : Blk w g t (timeC xs)) : TimesAt w (some ⟨g, 0, none⟩) xs := fun _ =>
  ⟨g, 0, rfl, h.lt, fun j hj => by rw [Nat.zero_add, h.cell, h.cell]; exact timeC_get xs j hj⟩

theorem Try.infoTime : (Try.prog.info? 117).map (fun i => (i.zero, i.size, i.bytes)) = some (some (.agg #[.int .i64 0, .int .i64 0]), 2, 16) := by kernel_rfl

theorem fill_stepT (zs : List Tm) (k : Nat) (hk : k < zs.length) : (zs.take k ++ List.replicate (zs.length - k) (0, 0)).set k (zs.getD k (0, 0)) = zs.take (k + 1) ++ List.replicate (zs.length - (k + 1)) (0, 0) := by
  have e : zs.length - k = (zs.length - (k + 1)) + 1 := by omega
  rw [List.set_append_right _ _ (by simp; omega), e, List.replicate_succ]
  have e2 : k - (zs.take k).length = 0 := by simp; omega
  rw [e2, List.set_cons_zero, List.take_succ_eq_append_getElem hk, List.append_assoc]
  simp [hk]
theorem ret_intT {k : IntKind} {a b : Int} (h : a = b) : Ending.returned (.int k a) = .returned (.int k b) := by rw [h]
theorem bdnT {a w : World} (h : Below a.heap.size a w) (n : Nat) : Below a.heap.size a (w.drewN n) := ⟨h.os, h.tape, h.output, h.size, h.block⟩

theorem szTimeS_any (A : Option Addr) (c n : Nat) (left : Int) (w : World) (h0 : 0 ≤ left) (h1 : left ≤ 1048576) (hn : n ≤ maxLen) :
    Calls Try.prog 80 #[.slice A n c, .int .i64 left] w fun e w' => e = .returned (.int .i64 (if left < n then -1 else left - n)) ∧ w = w' := by
  unfold maxLen at hn
  by_cases h : left < n
  · have h' : left - n < 0 := by omega
    go_enter Try.func80, Try.ntmps80
    go_wp2
    go_ret
    exact ⟨ret_intT (by simp [h]), rfl⟩
  · have h' : 0 ≤ left - n := by omega
    go_enter Try.func80, Try.ntmps80
    go_wp2
    go_ret
    exact ⟨ret_intT (by simp [h]), rfl⟩

set_option maxHeartbeats 800000 in
theorem toTimeS_any (A : Option Addr) (c : Nat) (xs : List Tm) (w : World) (hx : TimesAt w A xs) (hn : xs.length ≤ 4194304) :
    Calls Try.prog 85 #[.slice A xs.length c] w fun e w' => e = .returned (.slice (some ⟨w.heap.size, 0, none⟩) xs.length xs.length) ∧ Blk w' w.heap.size 117 (timeC xs) ∧ Below w.heap.size w w' := by
  obtain ⟨i0, hi, hz0, hz1, hz2⟩ := info_parts Try.infoTime
  have hmk := run_make (P := Try.prog) w 23 117 i0 (.agg #[.int .i64 0, .int .i64 0]) Try.underlying23 hi hz0 .i64 .i64 xs.length xs.length (by omega) (by omega) (by rw [hz2]; omega) (by omega)
  simp only [Int.toNat_natCast, hz1, Value.cells, timeC_made] at hmk
  go_enter Try.func85, Try.ntmps85
  go_wp2
  go_loopw [4] (fun i wr => ∃ k : Nat, k ≤ xs.length ∧ i = .int .i64 k ∧ Blk wr w.heap.size 117 (timeC (xs.take k ++ List.replicate (xs.length - k) (0, 0))) ∧ Below w.heap.size w wr) (fun i _ => xs.length - (intOf i).toNat)
  case atStart => exact ⟨0, by omega, rfl, by simpa using Blk.newAt rfl, bal (Below.refl _ _) _⟩
  case round =>
    obtain ⟨k, hk, rfl, hblk, hbel⟩ := hrel
    by_cases hlt : k < xs.length
    · obtain ⟨b, off, rfl, hbl, hc⟩ := hx (by omega)
      have eg : xs.getD k (0, 0) = xs[k] := by simp [hlt]
      have hck : wr.cell? ⟨b, off + k * 2, none⟩ = some (.int .i64 xs[k].1) := (hbel.cell (p := ⟨b, off + k * 2, none⟩) hbl).trans (eg ▸ (hc k hlt).1)
      have hck' : wr.cell? ⟨b, off + k * 2 + 1, none⟩ = some (.int .i64 xs[k].2) := (hbel.cell (p := ⟨b, off + k * 2 + 1, none⟩) hbl).trans (eg ▸ (hc k hlt).2)
      clear hc hmk
      go_wp2_with fail
      refine (toTime_any _ _ _).mono ?_
      rintro e w2 ⟨rfl, hb2⟩
      have hblk2 := hblk.below hb2
      have hbel2 : Below w.heap.size w w2 := btr hbel hb2
      have hcl : (xs.take k ++ List.replicate (xs.length - k) (0, 0)).length = xs.length := by simp; omega
      have g := timeC_get (xs.take k ++ List.replicate (xs.length - k) (0, 0)) k (by rw [hcl]; exact hlt)
      have hco : w2.cell? ⟨w.heap.size, k * 2, none⟩ = _ := (hblk2.cell (k * 2)).trans g.1
      have hco' : w2.cell? ⟨w.heap.size, k * 2 + 1, none⟩ = _ := (hblk2.cell (k * 2 + 1)).trans g.2
      have hfo := hblk2.frozen (k * 2)
      have hfo' := hblk2.frozen (k * 2 + 1)
      have hset := (hblk2.set_ (k * 2) (.int .i64 xs[k].1)).set_ (k * 2 + 1) (.int .i64 xs[k].2)
      rw [timeC_set _ _ _ _ (by rw [hcl]; exact hlt), show (xs[k].1, xs[k].2) = xs.getD k (0, 0) by rw [eg], fill_stepT _ _ hlt] at hset
      have HS := Lib.hid hset
      have HB := Lib.hid hbel2
      generalize ((xs.take k ++ List.replicate (xs.length - k) (0, 0)).getD k (0, 0)).1 = u1 at hco
      generalize ((xs.take k ++ List.replicate (xs.length - k) (0, 0)).getD k (0, 0)).2 = u2 at hco'
      clear hset hcl hblk hbel hblk2 hbel2 g eg hb2 hck hck'
      go_wp2
      go_roundw
      case rel => exact ⟨k + 1, by omega, by go_num, HS.out, bset (bset HB.out (Nat.le_refl _) _) (Nat.le_refl _) _⟩
      case measure => simp [intOf]; omega
    · obtain rfl : k = xs.length := by omega
      have e : xs.take xs.length ++ List.replicate (xs.length - xs.length) (0, 0) = xs := by simp
      rw [e] at hblk
      have HBl := Lib.hid hblk
      have HB := Lib.hid hbel
      clear hblk e hbel hmk
      go_wp2
      go_ret
      exact ⟨rfl, HBl.out, HB.out⟩

theorem take_eq_stepT {xs ys : List Tm} {k : Nat} (h1 : k < xs.length) (h2 : k < ys.length) (h : xs.take k = ys.take k) (e : xs[k] = ys[k]) : xs.take (k + 1) = ys.take (k + 1) := by
  rw [List.take_succ_eq_append_getElem h1, List.take_succ_eq_append_getElem h2, h, e]
theorem eqB_iff (a b : Tm) : eqB a.1 a.2 b.1 b.2 = decide (a = b) := by
  unfold eqB
  congr 1
  rw [eq_iff_iff, Prod.ext_iff]

/-- A cell below, in every world that has only grown. -/
theorem cgrowT {w : World} {b o : Nat} {v : Value} (h : w.cell? ⟨b, o, none⟩ = some v) : ∀ d os, (grow (redrawn w d) os).cell? ⟨b, o, none⟩ = some v := fun d os => cell_regrown h d os

set_option maxHeartbeats 800000 in
theorem eqTimeS_any (A B : Option Addr) (c d : Nat) (xs ys : List Tm) (w : World) (hx : TimesAt w A xs) (hy : TimesAt w B ys) (hn : xs.length ≤ 4194304) (hm : ys.length ≤ 4194304) :
    Calls Try.prog 90 #[.slice A xs.length c, .slice B ys.length d] w fun e w' => e = .returned (.bool (decide (xs = ys))) ∧ Below w.heap.size w w' := by
  by_cases hl : xs.length = ys.length
  · have hb : ((xs.length : Int) != (ys.length : Int)) = false := by simp [hl]
    have HL := Lib.hid hl
    clear hl
    go_enter Try.func90, Try.ntmps90
    go_wp2
    go_loopw [5] (fun i wr => ∃ k : Nat, k ≤ xs.length ∧ i = .int .i64 k ∧ xs.take k = ys.take k ∧ Below w.heap.size w wr) (fun i _ => xs.length - (intOf i).toNat)
    case atStart => exact ⟨0, by omega, rfl, rfl, Below.refl _ _⟩
    case round =>
      obtain ⟨k, hk, rfl, htk, hbel⟩ := hrel
      have HT := Lib.hid htk
      clear htk
      by_cases hlt : k < xs.length
      · have hlt2 : k < ys.length := by have := HL.out; omega
        obtain ⟨b, off, rfl, hbl, hc⟩ := hx (by omega)
        obtain ⟨b2, off2, rfl, hbl2, hc2⟩ := hy (by omega)
        have hc := hc k hlt
        have hc2 := hc2 k hlt2
        rw [show xs.getD k (0, 0) = xs[k] by simp [hlt]] at hc
        rw [show ys.getD k (0, 0) = ys[k] by simp [hlt2]] at hc2
        have q1 := cgrowT ((hbel.cell (p := ⟨b, off + k * 2, none⟩) hbl).trans hc.1)
        have q2 := cgrowT ((hbel.cell (p := ⟨b, off + k * 2 + 1, none⟩) hbl).trans hc.2)
        have q3 := cgrowT ((hbel.cell (p := ⟨b2, off2 + k * 2, none⟩) hbl2).trans hc2.1)
        have q4 := cgrowT ((hbel.cell (p := ⟨b2, off2 + k * 2 + 1, none⟩) hbl2).trans hc2.2)
        clear hc hc2
        by_cases he : xs[k] = ys[k]
        · have hne : eqB xs[k].1 xs[k].2 ys[k].1 ys[k].2 = true := by rw [eqB_iff]; simp [he]
          have HE := Lib.hid he
          clear he
          go_wp2_with fail
          refine wp_region_quiet_below (by kernel_rfl) (by kernel_rfl) ?_
          repeat (quiet_step (exact Calls.regrown_of (eqTime_any _ _ _ _ _)))
          refine wpQuiet_nil ?_
          intro w3 hw3
          obtain ⟨⟨dq, osq⟩, rfl⟩ := hw3
          have hbq := below_regrown wr dq osq
          generalize grow (redrawn wr dq) osq = w4 at hbq
          clear q1 q2 q3 q4
          go_wp2
          go_roundw
          case rel => exact ⟨k + 1, by omega, by go_num, take_eq_stepT hlt hlt2 HT.out HE.out, btr hbel hbq⟩
          case measure => simp [intOf]; omega
        · have hne : eqB xs[k].1 xs[k].2 ys[k].1 ys[k].2 = false := by rw [eqB_iff]; simp [he]
          go_wp2_with fail
          refine wp_region_quiet_below (by kernel_rfl) (by kernel_rfl) ?_
          repeat (quiet_step (exact Calls.regrown_of (eqTime_any _ _ _ _ _)))
          refine wpQuiet_nil ?_
          intro w3 hw3
          obtain ⟨⟨dq, osq⟩, rfl⟩ := hw3
          have hbq := below_regrown wr dq osq
          generalize grow (redrawn wr dq) osq = w4 at hbq
          clear q1 q2 q3 q4
          go_wp2
          go_ret
          exact ⟨ret_bool (by simp; rintro rfl; exact he rfl), btr hbel hbq⟩
      · obtain rfl : k = xs.length := by omega
        have hfin : decide (xs = ys) = true := by
          have h1 := HT.out
          have h2 := HL.out
          rw [List.take_length, h2, List.take_length] at h1
          simp [h1]
        have HF := Lib.hid hfin
        clear hfin
        go_wp2
        go_ret
        exact ⟨ret_bool HF.out.symm, hbel⟩
  · have hb : ((xs.length : Int) != (ys.length : Int)) = true := by simp; omega
    have hfin : decide (xs = ys) = false := by simp; rintro rfl; exact hl rfl
    have HF := Lib.hid hfin
    clear hfin
    go_enter Try.func90, Try.ntmps90
    go_wp2
    go_ret
    exact ⟨ret_bool HF.out.symm, Below.refl _ _⟩
end Go.Proofs.Ythefakiobpijiaa

/- HELPER, no statement of the seat: contracts of the functions on frontiers. -/
namespace Go.Proofs.Ythefakiobpijiaa
open Go.RowKit Go.Sort
set_option linter.unusedSimpArgs false
set_option linter.unusedVariables false

def tg (xs : List Tm) (i : Nat) : Tm := xs.getD i (0, 0)
theorem tg_lt {xs : List Tm} {i : Nat} (h : i < xs.length) : tg xs i = xs[i] := by simp [tg, h]
/-- What the document asks of element i. -/
def gd (xs : List Tm) (i : Nat) : Bool := vtB (tg xs i).1 (tg xs i).2 && (decide (i = 0) || (decide ((tg xs (i - 1)).1 < (tg xs i).1) && decide ((tg xs i).2 < (tg xs (i - 1)).2)))
def okTo (xs : List Tm) (k : Nat) : Prop := ∀ i, i < k → gd xs i = true
def frB (xs : List Tm) : Bool := decide (xs.length ≤ 100) && (List.range xs.length).all (gd xs)
theorem okTo_step {xs : List Tm} {k : Nat} (h : okTo xs k) (e : gd xs k = true) : okTo xs (k + 1) := fun i hi => by
  rcases Nat.lt_succ_iff_lt_or_eq.1 hi with h' | rfl
  · exact h i h'
  · exact e
theorem frB_bad {xs : List Tm} {k : Nat} (h : k < xs.length) (e : gd xs k = false) : frB xs = false := by
  unfold frB
  rw [Bool.and_eq_false_iff]
  right
  rw [List.all_eq_false]
  exact ⟨k, by simpa using h, by simp [e]⟩
theorem frB_end {xs : List Tm} (h : okTo xs xs.length) : frB xs = decide (xs.length ≤ 100) := by
  unfold frB
  have : (List.range xs.length).all (gd xs) = true := by
    rw [List.all_eq_true]
    intro i hi
    exact h i (by simpa using hi)
  rw [this, Bool.and_true]

theorem gd_parts {xs : List Tm} {m : Nat} (h : gd xs (m + 1) = true) : vtB (tg xs (m + 1)).1 (tg xs (m + 1)).2 = true ∧ (tg xs m).1 < (tg xs (m + 1)).1 ∧ (tg xs (m + 1)).2 < (tg xs m).2 := by
  simp [gd] at h
  exact ⟨h.1, h.2.1, h.2.2⟩
theorem gd_vt {xs : List Tm} {k : Nat} (h : gd xs k = true) : vtB (tg xs k).1 (tg xs k).2 = true := by
  unfold gd at h
  exact (Bool.and_eq_true _ _ ▸ h).1
theorem chain {xs : List Tm} : ∀ n, okTo xs (n + 1) → ∀ k, k < n → (tg xs n).2 < (tg xs k).2
  | 0, _, k, hk => by omega
  | n + 1, h, k, hk => by
    have h1 := (gd_parts (h (n + 1) (by omega))).2.2
    rcases Nat.lt_succ_iff_lt_or_eq.1 hk with h' | rfl
    · have := chain n (fun i hi => h i (by omega)) k h'; omega
    · exact h1
theorem gd_le {xs : List Tm} {i k : Nat} (h : okTo xs i) (hk : k < i) (hle : leB (tg xs k).1 (tg xs k).2 (tg xs i).1 (tg xs i).2 = true) : gd xs i = false := by
  rcases hg : gd xs i with _ | _
  · rfl
  · have := chain i (okTo_step h hg) k hk
    simp [leB] at hle
    omega
theorem gd_bf {xs : List Tm} {m : Nat} (h : bfB (tg xs m).1 (tg xs m).2 (tg xs (m + 1)).1 (tg xs (m + 1)).2 = false) : gd xs (m + 1) = false := by
  rcases hg : gd xs (m + 1) with _ | _
  · rfl
  · have := (gd_parts hg).2.1
    simp [bfB] at h
    omega
theorem gd_of {xs : List Tm} {m : Nat} (hv : vtB (tg xs (m + 1)).1 (tg xs (m + 1)).2 = true) (h : bfB (tg xs m).1 (tg xs m).2 (tg xs (m + 1)).1 (tg xs (m + 1)).2 = true) (hl : leB (tg xs m).1 (tg xs m).2 (tg xs (m + 1)).1 (tg xs (m + 1)).2 = false) : gd xs (m + 1) = true := by
  simp [bfB] at h
  simp [leB] at hl
  simp [gd, hv]
  omega
def noLe (xs : List Tm) (i k : Nat) : Prop := ∀ j, j < k → leB (tg xs j).1 (tg xs j).2 (tg xs i).1 (tg xs i).2 = false
theorem noLe_step {xs : List Tm} {i k : Nat} (h : noLe xs i k) (e : leB (tg xs k).1 (tg xs k).2 (tg xs i).1 (tg xs i).2 = false) : noLe xs i (k + 1) := fun j hj => by
  rcases Nat.lt_succ_iff_lt_or_eq.1 hj with h' | rfl
  · exact h j h'
  · exact e

set_option maxHeartbeats 1600000 in
theorem isFrontier_i (A : Option Addr) (c : Nat) (xs : List Tm) (w : World) (hx : TimesAt w A xs) (hn : xs.length ≤ 4194304) :
    Calls Try.prog 209 #[.slice A xs.length c] w fun e w' => e = .returned (.bool (frB xs)) ∧ Below w.heap.size w w' := by
  by_cases h100 : 100 < xs.length
  · have HF : Hid (frB xs = false) := by simp [Hid, frB]; omega
    have h' : (100 : Int) < xs.length := by omega
    go_enter Try.func209, Try.ntmps209
    go_wp2
    go_ret
    exact ⟨ret_bool HF.out.symm, Below.refl _ _⟩
  have h' : (xs.length : Int) ≤ 100 := by omega
  go_enter Try.func209, Try.ntmps209
  go_wp2
  go_loopw [3, 4, 10] (fun _ _ i wr => ∃ k : Nat, k ≤ xs.length ∧ i = .int .i64 k ∧ okTo xs k ∧ Below w.heap.size w wr) (fun _ _ i _ => xs.length - (intOf i).toNat)
  case atStart => exact ⟨0, by omega, rfl, fun i hi => by omega, Below.refl _ _⟩
  case round =>
    obtain ⟨k, hk, rfl, hok, hbel⟩ := hrel
    have HO := Lib.hid hok
    clear hok
    by_cases hlt : k < xs.length
    · obtain ⟨b, off, rfl, hbl, hc⟩ := hx (by omega)
      have q1 : wr.cell? ⟨b, off + k * 2, none⟩ = some (.int .i64 (tg xs k).1) := (hbel.cell (p := ⟨b, off + k * 2, none⟩) hbl).trans (hc k hlt).1
      have q2 : wr.cell? ⟨b, off + k * 2 + 1, none⟩ = some (.int .i64 (tg xs k).2) := (hbel.cell (p := ⟨b, off + k * 2 + 1, none⟩) hbl).trans (hc k hlt).2
      have hb0 : Blk (wr.alloc (.cells #[.int .i64 (tg xs k).1, .int .i64 (tg xs k).2] 117)) wr.heap.size 117 #[.int .i64 (tg xs k).1, .int .i64 (tg xs k).2] := Blk.newAt rfl
      have HB0 := Lib.hid hb0
      clear hb0
      go_wp2_with fail
      refine (isValid_i _ _ _).mono ?_
      rintro e w2 ⟨rfl, hb2⟩
      have hblk := HB0.out.below hb2
      have hbel2 : Below w.heap.size w w2 := btr (bal hbel _) hb2
      have c0 : w2.cell? ⟨wr.heap.size, 0, none⟩ = some (.int .i64 (tg xs k).1) := by rw [hblk.cell]; rfl
      have c1 : w2.cell? ⟨wr.heap.size, 1, none⟩ = some (.int .i64 (tg xs k).2) := by rw [hblk.cell]; rfl
      clear q1 q2 HB0 hblk hb2
      by_cases hv : vtB (tg xs k).1 (tg xs k).2 = true
      · by_cases hk0 : k = 0
        · subst hk0
          have HG : Hid (gd xs 0 = true) := by simp [Hid, gd, hv]
          have HBL := Lib.hid hbel2
          clear hc hbel2
          go_wp2_with fail
          go_quiet (fail)
          go_wp2
          go_roundw
          case rel => exact ⟨1, by omega, by go_num, okTo_step HO.out HG.out, bdnT HBL.out _⟩
          case measure => simp [intOf]; omega
        · obtain ⟨m, rfl⟩ : ∃ m, k = m + 1 := ⟨k - 1, by omega⟩
          have q3 : w2.cell? ⟨b, off + m * 2, none⟩ = some (.int .i64 (tg xs m).1) := (hbel2.cell (p := ⟨b, off + m * 2, none⟩) hbl).trans (hc m (by omega)).1
          have q4 : w2.cell? ⟨b, off + m * 2 + 1, none⟩ = some (.int .i64 (tg xs m).2) := (hbel2.cell (p := ⟨b, off + m * 2 + 1, none⟩) hbl).trans (hc m (by omega)).2
          have hpos : (0 : Int) < (m : Int) + 1 := by omega
          have e1 : IntKind.i64.wrap ((m : Int) + 1 - 1) = m := by rw [IntKind.wrap_i64]; omega
          have e2 : IntKind.i64.wrap (m : Int) = m := by rw [IntKind.wrap_i64]; omega
          have hml : (m : Int) < xs.length := by omega
          clear hc
          by_cases hE : (tg xs (m + 1)).1 ≤ (tg xs m).1
          · have HF := Lib.hid (frB_bad hlt (by simp [gd, hv]; omega))
            have hE' : decide ((tg xs (m + 1)).1 ≤ (tg xs m).1) = true := by simpa using hE
            go_wp2_with fail
            go_quiet (fail)
            go_wp2
            go_ret
            exact ⟨ret_bool HF.out.symm, bdnT hbel2 _⟩
          · have hE' : decide ((tg xs (m + 1)).1 ≤ (tg xs m).1) = false := by simpa using hE
            have hE2 : (tg xs m).1 < (tg xs (m + 1)).1 := by omega
            by_cases hR : (tg xs m).2 ≤ (tg xs (m + 1)).2
            · have HF := Lib.hid (frB_bad hlt (by simp [gd, hv]; omega))
              have hR' : decide ((tg xs m).2 ≤ (tg xs (m + 1)).2) = true := by simpa using hR
              clear hE
              go_wp2_with fail
              go_quiet (fail)
              go_wp2
              go_ret
              exact ⟨ret_bool HF.out.symm, bdnT hbel2 _⟩
            · have hR' : decide ((tg xs m).2 ≤ (tg xs (m + 1)).2) = false := by simpa using hR
              have hR2 : (tg xs (m + 1)).2 < (tg xs m).2 := by omega
              have HG : Hid (gd xs (m + 1) = true) := by simp [Hid, gd, hv, hE2, hR2]
              clear hE hR
              go_wp2_with fail
              go_quiet (fail)
              go_wp2
              go_roundw
              case rel => exact ⟨m + 1 + 1, by omega, by go_num, okTo_step HO.out HG.out, bdnT hbel2 _⟩
              case measure => simp [intOf]; omega
      · have hv' : vtB (tg xs k).1 (tg xs k).2 = false := by simpa using hv
        have HF := Lib.hid (frB_bad hlt (by simp [gd, hv']))
        clear hc hv
        go_wp2
        go_ret
        exact ⟨ret_bool HF.out.symm, hbel2⟩
    · obtain rfl : k = xs.length := by omega
      have HF : Hid (frB xs = true) := by rw [Hid, frB_end HO.out]; simp; omega
      go_wp2
      go_ret
      exact ⟨ret_bool HF.out.symm, hbel⟩

end Go.Proofs.Ythefakiobpijiaa

/- HELPER, no statement of the seat: the model's test of a frontier. -/
namespace Go.Proofs.Ythefakiobpijiaa
open Go.RowKit Go.Sort
set_option linter.unusedSimpArgs false
set_option linter.unusedVariables false

set_option maxHeartbeats 1000000 in
theorem validFrontier_s (A : Option Addr) (c : Nat) (xs : List Tm) (w : World) (hx : TimesAt w A xs) (hn : xs.length ≤ 4194304) :
    Calls Try.prog 101 #[.slice A xs.length c] w fun e w' => e = .returned (.bool (frB xs)) ∧ Below w.heap.size w w' := by
  go_enter Try.func101, Try.ntmps101
  go_wp2
  go_loopw [3, 4] (fun i _ wr => ∃ k : Nat, k ≤ xs.length ∧ i = .int .i64 k ∧ okTo xs k ∧ Below w.heap.size w wr) (fun i _ _ => xs.length - (intOf i).toNat)
  case atStart => exact ⟨0, by omega, rfl, fun i hi => by omega, Below.refl _ _⟩
  case round =>
    obtain ⟨k, hk, rfl, hok, hbel⟩ := hrel
    have HO := Lib.hid hok
    clear hok
    by_cases hlt : k < xs.length
    · obtain ⟨b, off, rfl, hbl, hc⟩ := hx (by omega)
      have q1 := cgrowT ((hbel.cell (p := ⟨b, off + k * 2, none⟩) hbl).trans (hc k hlt).1)
      have q2 := cgrowT ((hbel.cell (p := ⟨b, off + k * 2 + 1, none⟩) hbl).trans (hc k hlt).2)
      change ∀ d os, _ = some (Value.int .i64 (tg xs k).1) at q1
      change ∀ d os, _ = some (Value.int .i64 (tg xs k).2) at q2
      by_cases hv : vtB (tg xs k).1 (tg xs k).2 = true
      · -- the head of the round passes, or not; then the inner loop
        by_cases hk0 : k = 0
        · subst hk0
          have HG : Hid (gd xs 0 = true) := by simp [Hid, gd, hv]
          have hI : (0 : Int) < xs.length := by omega
          simp only [Nat.zero_mul, Nat.add_zero, Nat.zero_add] at q1 q2
          clear hc
          go_wp2_with fail
          refine wp_region_quiet_below (by kernel_rfl) (by kernel_rfl) ?_
          repeat (go_big_quiet_step (first | (go_at_call 157; exact Calls.regrown_of (validTime_s _ _ _)) | (go_at_call 158; exact Calls.regrown_of (timeBefore_s _ _ _ _ _))))
          refine wpQuiet_nil ?_
          intro w3 hw3
          obtain ⟨⟨dq, osq⟩, rfl⟩ := hw3
          have hbq := btr hbel (below_regrown wr dq osq)
          generalize grow (redrawn wr dq) osq = w4 at hbq
          clear q1 q2 hbel
          go_wp2
          refine wp_loop_rounds 1 ?_
          rw [rounds_succ]
          go_wp2
          go_roundw
          case rel => exact ⟨1, by omega, by go_num, okTo_step HO.out HG.out, hbq⟩
          case measure => simp [intOf]; omega
        · obtain ⟨m, rfl⟩ : ∃ m, k = m + 1 := ⟨k - 1, by omega⟩
          have q3 := cgrowT ((hbel.cell (p := ⟨b, off + m * 2, none⟩) hbl).trans (hc m (by omega)).1)
          have q4 := cgrowT ((hbel.cell (p := ⟨b, off + m * 2 + 1, none⟩) hbl).trans (hc m (by omega)).2)
          change ∀ d os, _ = some (Value.int .i64 (tg xs m).1) at q3
          change ∀ d os, _ = some (Value.int .i64 (tg xs m).2) at q4
          have hpos : (0 : Int) < (m : Int) + 1 := by omega
          have e1 : IntKind.i64.wrap ((m : Int) + 1 - 1) = m := by rw [IntKind.wrap_i64]; omega
          have e2 : IntKind.i64.wrap (m : Int) = m := by rw [IntKind.wrap_i64]; omega
          have hml : (m : Int) < xs.length := by omega
          have hI : (m : Int) + 1 < xs.length := by omega
          have hI0 : (0 : Int) ≤ (m : Int) + 1 := by omega
          have hI1 : ((m : Int) + 1).toNat = m + 1 := by omega
          have HC := Lib.hid hc
          clear hc
          by_cases hB : bfB (tg xs m).1 (tg xs m).2 (tg xs (m + 1)).1 (tg xs (m + 1)).2 = true
          · go_wp2_with fail
            refine wp_region_quiet_below (by kernel_rfl) (by kernel_rfl) ?_
            repeat (go_big_quiet_step (first | (go_at_call 157; exact Calls.regrown_of (validTime_s _ _ _)) | (go_at_call 158; exact Calls.regrown_of (timeBefore_s _ _ _ _ _))))
            refine wpQuiet_nil ?_
            intro w3 hw3
            obtain ⟨⟨dq, osq⟩, rfl⟩ := hw3
            have hbq := btr hbel (below_regrown wr dq osq)
            generalize grow (redrawn wr dq) osq = w4 at hbq
            clear q1 q2 q3 q4 hbel
            go_wp2
            go_loopw [4] (fun kk wq => ∃ j : Nat, j ≤ m + 1 ∧ kk = .int .i64 j ∧ noLe xs (m + 1) j ∧ Below w.heap.size w wq) (fun kk _ => m + 1 - (intOf kk).toNat)
            case atStart => exact ⟨0, by omega, rfl, fun i hi => by omega, hbq⟩
            case round =>
              obtain ⟨j, hj, rfl, hno, hbel⟩ := hrel
              have HN := Lib.hid hno
              clear hno hbq
              by_cases hjl : j < m + 1
              · have q1 := cgrowT ((hbel.cell (p := ⟨b, off + j * 2, none⟩) hbl).trans (HC.out j (by omega)).1)
                have q2 := cgrowT ((hbel.cell (p := ⟨b, off + j * 2 + 1, none⟩) hbl).trans (HC.out j (by omega)).2)
                have q3 := cgrowT ((hbel.cell (p := ⟨b, off + (m + 1) * 2, none⟩) hbl).trans (HC.out (m + 1) (by omega)).1)
                have q4 := cgrowT ((hbel.cell (p := ⟨b, off + (m + 1) * 2 + 1, none⟩) hbl).trans (HC.out (m + 1) (by omega)).2)
                change ∀ d os, _ = some (Value.int .i64 (tg xs j).1) at q1
                change ∀ d os, _ = some (Value.int .i64 (tg xs j).2) at q2
                change ∀ d os, _ = some (Value.int .i64 (tg xs (m + 1)).1) at q3
                change ∀ d os, _ = some (Value.int .i64 (tg xs (m + 1)).2) at q4
                have hI2 : (j : Int) < xs.length := by omega
                by_cases hL : leB (tg xs j).1 (tg xs j).2 (tg xs (m + 1)).1 (tg xs (m + 1)).2 = true
                · have HF := Lib.hid (frB_bad hlt (gd_le HO.out hjl hL))
                  go_wp2_with fail
                  refine wp_region_quiet_below (by kernel_rfl) (by kernel_rfl) ?_
                  repeat (go_big_quiet_step (exact Calls.regrown_of (timeLe_s _ _ _ _ _)))
                  refine wpQuiet_nil ?_
                  intro w3 hw3
                  obtain ⟨⟨dq, osq⟩, rfl⟩ := hw3
                  have hbq := btr hbel (below_regrown wr dq osq)
                  generalize grow (redrawn wr dq) osq = w5 at hbq
                  clear q1 q2 q3 q4 hbel
                  go_wp2
                  · go_ret
                    exact ⟨ret_bool HF.out.symm, hbq⟩
                  · exact absurd (hL.symm.trans (by assumption)) (by simp)
                · have hL' : leB (tg xs j).1 (tg xs j).2 (tg xs (m + 1)).1 (tg xs (m + 1)).2 = false := by simpa using hL
                  clear hL
                  go_wp2_with fail
                  refine wp_region_quiet_below (by kernel_rfl) (by kernel_rfl) ?_
                  repeat (go_big_quiet_step (exact Calls.regrown_of (timeLe_s _ _ _ _ _)))
                  refine wpQuiet_nil ?_
                  intro w3 hw3
                  obtain ⟨⟨dq, osq⟩, rfl⟩ := hw3
                  have hbq := btr hbel (below_regrown wr dq osq)
                  generalize grow (redrawn wr dq) osq = w5 at hbq
                  clear q1 q2 q3 q4 hbel
                  have HS := Lib.hid (noLe_step HN.out hL')
                  go_wp2
                  · exact absurd (hL'.symm.trans (by assumption)) (by simp)
                  · go_roundw
                    case rel => exact ⟨j + 1, by omega, by go_num, HS.out, hbq⟩
                    case measure => simp [intOf]; omega
              · obtain rfl : j = m + 1 := by omega
                have HG := Lib.hid (gd_of hv hB (HN.out m (by omega)))
                go_wp2
                go_roundw
                case rel => exact ⟨m + 1 + 1, by omega, by go_num, okTo_step HO.out HG.out, hbel⟩
                case measure => simp [intOf]; omega
          · have hB' : bfB (tg xs m).1 (tg xs m).2 (tg xs (m + 1)).1 (tg xs (m + 1)).2 = false := by simpa using hB
            have HF := Lib.hid (frB_bad hlt (gd_bf hB'))
            clear hB
            go_wp2_with fail
            refine wp_region_quiet_below (by kernel_rfl) (by kernel_rfl) ?_
            repeat (go_big_quiet_step (first | (go_at_call 157; exact Calls.regrown_of (validTime_s _ _ _)) | (go_at_call 158; exact Calls.regrown_of (timeBefore_s _ _ _ _ _))))
            refine wpQuiet_nil ?_
            intro w3 hw3
            obtain ⟨⟨dq, osq⟩, rfl⟩ := hw3
            have hbq := btr hbel (below_regrown wr dq osq)
            generalize grow (redrawn wr dq) osq = w4 at hbq
            clear q1 q2 q3 q4 hbel
            go_wp2
            go_ret
            exact ⟨ret_bool HF.out.symm, hbq⟩
      · have hv' : vtB (tg xs k).1 (tg xs k).2 = false := by simpa using hv
        have HF := Lib.hid (frB_bad hlt (by simp [gd, hv']))
        clear hc hv
        go_wp2_with fail
        refine wp_region_quiet_below (by kernel_rfl) (by kernel_rfl) ?_
        repeat (go_big_quiet_step (first | (go_at_call 157; exact Calls.regrown_of (validTime_s _ _ _)) | (go_at_call 158; exact Calls.regrown_of (timeBefore_s _ _ _ _ _))))
        refine wpQuiet_nil ?_
        intro w3 hw3
        obtain ⟨⟨dq, osq⟩, rfl⟩ := hw3
        have hbq := btr hbel (below_regrown wr dq osq)
        generalize grow (redrawn wr dq) osq = w4 at hbq
        clear q1 q2 hbel
        go_wp2
        go_ret
        exact ⟨ret_bool HF.out.symm, hbq⟩
    · obtain rfl : k = xs.length := by omega
      have HF := Lib.hid (frB_end HO.out)
      go_wp2
      go_ret
      exact ⟨ret_bool (by rw [HF.out]; by_cases h : xs.length ≤ 100 <;> simp [h] <;> omega), hbel⟩
end Go.Proofs.Ythefakiobpijiaa

/- HELPER, no statement of the seat: what a frontier covers. -/
namespace Go.Proofs.Ythefakiobpijiaa
open Go.RowKit Go.Sort
set_option linter.unusedSimpArgs false
set_option linter.unusedVariables false

def cvB (xs : List Tm) (u v : Int) : Bool := xs.any fun e => leB e.1 e.2 u v
def noCv (xs : List Tm) (u v : Int) (k : Nat) : Prop := ∀ j, j < k → leB (tg xs j).1 (tg xs j).2 u v = false
theorem noCv_step {xs : List Tm} {u v : Int} {k : Nat} (h : noCv xs u v k) (e : leB (tg xs k).1 (tg xs k).2 u v = false) : noCv xs u v (k + 1) := fun j hj => by
  rcases Nat.lt_succ_iff_lt_or_eq.1 hj with h' | rfl
  · exact h j h'
  · exact e
theorem cv_yes {xs : List Tm} {u v : Int} {k : Nat} (h : k < xs.length) (e : leB (tg xs k).1 (tg xs k).2 u v = true) : cvB xs u v = true := by
  unfold cvB
  rw [List.any_eq_true]
  exact ⟨xs[k], List.getElem_mem h, by rw [tg_lt h] at e; exact e⟩
theorem cv_no {xs : List Tm} {u v : Int} (h : noCv xs u v xs.length) : cvB xs u v = false := by
  unfold cvB
  rw [List.any_eq_false]
  intro e he
  obtain ⟨j, hj, rfl⟩ := List.getElem_of_mem he
  have := h j hj
  rw [tg_lt hj] at this
  simp [this]

set_option maxHeartbeats 1000000 in
theorem covers_s (A : Option Addr) (c : Nat) (xs : List Tm) (u v : Int) (w : World) (hx : TimesAt w A xs) (hn : xs.length ≤ 4194304) :
    Calls Try.prog 150 #[.slice A xs.length c, .agg #[.int .i64 u, .int .i64 v]] w fun e w' => e = .returned (.bool (cvB xs u v)) ∧ Below w.heap.size w w' := by
  go_enter Try.func150, Try.ntmps150
  go_wp2
  go_loopw [5] (fun i wr => ∃ k : Nat, k ≤ xs.length ∧ i = .int .i64 k ∧ noCv xs u v k ∧ Blk wr w.heap.size 117 #[.int .i64 u, .int .i64 v] ∧ Below w.heap.size w wr) (fun i _ => xs.length - (intOf i).toNat)
  case atStart => exact ⟨0, by omega, rfl, fun i hi => by omega, Blk.newAt rfl, bal (Below.refl _ _) _⟩
  case round =>
    obtain ⟨k, hk, rfl, hno, hblk, hbel⟩ := hrel
    have HN := Lib.hid hno
    have HB := Lib.hid hblk
    clear hno
    by_cases hlt : k < xs.length
    · obtain ⟨b, off, rfl, hbl, hc⟩ := hx (by omega)
      have q1 := cgrowT ((hbel.cell (p := ⟨b, off + k * 2, none⟩) hbl).trans (hc k hlt).1)
      have q2 := cgrowT ((hbel.cell (p := ⟨b, off + k * 2 + 1, none⟩) hbl).trans (hc k hlt).2)
      change ∀ d os, _ = some (Value.int .i64 (tg xs k).1) at q1
      change ∀ d os, _ = some (Value.int .i64 (tg xs k).2) at q2
      have q3 := cgrowT (hblk.cell 0)
      have q4 := cgrowT (hblk.cell 1)
      change ∀ d os, _ = some (Value.int .i64 u) at q3
      change ∀ d os, _ = some (Value.int .i64 v) at q4
      have hI : (k : Int) < xs.length := by omega
      clear hc hblk
      by_cases hL : leB (tg xs k).1 (tg xs k).2 u v = true
      · have HF := Lib.hid (cv_yes hlt hL)
        go_wp2_with fail
        refine wp_region_quiet_below (by kernel_rfl) (by kernel_rfl) ?_
        repeat (go_big_quiet_step (exact Calls.regrown_of (timeLe_s _ _ _ _ _)))
        refine wpQuiet_nil ?_
        intro w3 hw3
        obtain ⟨⟨dq, osq⟩, rfl⟩ := hw3
        have hbq := btr hbel (below_regrown wr dq osq)
        generalize grow (redrawn wr dq) osq = w5 at hbq
        clear q1 q2 q3 q4 hbel
        go_wp2
        · go_ret
          exact ⟨ret_bool HF.out.symm, hbq⟩
        · exact absurd (hL.symm.trans (by assumption)) (by simp)
      · have hL' : leB (tg xs k).1 (tg xs k).2 u v = false := by simpa using hL
        clear hL
        have HS := Lib.hid (noCv_step HN.out hL')
        go_wp2_with fail
        refine wp_region_quiet_below (by kernel_rfl) (by kernel_rfl) ?_
        repeat (go_big_quiet_step (exact Calls.regrown_of (timeLe_s _ _ _ _ _)))
        refine wpQuiet_nil ?_
        intro w3 hw3
        obtain ⟨⟨dq, osq⟩, rfl⟩ := hw3
        have hb1 := below_regrown wr dq osq
        have hbq := btr hbel hb1
        have HB2 := Lib.hid (HB.out.below hb1)
        clear hb1
        generalize grow (redrawn wr dq) osq = w5 at hbq HB2
        clear q1 q2 q3 q4 hbel
        go_wp2
        · exact absurd (hL'.symm.trans (by assumption)) (by simp)
        · go_roundw
          case rel => exact ⟨k + 1, by omega, by go_num, HS.out, HB2.out, hbq⟩
          case measure => simp [intOf]; omega
    · obtain rfl : k = xs.length := by omega
      have HF := Lib.hid (cv_no HN.out)
      go_wp2
      go_ret
      exact ⟨ret_bool HF.out.symm, hbel⟩
set_option maxHeartbeats 1000000 in
theorem covers_i (A : Option Addr) (c : Nat) (xs : List Tm) (u v : Int) (w : World) (hx : TimesAt w A xs) (hn : xs.length ≤ 4194304) :
    Calls Try.prog 185 #[.slice A xs.length c, .agg #[.int .i64 u, .int .i64 v]] w fun e w' => e = .returned (.bool (cvB xs u v)) ∧ Below w.heap.size w w' := by
  go_enter Try.func185, Try.ntmps185
  go_wp2
  go_loopw [6, 9] (fun _ i wr => ∃ k : Nat, k ≤ xs.length ∧ i = .int .i64 k ∧ noCv xs u v k ∧ Blk wr w.heap.size 117 #[.int .i64 u, .int .i64 v] ∧ Below w.heap.size w wr) (fun _ i _ => xs.length - (intOf i).toNat)
  case atStart => exact ⟨0, by omega, rfl, fun i hi => by omega, Blk.newAt rfl, bal (Below.refl _ _) _⟩
  case round =>
    obtain ⟨k, hk, rfl, hno, hblk, hbel⟩ := hrel
    have HN := Lib.hid hno
    have HB := Lib.hid hblk
    clear hno
    by_cases hlt : k < xs.length
    · obtain ⟨b, off, rfl, hbl, hc⟩ := hx (by omega)
      have q1 := (hbel.cell (p := ⟨b, off + k * 2, none⟩) hbl).trans (hc k hlt).1
      have q2 := (hbel.cell (p := ⟨b, off + k * 2 + 1, none⟩) hbl).trans (hc k hlt).2
      change _ = some (Value.int .i64 (tg xs k).1) at q1
      change _ = some (Value.int .i64 (tg xs k).2) at q2
      have hblk2 : Blk (wr.alloc (.cells #[.int .i64 (tg xs k).1, .int .i64 (tg xs k).2] 117)) w.heap.size 117 #[.int .i64 u, .int .i64 v] := hblk.alloc _
      have q3 := hblk2.cell 0
      have q4 := hblk2.cell 1
      simp only [List.getElem?_toArray, List.getElem?_cons_zero, List.getElem?_cons_succ] at q3 q4
      have hI : (k : Int) < xs.length := by omega
      clear hc hblk hblk2
      by_cases hL : leB (tg xs k).1 (tg xs k).2 u v = true
      · have HF := Lib.hid (cv_yes hlt hL)
        go_wp2_with fail
        refine (timeLe_i _ _ _ _ _).mono ?_
        rintro e w2 ⟨rfl, hb2⟩
        have hbq := btr (bal hbel _) hb2
        clear q1 q2 q3 q4 hbel hb2
        go_wp2
        go_ret
        exact ⟨ret_bool HF.out.symm, hbq⟩
      · have hL' : leB (tg xs k).1 (tg xs k).2 u v = false := by simpa using hL
        clear hL
        have HS := Lib.hid (noCv_step HN.out hL')
        go_wp2_with fail
        refine (timeLe_i _ _ _ _ _).mono ?_
        rintro e w2 ⟨rfl, hb2⟩
        have hbq := btr (bal hbel _) hb2
        have HB2 := Lib.hid ((HB.out.alloc _).below hb2)
        clear q1 q2 q3 q4 hbel hb2
        go_wp2
        go_roundw
        case rel => exact ⟨k + 1, by omega, by go_num, HS.out, HB2.out, hbq⟩
        case measure => simp [intOf]; omega
    · obtain rfl : k = xs.length := by omega
      have HF := Lib.hid (cv_no HN.out)
      go_wp2
      go_ret
      exact ⟨ret_bool HF.out.symm, hbel⟩
end Go.Proofs.Ythefakiobpijiaa

/- HELPER, no statement of the seat: the tests on frontiers. -/
namespace Go.Proofs.Ythefakiobpijiaa
open Go.RowKit Go.Sort
set_option linter.unusedSimpArgs false
set_option linter.unusedVariables false

def fcB (xs : List Tm) (u v : Int) : Bool := frB xs && vtB u v && cvB xs u v
def flB (xs ys : List Tm) : Bool := frB xs && frB ys && ys.all fun e => cvB xs e.1 e.2
def allCv (xs ys : List Tm) (k : Nat) : Prop := ∀ j, j < k → cvB xs (tg ys j).1 (tg ys j).2 = true
theorem allCv_step {xs ys : List Tm} {k : Nat} (h : allCv xs ys k) (e : cvB xs (tg ys k).1 (tg ys k).2 = true) : allCv xs ys (k + 1) := fun j hj => by
  rcases Nat.lt_succ_iff_lt_or_eq.1 hj with h' | rfl
  · exact h j h'
  · exact e
theorem fl_no {xs ys : List Tm} {k : Nat} (h : k < ys.length) (e : cvB xs (tg ys k).1 (tg ys k).2 = false) : (ys.all fun e => cvB xs e.1 e.2) = false := by
  rw [List.all_eq_false]
  exact ⟨ys[k], List.getElem_mem h, by rw [tg_lt h] at e; simp [e]⟩
theorem fl_yes {xs ys : List Tm} (h : allCv xs ys ys.length) : (ys.all fun e => cvB xs e.1 e.2) = true := by
  rw [List.all_eq_true]
  intro e he
  obtain ⟨j, hj, rfl⟩ := List.getElem_of_mem he
  have := h j hj
  rwa [tg_lt hj] at this

theorem ValidFrontier_i (A : Option Addr) (c : Nat) (xs : List Tm) (w : World) (hx : TimesAt w A xs) (hn : xs.length ≤ 4194304) :
    Calls Try.prog 184 #[.slice A xs.length c] w fun e w' => e = .returned (.bool (frB xs)) ∧ Below w.heap.size w w' := by
  go_enter Try.func184, Try.ntmps184
  go_wp2_with fail
  refine (isFrontier_i _ _ _ _ hx hn).mono ?_
  rintro e w1 ⟨rfl, hb1⟩
  go_wp2_with fail
  go_ret
  exact ⟨rfl, hb1⟩
set_option maxHeartbeats 1000000 in
theorem frontierLessEqual_s (A : Option Addr) (c : Nat) (xs : List Tm) (B : Option Addr) (d : Nat) (ys : List Tm) (w : World) (hx : TimesAt w A xs) (hn : xs.length ≤ 4194304) (hy : TimesAt w B ys) (hm : ys.length ≤ 4194304) :
    Calls Try.prog 102 #[.slice A xs.length c, .slice B ys.length d] w fun e w' => e = .returned (.bool (ys.all fun e => cvB xs e.1 e.2)) ∧ Below w.heap.size w w' := by
  go_enter Try.func102, Try.ntmps102
  go_wp2
  go_loopw [5] (fun i wr => ∃ k : Nat, k ≤ ys.length ∧ i = .int .i64 k ∧ allCv xs ys k ∧ Below w.heap.size w wr) (fun i _ => ys.length - (intOf i).toNat)
  case atStart => exact ⟨0, by omega, rfl, fun i hi => by omega, Below.refl _ _⟩
  case round =>
    obtain ⟨k, hk, rfl, hno, hbel⟩ := hrel
    have HN := Lib.hid hno
    clear hno
    by_cases hlt : k < ys.length
    · obtain ⟨b, off, rfl, hbl, hc⟩ := hy (by omega)
      have q1 := (hbel.cell (p := ⟨b, off + k * 2, none⟩) hbl).trans (hc k hlt).1
      have q2 := (hbel.cell (p := ⟨b, off + k * 2 + 1, none⟩) hbl).trans (hc k hlt).2
      change _ = some (Value.int .i64 (tg ys k).1) at q1
      change _ = some (Value.int .i64 (tg ys k).2) at q2
      have hI : (k : Int) < ys.length := by omega
      clear hc
      by_cases hL : cvB xs (tg ys k).1 (tg ys k).2 = true
      · have HS := Lib.hid (allCv_step HN.out hL)
        go_wp2_with fail
        refine (covers_s _ _ _ _ _ _ (hx.below hbel) hn).mono ?_
        rintro e w2 ⟨rfl, hb2⟩
        have hbq := btr hbel hb2
        clear q1 q2 hbel hb2
        go_wp2
        go_roundw
        case rel => exact ⟨k + 1, by omega, by go_num, HS.out, hbq⟩
        case measure => simp [intOf]; omega
      · have hL' : cvB xs (tg ys k).1 (tg ys k).2 = false := by simpa using hL
        clear hL
        have HF := Lib.hid (fl_no hlt hL')
        go_wp2_with fail
        refine (covers_s _ _ _ _ _ _ (hx.below hbel) hn).mono ?_
        rintro e w2 ⟨rfl, hb2⟩
        have hbq := btr hbel hb2
        clear q1 q2 hbel hb2
        go_wp2
        go_ret
        exact ⟨ret_bool HF.out.symm, hbq⟩
    · obtain rfl : k = ys.length := by omega
      have HF := Lib.hid (fl_yes HN.out)
      go_wp2
      go_ret
      exact ⟨ret_bool HF.out.symm, hbel⟩
set_option maxHeartbeats 1000000 in
theorem FrontierLessEqual_i (A : Option Addr) (c : Nat) (xs : List Tm) (B : Option Addr) (d : Nat) (ys : List Tm) (w : World) (hx : TimesAt w A xs) (hn : xs.length ≤ 4194304) (hy : TimesAt w B ys) (hm : ys.length ≤ 4194304) :
    Calls Try.prog 143 #[.slice A xs.length c, .slice B ys.length d] w fun e w' => e = .returned (.bool (flB xs ys)) ∧ Below w.heap.size w w' := by
  by_cases hf : frB xs = true
  · by_cases hv : frB ys = true
    · have HF : Hid (flB xs ys = ys.all fun e => cvB xs e.1 e.2) := by simp [Hid, flB, hf, hv]
      go_enter Try.func143, Try.ntmps143
      go_wp2_with fail
      refine (ValidFrontier_i _ _ _ _ hx hn).mono ?_
      rintro e w1 ⟨rfl, hb1⟩
      go_wp2_with fail
      refine (ValidFrontier_i _ _ _ _ (hy.below hb1) hm).mono ?_
      rintro e w2 ⟨rfl, hb2⟩
      have B2 := btr hb1 hb2
      clear hb1 hb2
      go_wp2
      go_loopw [6, 17] (fun _ i wr => ∃ k : Nat, k ≤ ys.length ∧ i = .int .i64 k ∧ allCv xs ys k ∧ Below w.heap.size w wr) (fun _ i _ => ys.length - (intOf i).toNat)
      case atStart => exact ⟨0, by omega, rfl, fun i hi => by omega, B2⟩
      case round =>
        clear B2
        obtain ⟨k, hk, rfl, hno, hbel⟩ := hrel
        have HN := Lib.hid hno
        clear hno
        by_cases hlt : k < ys.length
        · obtain ⟨b, off, rfl, hbl, hc⟩ := hy (by omega)
          have q1 := (hbel.cell (p := ⟨b, off + k * 2, none⟩) hbl).trans (hc k hlt).1
          have q2 := (hbel.cell (p := ⟨b, off + k * 2 + 1, none⟩) hbl).trans (hc k hlt).2
          change _ = some (Value.int .i64 (tg ys k).1) at q1
          change _ = some (Value.int .i64 (tg ys k).2) at q2
          have hI : (k : Int) < ys.length := by omega
          clear hc
          by_cases hL : cvB xs (tg ys k).1 (tg ys k).2 = true
          · have HS := Lib.hid (allCv_step HN.out hL)
            go_wp2_with fail
            refine (covers_i _ _ _ _ _ _ (hx.below (bal hbel _)) hn).mono ?_
            rintro e w2 ⟨rfl, hb2⟩
            have hbq := btr (bal hbel _) hb2
            clear q1 q2 hbel hb2
            go_wp2
            go_roundw
            case rel => exact ⟨k + 1, by omega, by go_num, HS.out, hbq⟩
            case measure => simp [intOf]; omega
          · have hL' : cvB xs (tg ys k).1 (tg ys k).2 = false := by simpa using hL
            clear hL
            have HF2 := Lib.hid (fl_no hlt hL')
            go_wp2_with fail
            refine (covers_i _ _ _ _ _ _ (hx.below (bal hbel _)) hn).mono ?_
            rintro e w2 ⟨rfl, hb2⟩
            have hbq := btr (bal hbel _) hb2
            clear q1 q2 hbel hb2
            go_wp2
            go_ret
            exact ⟨ret_bool (by rw [HF.out, HF2.out]), hbq⟩
        · obtain rfl : k = ys.length := by omega
          have HF2 := Lib.hid (fl_yes HN.out)
          go_wp2
          go_ret
          exact ⟨ret_bool (by rw [HF.out, HF2.out]), hbel⟩
    · have hv' : frB ys = false := by simpa using hv
      have HF : Hid (flB xs ys = false) := by simp [Hid, flB, hv']
      clear hv
      go_enter Try.func143, Try.ntmps143
      go_wp2_with fail
      refine (ValidFrontier_i _ _ _ _ hx hn).mono ?_
      rintro e w1 ⟨rfl, hb1⟩
      go_wp2_with fail
      refine (ValidFrontier_i _ _ _ _ (hy.below hb1) hm).mono ?_
      rintro e w2 ⟨rfl, hb2⟩
      have B2 := btr hb1 hb2
      go_wp2_with fail
      go_ret
      exact ⟨ret_bool HF.out.symm, B2⟩
  · have hf' : frB xs = false := by simpa using hf
    have HF : Hid (flB xs ys = false) := by simp [Hid, flB, hf']
    clear hf
    go_enter Try.func143, Try.ntmps143
    go_wp2_with fail
    refine (ValidFrontier_i _ _ _ _ hx hn).mono ?_
    rintro e w1 ⟨rfl, hb1⟩
    go_wp2_with fail
    go_ret
    exact ⟨ret_bool HF.out.symm, hb1⟩
end Go.Proofs.Ythefakiobpijiaa
