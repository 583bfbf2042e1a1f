/- HELPER, no statement of the seat: contracts of the functions on lists of numbers. -/
import Derived.Test.YtjlpkfcdkmcjnaaRows
import Derived.Test.YtjlpkfcdkmcjnaaRegion
import Derived.WalkKit
import Derived.ProofKit
import Derived.OpenShut
import Derived.WalkLawsBesides
import Derived.OwnWalk
import Derived.LoopTactic
import Derived.Deep.QuietTactic
import Derived.BigQuiet
import Derived.Below
import Derived.Outline
import Derived.Lib.Hide
namespace Go.Proofs.Ytjlpkfcdkmcjnaa
open Go.RowKit
set_option linter.unusedSimpArgs false
set_option linter.unusedVariables false

/-- The cells of a list of numbers. -/
def ints (l : List Int) : Array Value := (l.map (Value.int .i64)).toArray
theorem ints_size (l : List Int) : (ints l).size = l.length := by simp [ints]
theorem ints_get (l : List Int) (j : Nat) (h : j < l.length) : (ints l)[j]? = some (.int .i64 (l.getD j 0)) := by simp [ints, h]
theorem ints_set (l : List Int) (k : Nat) (x : Int) : (ints l).setIfInBounds k (.int .i64 x) = ints (l.set k x) := by simp [ints, List.map_set]
theorem ints_made (n : Nat) : madeCells #[.int .i64 0] n = ints (List.replicate n 0) := by
  apply Array.ext
  · simp [madeCells, ints]
  · intro i h1 h2
    simp [madeCells, ints, Nat.mod_one]

/-- The slice at A reads as xs. -/
def IntsAt (w : World) (A : Option Addr) (xs : List Int) : Prop :=
  0 < xs.length → ∃ b off, A = some ⟨b, off, none⟩ ∧ b < w.heap.size ∧ ∀ j, j < xs.length → w.cell? ⟨b, off + j, none⟩ = some (.int .i64 (xs.getD j 0))
theorem IntsAt.below {w w' : World} {A : Option Addr} {xs : List Int} (h : IntsAt w A xs) (hb : Below w.heap.size w w') : IntsAt w' A xs := fun hn => by
  obtain ⟨b, off, e, hlt, hc⟩ := h hn
  exact ⟨b, off, e, Nat.lt_of_lt_of_le hlt hb.size, fun j hj => (hb.cell (p := ⟨b, off + j, none⟩) hlt).trans (hc j hj)⟩
theorem IntsAt.ofBlk {w : World} {g : Nat} {t : TypeId} {xs : List Int} (h : Blk w g t (ints xs)) : IntsAt w (some ⟨g, 0, none⟩) xs := fun _ =>
  ⟨g, 0, rfl, h.lt, fun j hj => by rw [Nat.zero_add, h.cell, ints_get _ _ hj]⟩

theorem take_eq_step {xs ys : List Int} {k : Nat} (h1 : k < xs.length) (h2 : k < ys.length) (h : xs.take k = ys.take k) (e : xs[k] = ys[k]) : xs.take (k + 1) = ys.take (k + 1) := by
  rw [List.take_succ_eq_append_getElem h1, List.take_succ_eq_append_getElem h2, h, e]
theorem bdn {a w : World} (h : Below a.heap.size a w) (n : Nat) : Below a.heap.size a (w.drewN n) := ⟨h.os, h.tape, h.output, h.size, h.block⟩
theorem ret_int {k : IntKind} {a b : Int} (h : a = b) : Ending.returned (.int k a) = .returned (.int k b) := by rw [h]

def inB (n lo hi : Int) : Bool := decide (lo ≤ n ∧ n ≤ hi)
theorem inRange_any (n lo hi : Int) (w : World) : Calls Try.prog 86 #[.int .i64 n, .int .i64 lo, .int .i64 hi] w fun e w' => e = .returned (.bool (inB n lo hi)) ∧ w = w' := by
  by_cases h0 : lo ≤ n <;> by_cases h1 : n ≤ hi
  all_goals
    go_enter Try.func86, Try.ntmps86
    go_wp2
    go_ret
    exact ⟨ret_bool (by simp [inB, *] <;> omega), rfl⟩

theorem isWithin_any (n : Int) (w : World) : Calls Try.prog 74 #[.int .i64 n, .int .i64 9999] w fun e w' => e = .returned (.bool (inB n (-9999) 9999)) ∧ w = w' := by
  by_cases h0 : -9999 ≤ n <;> by_cases h1 : n ≤ 9999
  all_goals
    go_enter Try.func74, Try.ntmps74
    go_wp2
    go_ret
    exact ⟨ret_bool (by simp [inB, *] <;> omega), rfl⟩

theorem Try.infoInt : (Try.prog.info? 3).map (fun i => (i.zero, i.size, i.bytes)) = some (some (.int .i64 0), 1, 8) := by kernel_rfl

theorem fill_step (zs : List Int) (k : Nat) (hk : k < zs.length) : (zs.take k ++ List.replicate (zs.length - k) 0).set k (zs.getD k 0) = zs.take (k + 1) ++ List.replicate (zs.length - (k + 1)) 0 := by
  have e : zs.length - k = (zs.length - (k + 1)) + 1 := by omega
  rw [List.set_append_right _ _ (by simp; omega), e, List.replicate_succ]
  have e2 : k - (zs.take k).length = 0 := by simp; omega
  rw [e2, List.set_cons_zero, List.take_succ_eq_append_getElem hk, List.append_assoc]
  simp [hk]

set_option maxHeartbeats 400000 in
theorem toIntS_any (A : Option Addr) (c : Nat) (xs : List Int) (w : World) (hx : IntsAt w A xs) (hn : xs.length * 8 ≤ 140737488351232) :
    Calls Try.prog 41 #[.slice A xs.length c] w fun e w' => e = .returned (.slice (some ⟨w.heap.size, 0, none⟩) xs.length xs.length) ∧ Blk w' w.heap.size 3 (ints xs) ∧ Below w.heap.size w w' := by
  obtain ⟨i0, hi, hz0, hz1, hz2⟩ := info_parts Try.infoInt
  have hmk := run_make (P := Try.prog) w 32 3 i0 (.int .i64 0) Try.underlying32 hi hz0 .i64 .i64 xs.length xs.length (by omega) (by omega) (by rw [hz2]; omega) (by omega)
  simp only [Int.toNat_natCast, hz1, Nat.mul_one, Value.cells, ints_made] at hmk
  go_enter Try.func41, Try.ntmps41
  go_wp2
  go_loopw [4] (fun i wr => ∃ k : Nat, k ≤ xs.length ∧ i = .int .i64 k ∧ Blk wr w.heap.size 3 (ints (xs.take k ++ List.replicate (xs.length - k) 0)) ∧ Below w.heap.size w wr) (fun i _ => xs.length - (intOf i).toNat)
  case atStart => exact ⟨0, by omega, rfl, by simpa using Blk.newAt rfl, bal (Below.refl _ _) _⟩
  case round =>
    obtain ⟨k, hk, rfl, hblk, hbel⟩ := hrel
    by_cases hlt : k < xs.length
    · obtain ⟨b, off, rfl, hbl, hc⟩ := hx (by omega)
      have eg : xs.getD k 0 = xs[k] := by simp [hlt]
      have hck : wr.cell? ⟨b, off + k, none⟩ = some (.int .i64 xs[k]) := (hbel.cell (p := ⟨b, off + k, none⟩) hbl).trans (eg ▸ hc k hlt)
      have hcl : (xs.take k ++ List.replicate (xs.length - k) 0).length = xs.length := by simp; omega
      have hco : wr.cell? ⟨w.heap.size, k, none⟩ = some (.int .i64 ((xs.take k ++ List.replicate (xs.length - k) 0).getD k 0)) := by rw [hblk.cell, ints_get _ _ (by rw [hcl]; exact hlt)]
      have hfo := hblk.frozen k
      have hset := hblk.set_ k (.int .i64 (xs.getD k 0))
      rw [ints_set, fill_step _ _ hlt, eg] at hset
      have HS := Lib.hid hset
      have HB := Lib.hid hbel
      clear hset hcl hc hblk hbel eg
      go_wp2
      go_roundw
      case rel => exact ⟨k + 1, by omega, by go_num, HS.out, bset HB.out (Nat.le_refl _) _⟩
      case measure => simp [intOf]; omega
    · obtain rfl : k = xs.length := by omega
      have e : xs.take xs.length ++ List.replicate (xs.length - xs.length) 0 = xs := by simp
      rw [e] at hblk
      have HBl := Lib.hid hblk
      clear hblk e
      go_wp2
      go_ret
      exact ⟨rfl, HBl.out, hbel⟩

set_option maxHeartbeats 400000 in
theorem eqIntS_any (A B : Option Addr) (c d : Nat) (xs ys : List Int) (w : World) (hx : IntsAt w A xs) (hy : IntsAt w B ys) (hn : xs.length * 8 ≤ 140737488351232) (hm : ys.length * 8 ≤ 140737488351232) :
    Calls Try.prog 44 #[.slice A xs.length c, .slice B ys.length d] w fun e w' => e = .returned (.bool (decide (xs = ys))) ∧ Below w.heap.size w w' := by
  by_cases hl : xs.length = ys.length
  · have hb : ((xs.length : Int) != (ys.length : Int)) = false := by simp [hl]
    have HL := Lib.hid hl
    clear hl
    go_enter Try.func44, Try.ntmps44
    go_wp2
    go_loopw [5] (fun i wr => ∃ k : Nat, k ≤ xs.length ∧ i = .int .i64 k ∧ xs.take k = ys.take k ∧ Below w.heap.size w wr) (fun i _ => xs.length - (intOf i).toNat)
    case atStart => exact ⟨0, by omega, rfl, rfl, Below.refl _ _⟩
    case round =>
      obtain ⟨k, hk, rfl, htk, hbel⟩ := hrel
      have HT := Lib.hid htk
      clear htk
      by_cases hlt : k < xs.length
      · have hlt2 : k < ys.length := by have := HL.out; omega
        obtain ⟨b, off, rfl, hbl, hc⟩ := hx (by omega)
        obtain ⟨b2, off2, rfl, hbl2, hc2⟩ := hy (by omega)
        have hck : wr.cell? ⟨b, off + k, none⟩ = some (.int .i64 xs[k]) := (hbel.cell (p := ⟨b, off + k, none⟩) hbl).trans (by rw [hc k hlt]; simp [hlt])
        have hck2 : wr.cell? ⟨b2, off2 + k, none⟩ = some (.int .i64 ys[k]) := (hbel.cell (p := ⟨b2, off2 + k, none⟩) hbl2).trans (by rw [hc2 k hlt2]; simp [hlt2])
        clear hc hc2
        by_cases he : xs[k] = ys[k]
        · have hne : (xs[k] != ys[k]) = false := by simp [he]
          have HE := Lib.hid he
          clear he
          go_wp2_with fail
          go_quiet (fail)
          go_wp2
          go_roundw
          case rel => exact ⟨k + 1, by omega, by go_num, take_eq_step hlt hlt2 HT.out HE.out, bdn hbel _⟩
          case measure => simp [intOf]; omega
        · have hne : (xs[k] != ys[k]) = true := by simp [he]
          go_wp2_with fail
          go_quiet (fail)
          go_wp2
          go_ret
          exact ⟨ret_bool (by simp; rintro rfl; exact he rfl), bdn hbel _⟩
      · obtain rfl : k = xs.length := by omega
        have hfin : decide (xs = ys) = true := by
          have h1 := HT.out
          have h2 := HL.out
          rw [List.take_length, h2, List.take_length] at h1
          simp [h1]
        have HF := Lib.hid hfin
        clear hfin
        go_wp2
        go_ret
        exact ⟨ret_bool HF.out.symm, hbel⟩
  · have hb : ((xs.length : Int) != (ys.length : Int)) = true := by simp; omega
    have hfin : decide (xs = ys) = false := by simp; rintro rfl; exact hl rfl
    have HF := Lib.hid hfin
    clear hfin
    go_enter Try.func44, Try.ntmps44
    go_wp2
    go_ret
    exact ⟨ret_bool HF.out.symm, Below.refl _ _⟩

set_option maxHeartbeats 400000 in
theorem equalInts_l (A B : Option Addr) (c d : Nat) (xs ys : List Int) (w : World) (hx : IntsAt w A xs) (hy : IntsAt w B ys) (hn : xs.length * 8 ≤ 140737488351232) (hm : ys.length * 8 ≤ 140737488351232) :
    Calls Try.prog 66 #[.slice A xs.length c, .slice B ys.length d] w fun e w' => e = .returned (.bool (decide (xs = ys))) ∧ Below w.heap.size w w' := by
  by_cases hl : xs.length = ys.length
  · have hb : ((xs.length : Int) != (ys.length : Int)) = false := by simp [hl]
    have HL := Lib.hid hl
    clear hl
    go_enter Try.func66, Try.ntmps66
    go_wp2
    go_loopw [5] (fun i wr => ∃ k : Nat, k ≤ xs.length ∧ i = .int .i64 k ∧ xs.take k = ys.take k ∧ Below w.heap.size w wr) (fun i _ => xs.length - (intOf i).toNat)
    case atStart => exact ⟨0, by omega, rfl, rfl, Below.refl _ _⟩
    case round =>
      obtain ⟨k, hk, rfl, htk, hbel⟩ := hrel
      have HT := Lib.hid htk
      clear htk
      by_cases hlt : k < xs.length
      · have hlt2 : k < ys.length := by have := HL.out; omega
        obtain ⟨b, off, rfl, hbl, hc⟩ := hx (by omega)
        obtain ⟨b2, off2, rfl, hbl2, hc2⟩ := hy (by omega)
        have hck : wr.cell? ⟨b, off + k, none⟩ = some (.int .i64 xs[k]) := (hbel.cell (p := ⟨b, off + k, none⟩) hbl).trans (by rw [hc k hlt]; simp [hlt])
        have hck2 : wr.cell? ⟨b2, off2 + k, none⟩ = some (.int .i64 ys[k]) := (hbel.cell (p := ⟨b2, off2 + k, none⟩) hbl2).trans (by rw [hc2 k hlt2]; simp [hlt2])
        clear hc hc2
        by_cases he : xs[k] = ys[k]
        · have hne : (xs[k] != ys[k]) = false := by simp [he]
          have HE := Lib.hid he
          clear he
          go_wp2_with fail
          go_quiet (fail)
          go_wp2
          go_roundw
          case rel => exact ⟨k + 1, by omega, by go_num, take_eq_step hlt hlt2 HT.out HE.out, bdn hbel _⟩
          case measure => simp [intOf]; omega
        · have hne : (xs[k] != ys[k]) = true := by simp [he]
          go_wp2_with fail
          go_quiet (fail)
          go_wp2
          go_ret
          exact ⟨ret_bool (by simp; rintro rfl; exact he rfl), bdn hbel _⟩
      · obtain rfl : k = xs.length := by omega
        have hfin : decide (xs = ys) = true := by
          have h1 := HT.out
          have h2 := HL.out
          rw [List.take_length, h2, List.take_length] at h1
          simp [h1]
        have HF := Lib.hid hfin
        clear hfin
        go_wp2
        go_ret
        exact ⟨ret_bool HF.out.symm, hbel⟩
  · have hb : ((xs.length : Int) != (ys.length : Int)) = true := by simp; omega
    have hfin : decide (xs = ys) = false := by simp; rintro rfl; exact hl rfl
    have HF := Lib.hid hfin
    clear hfin
    go_enter Try.func66, Try.ntmps66
    go_wp2
    go_ret
    exact ⟨ret_bool HF.out.symm, Below.refl _ _⟩

/-- A row: what the document calls valid. -/
def rowB (xs : List Int) : Bool := decide (1 ≤ xs.length ∧ xs.length ≤ 6 ∧ ∀ x ∈ xs, -9999 ≤ x ∧ x ≤ 9999)
def allIn (xs : List Int) : Prop := ∀ x ∈ xs, -9999 ≤ x ∧ x ≤ 9999
theorem allIn_step {xs : List Int} {k : Nat} (h1 : k < xs.length) (h : allIn (xs.take k)) (e : inB xs[k] (-9999) 9999 = true) : allIn (xs.take (k + 1)) := by
  rw [List.take_succ_eq_append_getElem h1]
  intro x hx
  rcases List.mem_append.1 hx with hx | hx
  · exact h x hx
  · simp at hx; subst hx; simpa [inB] using e
theorem rowB_bad {xs : List Int} {k : Nat} (h1 : k < xs.length) (e : inB xs[k] (-9999) 9999 = false) : rowB xs = false := by
  simp only [rowB, decide_eq_false_iff_not]
  rintro ⟨_, _, h⟩
  have := h xs[k] (List.getElem_mem h1)
  simp [inB] at e
  omega
theorem rowB_end {xs : List Int} (h : allIn (xs.take xs.length)) : rowB xs = inB xs.length 1 6 := by
  rw [List.take_length] at h
  simp only [rowB, inB]
  congr 1
  simp only [eq_iff_iff]
  constructor
  · rintro ⟨a, b, _⟩; omega
  · rintro ⟨a, b⟩; exact ⟨by omega, by omega, h⟩

set_option maxHeartbeats 400000 in
theorem validRow_s (A : Option Addr) (c : Nat) (xs : List Int) (w : World) (hx : IntsAt w A xs) (hn : xs.length * 8 ≤ 140737488351232) :
    Calls Try.prog 119 #[.slice A xs.length c] w fun e w' => e = .returned (.bool (rowB xs)) ∧ Below w.heap.size w w' := by
  go_enter Try.func119, Try.ntmps119
  go_wp2
  go_loopw [3] (fun i wr => ∃ k : Nat, k ≤ xs.length ∧ i = .int .i64 k ∧ allIn (xs.take k) ∧ w = wr) (fun i _ => xs.length - (intOf i).toNat)
  case atStart => exact ⟨0, by omega, rfl, by simp [allIn], rfl⟩
  case round =>
    obtain ⟨k, hk, rfl, hall, rfl⟩ := hrel
    have HT := Lib.hid hall
    clear hall
    by_cases hlt : k < xs.length
    · obtain ⟨b, off, rfl, hbl, hc⟩ := hx (by omega)
      have hck : w.cell? ⟨b, off + k, none⟩ = some (.int .i64 xs[k]) := by rw [hc k hlt]; simp [hlt]
      clear hc
      by_cases he : inB xs[k] (-9999) 9999 = true
      · go_wp2_with (go_at_call 86; refine (inRange_any _ _ _ _).mono ?_; rintro e w1 ⟨rfl, rfl⟩)
        go_roundw
        case rel => exact ⟨k + 1, by omega, by go_num, allIn_step hlt HT.out he, by trivial⟩
        case measure => simp [intOf]; omega
      · have he' : inB xs[k] (-9999) 9999 = false := by simpa using he
        have HF := Lib.hid (rowB_bad hlt he')
        clear he
        go_wp2_with (go_at_call 86; refine (inRange_any _ _ _ _).mono ?_; rintro e w1 ⟨rfl, rfl⟩)
        go_ret
        exact ⟨ret_bool HF.out.symm, Below.refl _ _⟩
    · obtain rfl : k = xs.length := by omega
      have HF := Lib.hid (rowB_end HT.out)
      go_wp2_with (go_at_call 86; refine (inRange_any _ _ _ _).mono ?_; rintro e w1 ⟨rfl, rfl⟩)
      go_ret
      exact ⟨ret_bool HF.out.symm, Below.refl _ _⟩

set_option maxHeartbeats 400000 in
theorem isRow_i (A : Option Addr) (c : Nat) (xs : List Int) (w : World) (hx : IntsAt w A xs) (hn : xs.length * 8 ≤ 140737488351232) :
    Calls Try.prog 134 #[.slice A xs.length c] w fun e w' => e = .returned (.bool (rowB xs)) ∧ Below w.heap.size w w' := by
  by_cases h1 : xs.length < 1
  · have HF : Hid (rowB xs = false) := by simp [Hid, rowB]; omega
    have h1' : (xs.length : Int) < 1 := by omega
    go_enter Try.func134, Try.ntmps134
    go_wp2
    go_ret
    exact ⟨ret_bool HF.out.symm, Below.refl _ _⟩
  have h1' : (1 : Int) ≤ xs.length := by omega
  by_cases h6 : 6 < xs.length
  · have HF : Hid (rowB xs = false) := by simp [Hid, rowB]; omega
    have h6' : (6 : Int) < xs.length := by omega
    go_enter Try.func134, Try.ntmps134
    go_wp2
    go_ret
    exact ⟨ret_bool HF.out.symm, Below.refl _ _⟩
  have h6' : (xs.length : Int) ≤ 6 := by omega
  go_enter Try.func134, Try.ntmps134
  go_wp2
  go_loopw [4, 15] (fun _ i wr => ∃ k : Nat, k ≤ xs.length ∧ i = .int .i64 k ∧ allIn (xs.take k) ∧ w = wr) (fun _ i _ => xs.length - (intOf i).toNat)
  case atStart => exact ⟨0, by omega, rfl, by simp [allIn], rfl⟩
  case round =>
    obtain ⟨k, hk, rfl, hall, rfl⟩ := hrel
    have HT := Lib.hid hall
    clear hall
    by_cases hlt : k < xs.length
    · obtain ⟨b, off, rfl, hbl, hc⟩ := hx (by omega)
      have hck : w.cell? ⟨b, off + k, none⟩ = some (.int .i64 xs[k]) := by rw [hc k hlt]; simp [hlt]
      clear hc
      by_cases he : inB xs[k] (-9999) 9999 = true
      · go_wp2_with (go_at_call 74; refine (isWithin_any _ _).mono ?_; rintro e w1 ⟨rfl, rfl⟩)
        go_roundw
        case rel => exact ⟨k + 1, by omega, by go_num, allIn_step hlt HT.out he, by trivial⟩
        case measure => simp [intOf]; omega
      · have he' : inB xs[k] (-9999) 9999 = false := by simpa using he
        have HF := Lib.hid (rowB_bad hlt he')
        clear he
        go_wp2_with (go_at_call 74; refine (isWithin_any _ _).mono ?_; rintro e w1 ⟨rfl, rfl⟩)
        go_ret
        exact ⟨ret_bool HF.out.symm, Below.refl _ _⟩
    · obtain rfl : k = xs.length := by omega
      have HF : Hid (rowB xs = true) := by rw [Hid, rowB_end HT.out]; simp [inB]; omega
      go_wp2
      go_ret
      exact ⟨ret_bool HF.out.symm, Below.refl _ _⟩
set_option maxHeartbeats 400000 in
theorem ValidRow_i (A : Option Addr) (c : Nat) (xs : List Int) (w : World) (hx : IntsAt w A xs) (hn : xs.length * 8 ≤ 140737488351232) :
    Calls Try.prog 81 #[.slice A xs.length c] w fun e w' => e = .returned (.bool (rowB xs)) ∧ Below w.heap.size w w' := by
  go_enter Try.func81, Try.ntmps81
  go_wp2_with (go_at_call 134; refine (isRow_i _ _ _ _ hx hn).mono ?_; rintro e w1 ⟨rfl, hb⟩)
  go_ret
  exact ⟨rfl, hb⟩

/-- The order of lists: -1, 0, 1. -/
def cmpI (a b : Int) : Int := if a < b then -1 else if b < a then 1 else 0
def cmpL : List Int → List Int → Int
  | [], [] => 0
  | [], _ :: _ => -1
  | _ :: _, [] => 1
  | a :: xs, b :: ys => if cmpI a b = 0 then cmpL xs ys else cmpI a b
def lessB (xs ys : List Int) : Bool := decide (cmpL xs ys < 0)
theorem cmpL_step {xs ys : List Int} {k : Nat} (h1 : k < xs.length) (h2 : k < ys.length) : cmpL (xs.drop k) (ys.drop k) = if cmpI xs[k] ys[k] = 0 then cmpL (xs.drop (k + 1)) (ys.drop (k + 1)) else cmpI xs[k] ys[k] := by
  rw [List.drop_eq_getElem_cons h1, List.drop_eq_getElem_cons h2]; rfl
theorem cmpL_end1 {xs ys : List Int} {k : Nat} (h1 : k < xs.length) (h2 : ys.length ≤ k) : cmpL (xs.drop k) (ys.drop k) = 1 := by
  rw [List.drop_eq_getElem_cons h1, List.drop_eq_nil_of_le h2]; rfl
theorem cmpL_end2 {xs ys : List Int} {k : Nat} (h1 : xs.length ≤ k) (h2 : k < ys.length) : cmpL (xs.drop k) (ys.drop k) = -1 := by
  rw [List.drop_eq_getElem_cons h2, List.drop_eq_nil_of_le h1]; rfl
theorem cmpL_end3 {xs ys : List Int} {k : Nat} (h1 : xs.length ≤ k) (h2 : ys.length ≤ k) : cmpL (xs.drop k) (ys.drop k) = 0 := by
  rw [List.drop_eq_nil_of_le h1, List.drop_eq_nil_of_le h2]; rfl
theorem cmpL_lt {xs ys : List Int} {k : Nat} (h1 : xs.length ≤ k) (h2 : k ≤ ys.length) (h3 : k ≤ xs.length) : cmpL (xs.drop k) (ys.drop k) = if xs.length < ys.length then -1 else 0 := by
  by_cases h : xs.length < ys.length
  · rw [if_pos h, cmpL_end2 h1 (by omega)]
  · rw [if_neg h, cmpL_end3 h1 (by omega)]

theorem cmpInt_any (a b : Int) (w : World) : Calls Try.prog 152 #[.int .i64 a, .int .i64 b] w fun e w' => e = .returned (.int .i64 (cmpI a b)) ∧ w = w' := by
  by_cases h0 : a < b <;> by_cases h1 : b < a
  all_goals (try (exfalso; omega))
  all_goals
    go_enter Try.func152, Try.ntmps152
    go_wp2
    go_ret
    exact ⟨ret_int (by unfold cmpI; (repeat' split) <;> omega), rfl⟩

set_option maxHeartbeats 800000 in
theorem slicesCompare_any (A B : Option Addr) (c d : Nat) (xs ys : List Int) (w : World) (hx : IntsAt w A xs) (hy : IntsAt w B ys) (hn : xs.length * 8 ≤ 140737488351232) (hm : ys.length * 8 ≤ 140737488351232) :
    Calls Try.prog 136 #[.slice A xs.length c, .slice B ys.length d] w fun e w' => e = .returned (.int .i64 (cmpL xs ys)) ∧ Below w.heap.size w w' := by
  go_enter Try.func136, Try.ntmps136
  go_wp2
  go_loopw [5, 6, 7, 8, 11] (fun _ _ _ _ i wr => ∃ k : Nat, k ≤ xs.length ∧ k ≤ ys.length ∧ i = .int .i64 k ∧ cmpL xs ys = cmpL (xs.drop k) (ys.drop k) ∧ w = wr) (fun _ _ _ _ i _ => xs.length - (intOf i).toNat)
  case atStart => exact ⟨0, by omega, by omega, rfl, rfl, rfl⟩
  case round =>
    obtain ⟨k, hk, hk2, rfl, hcmp, rfl⟩ := hrel
    have HT := Lib.hid hcmp
    clear hcmp
    by_cases hlt : k < xs.length
    · obtain ⟨b, off, rfl, hbl, hc⟩ := hx (by omega)
      have hck : w.cell? ⟨b, off + k, none⟩ = some (.int .i64 xs[k]) := by rw [hc k hlt]; simp [hlt]
      clear hc
      by_cases hlt2 : k < ys.length
      · obtain ⟨b2, off2, rfl, hbl2, hc2⟩ := hy (by omega)
        have hck2 : w.cell? ⟨b2, off2 + k, none⟩ = some (.int .i64 ys[k]) := by rw [hc2 k hlt2]; simp [hlt2]
        clear hc2
        have HS := Lib.hid (cmpL_step hlt hlt2)
        by_cases he : cmpI xs[k] ys[k] = 0
        · have hne : (cmpI xs[k] ys[k] != 0) = false := by simp [he]
          have HE := Lib.hid he
          clear he
          go_wp2_with (go_at_call 152; refine (cmpInt_any _ _ _).mono ?_; rintro e w1 ⟨rfl, rfl⟩)
          go_roundw
          case rel => exact ⟨k + 1, by omega, by omega, by go_num, by rw [HT.out, HS.out, if_pos HE.out], by trivial⟩
          case measure => simp [intOf]; omega
        · have hne : (cmpI xs[k] ys[k] != 0) = true := by simp [he]
          have HE := Lib.hid he
          clear he
          go_wp2_with (go_at_call 152; refine (cmpInt_any _ _ _).mono ?_; rintro e w1 ⟨rfl, rfl⟩)
          go_ret
          exact ⟨ret_int (by rw [HT.out, HS.out, if_neg HE.out]), Below.refl _ _⟩
      · have HS := Lib.hid (cmpL_end1 hlt (by omega : ys.length ≤ k))
        have h2 : (ys.length : Int) ≤ k := by omega
        go_wp2
        go_ret
        exact ⟨ret_int (by rw [HT.out, HS.out]), Below.refl _ _⟩
    · have HS := Lib.hid (cmpL_lt (by omega : xs.length ≤ k) hk2 hk)
      by_cases hl : xs.length < ys.length
      · have hl' : (xs.length : Int) < ys.length := by omega
        go_wp2
        go_ret
        exact ⟨ret_int (by rw [HT.out, HS.out, if_pos hl]), Below.refl _ _⟩
      · have hl' : (ys.length : Int) ≤ xs.length := by omega
        go_wp2
        go_ret
        exact ⟨ret_int (by rw [HT.out, HS.out, if_neg hl]), Below.refl _ _⟩

theorem compare_i (A B : Option Addr) (c d : Nat) (xs ys : List Int) (w : World) (hx : IntsAt w A xs) (hy : IntsAt w B ys) (hn : xs.length * 8 ≤ 140737488351232) (hm : ys.length * 8 ≤ 140737488351232) :
    Calls Try.prog 84 #[.slice A xs.length c, .slice B ys.length d] w fun e w' => e = .returned (.int .i64 (cmpL xs ys)) ∧ Below w.heap.size w w' := by
  go_enter Try.func84, Try.ntmps84
  go_wp2_with (go_at_call 136; refine (slicesCompare_any _ _ _ _ _ _ _ hx hy hn hm).mono ?_; rintro e w1 ⟨rfl, hb⟩)
  go_ret
  exact ⟨rfl, hb⟩
theorem lessB_of {xs ys : List Int} {z : Int} (h : cmpL xs ys = z) : lessB xs ys = decide (z < 0) := by simp [lessB, h]
theorem cmpI_lt (a b : Int) (h : a ≠ b) : decide (cmpI a b < 0) = decide (a < b) := by
  unfold cmpI
  by_cases h1 : a < b
  · simp [h1]
  · simp [h1, show b < a by omega]
theorem cmpI_zero (a b : Int) : cmpI a b = 0 ↔ a = b := by
  unfold cmpI
  by_cases h1 : a < b
  · simp [h1]; omega
  · by_cases h2 : b < a
    · simp [h1, h2]; omega
    · simp [h1, h2]; omega

set_option maxHeartbeats 800000 in
theorem rowLess_s (A B : Option Addr) (c d : Nat) (xs ys : List Int) (w : World) (hx : IntsAt w A xs) (hy : IntsAt w B ys) (hn : xs.length * 8 ≤ 140737488351232) (hm : ys.length * 8 ≤ 140737488351232) :
    Calls Try.prog 120 #[.slice A xs.length c, .slice B ys.length d] w fun e w' => e = .returned (.bool (lessB xs ys)) ∧ Below w.heap.size w w' := by
  go_enter Try.func120, Try.ntmps120
  go_wp2
  go_loopw [5] (fun i wr => ∃ k : Nat, k ≤ xs.length ∧ k ≤ ys.length ∧ i = .int .i64 k ∧ cmpL xs ys = cmpL (xs.drop k) (ys.drop k) ∧ Below w.heap.size w wr) (fun i _ => xs.length - (intOf i).toNat)
  case atStart => exact ⟨0, by omega, by omega, rfl, rfl, Below.refl _ _⟩
  case round =>
    obtain ⟨k, hk, hk2, rfl, hcmp, hbel⟩ := hrel
    have HT := Lib.hid hcmp
    clear hcmp
    by_cases hlt : k < xs.length
    · by_cases hlt2 : k < ys.length
      · obtain ⟨b, off, rfl, hbl, hc⟩ := hx (by omega)
        have hck : wr.cell? ⟨b, off + k, none⟩ = some (.int .i64 xs[k]) := (hbel.cell (p := ⟨b, off + k, none⟩) hbl).trans (by rw [hc k hlt]; simp [hlt])
        obtain ⟨b2, off2, rfl, hbl2, hc2⟩ := hy (by omega)
        have hck2 : wr.cell? ⟨b2, off2 + k, none⟩ = some (.int .i64 ys[k]) := (hbel.cell (p := ⟨b2, off2 + k, none⟩) hbl2).trans (by rw [hc2 k hlt2]; simp [hlt2])
        clear hc hc2
        have HS := Lib.hid (cmpL_step hlt hlt2)
        by_cases he : xs[k] = ys[k]
        · have hne : (xs[k] != ys[k]) = false := by simp [he]
          have HE := Lib.hid ((cmpI_zero _ _).2 he)
          clear he
          go_wp2_with fail
          go_quiet (fail)
          go_wp2
          go_roundw
          case rel => exact ⟨k + 1, by omega, by omega, by go_num, by rw [HT.out, HS.out, if_pos HE.out], bdn hbel _⟩
          case measure => simp [intOf]; omega
        · have hne : (xs[k] != ys[k]) = true := by simp [he]
          have HE := Lib.hid (mt (cmpI_zero _ _).1 he)
          have HC := Lib.hid (cmpI_lt _ _ he)
          clear he
          go_wp2_with fail
          go_quiet (fail)
          go_wp2_with fail
          go_quiet (fail)
          go_wp2
          go_ret
          exact ⟨ret_bool (by rw [lessB_of (HT.out.trans HS.out), if_neg HE.out, HC.out]), bdn (bdn hbel _) _⟩
      · have h2 : (ys.length : Int) ≤ k := by omega
        have HS := Lib.hid (cmpL_end1 hlt (by omega : ys.length ≤ k))
        have h3 : (ys.length : Int) ≤ xs.length := by omega
        go_wp2
        go_ret
        exact ⟨ret_bool (by rw [lessB_of (HT.out.trans HS.out)]; simp; omega), hbel⟩
    · have HS := Lib.hid (cmpL_lt (by omega : xs.length ≤ k) hk2 hk)
      go_wp2
      go_ret
      exact ⟨ret_bool (by rw [lessB_of (HT.out.trans HS.out)]; by_cases h : xs.length < ys.length <;> simp [h]), hbel⟩
section
open Go.ChangeShapes Go.WideShapes Go.ChangeAt
variable {H : Type} {enc : TypeId × Value → H} {P : Program} {W : World}
/-- A list of numbers that came in. -/
theorem ints_of {t e : TypeId} {a : Option Addr} {len cap : Nat} {d : DataW H} {p : List MemPlace} (ht : P.underlying t = some (.slice e)) (he : P.underlying e = some (.int .i64)) (hc : P.cellsOf e = 1)
    (h : DataW.Trod enc P W 0 (fun _ => true) true t (.slice a len cap) d p) : ∃ xs : List Int, len = xs.length ∧ IntsAt W a xs := by
  obtain ⟨fuel, hf⟩ := h
  rcases open_ints ht he hc hf with ⟨hcs, _⟩ | ⟨x, l, c, zs, hcs, _, hl, hm, hz, _, hcell, hwz⟩
  · simp [Value.cells] at hcs
    obtain ⟨rfl, rfl, rfl⟩ := hcs
    exact ⟨[], rfl, fun h => absurd h (by simp)⟩
  · simp [Value.cells] at hcs
    obtain ⟨rfl, rfl, rfl⟩ := hcs
    have hz' : zs.length = cap := by simpa using hz
    refine ⟨zs.take len, by simp; omega, fun hn => ?_⟩
    have hpos : 0 < zs.length := by simp at hn; omega
    obtain ⟨b, off, spot⟩ := x
    have h0 := hcell 0 hpos
    have hspot : spot = none := by simpa [Addr.add] using World.cell?_spot h0
    subst hspot
    have h0' : W.cell? ⟨b, off, none⟩ = some (.int .i64 (zs.getD 0 0)) := by simpa [Addr.add] using h0
    refine ⟨b, off, rfl, block_lt_of_cell h0', fun j hj => ?_⟩
    have hjl : j < len := by simp at hj; omega
    have := hcell j (by omega)
    rw [show (zs.take len).getD j 0 = zs.getD j 0 by simp [List.getD, List.getElem?_take, hjl]]
    rw [← this]
    by_cases hj0 : j = 0
    · subst hj0; simp [Addr.add]
    · simp [Addr.add, hj0]
end
end Go.Proofs.Ytjlpkfcdkmcjnaa
