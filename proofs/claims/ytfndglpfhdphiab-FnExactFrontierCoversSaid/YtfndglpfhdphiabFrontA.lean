/- HELPER, no statement of the seat: contracts of the functions on frontiers. -/
import Derived.Test.YtfndglpfhdphiabTimesBase
namespace Go.Proofs.Ytfndglpfhdphiab
open Go.RowKit Go.Sort
set_option linter.unusedSimpArgs false
set_option linter.unusedVariables false

def tg (xs : List Tm) (i : Nat) : Tm := xs.getD i (0, 0)
theorem tg_lt {xs : List Tm} {i : Nat} (h : i < xs.length) : tg xs i = xs[i] := by simp [tg, h]
/-- What the document asks of element i. -/
def gd (xs : List Tm) (i : Nat) : Bool := vtB (tg xs i).1 (tg xs i).2 && (decide (i = 0) || (decide ((tg xs (i - 1)).1 < (tg xs i).1) && decide ((tg xs i).2 < (tg xs (i - 1)).2)))
def okTo (xs : List Tm) (k : Nat) : Prop := ∀ i, i < k → gd xs i = true
def frB (xs : List Tm) : Bool := decide (xs.length ≤ 100) && (List.range xs.length).all (gd xs)
theorem okTo_step {xs : List Tm} {k : Nat} (h : okTo xs k) (e : gd xs k = true) : okTo xs (k + 1) := fun i hi => by
  rcases Nat.lt_succ_iff_lt_or_eq.1 hi with h' | rfl
  · exact h i h'
  · exact e
theorem frB_bad {xs : List Tm} {k : Nat} (h : k < xs.length) (e : gd xs k = false) : frB xs = false := by
  unfold frB
  rw [Bool.and_eq_false_iff]
  right
  rw [List.all_eq_false]
  exact ⟨k, by simpa using h, by simp [e]⟩
theorem frB_end {xs : List Tm} (h : okTo xs xs.length) : frB xs = decide (xs.length ≤ 100) := by
  unfold frB
  have : (List.range xs.length).all (gd xs) = true := by
    rw [List.all_eq_true]
    intro i hi
    exact h i (by simpa using hi)
  rw [this, Bool.and_true]

theorem gd_parts {xs : List Tm} {m : Nat} (h : gd xs (m + 1) = true) : vtB (tg xs (m + 1)).1 (tg xs (m + 1)).2 = true ∧ (tg xs m).1 < (tg xs (m + 1)).1 ∧ (tg xs (m + 1)).2 < (tg xs m).2 := by
  simp [gd] at h
  exact ⟨h.1, h.2.1, h.2.2⟩
theorem gd_vt {xs : List Tm} {k : Nat} (h : gd xs k = true) : vtB (tg xs k).1 (tg xs k).2 = true := by
  unfold gd at h
  exact (Bool.and_eq_true _ _ ▸ h).1
theorem chain {xs : List Tm} : ∀ n, okTo xs (n + 1) → ∀ k, k < n → (tg xs n).2 < (tg xs k).2
  | 0, _, k, hk => by omega
  | n + 1, h, k, hk => by
    have h1 := (gd_parts (h (n + 1) (by omega))).2.2
    rcases Nat.lt_succ_iff_lt_or_eq.1 hk with h' | rfl
    · have := chain n (fun i hi => h i (by omega)) k h'; omega
    · exact h1
theorem gd_le {xs : List Tm} {i k : Nat} (h : okTo xs i) (hk : k < i) (hle : leB (tg xs k).1 (tg xs k).2 (tg xs i).1 (tg xs i).2 = true) : gd xs i = false := by
  rcases hg : gd xs i with _ | _
  · rfl
  · have := chain i (okTo_step h hg) k hk
    simp [leB] at hle
    omega
theorem gd_bf {xs : List Tm} {m : Nat} (h : bfB (tg xs m).1 (tg xs m).2 (tg xs (m + 1)).1 (tg xs (m + 1)).2 = false) : gd xs (m + 1) = false := by
  rcases hg : gd xs (m + 1) with _ | _
  · rfl
  · have := (gd_parts hg).2.1
    simp [bfB] at h
    omega
theorem gd_of {xs : List Tm} {m : Nat} (hv : vtB (tg xs (m + 1)).1 (tg xs (m + 1)).2 = true) (h : bfB (tg xs m).1 (tg xs m).2 (tg xs (m + 1)).1 (tg xs (m + 1)).2 = true) (hl : leB (tg xs m).1 (tg xs m).2 (tg xs (m + 1)).1 (tg xs (m + 1)).2 = false) : gd xs (m + 1) = true := by
  simp [bfB] at h
  simp [leB] at hl
  simp [gd, hv]
  omega
def noLe (xs : List Tm) (i k : Nat) : Prop := ∀ j, j < k → leB (tg xs j).1 (tg xs j).2 (tg xs i).1 (tg xs i).2 = false
theorem noLe_step {xs : List Tm} {i k : Nat} (h : noLe xs i k) (e : leB (tg xs k).1 (tg xs k).2 (tg xs i).1 (tg xs i).2 = false) : noLe xs i (k + 1) := fun j hj => by
  rcases Nat.lt_succ_iff_lt_or_eq.1 hj with h' | rfl
  · exact h j h'
  · exact e

set_option maxHeartbeats 1600000 in
theorem isFrontier_i (A : Option Addr) (c : Nat) (xs : List Tm) (w : World) (hx : TimesAt w A xs) (hn : xs.length ≤ 4194304) :
    Calls Try.prog 46 #[.slice A xs.length c] w fun e w' => e = .returned (.bool (frB xs)) ∧ Below w.heap.size w w' := by
  by_cases h100 : 100 < xs.length
  · have HF : Hid (frB xs = false) := by simp [Hid, frB]; omega
    have h' : (100 : Int) < xs.length := by omega
    go_enter Try.func46, Try.ntmps46
    go_wp2
    go_ret
    exact ⟨ret_bool HF.out.symm, Below.refl _ _⟩
  have h' : (xs.length : Int) ≤ 100 := by omega
  go_enter Try.func46, Try.ntmps46
  go_wp2
  go_loopw [3, 4, 10] (fun _ _ i wr => ∃ k : Nat, k ≤ xs.length ∧ i = .int .i64 k ∧ okTo xs k ∧ Below w.heap.size w wr) (fun _ _ i _ => xs.length - (intOf i).toNat)
  case atStart => exact ⟨0, by omega, rfl, fun i hi => by omega, Below.refl _ _⟩
  case round =>
    obtain ⟨k, hk, rfl, hok, hbel⟩ := hrel
    have HO := Lib.hid hok
    clear hok
    by_cases hlt : k < xs.length
    · obtain ⟨b, off, rfl, hbl, hc⟩ := hx (by omega)
      have q1 : wr.cell? ⟨b, off + k * 2, none⟩ = some (.int .i64 (tg xs k).1) := (hbel.cell (p := ⟨b, off + k * 2, none⟩) hbl).trans (hc k hlt).1
      have q2 : wr.cell? ⟨b, off + k * 2 + 1, none⟩ = some (.int .i64 (tg xs k).2) := (hbel.cell (p := ⟨b, off + k * 2 + 1, none⟩) hbl).trans (hc k hlt).2
      have hb0 : Blk (wr.alloc (.cells #[.int .i64 (tg xs k).1, .int .i64 (tg xs k).2] 34)) wr.heap.size 34 #[.int .i64 (tg xs k).1, .int .i64 (tg xs k).2] := Blk.newAt rfl
      have HB0 := Lib.hid hb0
      clear hb0
      go_wp2_with fail
      refine (isValid_i _ _ _).mono ?_
      rintro e w2 ⟨rfl, hb2⟩
      have hblk := HB0.out.below hb2
      have hbel2 : Below w.heap.size w w2 := btr (bal hbel _) hb2
      have c0 : w2.cell? ⟨wr.heap.size, 0, none⟩ = some (.int .i64 (tg xs k).1) := by rw [hblk.cell]; rfl
      have c1 : w2.cell? ⟨wr.heap.size, 1, none⟩ = some (.int .i64 (tg xs k).2) := by rw [hblk.cell]; rfl
      clear q1 q2 HB0 hblk hb2
      by_cases hv : vtB (tg xs k).1 (tg xs k).2 = true
      · by_cases hk0 : k = 0
        · subst hk0
          have HG : Hid (gd xs 0 = true) := by simp [Hid, gd, hv]
          have HBL := Lib.hid hbel2
          clear hc hbel2
          go_wp2_with fail
          go_quiet (fail)
          go_wp2
          go_roundw
          case rel => exact ⟨1, by omega, by go_num, okTo_step HO.out HG.out, bdn HBL.out _⟩
          case measure => simp [intOf]; omega
        · obtain ⟨m, rfl⟩ : ∃ m, k = m + 1 := ⟨k - 1, by omega⟩
          have q3 : w2.cell? ⟨b, off + m * 2, none⟩ = some (.int .i64 (tg xs m).1) := (hbel2.cell (p := ⟨b, off + m * 2, none⟩) hbl).trans (hc m (by omega)).1
          have q4 : w2.cell? ⟨b, off + m * 2 + 1, none⟩ = some (.int .i64 (tg xs m).2) := (hbel2.cell (p := ⟨b, off + m * 2 + 1, none⟩) hbl).trans (hc m (by omega)).2
          have hpos : (0 : Int) < (m : Int) + 1 := by omega
          have e1 : IntKind.i64.wrap ((m : Int) + 1 - 1) = m := by rw [IntKind.wrap_i64]; omega
          have e2 : IntKind.i64.wrap (m : Int) = m := by rw [IntKind.wrap_i64]; omega
          have hml : (m : Int) < xs.length := by omega
          clear hc
          by_cases hE : (tg xs (m + 1)).1 ≤ (tg xs m).1
          · have HF := Lib.hid (frB_bad hlt (by simp [gd, hv]; omega))
            have hE' : decide ((tg xs (m + 1)).1 ≤ (tg xs m).1) = true := by simpa using hE
            go_wp2_with fail
            go_quiet (fail)
            go_wp2
            go_ret
            exact ⟨ret_bool HF.out.symm, bdn hbel2 _⟩
          · have hE' : decide ((tg xs (m + 1)).1 ≤ (tg xs m).1) = false := by simpa using hE
            have hE2 : (tg xs m).1 < (tg xs (m + 1)).1 := by omega
            by_cases hR : (tg xs m).2 ≤ (tg xs (m + 1)).2
            · have HF := Lib.hid (frB_bad hlt (by simp [gd, hv]; omega))
              have hR' : decide ((tg xs m).2 ≤ (tg xs (m + 1)).2) = true := by simpa using hR
              clear hE
              go_wp2_with fail
              go_quiet (fail)
              go_wp2
              go_ret
              exact ⟨ret_bool HF.out.symm, bdn hbel2 _⟩
            · have hR' : decide ((tg xs m).2 ≤ (tg xs (m + 1)).2) = false := by simpa using hR
              have hR2 : (tg xs (m + 1)).2 < (tg xs m).2 := by omega
              have HG : Hid (gd xs (m + 1) = true) := by simp [Hid, gd, hv, hE2, hR2]
              clear hE hR
              go_wp2_with fail
              go_quiet (fail)
              go_wp2
              go_roundw
              case rel => exact ⟨m + 1 + 1, by omega, by go_num, okTo_step HO.out HG.out, bdn hbel2 _⟩
              case measure => simp [intOf]; omega
      · have hv' : vtB (tg xs k).1 (tg xs k).2 = false := by simpa using hv
        have HF := Lib.hid (frB_bad hlt (by simp [gd, hv']))
        clear hc hv
        go_wp2
        go_ret
        exact ⟨ret_bool HF.out.symm, hbel2⟩
    · obtain rfl : k = xs.length := by omega
      have HF : Hid (frB xs = true) := by rw [Hid, frB_end HO.out]; simp; omega
      go_wp2
      go_ret
      exact ⟨ret_bool HF.out.symm, hbel⟩

end Go.Proofs.Ytfndglpfhdphiab
