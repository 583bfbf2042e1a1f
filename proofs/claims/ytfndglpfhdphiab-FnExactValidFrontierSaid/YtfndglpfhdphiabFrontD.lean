/- HELPER, no statement of the seat: the tests on frontiers. -/
import Derived.Test.YtfndglpfhdphiabFrontC
namespace Go.Proofs.Ytfndglpfhdphiab
open Go.RowKit Go.Sort
set_option linter.unusedSimpArgs false
set_option linter.unusedVariables false

def fcB (xs : List Tm) (u v : Int) : Bool := frB xs && vtB u v && cvB xs u v
def flB (xs ys : List Tm) : Bool := frB xs && frB ys && ys.all fun e => cvB xs e.1 e.2
def allCv (xs ys : List Tm) (k : Nat) : Prop := ∀ j, j < k → cvB xs (tg ys j).1 (tg ys j).2 = true
theorem allCv_step {xs ys : List Tm} {k : Nat} (h : allCv xs ys k) (e : cvB xs (tg ys k).1 (tg ys k).2 = true) : allCv xs ys (k + 1) := fun j hj => by
  rcases Nat.lt_succ_iff_lt_or_eq.1 hj with h' | rfl
  · exact h j h'
  · exact e
theorem fl_no {xs ys : List Tm} {k : Nat} (h : k < ys.length) (e : cvB xs (tg ys k).1 (tg ys k).2 = false) : (ys.all fun e => cvB xs e.1 e.2) = false := by
  rw [List.all_eq_false]
  exact ⟨ys[k], List.getElem_mem h, by rw [tg_lt h] at e; simp [e]⟩
theorem fl_yes {xs ys : List Tm} (h : allCv xs ys ys.length) : (ys.all fun e => cvB xs e.1 e.2) = true := by
  rw [List.all_eq_true]
  intro e he
  obtain ⟨j, hj, rfl⟩ := List.getElem_of_mem he
  have := h j hj
  rwa [tg_lt hj] at this

theorem ValidFrontier_s (A : Option Addr) (c : Nat) (xs : List Tm) (w : World) (hx : TimesAt w A xs) (hn : xs.length ≤ 4194304) :
    Calls Try.prog 16 #[.slice A xs.length c] w fun e w' => e = .returned (.bool (frB xs)) ∧ Below w.heap.size w w' := by
  go_enter Try.func16, Try.ntmps16
  go_wp2_with fail
  refine (validFrontier_s _ _ _ _ hx hn).mono ?_
  rintro e w1 ⟨rfl, hb1⟩
  go_wp2_with fail
  go_ret
  exact ⟨rfl, hb1⟩
theorem ValidFrontier_i (A : Option Addr) (c : Nat) (xs : List Tm) (w : World) (hx : TimesAt w A xs) (hn : xs.length ≤ 4194304) :
    Calls Try.prog 18 #[.slice A xs.length c] w fun e w' => e = .returned (.bool (frB xs)) ∧ Below w.heap.size w w' := by
  go_enter Try.func18, Try.ntmps18
  go_wp2_with fail
  refine (isFrontier_i _ _ _ _ hx hn).mono ?_
  rintro e w1 ⟨rfl, hb1⟩
  go_wp2_with fail
  go_ret
  exact ⟨rfl, hb1⟩
set_option maxHeartbeats 1000000 in
theorem FrontierCovers_s (A : Option Addr) (c : Nat) (xs : List Tm) (u v : Int) (w : World) (hx : TimesAt w A xs) (hn : xs.length ≤ 4194304) :
    Calls Try.prog 24 #[.slice A xs.length c, .agg #[.int .i64 u, .int .i64 v]] w fun e w' => e = .returned (.bool (fcB xs u v)) ∧ Below w.heap.size w w' := by
  have hblk : Blk (w.alloc (.cells #[.int .i64 u, .int .i64 v] 34)) w.heap.size 34 #[.int .i64 u, .int .i64 v] := Blk.newAt rfl
  have HK := Lib.hid hblk
  clear hblk
  have hb0 : Below w.heap.size w (w.alloc (.cells #[.int .i64 u, .int .i64 v] 34)) := bal (Below.refl _ _) _
  by_cases hf : frB xs = true
  · by_cases hv : vtB u v = true
    · have HF : Hid (fcB xs u v = cvB xs u v) := by simp [Hid, fcB, hf, hv]
      go_enter Try.func24, Try.ntmps24
      go_wp2_with fail
      refine (validFrontier_s _ _ _ _ (hx.below hb0) hn).mono ?_
      rintro e w1 ⟨rfl, hb1⟩
      have hk1 := HK.out.below hb1
      have q1 : w1.cell? ⟨w.heap.size, 0, none⟩ = some (.int .i64 u) := hk1.cell 0
      have q2 : w1.cell? ⟨w.heap.size, 1, none⟩ = some (.int .i64 v) := hk1.cell 1
      have HK1 := Lib.hid hk1
      have B1 := btr hb0 hb1
      clear hk1 hb1
      go_wp2_with fail
      refine (validTime_s _ _ _).mono ?_
      rintro e w2 ⟨rfl, hb2⟩
      have hk2 := HK1.out.below hb2
      have q3 : w2.cell? ⟨w.heap.size, 0, none⟩ = some (.int .i64 u) := hk2.cell 0
      have q4 : w2.cell? ⟨w.heap.size, 1, none⟩ = some (.int .i64 v) := hk2.cell 1
      have B2 := btr B1 hb2
      clear q1 q2 hk2 hb2 HK1 HK B1
      go_wp2_with fail
      refine (covers_s _ _ _ _ _ _ (hx.below B2) hn).mono ?_
      rintro e w3 ⟨rfl, hb3⟩
      clear q3 q4
      go_wp2_with fail
      go_ret
      exact ⟨ret_bool HF.out.symm, btr B2 hb3⟩
    · have hv' : vtB u v = false := by simpa using hv
      have HF : Hid (fcB xs u v = false) := by simp [Hid, fcB, hv']
      clear hv
      go_enter Try.func24, Try.ntmps24
      go_wp2_with fail
      refine (validFrontier_s _ _ _ _ (hx.below hb0) hn).mono ?_
      rintro e w1 ⟨rfl, hb1⟩
      have hk1 := HK.out.below hb1
      have q1 : w1.cell? ⟨w.heap.size, 0, none⟩ = some (.int .i64 u) := hk1.cell 0
      have q2 : w1.cell? ⟨w.heap.size, 1, none⟩ = some (.int .i64 v) := hk1.cell 1
      have B1 := btr hb0 hb1
      clear hk1 hb1
      go_wp2_with fail
      refine (validTime_s _ _ _).mono ?_
      rintro e w2 ⟨rfl, hb2⟩
      clear q1 q2
      go_wp2_with fail
      go_ret
      exact ⟨ret_bool HF.out.symm, btr B1 hb2⟩
  · have hf' : frB xs = false := by simpa using hf
    have HF : Hid (fcB xs u v = false) := by simp [Hid, fcB, hf']
    clear hf
    go_enter Try.func24, Try.ntmps24
    go_wp2_with fail
    refine (validFrontier_s _ _ _ _ (hx.below hb0) hn).mono ?_
    rintro e w1 ⟨rfl, hb1⟩
    go_wp2_with fail
    go_ret
    exact ⟨ret_bool HF.out.symm, btr hb0 hb1⟩
set_option maxHeartbeats 1000000 in
theorem FrontierCovers_i (A : Option Addr) (c : Nat) (xs : List Tm) (u v : Int) (w : World) (hx : TimesAt w A xs) (hn : xs.length ≤ 4194304) :
    Calls Try.prog 26 #[.slice A xs.length c, .agg #[.int .i64 u, .int .i64 v]] w fun e w' => e = .returned (.bool (fcB xs u v)) ∧ Below w.heap.size w w' := by
  have hblk : Blk (w.alloc (.cells #[.int .i64 u, .int .i64 v] 34)) w.heap.size 34 #[.int .i64 u, .int .i64 v] := Blk.newAt rfl
  have HK := Lib.hid hblk
  clear hblk
  have hb0 : Below w.heap.size w (w.alloc (.cells #[.int .i64 u, .int .i64 v] 34)) := bal (Below.refl _ _) _
  by_cases hf : frB xs = true
  · by_cases hv : vtB u v = true
    · have HF : Hid (fcB xs u v = cvB xs u v) := by simp [Hid, fcB, hf, hv]
      go_enter Try.func26, Try.ntmps26
      go_wp2_with fail
      refine (ValidFrontier_i _ _ _ _ (hx.below hb0) hn).mono ?_
      rintro e w1 ⟨rfl, hb1⟩
      have hk1 := HK.out.below hb1
      have q1 : w1.cell? ⟨w.heap.size, 0, none⟩ = some (.int .i64 u) := hk1.cell 0
      have q2 : w1.cell? ⟨w.heap.size, 1, none⟩ = some (.int .i64 v) := hk1.cell 1
      have HK1 := Lib.hid hk1
      have B1 := btr hb0 hb1
      clear hk1 hb1
      go_wp2_with fail
      refine (isValid_i _ _ _).mono ?_
      rintro e w2 ⟨rfl, hb2⟩
      have hk2 := HK1.out.below hb2
      have q3 : w2.cell? ⟨w.heap.size, 0, none⟩ = some (.int .i64 u) := hk2.cell 0
      have q4 : w2.cell? ⟨w.heap.size, 1, none⟩ = some (.int .i64 v) := hk2.cell 1
      have B2 := btr B1 hb2
      clear q1 q2 hk2 hb2 HK1 HK B1
      go_wp2_with fail
      refine (covers_i _ _ _ _ _ _ (hx.below B2) hn).mono ?_
      rintro e w3 ⟨rfl, hb3⟩
      clear q3 q4
      go_wp2_with fail
      go_ret
      exact ⟨ret_bool HF.out.symm, btr B2 hb3⟩
    · have hv' : vtB u v = false := by simpa using hv
      have HF : Hid (fcB xs u v = false) := by simp [Hid, fcB, hv']
      clear hv
      go_enter Try.func26, Try.ntmps26
      go_wp2_with fail
      refine (ValidFrontier_i _ _ _ _ (hx.below hb0) hn).mono ?_
      rintro e w1 ⟨rfl, hb1⟩
      have hk1 := HK.out.below hb1
      have q1 : w1.cell? ⟨w.heap.size, 0, none⟩ = some (.int .i64 u) := hk1.cell 0
      have q2 : w1.cell? ⟨w.heap.size, 1, none⟩ = some (.int .i64 v) := hk1.cell 1
      have B1 := btr hb0 hb1
      clear hk1 hb1
      go_wp2_with fail
      refine (isValid_i _ _ _).mono ?_
      rintro e w2 ⟨rfl, hb2⟩
      clear q1 q2
      go_wp2_with fail
      go_ret
      exact ⟨ret_bool HF.out.symm, btr B1 hb2⟩
  · have hf' : frB xs = false := by simpa using hf
    have HF : Hid (fcB xs u v = false) := by simp [Hid, fcB, hf']
    clear hf
    go_enter Try.func26, Try.ntmps26
    go_wp2_with fail
    refine (ValidFrontier_i _ _ _ _ (hx.below hb0) hn).mono ?_
    rintro e w1 ⟨rfl, hb1⟩
    go_wp2_with fail
    go_ret
    exact ⟨ret_bool HF.out.symm, btr hb0 hb1⟩

set_option maxHeartbeats 1000000 in
theorem frontierLessEqual_s (A : Option Addr) (c : Nat) (xs : List Tm) (B : Option Addr) (d : Nat) (ys : List Tm) (w : World) (hx : TimesAt w A xs) (hn : xs.length ≤ 4194304) (hy : TimesAt w B ys) (hm : ys.length ≤ 4194304) :
    Calls Try.prog 54 #[.slice A xs.length c, .slice B ys.length d] w fun e w' => e = .returned (.bool (ys.all fun e => cvB xs e.1 e.2)) ∧ Below w.heap.size w w' := by
  go_enter Try.func54, Try.ntmps54
  go_wp2
  go_loopw [5] (fun i wr => ∃ k : Nat, k ≤ ys.length ∧ i = .int .i64 k ∧ allCv xs ys k ∧ Below w.heap.size w wr) (fun i _ => ys.length - (intOf i).toNat)
  case atStart => exact ⟨0, by omega, rfl, fun i hi => by omega, Below.refl _ _⟩
  case round =>
    obtain ⟨k, hk, rfl, hno, hbel⟩ := hrel
    have HN := Lib.hid hno
    clear hno
    by_cases hlt : k < ys.length
    · obtain ⟨b, off, rfl, hbl, hc⟩ := hy (by omega)
      have q1 := (hbel.cell (p := ⟨b, off + k * 2, none⟩) hbl).trans (hc k hlt).1
      have q2 := (hbel.cell (p := ⟨b, off + k * 2 + 1, none⟩) hbl).trans (hc k hlt).2
      change _ = some (Value.int .i64 (tg ys k).1) at q1
      change _ = some (Value.int .i64 (tg ys k).2) at q2
      have hI : (k : Int) < ys.length := by omega
      clear hc
      by_cases hL : cvB xs (tg ys k).1 (tg ys k).2 = true
      · have HS := Lib.hid (allCv_step HN.out hL)
        go_wp2_with fail
        refine (covers_s _ _ _ _ _ _ (hx.below hbel) hn).mono ?_
        rintro e w2 ⟨rfl, hb2⟩
        have hbq := btr hbel hb2
        clear q1 q2 hbel hb2
        go_wp2
        go_roundw
        case rel => exact ⟨k + 1, by omega, by go_num, HS.out, hbq⟩
        case measure => simp [intOf]; omega
      · have hL' : cvB xs (tg ys k).1 (tg ys k).2 = false := by simpa using hL
        clear hL
        have HF := Lib.hid (fl_no hlt hL')
        go_wp2_with fail
        refine (covers_s _ _ _ _ _ _ (hx.below hbel) hn).mono ?_
        rintro e w2 ⟨rfl, hb2⟩
        have hbq := btr hbel hb2
        clear q1 q2 hbel hb2
        go_wp2
        go_ret
        exact ⟨ret_bool HF.out.symm, hbq⟩
    · obtain rfl : k = ys.length := by omega
      have HF := Lib.hid (fl_yes HN.out)
      go_wp2
      go_ret
      exact ⟨ret_bool HF.out.symm, hbel⟩
set_option maxHeartbeats 1000000 in
theorem FrontierLessEqual_s (A : Option Addr) (c : Nat) (xs : List Tm) (B : Option Addr) (d : Nat) (ys : List Tm) (w : World) (hx : TimesAt w A xs) (hn : xs.length ≤ 4194304) (hy : TimesAt w B ys) (hm : ys.length ≤ 4194304) :
    Calls Try.prog 27 #[.slice A xs.length c, .slice B ys.length d] w fun e w' => e = .returned (.bool (flB xs ys)) ∧ Below w.heap.size w w' := by
  by_cases hf : frB xs = true
  · by_cases hv : frB ys = true
    · have HF : Hid (flB xs ys = ys.all fun e => cvB xs e.1 e.2) := by simp [Hid, flB, hf, hv]
      go_enter Try.func27, Try.ntmps27
      go_wp2_with fail
      refine (validFrontier_s _ _ _ _ hx hn).mono ?_
      rintro e w1 ⟨rfl, hb1⟩
      go_wp2_with fail
      refine (validFrontier_s _ _ _ _ (hy.below hb1) hm).mono ?_
      rintro e w2 ⟨rfl, hb2⟩
      have B2 := btr hb1 hb2
      clear hb1 hb2
      go_wp2_with fail
      refine (frontierLessEqual_s _ _ _ _ _ _ _ (hx.below B2) hn (hy.below B2) hm).mono ?_
      rintro e w3 ⟨rfl, hb3⟩
      go_wp2_with fail
      go_ret
      exact ⟨ret_bool HF.out.symm, btr B2 hb3⟩
    · have hv' : frB ys = false := by simpa using hv
      have HF : Hid (flB xs ys = false) := by simp [Hid, flB, hv']
      clear hv
      go_enter Try.func27, Try.ntmps27
      go_wp2_with fail
      refine (validFrontier_s _ _ _ _ hx hn).mono ?_
      rintro e w1 ⟨rfl, hb1⟩
      go_wp2_with fail
      refine (validFrontier_s _ _ _ _ (hy.below hb1) hm).mono ?_
      rintro e w2 ⟨rfl, hb2⟩
      have B2 := btr hb1 hb2
      go_wp2_with fail
      go_ret
      exact ⟨ret_bool HF.out.symm, B2⟩
  · have hf' : frB xs = false := by simpa using hf
    have HF : Hid (flB xs ys = false) := by simp [Hid, flB, hf']
    clear hf
    go_enter Try.func27, Try.ntmps27
    go_wp2_with fail
    refine (validFrontier_s _ _ _ _ hx hn).mono ?_
    rintro e w1 ⟨rfl, hb1⟩
    go_wp2_with fail
    go_ret
    exact ⟨ret_bool HF.out.symm, hb1⟩
set_option maxHeartbeats 1000000 in
theorem FrontierLessEqual_i (A : Option Addr) (c : Nat) (xs : List Tm) (B : Option Addr) (d : Nat) (ys : List Tm) (w : World) (hx : TimesAt w A xs) (hn : xs.length ≤ 4194304) (hy : TimesAt w B ys) (hm : ys.length ≤ 4194304) :
    Calls Try.prog 28 #[.slice A xs.length c, .slice B ys.length d] w fun e w' => e = .returned (.bool (flB xs ys)) ∧ Below w.heap.size w w' := by
  by_cases hf : frB xs = true
  · by_cases hv : frB ys = true
    · have HF : Hid (flB xs ys = ys.all fun e => cvB xs e.1 e.2) := by simp [Hid, flB, hf, hv]
      go_enter Try.func28, Try.ntmps28
      go_wp2_with fail
      refine (ValidFrontier_i _ _ _ _ hx hn).mono ?_
      rintro e w1 ⟨rfl, hb1⟩
      go_wp2_with fail
      refine (ValidFrontier_i _ _ _ _ (hy.below hb1) hm).mono ?_
      rintro e w2 ⟨rfl, hb2⟩
      have B2 := btr hb1 hb2
      clear hb1 hb2
      go_wp2
      go_loopw [6, 17] (fun _ i wr => ∃ k : Nat, k ≤ ys.length ∧ i = .int .i64 k ∧ allCv xs ys k ∧ Below w.heap.size w wr) (fun _ i _ => ys.length - (intOf i).toNat)
      case atStart => exact ⟨0, by omega, rfl, fun i hi => by omega, B2⟩
      case round =>
        clear B2
        obtain ⟨k, hk, rfl, hno, hbel⟩ := hrel
        have HN := Lib.hid hno
        clear hno
        by_cases hlt : k < ys.length
        · obtain ⟨b, off, rfl, hbl, hc⟩ := hy (by omega)
          have q1 := (hbel.cell (p := ⟨b, off + k * 2, none⟩) hbl).trans (hc k hlt).1
          have q2 := (hbel.cell (p := ⟨b, off + k * 2 + 1, none⟩) hbl).trans (hc k hlt).2
          change _ = some (Value.int .i64 (tg ys k).1) at q1
          change _ = some (Value.int .i64 (tg ys k).2) at q2
          have hI : (k : Int) < ys.length := by omega
          clear hc
          by_cases hL : cvB xs (tg ys k).1 (tg ys k).2 = true
          · have HS := Lib.hid (allCv_step HN.out hL)
            go_wp2_with fail
            refine (covers_i _ _ _ _ _ _ (hx.below (bal hbel _)) hn).mono ?_
            rintro e w2 ⟨rfl, hb2⟩
            have hbq := btr (bal hbel _) hb2
            clear q1 q2 hbel hb2
            go_wp2
            go_roundw
            case rel => exact ⟨k + 1, by omega, by go_num, HS.out, hbq⟩
            case measure => simp [intOf]; omega
          · have hL' : cvB xs (tg ys k).1 (tg ys k).2 = false := by simpa using hL
            clear hL
            have HF2 := Lib.hid (fl_no hlt hL')
            go_wp2_with fail
            refine (covers_i _ _ _ _ _ _ (hx.below (bal hbel _)) hn).mono ?_
            rintro e w2 ⟨rfl, hb2⟩
            have hbq := btr (bal hbel _) hb2
            clear q1 q2 hbel hb2
            go_wp2
            go_ret
            exact ⟨ret_bool (by rw [HF.out, HF2.out]), hbq⟩
        · obtain rfl : k = ys.length := by omega
          have HF2 := Lib.hid (fl_yes HN.out)
          go_wp2
          go_ret
          exact ⟨ret_bool (by rw [HF.out, HF2.out]), hbel⟩
    · have hv' : frB ys = false := by simpa using hv
      have HF : Hid (flB xs ys = false) := by simp [Hid, flB, hv']
      clear hv
      go_enter Try.func28, Try.ntmps28
      go_wp2_with fail
      refine (ValidFrontier_i _ _ _ _ hx hn).mono ?_
      rintro e w1 ⟨rfl, hb1⟩
      go_wp2_with fail
      refine (ValidFrontier_i _ _ _ _ (hy.below hb1) hm).mono ?_
      rintro e w2 ⟨rfl, hb2⟩
      have B2 := btr hb1 hb2
      go_wp2_with fail
      go_ret
      exact ⟨ret_bool HF.out.symm, B2⟩
  · have hf' : frB xs = false := by simpa using hf
    have HF : Hid (flB xs ys = false) := by simp [Hid, flB, hf']
    clear hf
    go_enter Try.func28, Try.ntmps28
    go_wp2_with fail
    refine (ValidFrontier_i _ _ _ _ hx hn).mono ?_
    rintro e w1 ⟨rfl, hb1⟩
    go_wp2_with fail
    go_ret
    exact ⟨ret_bool HF.out.symm, hb1⟩
end Go.Proofs.Ytfndglpfhdphiab
