/- HELPER, no statement of the seat: widths of inputs and inputs of these widths. -/
import Derived.Test.YtjobecoogjojjaaZss
import Derived.Test.YtjobecoogjojjaaZbs
namespace Go.Proofs.Ytjobecoogjojjaa
open Go.ChangeShapes Go.WideShapes Go.ChangeAt Go.RowKit Go.Sort
set_option linter.unusedSimpArgs false
set_option linter.unusedVariables false

def vwB (xs : List Int) : Bool := decide (1 ≤ xs.length ∧ xs.length ≤ 3 ∧ ∀ x ∈ xs, 1 ≤ x ∧ x ≤ 6)
def allW (xs : List Int) : Prop := ∀ x ∈ xs, 1 ≤ x ∧ x ≤ 6
theorem allW_step {xs : List Int} {k : Nat} (h1 : k < xs.length) (h : allW (xs.take k)) (e : inB xs[k] 1 6 = true) : allW (xs.take (k + 1)) := by
  rw [List.take_succ_eq_append_getElem h1]
  intro x hx
  rcases List.mem_append.1 hx with hx | hx
  · exact h x hx
  · simp at hx; subst hx; simpa [inB] using e
theorem vwB_bad {xs : List Int} {k : Nat} (h1 : k < xs.length) (e : inB xs[k] 1 6 = false) : vwB xs = false := by
  simp only [vwB, decide_eq_false_iff_not]
  rintro ⟨_, _, h⟩
  have := h xs[k] (List.getElem_mem h1)
  simp [inB] at e
  omega
theorem vwB_end {xs : List Int} (h : allW (xs.take xs.length)) : vwB xs = inB xs.length 1 3 := by
  rw [List.take_length] at h
  simp only [vwB, inB]
  congr 1
  simp only [eq_iff_iff]
  constructor
  · rintro ⟨a, b, _⟩; omega
  · rintro ⟨a, b⟩; exact ⟨by omega, by omega, h⟩

set_option maxHeartbeats 400000 in
theorem validWidths_s (A : Option Addr) (c : Nat) (xs : List Int) (w : World) (hx : IntsAt w A xs) (hn : xs.length * 8 ≤ 140737488351232) :
    Calls Try.prog 127 #[.slice A xs.length c] w fun e w' => e = .returned (.bool (vwB xs)) ∧ Below w.heap.size w w' := by
  go_enter Try.func127, Try.ntmps127
  go_wp2
  go_loopw [3] (fun i wr => ∃ k : Nat, k ≤ xs.length ∧ i = .int .i64 k ∧ allW (xs.take k) ∧ w = wr) (fun i _ => xs.length - (intOf i).toNat)
  case atStart => exact ⟨0, by omega, rfl, by simp [allW], rfl⟩
  case round =>
    obtain ⟨k, hk, rfl, hall, rfl⟩ := hrel
    have HT := Lib.hid hall
    clear hall
    by_cases hlt : k < xs.length
    · obtain ⟨b, off, rfl, hbl, hc⟩ := hx (by omega)
      have hck : w.cell? ⟨b, off + k, none⟩ = some (.int .i64 xs[k]) := by rw [hc k hlt]; simp [hlt]
      clear hc
      by_cases he : inB xs[k] 1 6 = true
      · go_wp2_with (go_at_call 134; refine (inRange_any _ _ _ _).mono ?_; rintro e w1 ⟨rfl, rfl⟩)
        go_roundw
        case rel => exact ⟨k + 1, by omega, by go_num, allW_step hlt HT.out he, by trivial⟩
        case measure => simp [intOf]; omega
      · have he' : inB xs[k] 1 6 = false := by simpa using he
        have HF := Lib.hid (vwB_bad hlt he')
        clear he
        go_wp2_with (go_at_call 134; refine (inRange_any _ _ _ _).mono ?_; rintro e w1 ⟨rfl, rfl⟩)
        go_ret
        exact ⟨ret_bool HF.out.symm, Below.refl _ _⟩
    · obtain rfl : k = xs.length := by omega
      have HF := Lib.hid (vwB_end HT.out)
      go_wp2_with (go_at_call 134; refine (inRange_any _ _ _ _).mono ?_; rintro e w1 ⟨rfl, rfl⟩)
      go_ret
      exact ⟨ret_bool HF.out.symm, Below.refl _ _⟩

set_option maxHeartbeats 400000 in
theorem areInputWidths_i (A : Option Addr) (c : Nat) (xs : List Int) (w : World) (hx : IntsAt w A xs) (hn : xs.length * 8 ≤ 140737488351232) :
    Calls Try.prog 129 #[.slice A xs.length c] w fun e w' => e = .returned (.bool (vwB xs)) ∧ Below w.heap.size w w' := by
  by_cases h1 : xs.length < 1
  · have HF : Hid (vwB xs = false) := by simp [Hid, vwB]; omega
    have h1' : (xs.length : Int) < 1 := by omega
    go_enter Try.func129, Try.ntmps129
    go_wp2
    go_ret
    exact ⟨ret_bool HF.out.symm, Below.refl _ _⟩
  have h1' : (1 : Int) ≤ xs.length := by omega
  by_cases h6 : 3 < xs.length
  · have HF : Hid (vwB xs = false) := by simp [Hid, vwB]; omega
    have h6' : (3 : Int) < xs.length := by omega
    go_enter Try.func129, Try.ntmps129
    go_wp2
    go_ret
    exact ⟨ret_bool HF.out.symm, Below.refl _ _⟩
  have h6' : (xs.length : Int) ≤ 3 := by omega
  go_enter Try.func129, Try.ntmps129
  go_wp2
  go_loopw [4, 15] (fun _ i wr => ∃ k : Nat, k ≤ xs.length ∧ i = .int .i64 k ∧ allW (xs.take k) ∧ w = wr) (fun _ i _ => xs.length - (intOf i).toNat)
  case atStart => exact ⟨0, by omega, rfl, by simp [allW], rfl⟩
  case round =>
    obtain ⟨k, hk, rfl, hall, rfl⟩ := hrel
    have HT := Lib.hid hall
    clear hall
    by_cases hlt : k < xs.length
    · obtain ⟨b, off, rfl, hbl, hc⟩ := hx (by omega)
      have hck : w.cell? ⟨b, off + k, none⟩ = some (.int .i64 xs[k]) := by rw [hc k hlt]; simp [hlt]
      clear hc
      by_cases hl1 : xs[k] < 1
      · have he' : inB xs[k] 1 6 = false := by simp [inB]; omega
        have HF := Lib.hid (vwB_bad hlt he')
        clear he'
        go_wp2
        go_ret
        exact ⟨ret_bool HF.out.symm, Below.refl _ _⟩
      · have hl1' : 1 ≤ xs[k] := by omega
        by_cases hl6 : 6 < xs[k]
        · have he' : inB xs[k] 1 6 = false := by simp [inB]; omega
          have HF := Lib.hid (vwB_bad hlt he')
          clear he'
          go_wp2
          go_ret
          exact ⟨ret_bool HF.out.symm, Below.refl _ _⟩
        · have hl6' : xs[k] ≤ 6 := by omega
          have he : inB xs[k] 1 6 = true := by simp [inB]; omega
          have HE := Lib.hid he
          clear he
          go_wp2
          go_roundw
          case rel => exact ⟨k + 1, by omega, by go_num, allW_step hlt HT.out HE.out, by trivial⟩
          case measure => simp [intOf]; omega
    · obtain rfl : k = xs.length := by omega
      have HF : Hid (vwB xs = true) := by rw [Hid, vwB_end HT.out]; simp [inB]; omega
      go_wp2
      go_ret
      exact ⟨ret_bool HF.out.symm, Below.refl _ _⟩

/-! ### The inputs -/
def zg (zs : List Zs) (k : Nat) : Zs := zs.getD k []
def ig (ws : List Int) (k : Nat) : Int := ws.getD k 0
theorem zg_lt {zs : List Zs} {k : Nat} (h : k < zs.length) : zg zs k = zs[k] := by simp [zg, h]
theorem ig_lt {ws : List Int} {k : Nat} (h : k < ws.length) : ig ws k = ws[k] := by simp [ig, h]
def goodI (zs : List Zs) (ws : List Int) (k : Nat) : Bool := zsB (zg zs k) && (decide ((zg zs k).length = 0) || decide ((wid (zg zs k) : Int) = ig ws k))
def viB (ws : List Int) (zs : List Zs) : Bool := decide (zs.length = ws.length) && (List.range zs.length).all (goodI zs ws)
def VInB (ws : List Int) (zs : List Zs) : Bool := vwB ws && viB ws zs
def upTo (zs : List Zs) (ws : List Int) (k : Nat) : Prop := ∀ j, j < k → j < ws.length → goodI zs ws j = true
theorem upTo_step {zs : List Zs} {ws : List Int} {k : Nat} (h : upTo zs ws k) (e : k < ws.length → goodI zs ws k = true) : upTo zs ws (k + 1) := fun j hj hw => by
  rcases Nat.lt_succ_iff_lt_or_eq.1 hj with h' | rfl
  · exact h j h' hw
  · exact e hw
theorem vi_len {zs : List Zs} {ws : List Int} (h : zs.length ≠ ws.length) : viB ws zs = false := by simp [viB, h]
theorem vi_bad {zs : List Zs} {ws : List Int} {k : Nat} (h : k < zs.length) (e : k < ws.length → goodI zs ws k = false) : viB ws zs = false := by
  by_cases hl : zs.length = ws.length
  · unfold viB
    rw [Bool.and_eq_false_iff]
    right
    rw [List.all_eq_false]
    exact ⟨k, by simpa using h, by simp [e (by omega)]⟩
  · exact vi_len hl
theorem vi_end {zs : List Zs} {ws : List Int} (h : upTo zs ws zs.length) : viB ws zs = decide (zs.length = ws.length) := by
  by_cases hl : zs.length = ws.length
  · have : (List.range zs.length).all (goodI zs ws) = true := by
      rw [List.all_eq_true]
      intro i hi
      have hi' : i < zs.length := by simpa using hi
      exact h i hi' (by omega)
    simp [viB, hl, this]
    rw [← hl]
    simpa using this
  · rw [vi_len hl]; simp [hl]
theorem good_inv {zs : List Zs} {ws : List Int} {k : Nat} (h : k < zs.length) (e : zsB zs[k] = false) : goodI zs ws k = false := by simp [goodI, zg_lt h, e]
theorem good_nil {zs : List Zs} {ws : List Int} {k : Nat} (h : k < zs.length) (e : zsB zs[k] = true) (e0 : zs[k].length = 0) : goodI zs ws k = true := by simp only [goodI, zg_lt h, e, e0]; simp
theorem good_wid {zs : List Zs} {ws : List Int} {k : Nat} (h : k < zs.length) (hw : k < ws.length) (e : zsB zs[k] = true) (e0 : ¬ zs[k].length = 0) : goodI zs ws k = decide ((wid zs[k] : Int) = ws[k]) := by simp [goodI, zg_lt h, ig_lt hw, e, e0]
theorem widthOf_sV (A : Option Addr) (c : Nat) (z : List Ent) (w : World) (hx : EntsAt w A z) (hp : 0 < z.length) (hr : rowsIn z 4194304) :
    Calls Try.prog 168 #[.slice A z.length c] w fun e w' => e = .returned (.int .i64 (wid z)) ∧ Below w.heap.size w w' := by
  obtain ⟨b, off, RA, rc, rfl, hbl, hc0, -, -, -⟩ := hx.get 0 hp
  simp only [Nat.zero_mul, Nat.add_zero] at hc0
  have hp' : (0 : Int) < z.length := by omega
  have HW := Lib.hid (wid_get hp)
  go_enter Try.func168, Try.ntmps168
  go_wp2
  go_ret
  exact ⟨ret_int (by rw [HW.out]), Below.refl _ _⟩
set_option maxRecDepth 100000 in
set_option maxHeartbeats 1600000 in
theorem haveWidths_i (A B : Option Addr) (c d : Nat) (zs : List Zs) (ws : List Int) (w : World) (hx : ZssAt w A zs) (hy : IntsAt w B ws) (hn : zs.length ≤ 4194304) (hm : ws.length ≤ 4194304) (hr : zsIn zs 4194304) :
    Calls Try.prog 130 #[.slice A zs.length c, .slice B ws.length d] w fun e w' => e = .returned (.bool (viB ws zs)) ∧ Below w.heap.size w w' := by
  by_cases hl : zs.length = ws.length
  case neg =>
    have hb : ((zs.length : Int) != (ws.length : Int)) = true := by simp; omega
    have HF := Lib.hid (vi_len hl)
    clear hl
    go_enter Try.func130, Try.ntmps130
    go_wp2
    go_ret
    exact ⟨ret_bool HF.out.symm, Below.refl _ _⟩
  have hb : ((zs.length : Int) != (ws.length : Int)) = false := by simp [hl]
  have HL := Lib.hid hl
  clear hl
  go_enter Try.func130, Try.ntmps130
  go_wp2
  go_loopw [5, 6, 14] (fun _ _ i wr => ∃ k : Nat, k ≤ zs.length ∧ i = .int .i64 k ∧ upTo zs ws k ∧ Below w.heap.size w wr) (fun _ _ i _ => zs.length - (intOf i).toNat)
  case atStart => exact ⟨0, by omega, rfl, fun j hj => absurd hj (by omega), Below.refl _ _⟩
  case round =>
    obtain ⟨k, hk, rfl, hup, hbel⟩ := hrel
    have HU := Lib.hid hup
    clear hup
    by_cases hlt : k < zs.length
    · obtain ⟨b, off, ZA, zc, rfl, hbl, hc0, hml, hz⟩ := hx.get k hlt
      have q0 := (hbel.cell (p := ⟨b, off + k, none⟩) hbl).trans hc0
      have hzr : EntsAt wr ZA zs[k] := SlAt.below entR hz hbel
      have hrl := hr.get hlt
      have hvz := fun W (hW : Below wr.heap.size wr W) => ValidZSet_i ZA zc zs[k] W (SlAt.below entR hzr hW) hrl.1 hrl.2
      clear hc0 hz
      cases e1 : zsB zs[k]
      · rw [e1] at hvz
        have HF := Lib.hid (vi_bad (ws := ws) hlt (fun _ => good_inv hlt e1))
        clear e1
        go_wp2_with fail
        refine wp_region_quiet_below (by kernel_rfl) (by kernel_rfl) ?_
        repeat (go_big_quiet_step (first | (go_at_call 29; exact Calls.regrown_of (hvz _ (below_regrown _ _ _)))))
        refine wpQuiet_nil ?_
        intro wq hwq
        obtain ⟨⟨dq, osq⟩, rfl⟩ := hwq
        have hbq := btr hbel (below_regrown wr dq osq)
        generalize grow (redrawn wr dq) osq = w4 at hbq
        clear q0 hvz
        go_wp2
        go_ret
        exact ⟨ret_bool HF.out.symm, hbq⟩
      · rw [e1] at hvz
        by_cases h0 : zs[k].length = 0
        · have HG := Lib.hid (good_nil (ws := ws) hlt e1 h0)
          have hd : decide ((0 : Int) < (zs[k].length : Int)) = false := by simp [h0]
          have hd2 : ¬ 0 < zs[k].length := by omega
          clear e1 h0
          go_wp2_with fail
          refine wp_region_quiet_below (by kernel_rfl) (by kernel_rfl) ?_
          repeat (go_big_quiet_step (first | (go_at_call 29; exact Calls.regrown_of (hvz _ (below_regrown _ _ _)))))
          refine wpQuiet_nil ?_
          intro wq hwq
          obtain ⟨⟨dq, osq⟩, rfl⟩ := hwq
          have hbq := btr hbel (below_regrown wr dq osq)
          generalize grow (redrawn wr dq) osq = w4 at hbq
          clear q0 hvz
          go_wp2
          go_roundw
          case rel => exact ⟨k + 1, by omega, by go_num, upTo_step HU.out (fun _ => HG.out), hbq⟩
          case measure => simp [intOf]; omega
        have hkw : k < ws.length := by have := HL.out; omega
        have hp : 0 < zs[k].length := by omega
        have hp' : (0 : Int) < (zs[k].length : Int) := by omega
        have hkw' : (k : Int) < (ws.length : Int) := by omega
        obtain ⟨b2, off2, rfl, hbl2, hc2⟩ := hy (by omega)
        have hc2 := hc2 k hkw
        rw [show ws.getD k 0 = ws[k] by simp [hkw]] at hc2
        have q1 := cgrow ((hbel.cell (p := ⟨b2, off2 + k, none⟩) hbl2).trans hc2)
        have hwd := fun W (hW : Below wr.heap.size wr W) => widthOf_e ZA zc zs[k] W (SlAt.below entR hzr hW) hrl.1
        have HG := Lib.hid (good_wid hlt hkw e1 h0)
        clear hc2 e1 h0
        by_cases he : (wid zs[k] : Int) = ws[k]
        · have hne : ((wid zs[k] : Int) != ws[k]) = false := by simp [he]
          have HG2 : Hid (goodI zs ws k = true) := by rw [Hid, HG.out]; simp [he]
          clear he
          go_wp2_with fail
          refine wp_region_quiet_below (by kernel_rfl) (by kernel_rfl) ?_
          repeat (go_big_quiet_step (first | (go_at_call 29; exact Calls.regrown_of (hvz _ (below_regrown _ _ _))) | (go_at_call 101; exact Calls.regrown_of (hwd _ (below_regrown _ _ _)))))
          refine wpQuiet_nil ?_
          intro wq hwq
          obtain ⟨⟨dq, osq⟩, rfl⟩ := hwq
          have hbq := btr hbel (below_regrown wr dq osq)
          generalize grow (redrawn wr dq) osq = w4 at hbq
          clear q0 q1 hvz hwd
          go_wp2
          go_roundw
          case rel => exact ⟨k + 1, by omega, by go_num, upTo_step HU.out (fun _ => HG2.out), hbq⟩
          case measure => simp [intOf]; omega
        · have hne : ((wid zs[k] : Int) != ws[k]) = true := by simp [he]
          have HG2 : Hid (goodI zs ws k = false) := by rw [Hid, HG.out]; simp [he]
          have HF := Lib.hid (vi_bad hlt (fun _ => HG2.out))
          clear he
          go_wp2_with fail
          refine wp_region_quiet_below (by kernel_rfl) (by kernel_rfl) ?_
          repeat (go_big_quiet_step (first | (go_at_call 29; exact Calls.regrown_of (hvz _ (below_regrown _ _ _))) | (go_at_call 101; exact Calls.regrown_of (hwd _ (below_regrown _ _ _)))))
          refine wpQuiet_nil ?_
          intro wq hwq
          obtain ⟨⟨dq, osq⟩, rfl⟩ := hwq
          have hbq := btr hbel (below_regrown wr dq osq)
          generalize grow (redrawn wr dq) osq = w4 at hbq
          clear q0 q1 hvz hwd
          go_wp2
          go_ret
          exact ⟨ret_bool HF.out.symm, hbq⟩
    · obtain rfl : k = zs.length := by omega
      have HF : Hid (viB ws zs = true) := by rw [Hid, vi_end HU.out]; simp [HL.out]
      go_wp2
      go_ret
      exact ⟨ret_bool HF.out.symm, hbel⟩
set_option maxRecDepth 100000 in
set_option maxHeartbeats 1600000 in
theorem validInputs_s (A B : Option Addr) (c d : Nat) (zs : List Zs) (ws : List Int) (w : World) (hx : ZssAt w A zs) (hy : IntsAt w B ws) (hn : zs.length ≤ 4194304) (hm : ws.length ≤ 4194304) (hr : zsIn zs 4194304) :
    Calls Try.prog 128 #[.slice B ws.length d, .slice A zs.length c] w fun e w' => e = .returned (.bool (viB ws zs)) ∧ Below w.heap.size w w' := by
  go_enter Try.func128, Try.ntmps128
  go_wp2
  go_loopw [5] (fun i wr => ∃ k : Nat, k ≤ zs.length ∧ i = .int .i64 k ∧ upTo zs ws k ∧ Below w.heap.size w wr) (fun i _ => zs.length - (intOf i).toNat)
  case atStart => exact ⟨0, by omega, rfl, fun j hj => absurd hj (by omega), Below.refl _ _⟩
  case round =>
    obtain ⟨k, hk, rfl, hup, hbel⟩ := hrel
    have HU := Lib.hid hup
    clear hup
    by_cases hlt : k < zs.length
    · obtain ⟨b, off, ZA, zc, rfl, hbl, hc0, hml, hz⟩ := hx.get k hlt
      have q0 := cgrow ((hbel.cell (p := ⟨b, off + k, none⟩) hbl).trans hc0)
      have hzr : EntsAt wr ZA zs[k] := SlAt.below entR hz hbel
      have hrl := hr.get hlt
      have hvz := fun W (hW : Below wr.heap.size wr W) => validZSet_s ZA zc zs[k] W (SlAt.below entR hzr hW) hrl.1 hrl.2
      clear hc0 hz
      cases e1 : zsB zs[k]
      · rw [e1] at hvz
        have HF := Lib.hid (vi_bad (ws := ws) hlt (fun _ => good_inv hlt e1))
        clear e1
        go_wp2_with fail
        refine wp_region_quiet_below (by kernel_rfl) (by kernel_rfl) ?_
        repeat (go_big_quiet_step (first | (go_at_call 161; exact Calls.regrown_of (hvz _ (below_regrown _ _ _)))))
        refine wpQuiet_nil ?_
        intro wq hwq
        obtain ⟨⟨dq, osq⟩, rfl⟩ := hwq
        have hbq := btr hbel (below_regrown wr dq osq)
        generalize grow (redrawn wr dq) osq = w4 at hbq
        clear q0 hvz
        go_wp2
        go_ret
        exact ⟨ret_bool HF.out.symm, hbq⟩
      · rw [e1] at hvz
        by_cases h0 : zs[k].length = 0
        · have HG := Lib.hid (good_nil (ws := ws) hlt e1 h0)
          have hd : decide ((0 : Int) < (zs[k].length : Int)) = false := by simp [h0]
          have hd2 : ¬ 0 < zs[k].length := by omega
          clear e1 h0
          go_wp2_with fail
          refine wp_region_quiet_below (by kernel_rfl) (by kernel_rfl) ?_
          repeat (go_big_quiet_step (first | (go_at_call 161; exact Calls.regrown_of (hvz _ (below_regrown _ _ _)))))
          refine wpQuiet_nil ?_
          intro wq hwq
          obtain ⟨⟨dq, osq⟩, rfl⟩ := hwq
          have hbq := btr hbel (below_regrown wr dq osq)
          generalize grow (redrawn wr dq) osq = w4 at hbq
          clear q0 hvz
          go_wp2
          go_roundw
          case rel => exact ⟨k + 1, by omega, by go_num, upTo_step HU.out (fun _ => HG.out), hbq⟩
          case measure => simp [intOf]; omega
        by_cases hkw : k < ws.length
        case neg =>
          have hp : 0 < zs[k].length := by omega
          have hp' : (0 : Int) < (zs[k].length : Int) := by omega
          have hkw' : ¬ (k : Int) < (ws.length : Int) := by omega
          have hkd : decide (k < ws.length) = false := decide_eq_false hkw
          have hkd' : decide ((k : Int) < (ws.length : Int)) = false := decide_eq_false hkw'
          have HK := Lib.hid hkw
          clear e1 h0 hkw
          go_wp2_with fail
          refine wp_region_quiet_below (by kernel_rfl) (by kernel_rfl) ?_
          repeat (go_big_quiet_step (first | (go_at_call 161; exact Calls.regrown_of (hvz _ (below_regrown _ _ _)))))
          refine wpQuiet_nil ?_
          intro wq hwq
          obtain ⟨⟨dq, osq⟩, rfl⟩ := hwq
          have hbq := btr hbel (below_regrown wr dq osq)
          generalize grow (redrawn wr dq) osq = w4 at hbq
          clear q0 hvz
          go_wp2
          go_roundw
          case rel => exact ⟨k + 1, by omega, by go_num, upTo_step HU.out (fun h => absurd h HK.out), hbq⟩
          case measure => simp [intOf]; omega
        have hp : 0 < zs[k].length := by omega
        have hp' : (0 : Int) < (zs[k].length : Int) := by omega
        have hkw' : (k : Int) < (ws.length : Int) := by omega
        obtain ⟨b2, off2, rfl, hbl2, hc2⟩ := hy (by omega)
        have hc2 := hc2 k hkw
        rw [show ws.getD k 0 = ws[k] by simp [hkw]] at hc2
        have q1 := cgrow ((hbel.cell (p := ⟨b2, off2 + k, none⟩) hbl2).trans hc2)
        have hwd := fun W (hW : Below wr.heap.size wr W) => widthOf_sV ZA zc zs[k] W (SlAt.below entR hzr hW) hp hrl.2
        have HG := Lib.hid (good_wid hlt hkw e1 h0)
        clear hc2 e1 h0
        by_cases he : (wid zs[k] : Int) = ws[k]
        · have hne : ((wid zs[k] : Int) != ws[k]) = false := by simp [he]
          have HG2 : Hid (goodI zs ws k = true) := by rw [Hid, HG.out]; simp [he]
          clear he
          go_wp2_with fail
          refine wp_region_quiet_below (by kernel_rfl) (by kernel_rfl) ?_
          repeat (go_big_quiet_step (first | (go_at_call 161; exact Calls.regrown_of (hvz _ (below_regrown _ _ _))) | (go_at_call 168; exact Calls.regrown_of (hwd _ (below_regrown _ _ _)))))
          refine wpQuiet_nil ?_
          intro wq hwq
          obtain ⟨⟨dq, osq⟩, rfl⟩ := hwq
          have hbq := btr hbel (below_regrown wr dq osq)
          generalize grow (redrawn wr dq) osq = w4 at hbq
          clear q0 q1 hvz hwd
          go_wp2
          go_roundw
          case rel => exact ⟨k + 1, by omega, by go_num, upTo_step HU.out (fun _ => HG2.out), hbq⟩
          case measure => simp [intOf]; omega
        · have hne : ((wid zs[k] : Int) != ws[k]) = true := by simp [he]
          have HG2 : Hid (goodI zs ws k = false) := by rw [Hid, HG.out]; simp [he]
          have HF := Lib.hid (vi_bad hlt (fun _ => HG2.out))
          clear he
          go_wp2_with fail
          refine wp_region_quiet_below (by kernel_rfl) (by kernel_rfl) ?_
          repeat (go_big_quiet_step (first | (go_at_call 161; exact Calls.regrown_of (hvz _ (below_regrown _ _ _))) | (go_at_call 168; exact Calls.regrown_of (hwd _ (below_regrown _ _ _)))))
          refine wpQuiet_nil ?_
          intro wq hwq
          obtain ⟨⟨dq, osq⟩, rfl⟩ := hwq
          have hbq := btr hbel (below_regrown wr dq osq)
          generalize grow (redrawn wr dq) osq = w4 at hbq
          clear q0 q1 hvz hwd
          go_wp2
          go_ret
          exact ⟨ret_bool HF.out.symm, hbq⟩
    · obtain rfl : k = zs.length := by omega
      have HF := Lib.hid (vi_end HU.out)
      have HE : Hid (((zs.length : Int) == (ws.length : Int)) = decide (zs.length = ws.length)) := by
        simp only [Hid]
        by_cases h : zs.length = ws.length
        · simp [h]
        · simp [h]; omega
      go_wp2
      go_ret
      exact ⟨ret_bool (by rw [HF.out]; first | exact HE.out | simpa using HE.out), hbel⟩
set_option maxRecDepth 100000 in
set_option maxHeartbeats 1600000 in
theorem ValidInputs_i (A B : Option Addr) (c d : Nat) (zs : List Zs) (ws : List Int) (w : World) (hx : ZssAt w A zs) (hy : IntsAt w B ws) (hn : zs.length ≤ 4194304) (hm : ws.length ≤ 4194304) (hr : zsIn zs 4194304) :
    Calls Try.prog 60 #[.slice B ws.length d, .slice A zs.length c] w fun e w' => e = .returned (.bool (VInB ws zs)) ∧ Below w.heap.size w w' := by
  have h1 := areInputWidths_i B d ws w hy (by omega)
  have h2 := fun W (hW : Below w.heap.size w W) => haveWidths_i A B c d zs ws W (hx.below hW) (hy.below hW) hn hm hr
  have HR : Hid (VInB ws zs = (vwB ws && viB ws zs)) := rfl
  cases e1 : vwB ws
  · rw [e1] at h1 HR
    clear e1 h2
    go_enter Try.func60, Try.ntmps60
    go_wp2_with fail
    refine h1.mono ?_
    rintro e w1 ⟨rfl, b1⟩
    go_wp2_with fail
    go_ret
    exact ⟨ret_bool HR.out.symm, b1⟩
  · rw [e1] at h1 HR
    clear e1
    obtain ⟨r, hr2⟩ : ∃ r, viB ws zs = r := ⟨_, rfl⟩
    rw [hr2] at HR
    simp only [hr2] at h2
    clear hr2
    go_enter Try.func60, Try.ntmps60
    go_wp2_with fail
    refine h1.mono ?_
    rintro e w1 ⟨rfl, b1⟩
    go_wp2_with fail
    refine (h2 _ b1).mono ?_
    rintro e w2 ⟨rfl, b2⟩
    have B2 := btr b1 b2
    clear h2
    go_wp2_with fail
    go_ret
    exact ⟨ret_bool HR.out.symm, B2⟩
set_option maxRecDepth 100000 in
set_option maxHeartbeats 1600000 in
theorem ValidInputs_s (A B : Option Addr) (c d : Nat) (zs : List Zs) (ws : List Int) (w : World) (hx : ZssAt w A zs) (hy : IntsAt w B ws) (hn : zs.length ≤ 4194304) (hm : ws.length ≤ 4194304) (hr : zsIn zs 4194304) :
    Calls Try.prog 57 #[.slice B ws.length d, .slice A zs.length c] w fun e w' => e = .returned (.bool (VInB ws zs)) ∧ Below w.heap.size w w' := by
  have h1 := validWidths_s B d ws w hy (by omega)
  have h2 := fun W (hW : Below w.heap.size w W) => validInputs_s A B c d zs ws W (hx.below hW) (hy.below hW) hn hm hr
  have HR : Hid (VInB ws zs = (vwB ws && viB ws zs)) := rfl
  cases e1 : vwB ws
  · rw [e1] at h1 HR
    clear e1 h2
    go_enter Try.func57, Try.ntmps57
    go_wp2_with fail
    refine h1.mono ?_
    rintro e w1 ⟨rfl, b1⟩
    go_wp2_with fail
    go_ret
    exact ⟨ret_bool HR.out.symm, b1⟩
  · rw [e1] at h1 HR
    clear e1
    obtain ⟨r, hr2⟩ : ∃ r, viB ws zs = r := ⟨_, rfl⟩
    rw [hr2] at HR
    simp only [hr2] at h2
    clear hr2
    go_enter Try.func57, Try.ntmps57
    go_wp2_with fail
    refine h1.mono ?_
    rintro e w1 ⟨rfl, b1⟩
    go_wp2_with fail
    refine (h2 _ b1).mono ?_
    rintro e w2 ⟨rfl, b2⟩
    have B2 := btr b1 b2
    clear h2
    go_wp2_with fail
    go_ret
    exact ⟨ret_bool HR.out.symm, B2⟩
end Go.Proofs.Ytjobecoogjojjaa
