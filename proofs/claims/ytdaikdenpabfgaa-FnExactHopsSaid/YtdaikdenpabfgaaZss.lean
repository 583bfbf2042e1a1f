/- HELPER, no statement of the seat: lists of Z-sets that came in, copied, measured and compared. -/
import Derived.Test.YtdaikdenpabfgaaEntL
namespace Go.Proofs.Ytdaikdenpabfgaa
open Go.ChangeShapes Go.WideShapes Go.ChangeAt Go.RowKit Go.Sort
set_option linter.unusedSimpArgs false
set_option linter.unusedVariables false

abbrev Zs := List Ent
def ZlR : Rd Zs := SlR EntR 2
def ZlO : Ow Zs := SlO EntO 2 52
theorem zlR : ROk ZlR 1 := slR entR
theorem zlO : OOk ZlO ZlR 1 := slO entO
def ZssAt (w : World) (A : Option Addr) (zs : List Zs) : Prop := SlAt ZlR 1 w A zs
theorem ZssAt.below {w w' : World} {A : Option Addr} {zs : List Zs} (h : ZssAt w A zs) (hb : Below w.heap.size w w') : ZssAt w' A zs := SlAt.below zlR h hb
theorem ZssAt.get {w : World} {A : Option Addr} {zs : List Zs} (h : ZssAt w A zs) (k : Nat) (hk : k < zs.length) :
    ∃ b off ZA zc, A = some ⟨b, off, none⟩ ∧ b < w.heap.size ∧ w.cell? ⟨b, off + k, none⟩ = some (.slice ZA zs[k].length zc) ∧ zs[k].length ≤ maxLen ∧ EntsAt w ZA zs[k] := by
  obtain ⟨b, off, e, hlt, hc⟩ := h (by omega)
  obtain ⟨cs, hl, hcell, ZA, zc, hcs, hm, hz⟩ := hc k hk
  have := hcell 0 (by omega)
  simp only [Nat.mul_one, Nat.add_zero] at this
  rw [hcs] at this
  exact ⟨b, off, ZA, zc, e, hlt, this, hm, hz⟩
section
variable {H : Type} {enc : TypeId × Value → H} {W : World}
end

/-! ### The measure -/
def zSum (zs : List Zs) : Int := (zs.map entSz).sum
theorem zSum_step {zs : List Zs} {k : Nat} (h : k < zs.length) : zSum (zs.take (k + 1)) = zSum (zs.take k) + entSz zs[k] := by
  rw [List.take_succ_eq_append_getElem h]
  simp only [zSum, List.map_append, List.sum_append, List.map_cons, List.map_nil, List.sum_cons, List.sum_nil, Int.add_zero]
theorem zSum_nn (zs : List Zs) : 0 ≤ zSum zs := by
  induction zs with
  | nil => simp [zSum]
  | cons x l ih => have := entSz_nn x; simp only [zSum, List.map_cons, List.sum_cons] at *; omega
theorem zSum_le (zs : List Zs) (k : Nat) : zSum (zs.take k) ≤ zSum zs := by
  have : zSum zs = zSum (zs.take k) + zSum (zs.drop k) := by
    rw [zSum, zSum, zSum, ← List.sum_append, ← List.map_append, List.take_append_drop]
  have := zSum_nn (zs.drop k)
  omega
theorem zSum_mem {zs : List Zs} {z : Zs} (h : z ∈ zs) : entSz z ≤ zSum zs := by
  induction zs with
  | nil => cases h
  | cons x l ih =>
    have h1 := entSz_nn x
    have h2 := zSum_nn l
    simp only [zSum, List.map_cons, List.sum_cons] at *
    rcases List.mem_cons.1 h with rfl | h
    · omega
    · have := ih h; omega
def zsSz (zs : List Zs) : Int := zs.length + zSum zs
def zsLeft (left : Int) (zs : List Zs) : Int := if left < zsSz zs then -1 else left - zsSz zs
theorem zsSz_nn (zs : List Zs) : 0 ≤ zsSz zs := by have := zSum_nn zs; unfold zsSz; omega
def zsIn (zs : List Zs) (n : Nat) : Prop := ∀ z ∈ zs, z.length ≤ n ∧ rowsIn z n
theorem zsSz_in {zs : List Zs} {n : Nat} (h : zsSz zs ≤ n) : zsIn zs n := fun z hz => by
  have h1 := zSum_mem hz
  have h2 : entSz z ≤ (n : Int) := by unfold zsSz at h; omega
  exact ⟨by have := entSz_len h2; omega, entSz_row h2⟩
theorem zsSz_len {zs : List Zs} {n : Int} (h : zsSz zs ≤ n) : (zs.length : Int) ≤ n := by have := zSum_nn zs; unfold zsSz at h; omega
theorem zsIn.get {zs : List Zs} {n k : Nat} (h : zsIn zs n) (hk : k < zs.length) : zs[k].length ≤ n ∧ rowsIn zs[k] n := h _ (List.getElem_mem hk)
/-! ### Copies -/
theorem Try.infoZl : (Try.prog.info? 24).map (fun i => (i.zero, i.size, i.bytes)) = some (some (.slice none 0 0), 1, 24) := by kernel_rfl
set_option maxHeartbeats 800000 in
theorem eqEntrySS_any (A B : Option Addr) (c d : Nat) (xs ys : List Zs) (w : World) (hx : ZssAt w A xs) (hy : ZssAt w B ys) (hn : xs.length ≤ 4194304) (hm : ys.length ≤ 4194304) (hr : zsIn xs 4194304) (hs : zsIn ys 4194304) :
    Calls Try.prog 24 #[.slice A xs.length c, .slice B ys.length d] w fun e w' => e = .returned (.bool (decide (xs = ys))) ∧ Below w.heap.size w w' := by
  by_cases hl : xs.length = ys.length
  · have hb : ((xs.length : Int) != (ys.length : Int)) = false := by simp [hl]
    have HL := Lib.hid hl
    clear hl
    go_enter Try.func24, Try.ntmps24
    go_wp2
    go_loopw [5] (fun i wr => ∃ k : Nat, k ≤ xs.length ∧ i = .int .i64 k ∧ xs.take k = ys.take k ∧ Below w.heap.size w wr) (fun i _ => xs.length - (intOf i).toNat)
    case atStart => exact ⟨0, by omega, rfl, rfl, Below.refl _ _⟩
    case round =>
      obtain ⟨k, hk, rfl, htk, hbel⟩ := hrel
      have HT := Lib.hid htk
      clear htk
      by_cases hlt : k < xs.length
      · have hlt2 : k < ys.length := by have := HL.out; omega
        obtain ⟨b, off, RA, rc, rfl, hbl, hc0, -, hrow⟩ := hx.get k hlt
        obtain ⟨b2, off2, RB, rd, rfl, hbl2, hd0, -, hrow2⟩ := hy.get k hlt2
        have q1 := cgrow ((hbel.cell (p := ⟨b, off + k, none⟩) hbl).trans hc0)
        have q3 := cgrow ((hbel.cell (p := ⟨b2, off2 + k, none⟩) hbl2).trans hd0)
        have hl1 := hr.get hlt
        have hl2 := hs.get hlt2
        clear hc0 hd0
        have hcon := fun W' (hW : Below wr.heap.size wr W') => eqEntryS_any RA RB rc rd xs[k] ys[k] W' (SlAt.below entR (SlAt.below entR hrow hbel) hW) (SlAt.below entR (SlAt.below entR hrow2 hbel) hW) hl1.1 hl2.1 hl1.2 hl2.2
        by_cases he : xs[k] = ys[k]
        · have hne : decide (xs[k] = ys[k]) = true := by simp [he]
          have HE := Lib.hid he
          rw [hne] at hcon
          clear he hne
          go_wp2_with fail
          refine wp_region_quiet_below (by kernel_rfl) (by kernel_rfl) ?_
          repeat (go_big_quiet_step (exact Calls.regrown_of (hcon _ (below_regrown _ _ _))))
          refine wpQuiet_nil ?_
          intro w3 hw3
          obtain ⟨⟨dq, osq⟩, rfl⟩ := hw3
          have hbq := below_regrown wr dq osq
          generalize grow (redrawn wr dq) osq = w4 at hbq
          clear q1 q3 hcon
          go_wp2
          go_roundw
          case rel => exact ⟨k + 1, by omega, by go_num, take_eq_stepE hlt hlt2 HT.out HE.out, btr hbel hbq⟩
          case measure => simp [intOf]; omega
        · have hne : decide (xs[k] = ys[k]) = false := by simp [he]
          rw [hne] at hcon
          have HF : Hid (decide (xs = ys) = false) := by
            simp only [Hid, decide_eq_false_iff_not]
            intro h; subst h; exact he rfl
          clear he hne
          go_wp2_with fail
          refine wp_region_quiet_below (by kernel_rfl) (by kernel_rfl) ?_
          repeat (go_big_quiet_step (exact Calls.regrown_of (hcon _ (below_regrown _ _ _))))
          refine wpQuiet_nil ?_
          intro w3 hw3
          obtain ⟨⟨dq, osq⟩, rfl⟩ := hw3
          have hbq := below_regrown wr dq osq
          generalize grow (redrawn wr dq) osq = w4 at hbq
          clear q1 q3 hcon
          go_wp2
          go_ret
          exact ⟨ret_bool HF.out.symm, btr hbel hbq⟩
      · obtain rfl : k = xs.length := by omega
        have hfin : decide (xs = ys) = true := by
          have h1 := HT.out
          have h2 := HL.out
          rw [List.take_length, h2, List.take_length] at h1
          simp [h1]
        have HF := Lib.hid hfin
        clear hfin
        go_wp2
        go_ret
        exact ⟨ret_bool HF.out.symm, hbel⟩
  · have hb : ((xs.length : Int) != (ys.length : Int)) = true := by simp; omega
    have hfin : decide (xs = ys) = false := by simp; rintro rfl; exact hl rfl
    have HF := Lib.hid hfin
    clear hfin
    go_enter Try.func24, Try.ntmps24
    go_wp2
    go_ret
    exact ⟨ret_bool HF.out.symm, Below.refl _ _⟩
end Go.Proofs.Ytdaikdenpabfgaa
