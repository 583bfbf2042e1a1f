/- HELPER, no statement of the seat: contracts of the functions that copy, measure and compare lists of entries. -/
import Derived.Test.YtfndglpfhdphiadEnt
namespace Go.Proofs.Ytfndglpfhdphiad
open Go.RowKit Go.Sort
set_option linter.unusedSimpArgs false
set_option linter.unusedVariables false

theorem cgrow {w : World} {b o : Nat} {v : Value} (h : w.cell? ⟨b, o, none⟩ = some v) : ∀ d os, (grow (redrawn w d) os).cell? ⟨b, o, none⟩ = some v := fun d os => cell_regrown h d os

/-- The blocks that have come since w, up to now. -/
def news (w w' : World) : Fp := fun k => w.heap.size ≤ k ∧ k < w'.heap.size

theorem rowO_new {w w' : World} {g : Nat} {xs : List Int} (hg : w.heap.size ≤ g) (hk : Blk w' g 3 (ints xs)) (hn : xs.length ≤ maxLen) (x : Int) : EntO w' (news w w') [.slice (some ⟨g, 0, none⟩) xs.length xs.length, .int .i64 x] (xs, x) :=
  EntO.mk (fun k hk => hk.2) (fun k e => by simp [blk] at e; subst e; exact ⟨hg, hk.lt⟩) (IntsOwn.ofBlk hk (Nat.zero_le _) hn)

def lenSum (es : List Ent) : Nat := (es.map fun e => e.1.length).sum
theorem lenSum_step {es : List Ent} {k : Nat} (h : k < es.length) : lenSum (es.take (k + 1)) = lenSum (es.take k) + es[k].1.length := by
  rw [List.take_succ_eq_append_getElem h]
  simp only [lenSum, List.map_append, List.sum_append, List.map_cons, List.map_nil, List.sum_cons, List.sum_nil, Nat.add_zero]
theorem lenSum_le (es : List Ent) (k : Nat) : lenSum (es.take k) ≤ lenSum es := by
  have : lenSum es = lenSum (es.take k) + lenSum (es.drop k) := by
    rw [lenSum, lenSum, lenSum, ← List.sum_append, ← List.map_append, List.take_append_drop]
  omega

/-- The measure of a list of entries; what is left behind it. -/
def entSz (es : List Ent) : Int := es.length + lenSum es
def entLeft (left : Int) (es : List Ent) : Int := if left < entSz es then -1 else left - entSz es
def eqE (x y : Ent) : Bool := decide (x = y)
theorem eqEntry_any (A B : Option Addr) (c d : Nat) (x y : Ent) (w : World) (hx : IntsAt w A x.1) (hy : IntsAt w B y.1) (hn : x.1.length ≤ 4194304) (hm : y.1.length ≤ 4194304) :
    Calls Try.prog 74 #[.agg #[.slice A x.1.length c, .int .i64 x.2], .agg #[.slice B y.1.length d, .int .i64 y.2]] w fun e w' => e = .returned (.bool (eqE x y)) ∧ Below w.heap.size w w' := by
  obtain ⟨xs, p⟩ := x
  obtain ⟨ys, q⟩ := y
  simp only at hx hy hn hm ⊢
  have hb0 : Below w.heap.size w ((w.alloc (.cells #[.slice A xs.length c, .int .i64 p] 35)).alloc (.cells #[.slice B ys.length d, .int .i64 q] 35)) := bal (bal (Below.refl _ _) _) _
  by_cases h1 : xs = ys <;> by_cases h2 : p = q
  · have e1 : decide (xs = ys) = true := by simp [h1]
    have e2 : (p != q) = false := by simp [h2]
    have hr : eqE (xs, p) (ys, q) = true := by simp [eqE, h1, h2]
    have HR := Lib.hid hr
    clear hr h1 h2
    go_enter Try.func74, Try.ntmps74
    go_wp2_with fail
    refine (eqIntS_any _ _ _ _ _ _ _ (hx.below hb0) (hy.below hb0) (by omega) (by omega)).mono ?_
    rintro e w1 ⟨rfl, hb⟩
    obtain ⟨hc, hf⟩ := bcell hb
    have hB := btr hb0 hb
    go_wp2
    go_ret
    exact ⟨ret_bool HR.out.symm, hB⟩
  · have e1 : decide (xs = ys) = true := by simp [h1]
    have e2 : (p != q) = true := by simp [h2]
    have hr : eqE (xs, p) (ys, q) = false := by simp [eqE, h2]
    have HR := Lib.hid hr
    clear hr h1 h2
    go_enter Try.func74, Try.ntmps74
    go_wp2_with fail
    refine (eqIntS_any _ _ _ _ _ _ _ (hx.below hb0) (hy.below hb0) (by omega) (by omega)).mono ?_
    rintro e w1 ⟨rfl, hb⟩
    obtain ⟨hc, hf⟩ := bcell hb
    have hB := btr hb0 hb
    go_wp2
    go_ret
    exact ⟨ret_bool HR.out.symm, hB⟩
  all_goals
    have e1 : decide (xs = ys) = false := by simp [h1]
    have hr : eqE (xs, p) (ys, q) = false := by simp [eqE, h1]
    have HR := Lib.hid hr
    clear hr h1 h2
    go_enter Try.func74, Try.ntmps74
    go_wp2_with fail
    refine (eqIntS_any _ _ _ _ _ _ _ (hx.below hb0) (hy.below hb0) (by omega) (by omega)).mono ?_
    rintro e w1 ⟨rfl, hb⟩
    have hB := btr hb0 hb
    go_wp2
    go_ret
    exact ⟨ret_bool HR.out.symm, hB⟩

theorem take_eq_stepE {α : Type} {xs ys : List α} {k : Nat} (h1 : k < xs.length) (h2 : k < ys.length) (h : xs.take k = ys.take k) (e : xs[k] = ys[k]) : xs.take (k + 1) = ys.take (k + 1) := by
  rw [List.take_succ_eq_append_getElem h1, List.take_succ_eq_append_getElem h2, h, e]
set_option maxHeartbeats 800000 in
theorem eqEntryS_any (A B : Option Addr) (c d : Nat) (xs ys : List Ent) (w : World) (hx : EntsAt w A xs) (hy : EntsAt w B ys) (hn : xs.length ≤ 4194304) (hm : ys.length ≤ 4194304) (hr : rowsIn xs 4194304) (hs : rowsIn ys 4194304) :
    Calls Try.prog 36 #[.slice A xs.length c, .slice B ys.length d] w fun e w' => e = .returned (.bool (decide (xs = ys))) ∧ Below w.heap.size w w' := by
  by_cases hl : xs.length = ys.length
  · have hb : ((xs.length : Int) != (ys.length : Int)) = false := by simp [hl]
    have HL := Lib.hid hl
    clear hl
    go_enter Try.func36, Try.ntmps36
    go_wp2
    go_loopw [5] (fun i wr => ∃ k : Nat, k ≤ xs.length ∧ i = .int .i64 k ∧ xs.take k = ys.take k ∧ Below w.heap.size w wr) (fun i _ => xs.length - (intOf i).toNat)
    case atStart => exact ⟨0, by omega, rfl, rfl, Below.refl _ _⟩
    case round =>
      obtain ⟨k, hk, rfl, htk, hbel⟩ := hrel
      have HT := Lib.hid htk
      clear htk
      by_cases hlt : k < xs.length
      · have hlt2 : k < ys.length := by have := HL.out; omega
        obtain ⟨b, off, RA, rc, rfl, hbl, hc0, hc1, -, hrow⟩ := hx.get k hlt
        obtain ⟨b2, off2, RB, rd, rfl, hbl2, hd0, hd1, -, hrow2⟩ := hy.get k hlt2
        have q1 := cgrow ((hbel.cell (p := ⟨b, off + k * 2, none⟩) hbl).trans hc0)
        have q2 := cgrow ((hbel.cell (p := ⟨b, off + k * 2 + 1, none⟩) hbl).trans hc1)
        have q3 := cgrow ((hbel.cell (p := ⟨b2, off2 + k * 2, none⟩) hbl2).trans hd0)
        have q4 := cgrow ((hbel.cell (p := ⟨b2, off2 + k * 2 + 1, none⟩) hbl2).trans hd1)
        have hl1 := hr.get hlt
        have hl2 := hs.get hlt2
        clear hc0 hc1 hd0 hd1
        have hcon := fun W' (hW : Below wr.heap.size wr W') => eqEntry_any RA RB rc rd xs[k] ys[k] W' ((hrow.below hbel).below hW) ((hrow2.below hbel).below hW) hl1 hl2
        by_cases he : xs[k] = ys[k]
        · have hne : eqE xs[k] ys[k] = true := by simp [eqE, he]
          have HE := Lib.hid he
          clear he
          go_wp2_with fail
          refine wp_region_quiet_below (by kernel_rfl) (by kernel_rfl) ?_
          repeat (go_big_quiet_step (exact Calls.regrown_of (hcon _ (below_regrown _ _ _))))
          refine wpQuiet_nil ?_
          intro w3 hw3
          obtain ⟨⟨dq, osq⟩, rfl⟩ := hw3
          have hbq := below_regrown wr dq osq
          generalize grow (redrawn wr dq) osq = w4 at hbq
          clear q1 q2 q3 q4 hcon
          go_wp2
          go_roundw
          case rel => exact ⟨k + 1, by omega, by go_num, take_eq_stepE hlt hlt2 HT.out HE.out, btr hbel hbq⟩
          case measure => simp [intOf]; omega
        · have hne : eqE xs[k] ys[k] = false := by simp [eqE, he]
          go_wp2_with fail
          refine wp_region_quiet_below (by kernel_rfl) (by kernel_rfl) ?_
          repeat (go_big_quiet_step (exact Calls.regrown_of (hcon _ (below_regrown _ _ _))))
          refine wpQuiet_nil ?_
          intro w3 hw3
          obtain ⟨⟨dq, osq⟩, rfl⟩ := hw3
          have hbq := below_regrown wr dq osq
          generalize grow (redrawn wr dq) osq = w4 at hbq
          clear q1 q2 q3 q4 hcon
          go_wp2
          go_ret
          exact ⟨ret_bool (by simp; rintro rfl; exact he rfl), btr hbel hbq⟩
      · obtain rfl : k = xs.length := by omega
        have hfin : decide (xs = ys) = true := by
          have h1 := HT.out
          have h2 := HL.out
          rw [List.take_length, h2, List.take_length] at h1
          simp [h1]
        have HF := Lib.hid hfin
        clear hfin
        go_wp2
        go_ret
        exact ⟨ret_bool HF.out.symm, hbel⟩
  · have hb : ((xs.length : Int) != (ys.length : Int)) = true := by simp; omega
    have hfin : decide (xs = ys) = false := by simp; rintro rfl; exact hl rfl
    have HF := Lib.hid hfin
    clear hfin
    go_enter Try.func36, Try.ntmps36
    go_wp2
    go_ret
    exact ⟨ret_bool HF.out.symm, Below.refl _ _⟩
end Go.Proofs.Ytfndglpfhdphiad
