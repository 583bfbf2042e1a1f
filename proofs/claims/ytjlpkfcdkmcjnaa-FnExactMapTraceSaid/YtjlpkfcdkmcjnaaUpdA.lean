/- HELPER, no statement of the seat: contracts of the functions that copy, measure and compare lists of updates. -/
import Derived.Test.YtjlpkfcdkmcjnaaUpd
namespace Go.Proofs.Ytjlpkfcdkmcjnaa
open Go.RowKit Go.Sort
set_option linter.unusedSimpArgs false
set_option linter.unusedVariables false

theorem updO_new {w w' : World} {g : Nat} {xs : List Int} (hg : w.heap.size ≤ g) (hk : Blk w' g 3 (ints xs)) (hn : xs.length ≤ maxLen) (p q x : Int) : UpdO w' (news w w') [.slice (some ⟨g, 0, none⟩) xs.length xs.length, .int .i64 p, .int .i64 q, .int .i64 x] ((xs, (p, q)), x) :=
  UpdO.mk (fun k hk => hk.2) (fun k e => by simp [blk] at e; subst e; exact ⟨hg, hk.lt⟩) (IntsOwn.ofBlk hk (Nat.zero_le _) hn)

set_option maxHeartbeats 1600000 in
theorem toUpdateS_any (A : Option Addr) (c : Nat) (es : List Upd) (w : World) (hx : UpdsAt w A es) (hn : es.length ≤ 2097152) (hr : rowsU es 4194304) :
    Calls Try.prog 40 #[.slice A es.length c] w fun e w' => e = .returned (.slice (some ⟨w.heap.size, 0, none⟩) es.length es.length) ∧ UpdsOw w' (news w w') (some ⟨w.heap.size, 0, none⟩) es.length es ∧ Below w.heap.size w w' := by
  obtain ⟨i0, hi, hz0, hz1, hz2⟩ := info_parts Try.infoUpd
  have hmk := run_make (P := Try.prog) w 55 102 i0 (.agg #[.slice none 0 0, .int .i64 0, .int .i64 0, .int .i64 0]) Try.underlying55 hi hz0 .i64 .i64 es.length es.length (by omega) (by omega) (by rw [hz2]; omega) (by omega)
  simp only [Int.toNat_natCast, hz1] at hmk
  have hcs : ∀ n, (madeCells (Value.agg #[.slice none 0 0, .int .i64 0, .int .i64 0, .int .i64 0]).cells (n * 4)).size = n * 4 := fun n => by simp [madeCells]
  generalize madeCells (Value.agg #[.slice none 0 0, .int .i64 0, .int .i64 0, .int .i64 0]).cells = mc at hmk hcs
  go_enter Try.func40, Try.ntmps40
  go_wp2
  go_loopw [4] (fun i wr => ∃ k : Nat, k ≤ es.length ∧ i = .int .i64 k ∧ UpdsOw wr (news w wr) (some ⟨w.heap.size, 0, none⟩) es.length (es.take k) ∧ Below w.heap.size w wr) (fun i _ => es.length - (intOf i).toNat)
  case atStart => exact ⟨0, by omega, rfl, ⟨_, _, SlF.made UpdO 4 102 w (mc (es.length * 4)) es.length (by unfold maxLen; omega) (hcs _) ⟨Nat.le_refl _, by simp⟩ (fun k hk => by have := hk.2; simpa using this)⟩, bal (Below.refl _ _) _⟩
  case round =>
    obtain ⟨k, hk, rfl, ⟨css, F, hown⟩, hbel⟩ := hrel
    by_cases hlt : k < es.length
    · obtain ⟨b, off, RA, rc, rfl, hbl, hc0, hc1, hc2, hc3, -, hrow⟩ := hx.get k hlt
      have q0 := (hbel.cell (p := ⟨b, off + k * 4, none⟩) hbl).trans hc0
      have q1 := (hbel.cell (p := ⟨b, off + k * 4 + 1, none⟩) hbl).trans hc1
      have q2 := (hbel.cell (p := ⟨b, off + k * 4 + 2, none⟩) hbl).trans hc2
      have q3 := (hbel.cell (p := ⟨b, off + k * 4 + 3, none⟩) hbl).trans hc3
      have hrl := hr.get hlt
      have HF := Lib.hid hown
      clear hmk hc0 hc1 hc2 hc3 hown
      go_wp2_with fail
      refine (toUpdate_any _ _ es[k] _ (hrow.below hbel) (by omega)).mono ?_
      rintro e w2 ⟨g, rfl, hg, hblk, hb2⟩
      have hown2 := HF.out.loc updO (fun k hk => hb2.block k hk.2)
      have hkl : (es.take k).length = k := by simp; omega
      have hrow2 := hown2.row
      rw [hkl] at hrow2
      obtain ⟨u0, hu0⟩ := ownsRow_room hrow2 (k * 4) (by omega)
      obtain ⟨u1, hu1⟩ := ownsRow_room hrow2 (k * 4 + 1) (by omega)
      obtain ⟨u2, hu2⟩ := ownsRow_room hrow2 (k * 4 + 2) (by omega)
      obtain ⟨u3, hu3⟩ := ownsRow_room hrow2 (k * 4 + 3) (by omega)
      have f0 := World.ownsRow.frozenAt hrow2 (k * 4)
      have f1 := World.ownsRow.frozenAt hrow2 (k * 4 + 1)
      have f2 := World.ownsRow.frozenAt hrow2 (k * 4 + 2)
      have f3 := World.ownsRow.frozenAt hrow2 (k * 4 + 3)
      have hB := btr hbel hb2
      have hel := updO_new (p := es[k].1.2.1) (q := es[k].1.2.2) (x := es[k].2) hg hblk (by unfold maxLen; omega)
      have hfill := hown2.fill (w' := (((w2.setCell ⟨w.heap.size, k * 4, none⟩ (.slice (some ⟨g, 0, none⟩) es[k].1.1.length es[k].1.1.length)).setCell ⟨w.heap.size, k * 4 + 1, none⟩ (.int .i64 es[k].1.2.1)).setCell ⟨w.heap.size, k * 4 + 2, none⟩ (.int .i64 es[k].1.2.2)).setCell ⟨w.heap.size, k * 4 + 3, none⟩ (.int .i64 es[k].2)) (U := news w w2) updO (by rw [hkl]; exact hlt) hel (fun q h1 h2 => by have := h1.1; have := h2.2; omega) (by rw [hkl]; rfl) (fun q h => by
        have := hbel.size
        have := hb2.size
        rcases h with h | h
        · exact ⟨h.1, by have := h.2; omega⟩
        · exact ⟨by have := h.1; omega, h.2⟩) (fun q h => h.2)
      rw [show es.take k ++ [((es[k].1.1, (es[k].1.2.1, es[k].1.2.2)), es[k].2)] = es.take (k + 1) by rw [List.take_succ_eq_append_getElem hlt]] at hfill
      have HS := Lib.hid hfill
      have HB := Lib.hid hB
      clear hfill hB hown2 hrow2 hel hkl hbel q0 q1 q2 q3 hrow hg hblk hb2
      go_wp2
      go_roundw
      case rel => exact ⟨k + 1, by omega, by go_num, ⟨_, _, HS.out.mono (fun q h => ⟨h.1, by simpa [World.setCell] using h.2⟩) (fun q h => h.2)⟩, bset (bset (bset (bset HB.out (Nat.le_refl _) _) (Nat.le_refl _) _) (Nat.le_refl _) _) (Nat.le_refl _) _⟩
      case measure => simp [intOf]; omega
    · obtain rfl : k = es.length := by omega
      rw [List.take_length] at hown
      have HO := Lib.hid hown
      have HB := Lib.hid hbel
      clear hown hbel hmk
      go_wp2
      go_ret
      exact ⟨rfl, ⟨_, _, HO.out⟩, HB.out⟩

def lenSumU (es : List Upd) : Nat := (es.map fun e => e.1.1.length).sum
theorem lenSumU_step {es : List Upd} {k : Nat} (h : k < es.length) : lenSumU (es.take (k + 1)) = lenSumU (es.take k) + es[k].1.1.length := by
  rw [List.take_succ_eq_append_getElem h]
  simp only [lenSumU, List.map_append, List.sum_append, List.map_cons, List.map_nil, List.sum_cons, List.sum_nil, Nat.add_zero]
theorem lenSumU_le (es : List Upd) (k : Nat) : lenSumU (es.take k) ≤ lenSumU es := by
  have : lenSumU es = lenSumU (es.take k) + lenSumU (es.drop k) := by
    rw [lenSumU, lenSumU, lenSumU, ← List.sum_append, ← List.map_append, List.take_append_drop]
  omega
theorem szUpdate_any (RA : Option Addr) (rc n : Nat) (p q x left : Int) (w : World) (h0 : 0 ≤ left) (h1 : left ≤ 1048576) (hn : n ≤ maxLen) :
    Calls Try.prog 92 #[.agg #[.slice RA n rc, .int .i64 p, .int .i64 q, .int .i64 x], .int .i64 left] w fun e w' => e = .returned (.int .i64 (if left < n then -1 else left - n)) ∧ Below w.heap.size w w' := by
  unfold maxLen at hn
  by_cases h : left < n
  · have h' : left - n < 0 := by omega
    go_enter Try.func92, Try.ntmps92
    go_wp2
    go_ret
    exact ⟨ret_int (by simp [h]), bal (Below.refl _ _) _⟩
  · have h' : 0 ≤ left - n := by omega
    go_enter Try.func92, Try.ntmps92
    go_wp2
    go_ret
    exact ⟨ret_int (by simp [h]), bal (Below.refl _ _) _⟩
/-- The measure of a list of updates; what is left behind it. -/
def updSz (es : List Upd) : Int := es.length + lenSumU es
def updLeft (left : Int) (es : List Upd) : Int := if left < updSz es then -1 else left - updSz es
set_option maxHeartbeats 800000 in
theorem szUpdateS_any (A : Option Addr) (c : Nat) (es : List Upd) (left : Int) (w : World) (hx : UpdsAt w A es) (h0 : 0 ≤ left) (h1 : left ≤ 1048576) (hn : es.length ≤ maxLen) :
    Calls Try.prog 38 #[.slice A es.length c, .int .i64 left] w fun e w' => e = .returned (.int .i64 (updLeft left es)) ∧ Below w.heap.size w w' := by
  unfold maxLen at hn
  by_cases h : left < es.length
  · have h' : left - es.length < 0 := by omega
    have hr : left < updSz es := by unfold updSz; omega
    have HR := Lib.hid hr
    clear hr
    go_enter Try.func38, Try.ntmps38
    go_wp2
    go_ret
    exact ⟨ret_int (by rw [updLeft, if_pos HR.out]), Below.refl _ _⟩
  have h' : 0 ≤ left - es.length := by omega
  go_enter Try.func38, Try.ntmps38
  go_wp2
  go_loopw [1, 5] (fun q i wr => ∃ k : Nat, k ≤ es.length ∧ i = .int .i64 k ∧ q = .int .i64 (left - es.length - lenSumU (es.take k)) ∧ es.length + lenSumU (es.take k) ≤ left ∧ Below w.heap.size w wr) (fun _ i _ => es.length - (intOf i).toNat)
  case atStart => exact ⟨0, by omega, rfl, by simp [lenSumU], by simp [lenSumU]; omega, Below.refl _ _⟩
  case round =>
    obtain ⟨k, hk, rfl, rfl, hq, hbel⟩ := hrel
    by_cases hlt : k < es.length
    · obtain ⟨b, off, RA, rc, rfl, hbl, hc0, hc1, hc2, hc3, hml, -⟩ := hx.get k hlt
      have q0 := (hbel.cell (p := ⟨b, off + k * 4, none⟩) hbl).trans hc0
      have q1 := (hbel.cell (p := ⟨b, off + k * 4 + 1, none⟩) hbl).trans hc1
      have q2 := (hbel.cell (p := ⟨b, off + k * 4 + 2, none⟩) hbl).trans hc2
      have q3 := (hbel.cell (p := ⟨b, off + k * 4 + 3, none⟩) hbl).trans hc3
      have HT := Lib.hid (lenSumU_step hlt)
      have HL := Lib.hid (lenSumU_le es (k + 1))
      have hql : 0 ≤ left - es.length - lenSumU (es.take k) := by omega
      by_cases hs : left - es.length - lenSumU (es.take k) < es[k].1.1.length
      · have hr : left < updSz es := by have := HT.out; have := HL.out; unfold updSz; omega
        have HR := Lib.hid hr
        clear hr hc0 hc1 hc2 hc3
        go_wp2_with (go_at_call 92; refine (szUpdate_any _ _ _ _ _ _ _ _ hql (by omega) hml).mono ?_; rintro e w1 ⟨rfl, hb1⟩; rw [if_pos hs])
        go_ret
        exact ⟨ret_int (by rw [updLeft, if_pos HR.out]), btr hbel hb1⟩
      · clear hc0 hc1 hc2 hc3
        go_wp2_with (go_at_call 92; refine (szUpdate_any _ _ _ _ _ _ _ _ hql (by omega) hml).mono ?_; rintro e w1 ⟨rfl, hb1⟩; rw [if_neg hs]; have hge : 0 ≤ left - es.length - lenSumU (es.take k) - es[k].1.1.length := by omega)
        go_roundw
        case rel => exact ⟨k + 1, by omega, by go_num, by rw [HT.out]; go_num, by rw [HT.out]; omega, btr hbel hb1⟩
        case measure => simp [intOf]; omega
    · obtain rfl : k = es.length := by omega
      rw [List.take_length] at hq
      have hr : updSz es ≤ left := by unfold updSz; omega
      have HR := Lib.hid hr
      have HT := Lib.hid (List.take_length (l := es))
      clear hr
      go_wp2
      go_ret
      exact ⟨ret_int (by rw [updLeft, if_neg (Int.not_lt.2 HR.out), HT.out]; unfold updSz; omega), hbel⟩

def eqU (x y : Upd) : Bool := decide (x = y)
theorem eqUpdate_any (A B : Option Addr) (c d : Nat) (x y : Upd) (w : World) (hx : IntsAt w A x.1.1) (hy : IntsAt w B y.1.1) (hn : x.1.1.length ≤ 4194304) (hm : y.1.1.length ≤ 4194304) :
    Calls Try.prog 100 #[.agg #[.slice A x.1.1.length c, .int .i64 x.1.2.1, .int .i64 x.1.2.2, .int .i64 x.2], .agg #[.slice B y.1.1.length d, .int .i64 y.1.2.1, .int .i64 y.1.2.2, .int .i64 y.2]] w fun e w' => e = .returned (.bool (eqU x y)) ∧ Below w.heap.size w w' := by
  obtain ⟨⟨xs, p, q⟩, u⟩ := x
  obtain ⟨⟨ys, r, s⟩, v⟩ := y
  simp only at hx hy hn hm ⊢
  have hb0 : Below w.heap.size w ((w.alloc (.cells #[.slice A xs.length c, .int .i64 p, .int .i64 q, .int .i64 u] 102)).alloc (.cells #[.slice B ys.length d, .int .i64 r, .int .i64 s, .int .i64 v] 102)) := bal (bal (Below.refl _ _) _) _
  by_cases h1 : xs = ys
  · by_cases h3 : p = r ∧ q = s
    · have e1 : decide (xs = ys) = true := by simp [h1]
      have e3 : eqB p q r s = true := by simp [eqB, h3]
      by_cases h2 : u = v
      · have e2 : (u != v) = false := by simp [h2]
        have hr : eqU ((xs, p, q), u) ((ys, r, s), v) = true := by simp [eqU, h1, h2, h3]
        have HR := Lib.hid hr
        clear hr h1 h2 h3
        go_enter Try.func100, Try.ntmps100
        go_wp2_with fail
        refine (eqIntS_any _ _ _ _ _ _ _ (hx.below hb0) (hy.below hb0) (by omega) (by omega)).mono ?_
        rintro e w1 ⟨rfl, hb⟩
        obtain ⟨hc, hf⟩ := bcell hb
        have hB := btr hb0 hb
        have hz : w.heap.size + 2 ≤ w1.heap.size := by have := hb.size; simpa using this
        clear hb
        go_wp2_with fail
        refine (eqTime_any _ _ _ _ _).mono ?_
        rintro e w2 ⟨rfl, hb2⟩
        obtain ⟨hc2, hf2⟩ := bcell hb2
        have t0 : w2.cell? ⟨w.heap.size, 3, none⟩ = some (.int .i64 u) := by rw [hc2 _ _ (by omega), hc _ _ (by simp; omega)]; simp
        have t1 : w2.cell? ⟨w.heap.size + 1, 3, none⟩ = some (.int .i64 v) := by rw [hc2 _ _ (by omega), hc _ _ (by simp)]; simp
        have hB2 := btr hB hb2
        clear hc hc2 hf hf2 hb2
        go_wp2
        go_ret
        exact ⟨ret_bool HR.out.symm, hB2⟩
      · have e2 : (u != v) = true := by simp [h2]
        have hr : eqU ((xs, p, q), u) ((ys, r, s), v) = false := by simp [eqU, h2]
        have HR := Lib.hid hr
        clear hr h1 h2 h3
        go_enter Try.func100, Try.ntmps100
        go_wp2_with fail
        refine (eqIntS_any _ _ _ _ _ _ _ (hx.below hb0) (hy.below hb0) (by omega) (by omega)).mono ?_
        rintro e w1 ⟨rfl, hb⟩
        obtain ⟨hc, hf⟩ := bcell hb
        have hB := btr hb0 hb
        have hz : w.heap.size + 2 ≤ w1.heap.size := by have := hb.size; simpa using this
        clear hb
        go_wp2_with fail
        refine (eqTime_any _ _ _ _ _).mono ?_
        rintro e w2 ⟨rfl, hb2⟩
        obtain ⟨hc2, hf2⟩ := bcell hb2
        have t0 : w2.cell? ⟨w.heap.size, 3, none⟩ = some (.int .i64 u) := by rw [hc2 _ _ (by omega), hc _ _ (by simp; omega)]; simp
        have t1 : w2.cell? ⟨w.heap.size + 1, 3, none⟩ = some (.int .i64 v) := by rw [hc2 _ _ (by omega), hc _ _ (by simp)]; simp
        have hB2 := btr hB hb2
        clear hc hc2 hf hf2 hb2
        go_wp2
        go_ret
        exact ⟨ret_bool HR.out.symm, hB2⟩
    · have e1 : decide (xs = ys) = true := by simp [h1]
      have e3 : eqB p q r s = false := by simp [eqB]; intro a b; exact h3 ⟨a, b⟩
      have hr : eqU ((xs, p, q), u) ((ys, r, s), v) = false := by simp [eqU]; intro _ a b; exact absurd ⟨a, b⟩ h3
      have HR := Lib.hid hr
      clear hr h1 h3
      go_enter Try.func100, Try.ntmps100
      go_wp2_with fail
      refine (eqIntS_any _ _ _ _ _ _ _ (hx.below hb0) (hy.below hb0) (by omega) (by omega)).mono ?_
      rintro e w1 ⟨rfl, hb⟩
      obtain ⟨hc, hf⟩ := bcell hb
      have hB := btr hb0 hb
      go_wp2_with fail
      refine (eqTime_any _ _ _ _ _).mono ?_
      rintro e w2 ⟨rfl, hb2⟩
      go_wp2
      go_ret
      exact ⟨ret_bool HR.out.symm, btr hB hb2⟩
  · have e1 : decide (xs = ys) = false := by simp [h1]
    have hr : eqU ((xs, p, q), u) ((ys, r, s), v) = false := by simp [eqU, h1]
    have HR := Lib.hid hr
    clear hr h1
    go_enter Try.func100, Try.ntmps100
    go_wp2_with fail
    refine (eqIntS_any _ _ _ _ _ _ _ (hx.below hb0) (hy.below hb0) (by omega) (by omega)).mono ?_
    rintro e w1 ⟨rfl, hb⟩
    have hB := btr hb0 hb
    go_wp2
    go_ret
    exact ⟨ret_bool HR.out.symm, hB⟩
end Go.Proofs.Ytjlpkfcdkmcjnaa
