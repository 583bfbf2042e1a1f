/- HELPER, no statement of the seat: several texts in one file. -/
import Derived.Test.YthefakiobpijiaaZba
import Derived.Test.YthefakiobpijiaaTimeBase
/- HELPER, no statement of the seat: updates and lists of updates: what they read as, and contracts of the functions that copy, measure and compare them. -/
namespace Go.Proofs.Ythefakiobpijiaa
open Go.RowKit Go.Sort
set_option linter.unusedSimpArgs false
set_option linter.unusedVariables false

abbrev Upd := (List Int × (Int × Int)) × Int
def UpdR : Rd Upd := PairR (PairR RowR (PairR IntR IntR)) IntR
def UpdO : Ow Upd := PairO (PairO RowO (PairO IntO IntO)) IntO
theorem updR : ROk UpdR 4 := pairR (pairR rowR (pairR intR intR)) intR
theorem updO : OOk UpdO UpdR 4 := pairO (pairO rowO (pairO intO intO)) intO
theorem UpdR.form {w : World} {cs : List Value} {e : Upd} (h : UpdR w cs e) : ∃ A c, cs = [.slice A e.1.1.length c, .int .i64 e.1.2.1, .int .i64 e.1.2.2, .int .i64 e.2] ∧ e.1.1.length ≤ maxLen ∧ IntsAt w A e.1.1 := by
  obtain ⟨c1, c2, rfl, ⟨d1, d2, rfl, ⟨A, c, rfl, l, h⟩, ⟨f1, f2, rfl, h1, h2⟩⟩, h3⟩ := h
  rw [h1, h2, h3]
  exact ⟨A, c, rfl, l, h⟩
theorem UpdO.mk {w : World} {S : Fp} {A : Option Addr} {c : Nat} {xs : List Int} {p q x : Int} (hl : ∀ k, S k → k < w.heap.size) (hS : ∀ k, blk A = some k → S k) (h : IntsOwn w 0 A c xs) : UpdO w S [.slice A xs.length c, .int .i64 p, .int .i64 q, .int .i64 x] ((xs, (p, q)), x) :=
  ⟨hl, [_, _, _], [_], S, fun _ => False, rfl, fun _ hk => hk, fun _ hk => hk.elim, fun _ _ hk => hk, ⟨hl, [_], [_, _], S, fun _ => False, rfl, fun _ hk => hk, fun _ hk => hk.elim, fun _ _ hk => hk, ⟨hl, A, c, rfl, hS, h⟩, ⟨fun _ hk => hk.elim, [_], [_], fun _ => False, fun _ => False, rfl, fun _ hk => hk, fun _ hk => hk, fun _ hk _ => hk, ⟨rfl, fun _ hk => hk.elim⟩, ⟨rfl, fun _ hk => hk.elim⟩⟩⟩, rfl, fun _ hk => hk.elim⟩
abbrev UpdsAt (w : World) (A : Option Addr) (es : List Upd) : Prop := SlAt UpdR 4 w A es
abbrev UpdsOw (w : World) (S : Fp) (A : Option Addr) (c : Nat) (es : List Upd) : Prop := SlOw UpdO 4 119 w S A c es
theorem UpdsAt.get {w : World} {A : Option Addr} {es : List Upd} (h : UpdsAt w A es) (j : Nat) (hj : j < es.length) :
    ∃ b off RA rc, A = some ⟨b, off, none⟩ ∧ b < w.heap.size ∧ w.cell? ⟨b, off + j * 4, none⟩ = some (.slice RA es[j].1.1.length rc) ∧ w.cell? ⟨b, off + j * 4 + 1, none⟩ = some (.int .i64 es[j].1.2.1) ∧ w.cell? ⟨b, off + j * 4 + 2, none⟩ = some (.int .i64 es[j].1.2.2) ∧ w.cell? ⟨b, off + j * 4 + 3, none⟩ = some (.int .i64 es[j].2) ∧ es[j].1.1.length ≤ maxLen ∧ IntsAt w RA es[j].1.1 := by
  obtain ⟨b, off, rfl, hlt, hc⟩ := h (by omega)
  obtain ⟨cs, hl, hcell, hr⟩ := hc j hj
  obtain ⟨RA, rc, rfl, l, hi⟩ := hr.form
  exact ⟨b, off, RA, rc, rfl, hlt, by simpa using hcell 0 (by omega), by simpa using hcell 1 (by omega), by simpa using hcell 2 (by omega), by simpa using hcell 3 (by omega), l, hi⟩
def rowsU (es : List Upd) (n : Nat) : Prop := ∀ e ∈ es, e.1.1.length ≤ n
theorem rowsU.get {es : List Upd} {n : Nat} (h : rowsU es n) {j : Nat} (hj : j < es.length) : es[j].1.1.length ≤ n := h _ (List.getElem_mem hj)
theorem Try.infoUpd : (Try.prog.info? 119).map (fun i => (i.zero, i.size, i.bytes)) = some (some (.agg #[.slice none 0 0, .int .i64 0, .int .i64 0, .int .i64 0]), 4, 48) := by kernel_rfl

set_option maxHeartbeats 800000 in
theorem toUpdate_any (RA : Option Addr) (rc : Nat) (x : Upd) (w : World) (hx : IntsAt w RA x.1.1) (hn : x.1.1.length * 8 ≤ 140737488351232) :
    Calls Try.prog 84 #[.agg #[.slice RA x.1.1.length rc, .int .i64 x.1.2.1, .int .i64 x.1.2.2, .int .i64 x.2]] w fun e w' => ∃ g, e = .returned (.agg #[.slice (some ⟨g, 0, none⟩) x.1.1.length x.1.1.length, .int .i64 x.1.2.1, .int .i64 x.1.2.2, .int .i64 x.2]) ∧ w.heap.size ≤ g ∧ Blk w' g 3 (ints x.1.1) ∧ Below w.heap.size w w' := by
  obtain ⟨⟨xs, p, q⟩, y⟩ := x
  simp only at hx hn ⊢
  go_enter Try.func84, Try.ntmps84
  go_wp2_with fail
  have hb0 : Below w.heap.size w (((w.alloc (.cells #[.slice RA xs.length rc, .int .i64 p, .int .i64 q, .int .i64 y] 111)).alloc (.cells #[.slice none 0 0, .int .i64 0, .int .i64 0, .int .i64 0] 119)).alloc (.cells #[.slice none 0 0, .int .i64 0, .int .i64 0, .int .i64 0] 119)) := bal (bal (bal (Below.refl _ _) _) _) _
  refine (toIntS_any _ _ _ _ (hx.below hb0) hn).mono ?_
  rintro e w1 ⟨rfl, hk, hb⟩
  obtain ⟨hc, hf⟩ := bcell hb
  have hz : w.heap.size + 3 ≤ w1.heap.size := by have := hb.size; simpa using this
  have hb1 := btr hb0 hb
  have k0 : Blk w1 w.heap.size 111 #[.slice RA xs.length rc, .int .i64 p, .int .i64 q, .int .i64 y] := Blk.below (((Blk.newAt rfl).alloc _).alloc _) hb
  have k1 : Blk w1 (w.heap.size + 1) 119 #[.slice none 0 0, .int .i64 0, .int .i64 0, .int .i64 0] := Blk.below ((Blk.newAt (by simp)).alloc _) hb
  have k2 : Blk w1 (w.heap.size + 2) 119 #[.slice none 0 0, .int .i64 0, .int .i64 0, .int .i64 0] := Blk.below (Blk.newAt (by simp)) hb
  have k3 : Blk w1 (w.heap.size + 3) 3 (ints xs) := by simpa using hk
  have K0 := Lib.hid k0
  have K1 := Lib.hid k1
  have K2 := Lib.hid k2
  have K3 := Lib.hid k3
  have HB := Lib.hid hb1
  clear k0 k1 k2 k3 hk hb1 hb hb0
  go_wp2_with fail
  refine (toTime_any _ _ _).mono ?_
  rintro e w2 ⟨rfl, b2⟩
  have j0 := (K0.out.far (p := ⟨w.heap.size + 1 + 1, 0, none⟩) (by simp; omega) (.slice (some ⟨w.heap.size + 1 + 1 + 1, 0, none⟩) xs.length xs.length)).below b2
  have j1 := (K1.out.far (p := ⟨w.heap.size + 1 + 1, 0, none⟩) (by simp) (.slice (some ⟨w.heap.size + 1 + 1 + 1, 0, none⟩) xs.length xs.length)).below b2
  have j2 := (Blk.set_ (g := w.heap.size + 1 + 1) K2.out 0 (.slice (some ⟨w.heap.size + 1 + 1 + 1, 0, none⟩) xs.length xs.length)).below b2
  have j3 := (K3.out.far (p := ⟨w.heap.size + 1 + 1, 0, none⟩) (by simp) (.slice (some ⟨w.heap.size + 1 + 1 + 1, 0, none⟩) xs.length xs.length)).below b2
  have jB := btr (bset (p := ⟨w.heap.size + 1 + 1, 0, none⟩) HB.out (by simp; omega) (.slice (some ⟨w.heap.size + 1 + 1 + 1, 0, none⟩) xs.length xs.length)) b2
  have a3 := j0.cell 3
  have u0 := j2.cell 0
  have u1 := j2.cell 1
  have u2 := j2.cell 2
  have u3 := j2.cell 3
  have v0 := j1.cell 0
  have v1 := j1.cell 1
  have v2 := j1.cell 2
  have v3 := j1.cell 3
  have f1 := j2.frozen 1
  have f2 := j2.frozen 2
  have f3 := j2.frozen 3
  have h0 := j1.frozen 0
  have h1 := j1.frozen 1
  have h2 := j1.frozen 2
  have h3 := j1.frozen 3
  simp at a3 u0 u1 u2 u3 v0 v1 v2 v3
  have J3 := Lib.hid j3
  have JB := Lib.hid jB
  clear j0 j1 j2 j3 jB b2 hc hf
  go_wp2_with fail
  refine bodyPost_ret (v := .agg #[.slice (some ⟨w.heap.size + 3, 0, none⟩) xs.length xs.length, .int .i64 p, .int .i64 q, .int .i64 y]) (by simp [results, Try.results84, go_sem, v0, v1, v2, v3]) rfl ⟨_, rfl, by omega, ?_, ?_⟩
  · exact Blk.far (Blk.far (Blk.far (Blk.far (Blk.far (Blk.far (Blk.far (J3.out) (by simp) _) (by simp) _) (by simp) _) (by simp) _) (by simp) _) (by simp) _) (by simp) _
  · exact bset (bset (bset (bset (bset (bset (bset (JB.out) (by simp; try omega) _) (by simp; try omega) _) (by simp; try omega) _) (by simp; try omega) _) (by simp; try omega) _) (by simp; try omega) _) (by simp; try omega) _
end Go.Proofs.Ythefakiobpijiaa

/- HELPER, no statement of the seat: contracts of the functions that copy, measure and compare lists of updates. -/
namespace Go.Proofs.Ythefakiobpijiaa
open Go.RowKit Go.Sort
set_option linter.unusedSimpArgs false
set_option linter.unusedVariables false

theorem updO_new {w w' : World} {g : Nat} {xs : List Int} (hg : w.heap.size ≤ g) (hk : Blk w' g 3 (ints xs)) (hn : xs.length ≤ maxLen) (p q x : Int) : UpdO w' (news w w') [.slice (some ⟨g, 0, none⟩) xs.length xs.length, .int .i64 p, .int .i64 q, .int .i64 x] ((xs, (p, q)), x) :=
  UpdO.mk (fun k hk => hk.2) (fun k e => by simp [blk] at e; subst e; exact ⟨hg, hk.lt⟩) (IntsOwn.ofBlk hk (Nat.zero_le _) hn)

set_option maxHeartbeats 1600000 in
theorem toUpdateS_any (A : Option Addr) (c : Nat) (es : List Upd) (w : World) (hx : UpdsAt w A es) (hn : es.length ≤ 2097152) (hr : rowsU es 4194304) :
    Calls Try.prog 20 #[.slice A es.length c] w fun e w' => e = .returned (.slice (some ⟨w.heap.size, 0, none⟩) es.length es.length) ∧ UpdsOw w' (news w w') (some ⟨w.heap.size, 0, none⟩) es.length es ∧ Below w.heap.size w w' := by
  obtain ⟨i0, hi, hz0, hz1, hz2⟩ := info_parts Try.infoUpd
  have hmk := run_make (P := Try.prog) w 24 119 i0 (.agg #[.slice none 0 0, .int .i64 0, .int .i64 0, .int .i64 0]) Try.underlying24 hi hz0 .i64 .i64 es.length es.length (by omega) (by omega) (by rw [hz2]; omega) (by omega)
  simp only [Int.toNat_natCast, hz1] at hmk
  have hcs : ∀ n, (madeCells (Value.agg #[.slice none 0 0, .int .i64 0, .int .i64 0, .int .i64 0]).cells (n * 4)).size = n * 4 := fun n => by simp [madeCells]
  generalize madeCells (Value.agg #[.slice none 0 0, .int .i64 0, .int .i64 0, .int .i64 0]).cells = mc at hmk hcs
  go_enter Try.func20, Try.ntmps20
  go_wp2
  go_loopw [4] (fun i wr => ∃ k : Nat, k ≤ es.length ∧ i = .int .i64 k ∧ UpdsOw wr (news w wr) (some ⟨w.heap.size, 0, none⟩) es.length (es.take k) ∧ Below w.heap.size w wr) (fun i _ => es.length - (intOf i).toNat)
  case atStart => exact ⟨0, by omega, rfl, ⟨_, _, SlF.made UpdO 4 119 w (mc (es.length * 4)) es.length (by unfold maxLen; omega) (hcs _) ⟨Nat.le_refl _, by simp⟩ (fun k hk => by have := hk.2; simpa using this)⟩, bal (Below.refl _ _) _⟩
  case round =>
    obtain ⟨k, hk, rfl, ⟨css, F, hown⟩, hbel⟩ := hrel
    by_cases hlt : k < es.length
    · obtain ⟨b, off, RA, rc, rfl, hbl, hc0, hc1, hc2, hc3, -, hrow⟩ := hx.get k hlt
      have q0 := (hbel.cell (p := ⟨b, off + k * 4, none⟩) hbl).trans hc0
      have q1 := (hbel.cell (p := ⟨b, off + k * 4 + 1, none⟩) hbl).trans hc1
      have q2 := (hbel.cell (p := ⟨b, off + k * 4 + 2, none⟩) hbl).trans hc2
      have q3 := (hbel.cell (p := ⟨b, off + k * 4 + 3, none⟩) hbl).trans hc3
      have hrl := hr.get hlt
      have HF := Lib.hid hown
      clear hmk hc0 hc1 hc2 hc3 hown
      go_wp2_with fail
      refine (toUpdate_any _ _ es[k] _ (hrow.below hbel) (by omega)).mono ?_
      rintro e w2 ⟨g, rfl, hg, hblk, hb2⟩
      have hown2 := HF.out.loc updO (fun k hk => hb2.block k hk.2)
      have hkl : (es.take k).length = k := by simp; omega
      have hrow2 := hown2.row
      rw [hkl] at hrow2
      obtain ⟨u0, hu0⟩ := ownsRow_room hrow2 (k * 4) (by omega)
      obtain ⟨u1, hu1⟩ := ownsRow_room hrow2 (k * 4 + 1) (by omega)
      obtain ⟨u2, hu2⟩ := ownsRow_room hrow2 (k * 4 + 2) (by omega)
      obtain ⟨u3, hu3⟩ := ownsRow_room hrow2 (k * 4 + 3) (by omega)
      have f0 := World.ownsRow.frozenAt hrow2 (k * 4)
      have f1 := World.ownsRow.frozenAt hrow2 (k * 4 + 1)
      have f2 := World.ownsRow.frozenAt hrow2 (k * 4 + 2)
      have f3 := World.ownsRow.frozenAt hrow2 (k * 4 + 3)
      have hB := btr hbel hb2
      have hel := updO_new (p := es[k].1.2.1) (q := es[k].1.2.2) (x := es[k].2) hg hblk (by unfold maxLen; omega)
      have hfill := hown2.fill (w' := (((w2.setCell ⟨w.heap.size, k * 4, none⟩ (.slice (some ⟨g, 0, none⟩) es[k].1.1.length es[k].1.1.length)).setCell ⟨w.heap.size, k * 4 + 1, none⟩ (.int .i64 es[k].1.2.1)).setCell ⟨w.heap.size, k * 4 + 2, none⟩ (.int .i64 es[k].1.2.2)).setCell ⟨w.heap.size, k * 4 + 3, none⟩ (.int .i64 es[k].2)) (U := news w w2) updO (by rw [hkl]; exact hlt) hel (fun q h1 h2 => by have := h1.1; have := h2.2; omega) (by rw [hkl]; rfl) (fun q h => by
        have := hbel.size
        have := hb2.size
        rcases h with h | h
        · exact ⟨h.1, by have := h.2; omega⟩
        · exact ⟨by have := h.1; omega, h.2⟩) (fun q h => h.2)
      rw [show es.take k ++ [((es[k].1.1, (es[k].1.2.1, es[k].1.2.2)), es[k].2)] = es.take (k + 1) by rw [List.take_succ_eq_append_getElem hlt]] at hfill
      have HS := Lib.hid hfill
      have HB := Lib.hid hB
      clear hfill hB hown2 hrow2 hel hkl hbel q0 q1 q2 q3 hrow hg hblk hb2
      go_wp2
      go_roundw
      case rel => exact ⟨k + 1, by omega, by go_num, ⟨_, _, HS.out.mono (fun q h => ⟨h.1, by simpa [World.setCell] using h.2⟩) (fun q h => h.2)⟩, bset (bset (bset (bset HB.out (Nat.le_refl _) _) (Nat.le_refl _) _) (Nat.le_refl _) _) (Nat.le_refl _) _⟩
      case measure => simp [intOf]; omega
    · obtain rfl : k = es.length := by omega
      rw [List.take_length] at hown
      have HO := Lib.hid hown
      have HB := Lib.hid hbel
      clear hown hbel hmk
      go_wp2
      go_ret
      exact ⟨rfl, ⟨_, _, HO.out⟩, HB.out⟩

def lenSumU (es : List Upd) : Nat := (es.map fun e => e.1.1.length).sum
theorem lenSumU_step {es : List Upd} {k : Nat} (h : k < es.length) : lenSumU (es.take (k + 1)) = lenSumU (es.take k) + es[k].1.1.length := by
  rw [List.take_succ_eq_append_getElem h]
  simp only [lenSumU, List.map_append, List.sum_append, List.map_cons, List.map_nil, List.sum_cons, List.sum_nil, Nat.add_zero]
theorem lenSumU_le (es : List Upd) (k : Nat) : lenSumU (es.take k) ≤ lenSumU es := by
  have : lenSumU es = lenSumU (es.take k) + lenSumU (es.drop k) := by
    rw [lenSumU, lenSumU, lenSumU, ← List.sum_append, ← List.map_append, List.take_append_drop]
  omega
theorem szUpdate_any (RA : Option Addr) (rc n : Nat) (p q x left : Int) (w : World) (h0 : 0 ≤ left) (h1 : left ≤ 1048576) (hn : n ≤ maxLen) :
    Calls Try.prog 79 #[.agg #[.slice RA n rc, .int .i64 p, .int .i64 q, .int .i64 x], .int .i64 left] w fun e w' => e = .returned (.int .i64 (if left < n then -1 else left - n)) ∧ Below w.heap.size w w' := by
  unfold maxLen at hn
  by_cases h : left < n
  · have h' : left - n < 0 := by omega
    go_enter Try.func79, Try.ntmps79
    go_wp2
    go_ret
    exact ⟨ret_int (by simp [h]), bal (Below.refl _ _) _⟩
  · have h' : 0 ≤ left - n := by omega
    go_enter Try.func79, Try.ntmps79
    go_wp2
    go_ret
    exact ⟨ret_int (by simp [h]), bal (Below.refl _ _) _⟩
/-- The measure of a list of updates; what is left behind it. -/
def updSz (es : List Upd) : Int := es.length + lenSumU es
def updLeft (left : Int) (es : List Upd) : Int := if left < updSz es then -1 else left - updSz es
set_option maxHeartbeats 800000 in
theorem szUpdateS_any (A : Option Addr) (c : Nat) (es : List Upd) (left : Int) (w : World) (hx : UpdsAt w A es) (h0 : 0 ≤ left) (h1 : left ≤ 1048576) (hn : es.length ≤ maxLen) :
    Calls Try.prog 17 #[.slice A es.length c, .int .i64 left] w fun e w' => e = .returned (.int .i64 (updLeft left es)) ∧ Below w.heap.size w w' := by
  unfold maxLen at hn
  by_cases h : left < es.length
  · have h' : left - es.length < 0 := by omega
    have hr : left < updSz es := by unfold updSz; omega
    have HR := Lib.hid hr
    clear hr
    go_enter Try.func17, Try.ntmps17
    go_wp2
    go_ret
    exact ⟨ret_int (by rw [updLeft, if_pos HR.out]), Below.refl _ _⟩
  have h' : 0 ≤ left - es.length := by omega
  go_enter Try.func17, Try.ntmps17
  go_wp2
  go_loopw [1, 5] (fun q i wr => ∃ k : Nat, k ≤ es.length ∧ i = .int .i64 k ∧ q = .int .i64 (left - es.length - lenSumU (es.take k)) ∧ es.length + lenSumU (es.take k) ≤ left ∧ Below w.heap.size w wr) (fun _ i _ => es.length - (intOf i).toNat)
  case atStart => exact ⟨0, by omega, rfl, by simp [lenSumU], by simp [lenSumU]; omega, Below.refl _ _⟩
  case round =>
    obtain ⟨k, hk, rfl, rfl, hq, hbel⟩ := hrel
    by_cases hlt : k < es.length
    · obtain ⟨b, off, RA, rc, rfl, hbl, hc0, hc1, hc2, hc3, hml, -⟩ := hx.get k hlt
      have q0 := (hbel.cell (p := ⟨b, off + k * 4, none⟩) hbl).trans hc0
      have q1 := (hbel.cell (p := ⟨b, off + k * 4 + 1, none⟩) hbl).trans hc1
      have q2 := (hbel.cell (p := ⟨b, off + k * 4 + 2, none⟩) hbl).trans hc2
      have q3 := (hbel.cell (p := ⟨b, off + k * 4 + 3, none⟩) hbl).trans hc3
      have HT := Lib.hid (lenSumU_step hlt)
      have HL := Lib.hid (lenSumU_le es (k + 1))
      have hql : 0 ≤ left - es.length - lenSumU (es.take k) := by omega
      by_cases hs : left - es.length - lenSumU (es.take k) < es[k].1.1.length
      · have hr : left < updSz es := by have := HT.out; have := HL.out; unfold updSz; omega
        have HR := Lib.hid hr
        clear hr hc0 hc1 hc2 hc3
        go_wp2_with (go_at_call 79; refine (szUpdate_any _ _ _ _ _ _ _ _ hql (by omega) hml).mono ?_; rintro e w1 ⟨rfl, hb1⟩; rw [if_pos hs])
        go_ret
        exact ⟨ret_int (by rw [updLeft, if_pos HR.out]), btr hbel hb1⟩
      · clear hc0 hc1 hc2 hc3
        go_wp2_with (go_at_call 79; refine (szUpdate_any _ _ _ _ _ _ _ _ hql (by omega) hml).mono ?_; rintro e w1 ⟨rfl, hb1⟩; rw [if_neg hs]; have hge : 0 ≤ left - es.length - lenSumU (es.take k) - es[k].1.1.length := by omega)
        go_roundw
        case rel => exact ⟨k + 1, by omega, by go_num, by rw [HT.out]; go_num, by rw [HT.out]; omega, btr hbel hb1⟩
        case measure => simp [intOf]; omega
    · obtain rfl : k = es.length := by omega
      rw [List.take_length] at hq
      have hr : updSz es ≤ left := by unfold updSz; omega
      have HR := Lib.hid hr
      have HT := Lib.hid (List.take_length (l := es))
      clear hr
      go_wp2
      go_ret
      exact ⟨ret_int (by rw [updLeft, if_neg (Int.not_lt.2 HR.out), HT.out]; unfold updSz; omega), hbel⟩

def eqU (x y : Upd) : Bool := decide (x = y)
theorem eqUpdate_any (A B : Option Addr) (c d : Nat) (x y : Upd) (w : World) (hx : IntsAt w A x.1.1) (hy : IntsAt w B y.1.1) (hn : x.1.1.length ≤ 4194304) (hm : y.1.1.length ≤ 4194304) :
    Calls Try.prog 89 #[.agg #[.slice A x.1.1.length c, .int .i64 x.1.2.1, .int .i64 x.1.2.2, .int .i64 x.2], .agg #[.slice B y.1.1.length d, .int .i64 y.1.2.1, .int .i64 y.1.2.2, .int .i64 y.2]] w fun e w' => e = .returned (.bool (eqU x y)) ∧ Below w.heap.size w w' := by
  obtain ⟨⟨xs, p, q⟩, u⟩ := x
  obtain ⟨⟨ys, r, s⟩, v⟩ := y
  simp only at hx hy hn hm ⊢
  have hb0 : Below w.heap.size w ((w.alloc (.cells #[.slice A xs.length c, .int .i64 p, .int .i64 q, .int .i64 u] 119)).alloc (.cells #[.slice B ys.length d, .int .i64 r, .int .i64 s, .int .i64 v] 119)) := bal (bal (Below.refl _ _) _) _
  by_cases h1 : xs = ys
  · by_cases h3 : p = r ∧ q = s
    · have e1 : decide (xs = ys) = true := by simp [h1]
      have e3 : eqB p q r s = true := by simp [eqB, h3]
      by_cases h2 : u = v
      · have e2 : (u != v) = false := by simp [h2]
        have hr : eqU ((xs, p, q), u) ((ys, r, s), v) = true := by simp [eqU, h1, h2, h3]
        have HR := Lib.hid hr
        clear hr h1 h2 h3
        go_enter Try.func89, Try.ntmps89
        go_wp2_with fail
        refine (eqIntS_any _ _ _ _ _ _ _ (hx.below hb0) (hy.below hb0) (by omega) (by omega)).mono ?_
        rintro e w1 ⟨rfl, hb⟩
        obtain ⟨hc, hf⟩ := bcell hb
        have hB := btr hb0 hb
        have hz : w.heap.size + 2 ≤ w1.heap.size := by have := hb.size; simpa using this
        clear hb
        go_wp2_with fail
        refine (eqTime_any _ _ _ _ _).mono ?_
        rintro e w2 ⟨rfl, hb2⟩
        obtain ⟨hc2, hf2⟩ := bcell hb2
        have t0 : w2.cell? ⟨w.heap.size, 3, none⟩ = some (.int .i64 u) := by rw [hc2 _ _ (by omega), hc _ _ (by simp; omega)]; simp
        have t1 : w2.cell? ⟨w.heap.size + 1, 3, none⟩ = some (.int .i64 v) := by rw [hc2 _ _ (by omega), hc _ _ (by simp)]; simp
        have hB2 := btr hB hb2
        clear hc hc2 hf hf2 hb2
        go_wp2
        go_ret
        exact ⟨ret_bool HR.out.symm, hB2⟩
      · have e2 : (u != v) = true := by simp [h2]
        have hr : eqU ((xs, p, q), u) ((ys, r, s), v) = false := by simp [eqU, h2]
        have HR := Lib.hid hr
        clear hr h1 h2 h3
        go_enter Try.func89, Try.ntmps89
        go_wp2_with fail
        refine (eqIntS_any _ _ _ _ _ _ _ (hx.below hb0) (hy.below hb0) (by omega) (by omega)).mono ?_
        rintro e w1 ⟨rfl, hb⟩
        obtain ⟨hc, hf⟩ := bcell hb
        have hB := btr hb0 hb
        have hz : w.heap.size + 2 ≤ w1.heap.size := by have := hb.size; simpa using this
        clear hb
        go_wp2_with fail
        refine (eqTime_any _ _ _ _ _).mono ?_
        rintro e w2 ⟨rfl, hb2⟩
        obtain ⟨hc2, hf2⟩ := bcell hb2
        have t0 : w2.cell? ⟨w.heap.size, 3, none⟩ = some (.int .i64 u) := by rw [hc2 _ _ (by omega), hc _ _ (by simp; omega)]; simp
        have t1 : w2.cell? ⟨w.heap.size + 1, 3, none⟩ = some (.int .i64 v) := by rw [hc2 _ _ (by omega), hc _ _ (by simp)]; simp
        have hB2 := btr hB hb2
        clear hc hc2 hf hf2 hb2
        go_wp2
        go_ret
        exact ⟨ret_bool HR.out.symm, hB2⟩
    · have e1 : decide (xs = ys) = true := by simp [h1]
      have e3 : eqB p q r s = false := by simp [eqB]; intro a b; exact h3 ⟨a, b⟩
      have hr : eqU ((xs, p, q), u) ((ys, r, s), v) = false := by simp [eqU]; intro _ a b; exact absurd ⟨a, b⟩ h3
      have HR := Lib.hid hr
      clear hr h1 h3
      go_enter Try.func89, Try.ntmps89
      go_wp2_with fail
      refine (eqIntS_any _ _ _ _ _ _ _ (hx.below hb0) (hy.below hb0) (by omega) (by omega)).mono ?_
      rintro e w1 ⟨rfl, hb⟩
      obtain ⟨hc, hf⟩ := bcell hb
      have hB := btr hb0 hb
      go_wp2_with fail
      refine (eqTime_any _ _ _ _ _).mono ?_
      rintro e w2 ⟨rfl, hb2⟩
      go_wp2
      go_ret
      exact ⟨ret_bool HR.out.symm, btr hB hb2⟩
  · have e1 : decide (xs = ys) = false := by simp [h1]
    have hr : eqU ((xs, p, q), u) ((ys, r, s), v) = false := by simp [eqU, h1]
    have HR := Lib.hid hr
    clear hr h1
    go_enter Try.func89, Try.ntmps89
    go_wp2_with fail
    refine (eqIntS_any _ _ _ _ _ _ _ (hx.below hb0) (hy.below hb0) (by omega) (by omega)).mono ?_
    rintro e w1 ⟨rfl, hb⟩
    have hB := btr hb0 hb
    go_wp2
    go_ret
    exact ⟨ret_bool HR.out.symm, hB⟩
end Go.Proofs.Ythefakiobpijiaa

/- HELPER, no statement of the seat: the program's order of times and of updates. -/
namespace Go.Proofs.Ythefakiobpijiaa
open Go.RowKit Go.Sort
set_option linter.unusedSimpArgs false
set_option linter.unusedVariables false

/-- The first that is not zero. -/
def orV (a b : Int) : Int := if a = 0 then b else a
theorem orV_eq {a b : Int} : (if a = 0 then b else a) = orV a b := rfl
def cmpT (x y u v : Int) : Int := orV (cmpI x u) (cmpI y v)
/-- v is a new slice of these two numbers. -/
def PairV (base : Nat) (a b : Int) (v : Value) (w : World) : Prop := ∃ g, v = .slice (some ⟨g, 0, none⟩) 2 2 ∧ base ≤ g ∧ Blk w g 3 #[.int .i64 a, .int .i64 b]
theorem stable_pairV (base : Nat) (a b : Int) : Stable (PairV base a b) := fun _ _ _ hb ⟨g, e, h, k⟩ => ⟨g, e, h, k.below hb⟩
theorem cmpInt_below (a b : Int) (w : World) : Calls Try.prog 222 #[.int .i64 a, .int .i64 b] w fun e w' => e = .returned (.int .i64 (cmpI a b)) ∧ Below w.heap.size w w' :=
  (cmpInt_any a b w).mono fun e w' ⟨he, hw⟩ => ⟨he, hw ▸ Below.refl _ _⟩
set_option maxHeartbeats 400000 in
theorem cmpOr_any (g : Nat) (a b : Int) (w : World) (hk : Blk w g 3 #[.int .i64 a, .int .i64 b]) : Calls Try.prog 242 #[.slice (some ⟨g, 0, none⟩) 2 2] w fun e w' => e = .returned (.int .i64 (orV a b)) ∧ w = w' := by
  have c0 := hk.cell 0
  have c1 := hk.cell 1
  simp at c0 c1
  clear hk
  go_enter Try.func242, Try.ntmps242
  go_wp2
  go_loopw [5, 8] (fun _ i wr => ∃ k : Nat, k ≤ 2 ∧ i = .int .i64 k ∧ (1 ≤ k → a = 0) ∧ (2 ≤ k → b = 0) ∧ w = wr) (fun _ i _ => 2 - (intOf i).toNat)
  case atStart => exact ⟨0, by omega, rfl, by omega, by omega, rfl⟩
  case round =>
    obtain ⟨k, hk, rfl, h1, h2, rfl⟩ := hrel
    have HA := Lib.hid h1
    have HB := Lib.hid h2
    clear h1 h2
    obtain rfl | rfl | rfl : k = 0 ∨ k = 1 ∨ k = 2 := by omega
    · by_cases ha : a = 0
      · have hne : (a != 0) = false := by simp [ha]
        have H0 := Lib.hid ha
        clear ha
        go_wp2
        go_roundw
        case rel => exact ⟨1, by omega, by go_num, fun _ => H0.out, by omega, by trivial⟩
        case measure => simp [intOf]
      · have hne : (a != 0) = true := by simp [ha]
        have H0 : Hid (orV a b = a) := by simp [Hid, orV, ha]
        clear ha
        go_wp2
        go_ret
        exact ⟨ret_int H0.out.symm, rfl⟩
    · by_cases hb : b = 0
      · have hne : (b != 0) = false := by simp [hb]
        have H0 := Lib.hid hb
        clear hb
        go_wp2
        go_roundw
        case rel => exact ⟨2, by omega, by go_num, fun _ => HA.out (by omega), fun _ => H0.out, by trivial⟩
        case measure => simp [intOf]
      · have hne : (b != 0) = true := by simp [hb]
        have H0 : Hid (orV a b = b) := by simp [Hid, orV, HA.out (by omega)]
        clear hb
        go_wp2
        go_ret
        exact ⟨ret_int H0.out.symm, rfl⟩
    · have H0 : Hid (orV a b = 0) := by simp [Hid, orV, HA.out (by omega), HB.out (by omega)]
      go_wp2
      go_ret
      exact ⟨ret_int H0.out.symm, rfl⟩
set_option maxHeartbeats 1600000 in
theorem timeCompare_i (x y u v : Int) (w : World) : Calls Try.prog 240 #[.agg #[.int .i64 x, .int .i64 y], .agg #[.int .i64 u, .int .i64 v]] w fun e w' => e = .returned (.int .i64 (cmpT x y u v)) ∧ Below w.heap.size w w' := by
  go_enter Try.func240, Try.ntmps240
  go_wp2_with fail
  refine abs_world (fun wB => Below w.heap.size w wB ∧ Blk wB w.heap.size 117 #[.int .i64 x, .int .i64 y] ∧ Blk wB (w.heap.size + 1) 117 #[.int .i64 u, .int .i64 v])
    ⟨bal (bal (Below.refl _ _) _) _, (Blk.newAt rfl).alloc _, Blk.newAt (by simp)⟩ (fun wB hx' => ?_)
  obtain ⟨hB, h0, h1⟩ := hx'
  refine wp_region_facts [[], [0], [], [2], [0, 1, 2, 3], [], [5], [], [7], [5, 6, 7, 8], [0, 1, 2, 3, 4, 5, 6, 7, 8, 9]]
    [fun v' _ => v' = .pointer (some ⟨w.heap.size, 0, none⟩), fun v' _ => v' = .int .i64 x, fun v' _ => v' = .pointer (some ⟨w.heap.size + 1, 0, none⟩), fun v' _ => v' = .int .i64 u, fun v' _ => v' = .int .i64 (cmpI x u), fun v' _ => v' = .pointer (some ⟨w.heap.size, 1, none⟩), fun v' _ => v' = .int .i64 y, fun v' _ => v' = .pointer (some ⟨w.heap.size + 1, 1, none⟩), fun v' _ => v' = .int .i64 v, fun v' _ => v' = .int .i64 (cmpI y v), PairV wB.heap.size (cmpI x u) (cmpI y v)]
    (by kernel_rfl) (by kernel_rfl) rfl ⟨stable_pure _, stable_pure _, stable_pure _, stable_pure _, stable_pure _, stable_pure _, stable_pure _, stable_pure _, stable_pure _, stable_pure _, stable_pairV _ _ _, trivial⟩ ?_
  refine wf_step (fun wf hb hf => ?_) (fun t0 => ?_)
  · go_wp2
    exact ⟨rfl, .pointer (some ⟨w.heap.size, 0, none⟩), by simp [Act.put], Below.refl _ _, rfl⟩
  refine wf_step (fun wf hb hf => ?_) (fun t1 => ?_)
  · obtain ⟨rfl, -⟩ := hf
    have c0 := (h0.below hb).cell 0
    simp at c0
    go_wp2
    exact ⟨rfl, .int .i64 x, by simp [Act.put], Below.refl _ _, rfl⟩
  refine wf_step (fun wf hb hf => ?_) (fun t2 => ?_)
  · go_wp2
    exact ⟨rfl, .pointer (some ⟨w.heap.size + 1, 0, none⟩), by simp [Act.put], Below.refl _ _, rfl⟩
  refine wf_step (fun wf hb hf => ?_) (fun t3 => ?_)
  · obtain ⟨rfl, -⟩ := hf
    have c0 := (h1.below hb).cell 0
    simp at c0
    go_wp2
    exact ⟨rfl, .int .i64 u, by simp [Act.put], Below.refl _ _, rfl⟩
  refine wf_step (fun wf hb hf => ?_) (fun t4 => ?_)
  · obtain ⟨rfl, rfl, rfl, rfl, -⟩ := hf
    go_wp2_with (go_at_call 222; refine (cmpInt_below _ _ _).mono ?_; rintro e w2 ⟨rfl, hb2⟩)
    exact ⟨rfl, .int .i64 (cmpI x u), by simp [Act.put], hb2, rfl⟩
  refine wf_step (fun wf hb hf => ?_) (fun t5 => ?_)
  · go_wp2
    exact ⟨rfl, .pointer (some ⟨w.heap.size, 1, none⟩), by simp [Act.put], Below.refl _ _, rfl⟩
  refine wf_step (fun wf hb hf => ?_) (fun t6 => ?_)
  · obtain ⟨rfl, -⟩ := hf
    have c0 := (h0.below hb).cell 1
    simp at c0
    go_wp2
    exact ⟨rfl, .int .i64 y, by simp [Act.put], Below.refl _ _, rfl⟩
  refine wf_step (fun wf hb hf => ?_) (fun t7 => ?_)
  · go_wp2
    exact ⟨rfl, .pointer (some ⟨w.heap.size + 1, 1, none⟩), by simp [Act.put], Below.refl _ _, rfl⟩
  refine wf_step (fun wf hb hf => ?_) (fun t8 => ?_)
  · obtain ⟨rfl, -⟩ := hf
    have c0 := (h1.below hb).cell 1
    simp at c0
    go_wp2
    exact ⟨rfl, .int .i64 v, by simp [Act.put], Below.refl _ _, rfl⟩
  refine wf_step (fun wf hb hf => ?_) (fun t9 => ?_)
  · obtain ⟨rfl, rfl, rfl, rfl, -⟩ := hf
    go_wp2_with (go_at_call 222; refine (cmpInt_below _ _ _).mono ?_; rintro e w2 ⟨rfl, hb2⟩)
    exact ⟨rfl, .int .i64 (cmpI y v), by simp [Act.put], hb2, rfl⟩
  refine wf_step (fun wf hb hf => ?_) (fun t10 => ?_)
  · obtain ⟨rfl, rfl, rfl, rfl, rfl, rfl, rfl, rfl, rfl, rfl, -⟩ := hf
    go_wp2
    exact ⟨rfl, .slice (some ⟨wf.heap.size, 0, none⟩) 2 2, by simp [Act.put], bal (Below.refl _ _) _, _, rfl, hb.size, Blk.newAt rfl⟩
  refine wf_done (fun wC hb hf => ?_)
  obtain ⟨rfl, rfl, rfl, rfl, rfl, rfl, rfl, rfl, rfl, rfl, ⟨g, rfl, hg, kg⟩, -⟩ := hf
  show wpList _ _ _ [_, _] _ _
  refine wpList_frame (by simp [Act.put]; rfl) ?_
  have HB := Lib.hid (btr hB hb)
  clear h0 h1 hB hb
  go_wp2_with (go_at_call 242; refine (cmpOr_any _ _ _ _ kg).mono ?_; rintro e w2 ⟨rfl, rfl⟩)
  go_ret
  exact ⟨rfl, HB.out⟩
set_option maxHeartbeats 1600000 in
theorem updCompare_i (A B : Option Addr) (c d : Nat) (xs ys : List Int) (p q x r s y : Int) (w : World) (hx : IntsAt w A xs) (hy : IntsAt w B ys) (hn : xs.length ≤ 4194304) (hm : ys.length ≤ 4194304) :
    Calls Try.prog 243 #[.agg #[.slice A xs.length c, .int .i64 p, .int .i64 q, .int .i64 x], .agg #[.slice B ys.length d, .int .i64 r, .int .i64 s, .int .i64 y]] w fun e w' => e = .returned (.int .i64 (orV (cmpL xs ys) (cmpT p q r s))) ∧ Below w.heap.size w w' := by
  go_enter Try.func243, Try.ntmps243
  go_wp2_with fail
  refine abs_world (fun wB => Below w.heap.size w wB ∧ Blk wB w.heap.size 119 #[.slice A xs.length c, .int .i64 p, .int .i64 q, .int .i64 x] ∧ Blk wB (w.heap.size + 1) 119 #[.slice B ys.length d, .int .i64 r, .int .i64 s, .int .i64 y])
    ⟨bal (bal (Below.refl _ _) _) _, (Blk.newAt rfl).alloc _, Blk.newAt (by simp)⟩ (fun wB hx' => ?_)
  obtain ⟨hB, h0, h1⟩ := hx'
  refine wp_region_facts [[], [0], [], [2], [0, 1, 2, 3], [], [5], [], [7], [5, 6, 7, 8], [0, 1, 2, 3, 4, 5, 6, 7, 8, 9]]
    [fun v' _ => v' = .pointer (some ⟨w.heap.size, 0, none⟩), fun v' _ => v' = .slice A xs.length c, fun v' _ => v' = .pointer (some ⟨w.heap.size + 1, 0, none⟩), fun v' _ => v' = .slice B ys.length d, fun v' _ => v' = .int .i64 (cmpL xs ys), fun v' _ => v' = .pointer (some ⟨w.heap.size, 1, none⟩), fun v' _ => v' = .agg #[.int .i64 p, .int .i64 q], fun v' _ => v' = .pointer (some ⟨w.heap.size + 1, 1, none⟩), fun v' _ => v' = .agg #[.int .i64 r, .int .i64 s], fun v' _ => v' = .int .i64 (cmpT p q r s), PairV wB.heap.size (cmpL xs ys) (cmpT p q r s)]
    (by kernel_rfl) (by kernel_rfl) rfl ⟨stable_pure _, stable_pure _, stable_pure _, stable_pure _, stable_pure _, stable_pure _, stable_pure _, stable_pure _, stable_pure _, stable_pure _, stable_pairV _ _ _, trivial⟩ ?_
  refine wf_step (fun wf hb hf => ?_) (fun t0 => ?_)
  · go_wp2
    exact ⟨rfl, .pointer (some ⟨w.heap.size, 0, none⟩), by simp [Act.put], Below.refl _ _, rfl⟩
  refine wf_step (fun wf hb hf => ?_) (fun t1 => ?_)
  · obtain ⟨rfl, -⟩ := hf
    have c0 := (h0.below hb).cell 0
    simp at c0
    go_wp2
    exact ⟨rfl, .slice A xs.length c, by simp [Act.put], Below.refl _ _, rfl⟩
  refine wf_step (fun wf hb hf => ?_) (fun t2 => ?_)
  · go_wp2
    exact ⟨rfl, .pointer (some ⟨w.heap.size + 1, 0, none⟩), by simp [Act.put], Below.refl _ _, rfl⟩
  refine wf_step (fun wf hb hf => ?_) (fun t3 => ?_)
  · obtain ⟨rfl, -⟩ := hf
    have c0 := (h1.below hb).cell 0
    simp at c0
    go_wp2
    exact ⟨rfl, .slice B ys.length d, by simp [Act.put], Below.refl _ _, rfl⟩
  refine wf_step (fun wf hb hf => ?_) (fun t4 => ?_)
  · obtain ⟨rfl, rfl, rfl, rfl, -⟩ := hf
    go_wp2_with (go_at_call 201; refine (compare_i _ _ _ _ _ _ _ ((hx.below hB).below hb) ((hy.below hB).below hb) (by omega) (by omega)).mono ?_; rintro e w2 ⟨rfl, hb2⟩)
    exact ⟨rfl, .int .i64 (cmpL xs ys), by simp [Act.put], hb2, rfl⟩
  refine wf_step (fun wf hb hf => ?_) (fun t5 => ?_)
  · go_wp2
    exact ⟨rfl, .pointer (some ⟨w.heap.size, 1, none⟩), by simp [Act.put], Below.refl _ _, rfl⟩
  refine wf_step (fun wf hb hf => ?_) (fun t6 => ?_)
  · obtain ⟨rfl, -⟩ := hf
    have c0 := (h0.below hb).cell 1
    have c1 := (h0.below hb).cell 2
    simp at c0 c1
    go_wp2
    exact ⟨rfl, .agg #[.int .i64 p, .int .i64 q], by simp [Act.put], Below.refl _ _, rfl⟩
  refine wf_step (fun wf hb hf => ?_) (fun t7 => ?_)
  · go_wp2
    exact ⟨rfl, .pointer (some ⟨w.heap.size + 1, 1, none⟩), by simp [Act.put], Below.refl _ _, rfl⟩
  refine wf_step (fun wf hb hf => ?_) (fun t8 => ?_)
  · obtain ⟨rfl, -⟩ := hf
    have c0 := (h1.below hb).cell 1
    have c1 := (h1.below hb).cell 2
    simp at c0 c1
    go_wp2
    exact ⟨rfl, .agg #[.int .i64 r, .int .i64 s], by simp [Act.put], Below.refl _ _, rfl⟩
  refine wf_step (fun wf hb hf => ?_) (fun t9 => ?_)
  · obtain ⟨rfl, rfl, rfl, rfl, -⟩ := hf
    go_wp2_with (go_at_call 240; refine (timeCompare_i _ _ _ _ _).mono ?_; rintro e w2 ⟨rfl, hb2⟩)
    exact ⟨rfl, .int .i64 (cmpT p q r s), by simp [Act.put], hb2, rfl⟩
  refine wf_step (fun wf hb hf => ?_) (fun t10 => ?_)
  · obtain ⟨rfl, rfl, rfl, rfl, rfl, rfl, rfl, rfl, rfl, rfl, -⟩ := hf
    go_wp2
    exact ⟨rfl, .slice (some ⟨wf.heap.size, 0, none⟩) 2 2, by simp [Act.put], bal (Below.refl _ _) _, _, rfl, hb.size, Blk.newAt rfl⟩
  refine wf_done (fun wC hb hf => ?_)
  obtain ⟨rfl, rfl, rfl, rfl, rfl, rfl, rfl, rfl, rfl, rfl, ⟨g, rfl, hg, kg⟩, -⟩ := hf
  show wpList _ _ _ [_, _] _ _
  refine wpList_frame (by simp [Act.put]; rfl) ?_
  have HB := Lib.hid (btr hB hb)
  clear h0 h1 hB hb
  go_wp2_with (go_at_call 242; refine (cmpOr_any _ _ _ _ kg).mono ?_; rintro e w2 ⟨rfl, rfl⟩)
  go_ret
  exact ⟨rfl, HB.out⟩
end Go.Proofs.Ythefakiobpijiaa
