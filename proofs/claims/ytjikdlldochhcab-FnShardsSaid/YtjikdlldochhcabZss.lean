/- HELPER, no statement of the seat: lists of Z-sets that came in, copied, measured and compared. -/
import Derived.Test.YtjikdlldochhcabEntL
namespace Go.Proofs.Ytjikdlldochhcab
open Go.ChangeShapes Go.WideShapes Go.ChangeAt Go.RowKit Go.Sort
set_option linter.unusedSimpArgs false
set_option linter.unusedVariables false

abbrev Zs := List Ent
def ZlR : Rd Zs := SlR EntR 2
def ZlO : Ow Zs := SlO EntO 2 50
theorem zlR : ROk ZlR 1 := slR entR
theorem zlO : OOk ZlO ZlR 1 := slO entO
def ZssAt (w : World) (A : Option Addr) (zs : List Zs) : Prop := SlAt ZlR 1 w A zs
theorem ZssAt.below {w w' : World} {A : Option Addr} {zs : List Zs} (h : ZssAt w A zs) (hb : Below w.heap.size w w') : ZssAt w' A zs := SlAt.below zlR h hb
theorem ZssAt.get {w : World} {A : Option Addr} {zs : List Zs} (h : ZssAt w A zs) (k : Nat) (hk : k < zs.length) :
    ∃ b off ZA zc, A = some ⟨b, off, none⟩ ∧ b < w.heap.size ∧ w.cell? ⟨b, off + k, none⟩ = some (.slice ZA zs[k].length zc) ∧ zs[k].length ≤ maxLen ∧ EntsAt w ZA zs[k] := by
  obtain ⟨b, off, e, hlt, hc⟩ := h (by omega)
  obtain ⟨cs, hl, hcell, ZA, zc, hcs, hm, hz⟩ := hc k hk
  have := hcell 0 (by omega)
  simp only [Nat.mul_one, Nat.add_zero] at this
  rw [hcs] at this
  exact ⟨b, off, ZA, zc, e, hlt, this, hm, hz⟩
section
variable {H : Type} {enc : TypeId × Value → H} {W : World}
theorem zss_of {a : Option Addr} {len cap : Nat} {d : DataW H} {p : List MemPlace} (h : DataW.Trod enc Try.prog W 0 (fun _ => true) true 38 (.slice a len cap) d p) :
    ∃ zs : List Zs, len = zs.length ∧ zs.length ≤ maxLen ∧ ZssAt W a zs :=
  opens_at (opens_slice Try.underlying38 (by kernel_rfl) (by decide) (opens_slice Try.underlying27 (by kernel_rfl) (by decide) opens_entry)) h
end

/-! ### The measure -/
def zSum (zs : List Zs) : Int := (zs.map entSz).sum
theorem zSum_step {zs : List Zs} {k : Nat} (h : k < zs.length) : zSum (zs.take (k + 1)) = zSum (zs.take k) + entSz zs[k] := by
  rw [List.take_succ_eq_append_getElem h]
  simp only [zSum, List.map_append, List.sum_append, List.map_cons, List.map_nil, List.sum_cons, List.sum_nil, Int.add_zero]
theorem zSum_nn (zs : List Zs) : 0 ≤ zSum zs := by
  induction zs with
  | nil => simp [zSum]
  | cons x l ih => have := entSz_nn x; simp only [zSum, List.map_cons, List.sum_cons] at *; omega
theorem zSum_le (zs : List Zs) (k : Nat) : zSum (zs.take k) ≤ zSum zs := by
  have : zSum zs = zSum (zs.take k) + zSum (zs.drop k) := by
    rw [zSum, zSum, zSum, ← List.sum_append, ← List.map_append, List.take_append_drop]
  have := zSum_nn (zs.drop k)
  omega
theorem zSum_mem {zs : List Zs} {z : Zs} (h : z ∈ zs) : entSz z ≤ zSum zs := by
  induction zs with
  | nil => cases h
  | cons x l ih =>
    have h1 := entSz_nn x
    have h2 := zSum_nn l
    simp only [zSum, List.map_cons, List.sum_cons] at *
    rcases List.mem_cons.1 h with rfl | h
    · omega
    · have := ih h; omega
def zsSz (zs : List Zs) : Int := zs.length + zSum zs
def zsLeft (left : Int) (zs : List Zs) : Int := if left < zsSz zs then -1 else left - zsSz zs
theorem zsSz_nn (zs : List Zs) : 0 ≤ zsSz zs := by have := zSum_nn zs; unfold zsSz; omega
def zsIn (zs : List Zs) (n : Nat) : Prop := ∀ z ∈ zs, z.length ≤ n ∧ rowsIn z n
theorem zsSz_in {zs : List Zs} {n : Nat} (h : zsSz zs ≤ n) : zsIn zs n := fun z hz => by
  have h1 := zSum_mem hz
  have h2 : entSz z ≤ (n : Int) := by unfold zsSz at h; omega
  exact ⟨by have := entSz_len h2; omega, entSz_row h2⟩
theorem zsSz_len {zs : List Zs} {n : Int} (h : zsSz zs ≤ n) : (zs.length : Int) ≤ n := by have := zSum_nn zs; unfold zsSz at h; omega
theorem zsIn.get {zs : List Zs} {n k : Nat} (h : zsIn zs n) (hk : k < zs.length) : zs[k].length ≤ n ∧ rowsIn zs[k] n := h _ (List.getElem_mem hk)
set_option maxHeartbeats 800000 in
theorem szEntrySS_any (A : Option Addr) (c : Nat) (es : List Zs) (left : Int) (w : World) (hx : ZssAt w A es) (h0 : 0 ≤ left) (h1 : left ≤ 1048576) (hn : es.length ≤ maxLen) :
    Calls Try.prog 22 #[.slice A es.length c, .int .i64 left] w fun e w' => e = .returned (.int .i64 (zsLeft left es)) ∧ Below w.heap.size w w' := by
  unfold maxLen at hn
  have hnn := zSum_nn es
  by_cases h : left < es.length
  · have h' : left - es.length < 0 := by omega
    have hr : left < zsSz es := by unfold zsSz; omega
    have HR := Lib.hid hr
    clear hr hnn
    go_enter Try.func22, Try.ntmps22
    go_wp2
    go_ret
    exact ⟨ret_int (by rw [zsLeft, if_pos HR.out]), Below.refl _ _⟩
  have h' : 0 ≤ left - es.length := by omega
  go_enter Try.func22, Try.ntmps22
  go_wp2
  go_loopw [1, 5] (fun q i wr => ∃ (k : Nat) (s : Int), k ≤ es.length ∧ i = .int .i64 k ∧ q = .int .i64 (left - es.length - s) ∧ s = zSum (es.take k) ∧ 0 ≤ s ∧ es.length + s ≤ left ∧ Below w.heap.size w wr) (fun _ i _ => es.length - (intOf i).toNat)
  case atStart => exact ⟨0, 0, by omega, rfl, by simp, by simp [zSum], by omega, by omega, Below.refl _ _⟩
  case round =>
    obtain ⟨k, s, hk, rfl, rfl, hs, hs0, hq, hbel⟩ := hrel
    have HS := Lib.hid hs
    clear hs
    by_cases hlt : k < es.length
    · obtain ⟨b, off, ZA, zc, rfl, hbl, hc0, hml, hz⟩ := hx.get k hlt
      have q0 := (hbel.cell (p := ⟨b, off + k, none⟩) hbl).trans hc0
      have hzr : EntsAt wr ZA es[k] := SlAt.below entR hz hbel
      have HT := Lib.hid (zSum_step hlt)
      have HL := Lib.hid (zSum_le es (k + 1))
      have hql : 0 ≤ left - es.length - s := by omega
      have hnz := entSz_nn es[k]
      obtain ⟨m, hm⟩ : ∃ m, entSz es[k] = m := ⟨_, rfl⟩
      rw [hm] at hnz
      by_cases hs : left - es.length - s < m
      · have hr : left < zsSz es := by have := HT.out; have := HL.out; have := HS.out; unfold zsSz; omega
        have HR := Lib.hid hr
        have HM := Lib.hid hm
        clear hr hc0 hm
        go_wp2_with (go_at_call 13; refine (szEntryS_no _ _ es[k] _ _ hzr hql (by omega) hml (by rw [HM.out]; exact hs)).mono ?_; rintro e w1 ⟨rfl, hb1⟩)
        go_ret
        exact ⟨ret_int (by rw [zsLeft, if_pos HR.out]), btr hbel hb1⟩
      · have HM := Lib.hid hm
        have HK : Hid (s + m = zSum (es.take (k + 1))) := by have := HT.out; have := HS.out; simp only [Hid]; omega
        clear hc0 hm
        go_wp2_with (go_at_call 13; refine (szEntryS_yes _ _ es[k] _ _ hzr hql (by omega) hml (by rw [HM.out]; omega)).mono ?_; rintro e w1 ⟨rfl, hb1⟩; rw [HM.out]; have hge : 0 ≤ left - es.length - s - m := by omega)
        go_roundw
        case rel => exact ⟨k + 1, s + m, by omega, by go_num, by go_num, HK.out, by omega, by omega, btr hbel hb1⟩
        case measure => simp [intOf]; omega
    · obtain rfl : k = es.length := by omega
      have hs : s = zSum es := by have := HS.out; rwa [List.take_length] at this
      have hr : zsSz es ≤ left := by unfold zsSz; omega
      have HR := Lib.hid hr
      have HT := Lib.hid hs
      clear hr hs
      go_wp2
      go_ret
      exact ⟨ret_int (by rw [zsLeft, if_neg (Int.not_lt.2 HR.out)]; have := HT.out; unfold zsSz; omega), hbel⟩
theorem szEntrySS_no (A : Option Addr) (c : Nat) (es : List Zs) (left : Int) (w : World) (hx : ZssAt w A es) (h0 : 0 ≤ left) (h1 : left ≤ 1048576) (hn : es.length ≤ maxLen) (h : left < zsSz es) :
    Calls Try.prog 22 #[.slice A es.length c, .int .i64 left] w fun e w' => e = .returned (.int .i64 (-1)) ∧ Below w.heap.size w w' :=
  (szEntrySS_any A c es left w hx h0 h1 hn).mono fun _ _ ⟨he, hb⟩ => ⟨by rw [he, zsLeft, if_pos h], hb⟩
theorem szEntrySS_yes (A : Option Addr) (c : Nat) (es : List Zs) (left : Int) (w : World) (hx : ZssAt w A es) (h0 : 0 ≤ left) (h1 : left ≤ 1048576) (hn : es.length ≤ maxLen) (h : zsSz es ≤ left) :
    Calls Try.prog 22 #[.slice A es.length c, .int .i64 left] w fun e w' => e = .returned (.int .i64 (left - zsSz es)) ∧ Below w.heap.size w w' :=
  (szEntrySS_any A c es left w hx h0 h1 hn).mono fun _ _ ⟨he, hb⟩ => ⟨by rw [he, zsLeft, if_neg (by omega)], hb⟩
/-! ### Copies -/
theorem Try.infoZl : (Try.prog.info? 31).map (fun i => (i.zero, i.size, i.bytes)) = some (some (.slice none 0 0), 1, 24) := by kernel_rfl
set_option maxHeartbeats 800000 in
theorem toEntrySS_any (A : Option Addr) (c : Nat) (es : List Zs) (w : World) (hx : ZssAt w A es) (hn : es.length ≤ 4194304) (hr : zsIn es 4194304) :
    Calls Try.prog 24 #[.slice A es.length c] w fun e w' => e = .returned (.slice (some ⟨w.heap.size, 0, none⟩) es.length es.length) ∧ SlOw ZlO 1 31 w' (news w w') (some ⟨w.heap.size, 0, none⟩) es.length es ∧ Below w.heap.size w w' := by
  obtain ⟨i0, hi, hz0, hz1, hz2⟩ := info_parts Try.infoZl
  have hmk := run_make (P := Try.prog) w 29 31 i0 (.slice none 0 0) Try.underlying29 hi hz0 .i64 .i64 es.length es.length (by omega) (by omega) (by rw [hz2]; omega) (by omega)
  simp only [Int.toNat_natCast, hz1] at hmk
  have hcs : ∀ n, (madeCells (Value.slice none 0 0).cells (n * 1)).size = n * 1 := fun n => by simp [madeCells]
  generalize madeCells (Value.slice none 0 0).cells = mc at hmk hcs
  go_enter Try.func24, Try.ntmps24
  go_wp2
  go_loopw [4] (fun i wr => ∃ k : Nat, k ≤ es.length ∧ i = .int .i64 k ∧ SlOw ZlO 1 31 wr (news w wr) (some ⟨w.heap.size, 0, none⟩) es.length (es.take k) ∧ Below w.heap.size w wr) (fun i _ => es.length - (intOf i).toNat)
  case atStart => exact ⟨0, by omega, rfl, ⟨_, _, SlF.made ZlO 1 31 w (mc es.length) es.length (by unfold maxLen; omega) (by have := hcs es.length; rwa [Nat.mul_one] at this ⊢) ⟨Nat.le_refl _, by simp⟩ (fun k hk => by have := hk.2; simpa using this)⟩, bal (Below.refl _ _) _⟩
  case round =>
    obtain ⟨k, hk, rfl, ⟨css, F, hown⟩, hbel⟩ := hrel
    by_cases hlt : k < es.length
    · obtain ⟨b, off, ZA, zc, rfl, hbl, hc0, hml, hz⟩ := hx.get k hlt
      have q0 := (hbel.cell (p := ⟨b, off + k, none⟩) hbl).trans hc0
      have hzr : EntsAt wr ZA es[k] := SlAt.below entR hz hbel
      have hrl := hr.get hlt
      have HF := Lib.hid hown
      clear hmk hc0 hown hz
      go_wp2_with fail
      refine (toEntryS_any _ _ es[k] _ hzr hrl.1 hrl.2).mono ?_
      rintro e w2 ⟨rfl, ho, hb2⟩
      have hown2 := HF.out.loc zlO (fun k hk => hb2.block k hk.2)
      have hkl : (es.take k).length = k := by simp; omega
      have hrow2 := hown2.row
      rw [hkl] at hrow2
      obtain ⟨u0, hu0⟩ := ownsRow_room hrow2 k (by omega)
      have f0 := World.ownsRow.frozenAt hrow2 k
      have hB := btr hbel hb2
      have hel : ZlO w2 (news wr w2) [.slice (some ⟨wr.heap.size, 0, none⟩) es[k].length es[k].length] es[k] := ⟨_, _, rfl, ho⟩
      have hfill := hown2.fill (w' := w2.setCell ⟨w.heap.size, k, none⟩ (.slice (some ⟨wr.heap.size, 0, none⟩) es[k].length es[k].length)) (U := news w w2) zlO (by rw [hkl]; exact hlt) hel (fun q h1 h2 => by have := h1.1; have := h2.2; omega) (by rw [hkl, Nat.mul_one]; rfl) (fun q h => by
        have := hbel.size
        have := hb2.size
        rcases h with h | h
        · exact ⟨h.1, by have := h.2; omega⟩
        · exact ⟨by have := h.1; omega, h.2⟩) (fun q h => h.2)
      rw [show es.take k ++ [es[k]] = es.take (k + 1) by rw [List.take_succ_eq_append_getElem hlt]] at hfill
      have HS := Lib.hid hfill
      have HB := Lib.hid hB
      clear hfill hB hown2 hrow2 hel hkl hbel q0 hzr ho hb2
      go_wp2
      go_roundw
      case rel => exact ⟨k + 1, by omega, by go_num, ⟨_, _, HS.out.mono (fun q h => ⟨h.1, by simpa [World.setCell] using h.2⟩) (fun q h => h.2)⟩, bset HB.out (Nat.le_refl _) _⟩
      case measure => simp [intOf]; omega
    · obtain rfl : k = es.length := by omega
      rw [List.take_length] at hown
      have HO := Lib.hid hown
      have HB := Lib.hid hbel
      clear hown hbel hmk
      go_wp2
      go_ret
      exact ⟨rfl, ⟨_, _, HO.out⟩, HB.out⟩
set_option maxHeartbeats 800000 in
theorem eqEntrySS_any (A B : Option Addr) (c d : Nat) (xs ys : List Zs) (w : World) (hx : ZssAt w A xs) (hy : ZssAt w B ys) (hn : xs.length ≤ 4194304) (hm : ys.length ≤ 4194304) (hr : zsIn xs 4194304) (hs : zsIn ys 4194304) :
    Calls Try.prog 17 #[.slice A xs.length c, .slice B ys.length d] w fun e w' => e = .returned (.bool (decide (xs = ys))) ∧ Below w.heap.size w w' := by
  by_cases hl : xs.length = ys.length
  · have hb : ((xs.length : Int) != (ys.length : Int)) = false := by simp [hl]
    have HL := Lib.hid hl
    clear hl
    go_enter Try.func17, Try.ntmps17
    go_wp2
    go_loopw [5] (fun i wr => ∃ k : Nat, k ≤ xs.length ∧ i = .int .i64 k ∧ xs.take k = ys.take k ∧ Below w.heap.size w wr) (fun i _ => xs.length - (intOf i).toNat)
    case atStart => exact ⟨0, by omega, rfl, rfl, Below.refl _ _⟩
    case round =>
      obtain ⟨k, hk, rfl, htk, hbel⟩ := hrel
      have HT := Lib.hid htk
      clear htk
      by_cases hlt : k < xs.length
      · have hlt2 : k < ys.length := by have := HL.out; omega
        obtain ⟨b, off, RA, rc, rfl, hbl, hc0, -, hrow⟩ := hx.get k hlt
        obtain ⟨b2, off2, RB, rd, rfl, hbl2, hd0, -, hrow2⟩ := hy.get k hlt2
        have q1 := cgrow ((hbel.cell (p := ⟨b, off + k, none⟩) hbl).trans hc0)
        have q3 := cgrow ((hbel.cell (p := ⟨b2, off2 + k, none⟩) hbl2).trans hd0)
        have hl1 := hr.get hlt
        have hl2 := hs.get hlt2
        clear hc0 hd0
        have hcon := fun W' (hW : Below wr.heap.size wr W') => eqEntryS_any RA RB rc rd xs[k] ys[k] W' (SlAt.below entR (SlAt.below entR hrow hbel) hW) (SlAt.below entR (SlAt.below entR hrow2 hbel) hW) hl1.1 hl2.1 hl1.2 hl2.2
        by_cases he : xs[k] = ys[k]
        · have hne : decide (xs[k] = ys[k]) = true := by simp [he]
          have HE := Lib.hid he
          rw [hne] at hcon
          clear he hne
          go_wp2_with fail
          refine wp_region_quiet_below (by kernel_rfl) (by kernel_rfl) ?_
          repeat (go_big_quiet_step (exact Calls.regrown_of (hcon _ (below_regrown _ _ _))))
          refine wpQuiet_nil ?_
          intro w3 hw3
          obtain ⟨⟨dq, osq⟩, rfl⟩ := hw3
          have hbq := below_regrown wr dq osq
          generalize grow (redrawn wr dq) osq = w4 at hbq
          clear q1 q3 hcon
          go_wp2
          go_roundw
          case rel => exact ⟨k + 1, by omega, by go_num, take_eq_stepE hlt hlt2 HT.out HE.out, btr hbel hbq⟩
          case measure => simp [intOf]; omega
        · have hne : decide (xs[k] = ys[k]) = false := by simp [he]
          rw [hne] at hcon
          have HF : Hid (decide (xs = ys) = false) := by
            simp only [Hid, decide_eq_false_iff_not]
            intro h; subst h; exact he rfl
          clear he hne
          go_wp2_with fail
          refine wp_region_quiet_below (by kernel_rfl) (by kernel_rfl) ?_
          repeat (go_big_quiet_step (exact Calls.regrown_of (hcon _ (below_regrown _ _ _))))
          refine wpQuiet_nil ?_
          intro w3 hw3
          obtain ⟨⟨dq, osq⟩, rfl⟩ := hw3
          have hbq := below_regrown wr dq osq
          generalize grow (redrawn wr dq) osq = w4 at hbq
          clear q1 q3 hcon
          go_wp2
          go_ret
          exact ⟨ret_bool HF.out.symm, btr hbel hbq⟩
      · obtain rfl : k = xs.length := by omega
        have hfin : decide (xs = ys) = true := by
          have h1 := HT.out
          have h2 := HL.out
          rw [List.take_length, h2, List.take_length] at h1
          simp [h1]
        have HF := Lib.hid hfin
        clear hfin
        go_wp2
        go_ret
        exact ⟨ret_bool HF.out.symm, hbel⟩
  · have hb : ((xs.length : Int) != (ys.length : Int)) = true := by simp; omega
    have hfin : decide (xs = ys) = false := by simp; rintro rfl; exact hl rfl
    have HF := Lib.hid hfin
    clear hfin
    go_enter Try.func17, Try.ntmps17
    go_wp2
    go_ret
    exact ⟨ret_bool HF.out.symm, Below.refl _ _⟩
end Go.Proofs.Ytjikdlldochhcab
