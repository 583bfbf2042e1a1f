/- HELPER, no statement of the seat: sets, weights: both sides. -/
import Derived.Test.YtjlpkfcdkmcjnaaEntS
namespace Go.Proofs.Ytjlpkfcdkmcjnaa
open Go.RowKit Go.Sort
set_option linter.unusedSimpArgs false
set_option linter.unusedVariables false

set_option maxHeartbeats 400000 in
theorem equalInts_s (A B : Option Addr) (c d : Nat) (xs ys : List Int) (w : World) (hx : IntsAt w A xs) (hy : IntsAt w B ys) (hn : xs.length * 8 ≤ 140737488351232) (hm : ys.length * 8 ≤ 140737488351232) :
    Calls Try.prog 163 #[.slice A xs.length c, .slice B ys.length d] w fun e w' => e = .returned (.bool (decide (xs = ys))) ∧ Below w.heap.size w w' := by
  by_cases hl : xs.length = ys.length
  · have hb : ((xs.length : Int) != (ys.length : Int)) = false := by simp [hl]
    have HL := Lib.hid hl
    clear hl
    go_enter Try.func163, Try.ntmps163
    go_wp2
    go_loopw [5] (fun i wr => ∃ k : Nat, k ≤ xs.length ∧ i = .int .i64 k ∧ xs.take k = ys.take k ∧ Below w.heap.size w wr) (fun i _ => xs.length - (intOf i).toNat)
    case atStart => exact ⟨0, by omega, rfl, rfl, Below.refl _ _⟩
    case round =>
      obtain ⟨k, hk, rfl, htk, hbel⟩ := hrel
      have HT := Lib.hid htk
      clear htk
      by_cases hlt : k < xs.length
      · have hlt2 : k < ys.length := by have := HL.out; omega
        obtain ⟨b, off, rfl, hbl, hc⟩ := hx (by omega)
        obtain ⟨b2, off2, rfl, hbl2, hc2⟩ := hy (by omega)
        have hck : wr.cell? ⟨b, off + k, none⟩ = some (.int .i64 xs[k]) := (hbel.cell (p := ⟨b, off + k, none⟩) hbl).trans (by rw [hc k hlt]; simp [hlt])
        have hck2 : wr.cell? ⟨b2, off2 + k, none⟩ = some (.int .i64 ys[k]) := (hbel.cell (p := ⟨b2, off2 + k, none⟩) hbl2).trans (by rw [hc2 k hlt2]; simp [hlt2])
        clear hc hc2
        by_cases he : xs[k] = ys[k]
        · have hne : (xs[k] != ys[k]) = false := by simp [he]
          have HE := Lib.hid he
          clear he
          go_wp2_with fail
          go_quiet (fail)
          go_wp2
          go_roundw
          case rel => exact ⟨k + 1, by omega, by go_num, take_eq_step hlt hlt2 HT.out HE.out, bdn hbel _⟩
          case measure => simp [intOf]; omega
        · have hne : (xs[k] != ys[k]) = true := by simp [he]
          go_wp2_with fail
          go_quiet (fail)
          go_wp2
          go_ret
          exact ⟨ret_bool (by simp; rintro rfl; exact he rfl), bdn hbel _⟩
      · obtain rfl : k = xs.length := by omega
        have hfin : decide (xs = ys) = true := by
          have h1 := HT.out
          have h2 := HL.out
          rw [List.take_length, h2, List.take_length] at h1
          simp [h1]
        have HF := Lib.hid hfin
        clear hfin
        go_wp2
        go_ret
        exact ⟨ret_bool HF.out.symm, hbel⟩
  · have hb : ((xs.length : Int) != (ys.length : Int)) = true := by simp; omega
    have hfin : decide (xs = ys) = false := by simp; rintro rfl; exact hl rfl
    have HF := Lib.hid hfin
    clear hfin
    go_enter Try.func163, Try.ntmps163
    go_wp2
    go_ret
    exact ⟨ret_bool HF.out.symm, Below.refl _ _⟩


theorem cmpL_zero : ∀ {xs ys : List Int}, cmpL xs ys = 0 ↔ xs = ys
  | [], [] => by simp [cmpL]
  | [], _ :: _ => by simp [cmpL]
  | _ :: _, [] => by simp [cmpL]
  | a :: xs, b :: ys => by
    unfold cmpL
    by_cases h : cmpI a b = 0
    · rw [if_pos h, cmpL_zero]
      have := (cmpI_zero a b).1 h
      subst this
      simp
    · rw [if_neg h]
      constructor
      · intro e; exact absurd e h
      · intro e
        injection e with e1 e2
        exact absurd ((cmpI_zero a b).2 e1) h
theorem one_get {z : List Ent} {k : Nat} (h : k < z.length) : decide ((nth z k).2 = 1) = decide (z[k].2 = 1) := by rw [nth_get h]
theorem setB_bad {z : List Ent} {k : Nat} (h : k < z.length) (e : z[k].2 ≠ 1) : oneB z = false := allTo_bad h (by rw [one_get h]; simp [e])

set_option maxHeartbeats 400000 in
theorem IsSet_i (A : Option Addr) (c : Nat) (es : List Ent) (w : World) (hx : EntsAt w A es) (hn : es.length ≤ 4194304) (hr : rowsIn es 4194304) :
    Calls Try.prog 35 #[.slice A es.length c] w fun e w' => e = .returned (.bool (setB es)) ∧ Below w.heap.size w w' := by
  go_enter Try.func35, Try.ntmps35
  go_wp2
  go_loopw [4, 7] (fun _ i wr => ∃ k : Nat, k ≤ es.length ∧ i = .int .i64 k ∧ allTo (fun j => decide ((nth es j).2 = 1)) k = true ∧ Below w.heap.size w wr) (fun _ i _ => es.length - (intOf i).toNat)
  case atStart => exact ⟨0, by omega, rfl, rfl, Below.refl _ _⟩
  case round =>
    obtain ⟨k, hk, rfl, hall, hbel⟩ := hrel
    have HA := Lib.hid hall
    clear hall
    by_cases hlt : k < es.length
    · obtain ⟨b, off, RA, rc, rfl, hbl, hc0, hc1, -, -⟩ := hx.get k hlt
      have q0 := (hbel.cell (p := ⟨b, off + k * 2, none⟩) hbl).trans hc0
      have q1 := (hbel.cell (p := ⟨b, off + k * 2 + 1, none⟩) hbl).trans hc1
      have hb0 : Below w.heap.size w (wr.alloc (.cells #[.slice RA es[k].1.length rc, .int .i64 es[k].2] 34)) := bal hbel _
      clear hc0 hc1
      by_cases h1 : es[k].2 = 1
      · have hne : (es[k].2 != 1) = false := by simp [h1]
        have HS := Lib.hid (allTo_step HA.out (by rw [one_get hlt]; simp [h1]))
        clear h1
        go_wp2
        go_roundw
        case rel => exact ⟨k + 1, by omega, by go_num, HS.out, hb0⟩
        case measure => simp [intOf]; omega
      · have hne : (es[k].2 != 1) = true := by simp [h1]
        have HR : Hid (setB es = false) := by rw [Hid, setB, setB_bad hlt h1]; simp
        clear h1
        go_wp2
        go_ret
        exact ⟨ret_bool HR.out.symm, hb0⟩
    · obtain rfl : k = es.length := by omega
      have HR : Hid (setB es = zsB es) := by rw [Hid, setB, show oneB es = true from HA.out]; simp
      go_wp2_with (go_at_call 17; refine (ValidZSet_i _ _ _ _ (hx.below entR hbel) hn hr).mono ?_; rintro e w1 ⟨rfl, hb⟩)
      go_ret
      exact ⟨ret_bool HR.out.symm, btr hbel hb⟩

theorem tot_step {es : List Ent} (hz : zsB es = true) {k : Nat} (h : k < es.length) :
    totW (es.take (k + 1)) = totW (es.take k) + es[k].2 ∧ -1000000 * (k : Int) ≤ totW (es.take k) ∧ totW (es.take k) ≤ 1000000 * k ∧ -1000000 ≤ es[k].2 ∧ es[k].2 ≤ 1000000 ∧ (k : Int) ≤ 400 := by
  have hb := totW_bd (z := es) (fun e he => by
    obtain ⟨j, hj, rfl⟩ := List.getElem_of_mem he
    exact zsB_wt hz hj) k
  have := zsB_len hz
  exact ⟨totW_step h, hb.1, hb.2, (zsB_wt hz h).1, (zsB_wt hz h).2, by omega⟩
set_option maxHeartbeats 400000 in
theorem TotalWeight_i (A : Option Addr) (c : Nat) (es : List Ent) (w : World) (hx : EntsAt w A es) (hn : es.length ≤ 4194304) (hr : rowsIn es 4194304) :
    Calls Try.prog 26 #[.slice A es.length c] w fun e w' => e = .returned (.int .i64 (TotF es)) ∧ Below w.heap.size w w' := by
  have hcon := ValidZSet_i A c es w hx hn hr
  by_cases h : zsB es = true
  · have HR : Hid (TotF es = totW es) := by simp [Hid, TotF, h]
    have HZ := Lib.hid h
    rw [h] at hcon
    clear h
    go_enter Try.func26, Try.ntmps26
    go_wp2_with fail
    refine hcon.mono ?_
    rintro e w1 ⟨rfl, hb⟩
    clear hcon
    go_wp2
    go_loopw [3, 5, 11] (fun q _ i wr => ∃ k : Nat, k ≤ es.length ∧ i = .int .i64 k ∧ q = .int .i64 (totW (es.take k)) ∧ Below w.heap.size w wr) (fun _ _ i _ => es.length - (intOf i).toNat)
    case atStart => exact ⟨0, by omega, rfl, by simp [totW], hb⟩
    case round =>
      obtain ⟨k, hk, rfl, rfl, hbel⟩ := hrel
      by_cases hlt : k < es.length
      · obtain ⟨b, off, RA, rc, rfl, hbl, hc0, hc1, -, -⟩ := hx.get k hlt
        have q0 := (hbel.cell (p := ⟨b, off + k * 2, none⟩) hbl).trans hc0
        have q1 := (hbel.cell (p := ⟨b, off + k * 2 + 1, none⟩) hbl).trans hc1
        have hb0 : Below w.heap.size w (wr.alloc (.cells #[.slice RA es[k].1.length rc, .int .i64 es[k].2] 34)) := bal hbel _
        obtain ⟨t0, t1, t2, t3, t4, t5⟩ := tot_step HZ.out hlt
        have HT := Lib.hid t0
        clear hc0 hc1 t0
        go_wp2
        go_roundw
        case rel => exact ⟨k + 1, by omega, by go_num, by rw [HT.out], hb0⟩
        case measure => simp [intOf]; omega
      · obtain rfl : k = es.length := by omega
        have HT := Lib.hid (List.take_length (l := es))
        go_wp2
        go_ret
        exact ⟨ret_int (by rw [HT.out, HR.out]), hbel⟩
  · have h' : zsB es = false := by simpa using h
    have HR : Hid (TotF es = 0) := by simp [Hid, TotF, h']
    rw [h'] at hcon
    clear h h'
    go_enter Try.func26, Try.ntmps26
    go_wp2_with fail
    refine hcon.mono ?_
    rintro e w1 ⟨rfl, hb⟩
    clear hcon
    go_wp2_with fail
    go_ret
    exact ⟨ret_int HR.out.symm, hb⟩

set_option maxHeartbeats 400000 in
theorem WeightOf_i (A : Option Addr) (c : Nat) (es : List Ent) (B : Option Addr) (d : Nat) (r : List Int) (w : World) (hx : EntsAt w A es) (hy : IntsAt w B r) (hn : es.length ≤ 4194304) (hr : rowsIn es 4194304) (hm : r.length ≤ 4194304) :
    Calls Try.prog 29 #[.slice A es.length c, .slice B r.length d] w fun e w' => e = .returned (.int .i64 (WeightF es r)) ∧ Below w.heap.size w w' := by
  have hcon := ValidZSet_i A c es w hx hn hr
  by_cases h : zsB es = true
  · have HR : Hid (WeightF es r = wOf es r) := by simp [Hid, WeightF, h]
    rw [h] at hcon
    clear h
    go_enter Try.func29, Try.ntmps29
    go_wp2_with fail
    refine hcon.mono ?_
    rintro e w1 ⟨rfl, hb⟩
    clear hcon
    go_wp2
    go_loopw [6, 12] (fun _ i wr => ∃ k : Nat, k ≤ es.length ∧ i = .int .i64 k ∧ noneTo es r k ∧ Below w.heap.size w wr) (fun _ i _ => es.length - (intOf i).toNat)
    case atStart => exact ⟨0, by omega, rfl, noneTo_zero _ _, hb⟩
    case round =>
      obtain ⟨k, hk, rfl, hno, hbel⟩ := hrel
      have HN := Lib.hid hno
      clear hno
      by_cases hlt : k < es.length
      · obtain ⟨b, off, RA, rc, rfl, hbl, hc0, hc1, -, hrow⟩ := hx.get k hlt
        have q0 := (hbel.cell (p := ⟨b, off + k * 2, none⟩) hbl).trans hc0
        have q1 := (hbel.cell (p := ⟨b, off + k * 2 + 1, none⟩) hbl).trans hc1
        have hrl := hr.get hlt
        have hb0 : Below w.heap.size w (wr.alloc (.cells #[.slice RA es[k].1.length rc, .int .i64 es[k].2] 34)) := bal hbel _
        have hcon := compare_i RA B rc d es[k].1 r _ (hrow.below hb0) (hy.below hb0) (by omega) (by omega)
        clear hc0 hc1
        by_cases he : es[k].1 = r
        · have HW := Lib.hid (wOf_hit HN.out hlt he)
          have hz : (cmpL es[k].1 r == 0) = true := by simp [cmpL_zero, he]
          clear he
          go_wp2_with fail
          refine hcon.mono ?_
          rintro e w1 ⟨rfl, hb⟩
          obtain ⟨hcl, hfr⟩ := bcell hb
          have hB := btr hb0 hb
          clear hcon q0 q1 hb
          go_wp2
          go_ret
          exact ⟨ret_int (by rw [HR.out, HW.out]), hB⟩
        · have HS := Lib.hid (noneTo_step HN.out hlt he)
          have hz : (cmpL es[k].1 r == 0) = false := by rw [beq_eq_false_iff_ne]; exact fun e => he (cmpL_zero.1 e)
          clear he
          go_wp2_with fail
          refine hcon.mono ?_
          rintro e w1 ⟨rfl, hb⟩
          clear hcon q0 q1
          go_wp2
          go_roundw
          case rel => exact ⟨k + 1, by omega, by go_num, HS.out, btr hb0 hb⟩
          case measure => simp [intOf]; omega
      · obtain rfl : k = es.length := by omega
        have HW := Lib.hid (wOf_none HN.out)
        go_wp2
        go_ret
        exact ⟨ret_int (by rw [HR.out, HW.out]), hbel⟩
  · have h' : zsB es = false := by simpa using h
    have HR : Hid (WeightF es r = 0) := by simp [Hid, WeightF, h']
    rw [h'] at hcon
    clear h h'
    go_enter Try.func29, Try.ntmps29
    go_wp2_with fail
    refine hcon.mono ?_
    rintro e w1 ⟨rfl, hb⟩
    clear hcon
    go_wp2_with fail
    go_ret
    exact ⟨ret_int HR.out.symm, hb⟩
end Go.Proofs.Ytjlpkfcdkmcjnaa
