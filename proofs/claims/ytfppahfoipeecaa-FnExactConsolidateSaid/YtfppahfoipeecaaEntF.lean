/- HELPER, no statement of the seat: sets, weights: both sides. -/
import Derived.Test.YtfppahfoipeecaaEntS
namespace Go.Proofs.Ytfppahfoipeecaa
open Go.RowKit Go.Sort
set_option linter.unusedSimpArgs false
set_option linter.unusedVariables false

set_option maxHeartbeats 400000 in
theorem equalInts_s (A B : Option Addr) (c d : Nat) (xs ys : List Int) (w : World) (hx : IntsAt w A xs) (hy : IntsAt w B ys) (hn : xs.length * 8 ≤ 140737488351232) (hm : ys.length * 8 ≤ 140737488351232) :
    Calls Try.prog 154 #[.slice A xs.length c, .slice B ys.length d] w fun e w' => e = .returned (.bool (decide (xs = ys))) ∧ Below w.heap.size w w' := by
  by_cases hl : xs.length = ys.length
  · have hb : ((xs.length : Int) != (ys.length : Int)) = false := by simp [hl]
    have HL := Lib.hid hl
    clear hl
    go_enter Try.func154, Try.ntmps154
    go_wp2
    go_loopw [5] (fun i wr => ∃ k : Nat, k ≤ xs.length ∧ i = .int .i64 k ∧ xs.take k = ys.take k ∧ Below w.heap.size w wr) (fun i _ => xs.length - (intOf i).toNat)
    case atStart => exact ⟨0, by omega, rfl, rfl, Below.refl _ _⟩
    case round =>
      obtain ⟨k, hk, rfl, htk, hbel⟩ := hrel
      have HT := Lib.hid htk
      clear htk
      by_cases hlt : k < xs.length
      · have hlt2 : k < ys.length := by have := HL.out; omega
        obtain ⟨b, off, rfl, hbl, hc⟩ := hx (by omega)
        obtain ⟨b2, off2, rfl, hbl2, hc2⟩ := hy (by omega)
        have hck : wr.cell? ⟨b, off + k, none⟩ = some (.int .i64 xs[k]) := (hbel.cell (p := ⟨b, off + k, none⟩) hbl).trans (by rw [hc k hlt]; simp [hlt])
        have hck2 : wr.cell? ⟨b2, off2 + k, none⟩ = some (.int .i64 ys[k]) := (hbel.cell (p := ⟨b2, off2 + k, none⟩) hbl2).trans (by rw [hc2 k hlt2]; simp [hlt2])
        clear hc hc2
        by_cases he : xs[k] = ys[k]
        · have hne : (xs[k] != ys[k]) = false := by simp [he]
          have HE := Lib.hid he
          clear he
          go_wp2_with fail
          go_quiet (fail)
          go_wp2
          go_roundw
          case rel => exact ⟨k + 1, by omega, by go_num, take_eq_step hlt hlt2 HT.out HE.out, bdn hbel _⟩
          case measure => simp [intOf]; omega
        · have hne : (xs[k] != ys[k]) = true := by simp [he]
          go_wp2_with fail
          go_quiet (fail)
          go_wp2
          go_ret
          exact ⟨ret_bool (by simp; rintro rfl; exact he rfl), bdn hbel _⟩
      · obtain rfl : k = xs.length := by omega
        have hfin : decide (xs = ys) = true := by
          have h1 := HT.out
          have h2 := HL.out
          rw [List.take_length, h2, List.take_length] at h1
          simp [h1]
        have HF := Lib.hid hfin
        clear hfin
        go_wp2
        go_ret
        exact ⟨ret_bool HF.out.symm, hbel⟩
  · have hb : ((xs.length : Int) != (ys.length : Int)) = true := by simp; omega
    have hfin : decide (xs = ys) = false := by simp; rintro rfl; exact hl rfl
    have HF := Lib.hid hfin
    clear hfin
    go_enter Try.func154, Try.ntmps154
    go_wp2
    go_ret
    exact ⟨ret_bool HF.out.symm, Below.refl _ _⟩


theorem cmpL_zero : ∀ {xs ys : List Int}, cmpL xs ys = 0 ↔ xs = ys
  | [], [] => by simp [cmpL]
  | [], _ :: _ => by simp [cmpL]
  | _ :: _, [] => by simp [cmpL]
  | a :: xs, b :: ys => by
    unfold cmpL
    by_cases h : cmpI a b = 0
    · rw [if_pos h, cmpL_zero]
      have := (cmpI_zero a b).1 h
      subst this
      simp
    · rw [if_neg h]
      constructor
      · intro e; exact absurd e h
      · intro e
        injection e with e1 e2
        exact absurd ((cmpI_zero a b).2 e1) h
theorem one_get {z : List Ent} {k : Nat} (h : k < z.length) : decide ((nth z k).2 = 1) = decide (z[k].2 = 1) := by rw [nth_get h]
theorem setB_bad {z : List Ent} {k : Nat} (h : k < z.length) (e : z[k].2 ≠ 1) : oneB z = false := allTo_bad h (by rw [one_get h]; simp [e])

theorem tot_step {es : List Ent} (hz : zsB es = true) {k : Nat} (h : k < es.length) :
    totW (es.take (k + 1)) = totW (es.take k) + es[k].2 ∧ -1000000 * (k : Int) ≤ totW (es.take k) ∧ totW (es.take k) ≤ 1000000 * k ∧ -1000000 ≤ es[k].2 ∧ es[k].2 ≤ 1000000 ∧ (k : Int) ≤ 400 := by
  have hb := totW_bd (z := es) (fun e he => by
    obtain ⟨j, hj, rfl⟩ := List.getElem_of_mem he
    exact zsB_wt hz hj) k
  have := zsB_len hz
  exact ⟨totW_step h, hb.1, hb.2, (zsB_wt hz h).1, (zsB_wt hz h).2, by omega⟩
set_option maxHeartbeats 400000 in
theorem totalWeight_s (A : Option Addr) (c : Nat) (es : List Ent) (w : World) (hx : EntsAt w A es) (hn : es.length ≤ 4194304) (hz : zsB es = true) :
    Calls Try.prog 199 #[.slice A es.length c] w fun e w' => e = .returned (.int .i64 (totW es)) ∧ Below w.heap.size w w' := by
  have HZ := Lib.hid hz
  clear hz
  go_enter Try.func199, Try.ntmps199
  go_wp2
  go_loopw [3, 4] (fun q i wr => ∃ k : Nat, k ≤ es.length ∧ i = .int .i64 k ∧ q = .int .i64 (totW (es.take k)) ∧ Below w.heap.size w wr) (fun _ i _ => es.length - (intOf i).toNat)
  case atStart => exact ⟨0, by omega, rfl, by simp [totW], Below.refl _ _⟩
  case round =>
    obtain ⟨k, hk, rfl, rfl, hbel⟩ := hrel
    by_cases hlt : k < es.length
    · obtain ⟨b, off, RA, rc, rfl, hbl, hc0, hc1, -, -⟩ := hx.get k hlt
      have q1 := cgrow ((hbel.cell (p := ⟨b, off + k * 2 + 1, none⟩) hbl).trans hc1)
      have q0 := (hbel.cell (p := ⟨b, off + k * 2 + 1, none⟩) hbl).trans hc1
      obtain ⟨t0, t1, t2, t3, t4, t5⟩ := tot_step HZ.out hlt
      have HT := Lib.hid t0
      clear hc0 hc1 t0
      go_wp2
      go_roundw
      case rel => exact ⟨k + 1, by omega, by go_num, by rw [HT.out], hbel⟩
      case measure => simp [intOf]; omega
    · obtain rfl : k = es.length := by omega
      have HT := Lib.hid (List.take_length (l := es))
      go_wp2
      go_ret
      exact ⟨ret_int (by rw [HT.out]), hbel⟩
set_option maxHeartbeats 400000 in
theorem weightOf_s (A : Option Addr) (c : Nat) (es : List Ent) (B : Option Addr) (d : Nat) (r : List Int) (w : World) (hx : EntsAt w A es) (hy : IntsAt w B r) (hn : es.length ≤ 4194304) (hr : rowsIn es 4194304) (hm : r.length ≤ 4194304) :
    Calls Try.prog 159 #[.slice A es.length c, .slice B r.length d] w fun e w' => e = .returned (.int .i64 (wOf es r)) ∧ Below w.heap.size w w' := by
  go_enter Try.func159, Try.ntmps159
  go_wp2
  go_loopw [5] (fun i wr => ∃ k : Nat, k ≤ es.length ∧ i = .int .i64 k ∧ noneTo es r k ∧ Below w.heap.size w wr) (fun i _ => es.length - (intOf i).toNat)
  case atStart => exact ⟨0, by omega, rfl, noneTo_zero _ _, Below.refl _ _⟩
  case round =>
    obtain ⟨k, hk, rfl, hno, hbel⟩ := hrel
    have HN := Lib.hid hno
    clear hno
    by_cases hlt : k < es.length
    · obtain ⟨b, off, RA, rc, rfl, hbl, hc0, hc1, -, hrow⟩ := hx.get k hlt
      have q0 := (hbel.cell (p := ⟨b, off + k * 2, none⟩) hbl).trans hc0
      have q1 := (hbel.cell (p := ⟨b, off + k * 2 + 1, none⟩) hbl).trans hc1
      have hrl := hr.get hlt
      have hcon := equalInts_s RA B rc d es[k].1 r wr (hrow.below hbel) (hy.below hbel) (by omega) (by omega)
      clear hc0 hc1
      by_cases he : es[k].1 = r
      · have HR := Lib.hid (wOf_hit HN.out hlt he)
        rw [show decide (es[k].1 = r) = true by simp [he]] at hcon
        clear he
        go_wp2_with fail
        refine hcon.mono ?_
        rintro e w1 ⟨rfl, hb⟩
        have q2 := (hb.cell (p := ⟨b, off + k * 2 + 1, none⟩) (Nat.lt_of_lt_of_le hbl hbel.size)).trans q1
        clear hcon q0 q1
        go_wp2
        go_ret
        exact ⟨ret_int HR.out.symm, btr hbel hb⟩
      · have HS := Lib.hid (noneTo_step HN.out hlt he)
        rw [show decide (es[k].1 = r) = false by simp [he]] at hcon
        clear he
        go_wp2_with fail
        refine hcon.mono ?_
        rintro e w1 ⟨rfl, hb⟩
        clear hcon q0 q1
        go_wp2
        go_roundw
        case rel => exact ⟨k + 1, by omega, by go_num, HS.out, btr hbel hb⟩
        case measure => simp [intOf]; omega
    · obtain rfl : k = es.length := by omega
      have HR := Lib.hid (wOf_none HN.out)
      go_wp2
      go_ret
      exact ⟨ret_int HR.out.symm, hbel⟩
end Go.Proofs.Ytfppahfoipeecaa
