/- HELPER, no statement of the seat: several texts in one file. -/
import Derived.Test.YthefakiobpijiaaZba
/- HELPER, no statement of the seat: the program's methods of entries, and its generic tests at entries. -/
namespace Go.Proofs.Ythefakiobpijiaa
open Go.RowKit Go.Sort
set_option linter.unusedSimpArgs false
set_option linter.unusedVariables false

theorem isWithin_w (n : Int) (w : World) : Calls Try.prog 200 #[.int .i64 n, .int .i64 1000000] w fun e w' => e = .returned (.bool (wtB n)) ∧ w = w' := by
  by_cases h0 : -1000000 ≤ n <;> by_cases h1 : n ≤ 1000000
  all_goals
    go_enter Try.func200, Try.ntmps200
    go_wp2
    go_ret
    exact ⟨ret_bool (by simp [wtB, inB, *] <;> omega), rfl⟩

theorem isSummand_e (RA : Option Addr) (rc : Nat) (xs : List Int) (x : Int) (w : World) (hx : IntsAt w RA xs) (hn : xs.length ≤ 4194304) :
    Calls Try.prog 250 #[.agg #[.slice RA xs.length rc, .int .i64 x]] w fun e w' => e = .returned (.bool (sumE (xs, x))) ∧ Below w.heap.size w w' := by
  have hb0 : Below w.heap.size w (w.alloc (.cells #[.slice RA xs.length rc, .int .i64 x] 260)) := bal (Below.refl _ _) _
  by_cases h1 : rowB xs = true
  · have HR : Hid (sumE (xs, x) = wtB x) := by simp [Hid, sumE, h1]
    go_enter Try.func250, Try.ntmps250
    go_wp2_with fail
    refine (ValidRow_i _ _ _ _ (hx.below hb0) (by omega)).mono ?_
    rintro e w1 ⟨rfl, hb⟩
    obtain ⟨hc, hf⟩ := bcell hb
    have hB := btr hb0 hb
    clear hb hb0
    go_wp2_with (go_at_call 200; refine (isWithin_w _ _).mono ?_; rintro e w2 ⟨rfl, rfl⟩)
    go_ret
    exact ⟨ret_bool HR.out.symm, hB⟩
  · have h1' : rowB xs = false := by simpa using h1
    have HR : Hid (sumE (xs, x) = false) := by simp [Hid, sumE, h1']
    clear h1
    go_enter Try.func250, Try.ntmps250
    go_wp2_with fail
    refine (ValidRow_i _ _ _ _ (hx.below hb0) (by omega)).mono ?_
    rintro e w1 ⟨rfl, hb⟩
    have hB := btr hb0 hb
    clear hb hb0
    go_wp2_with fail
    go_ret
    exact ⟨ret_bool HR.out.symm, hB⟩
theorem isZero_e (v : Value) (x : Int) (w : World) :
    Calls Try.prog 276 #[.agg #[v, .int .i64 x]] w fun e w' => e = .returned (.bool (x == 0)) ∧ Below w.heap.size w w' := by
  go_enter Try.func276, Try.ntmps276
  go_wp2
  go_ret
  exact ⟨rfl, bal (Below.refl _ _) _⟩
theorem row_e (RA : Option Addr) (n rc : Nat) (x : Int) (w : World) :
    Calls Try.prog 278 #[.agg #[.slice RA n rc, .int .i64 x]] w fun e w' => e = .returned (.slice RA n rc) ∧ Below w.heap.size w w' := by
  go_enter Try.func278, Try.ntmps278
  go_wp2
  go_ret
  exact ⟨rfl, bal (Below.refl _ _) _⟩
theorem withRow_e (v : Value) (RA : Option Addr) (n rc : Nat) (x : Int) (w : World) :
    Calls Try.prog 279 #[.agg #[v, .int .i64 x], .slice RA n rc] w fun e w' => e = .returned (.agg #[.slice RA n rc, .int .i64 x]) ∧ Below w.heap.size w w' := by
  go_enter Try.func279, Try.ntmps279
  go_wp2
  exact bodyPost_ret (v := .agg #[.slice RA n rc, .int .i64 x]) (by simp [results, Try.results279, go_sem]) rfl ⟨rfl, (by repeat (first | exact Below.refl _ _ | refine bal ?_ _ | refine bset ?_ (by simp) _ | refine Below.drew ?_))⟩
theorem compare_e (RA RB : Option Addr) (c d : Nat) (xs ys : List Int) (x y : Int) (w : World) (hx : IntsAt w RA xs) (hy : IntsAt w RB ys) (hn : xs.length ≤ 4194304) (hm : ys.length ≤ 4194304) :
    Calls Try.prog 275 #[.agg #[.slice RA xs.length c, .int .i64 x], .agg #[.slice RB ys.length d, .int .i64 y]] w fun e w' => e = .returned (.int .i64 (cmpL xs ys)) ∧ Below w.heap.size w w' := by
  have hb0 : Below w.heap.size w ((w.alloc (.cells #[.slice RA xs.length c, .int .i64 x] 260)).alloc (.cells #[.slice RB ys.length d, .int .i64 y] 260)) := bal (bal (Below.refl _ _) _) _
  go_enter Try.func275, Try.ntmps275
  go_wp2_with fail
  refine (compare_i _ _ _ _ _ _ _ (hx.below hb0) (hy.below hb0) (by omega) (by omega)).mono ?_
  rintro e w1 ⟨rfl, hb⟩
  go_wp2
  go_ret
  exact ⟨rfl, btr hb0 hb⟩

theorem m_isSummand (v u : Value) (w : World) : (method 387 260 (.agg #[v, u]) "loop.example/dataflow/impl.isSummand").run Try.prog w = .ok (250, .agg #[v, u]) w := by kernel_rfl
theorem m_isZero (v u : Value) (w : World) : (method 387 260 (.agg #[v, u]) "loop.example/dataflow/impl.isZero").run Try.prog w = .ok (276, .agg #[v, u]) w := by kernel_rfl
theorem m_row (v u : Value) (w : World) : (method 387 260 (.agg #[v, u]) "loop.example/dataflow/impl.row").run Try.prog w = .ok (278, .agg #[v, u]) w := by kernel_rfl
theorem m_withRow (v u : Value) (w : World) : (method 387 260 (.agg #[v, u]) "loop.example/dataflow/impl.withRow").run Try.prog w = .ok (279, .agg #[v, u]) w := by kernel_rfl
theorem m_compare (v u : Value) (w : World) : (method 387 260 (.agg #[v, u]) "loop.example/dataflow/impl.compare").run Try.prog w = .ok (275, .agg #[v, u]) w := by kernel_rfl
theorem m_plus (v u : Value) (w : World) : (method 387 260 (.agg #[v, u]) "loop.example/dataflow/impl.plus").run Try.prog w = .ok (277, .agg #[v, u]) w := by kernel_rfl

theorem wid_nil : wid ([] : List Ent) = 0 := rfl
theorem wid_get {es : List Ent} (h : 0 < es.length) : wid es = es[0].1.length := by rw [wid, nth_get h]
theorem stepB_zero {es : List Ent} {k : Nat} (h : k < es.length) (e : es[k].2 = 0) : stepB es k = false := by simp [stepB, nth_get h, e]
theorem stepB_wid {es : List Ent} {k : Nat} (h : k < es.length) (e : es[k].1.length ≠ wid es) : stepB es k = false := by simp [stepB, nth_get h, e]
theorem stepB_first {es : List Ent} (h : 0 < es.length) (e : es[0].2 ≠ 0) (e1 : es[0].1.length = wid es) : stepB es 0 = true := by simp [stepB, nth_get h, e, e1]
theorem stepB_next {es : List Ent} {m : Nat} (h : m + 1 < es.length) (e : es[m + 1].2 ≠ 0) (e1 : es[m + 1].1.length = wid es) : stepB es (m + 1) = lessB es[m].1 es[m + 1].1 := by simp [stepB, nth_get h, nth_get (show m < es.length by omega), e, e1]

end Go.Proofs.Ythefakiobpijiaa

/- HELPER, no statement of the seat: the model's tests and simple functions on lists of entries. -/
namespace Go.Proofs.Ythefakiobpijiaa
open Go.RowKit Go.Sort
set_option linter.unusedSimpArgs false
set_option linter.unusedVariables false

theorem inB_below (n : Int) (b : Bool) (h : wtB n = b) (w : World) : Calls Try.prog 118 #[.int .i64 n, .int .i64 (-1000000), .int .i64 1000000] w fun e w' => e = .returned (.bool b) ∧ Below w.heap.size w w' :=
  (inRange_any n _ _ w).mono fun e w' ⟨he, hw⟩ => ⟨by rw [he, ← h]; rfl, hw ▸ Below.refl _ _⟩
/-- The test of the model, of one entry. -/
def goodE (es : List Ent) (k : Nat) : Bool := sumE (nth es k) && stepB es k
theorem zsB_good (es : List Ent) : zsB es = (allTo (goodE es) es.length && decide (es.length ≤ 400)) := zsB_all
theorem zsB_bad {es : List Ent} {k : Nat} (h : k < es.length) (hg : goodE es k = false) : zsB es = false := by rw [zsB_good, allTo_bad h hg]; rfl
theorem good_row {es : List Ent} {k : Nat} (h : k < es.length) (e : rowB es[k].1 = false) : goodE es k = false := by simp [goodE, sumE, nth_get h, e]
theorem good_wt {es : List Ent} {k : Nat} (h : k < es.length) (e : wtB es[k].2 = false) : goodE es k = false := by simp [goodE, sumE, nth_get h, e]
theorem good_step {es : List Ent} {k : Nat} (e : stepB es k = false) : goodE es k = false := by simp [goodE, e]
theorem good_ok {es : List Ent} {k : Nat} (h : k < es.length) (e : rowB es[k].1 = true) (e1 : wtB es[k].2 = true) (e2 : stepB es k = true) : goodE es k = true := by simp [goodE, sumE, nth_get h, e, e1, e2]

end Go.Proofs.Ythefakiobpijiaa

/- HELPER, no statement of the seat: sets, weights: both sides. -/
namespace Go.Proofs.Ythefakiobpijiaa
open Go.RowKit Go.Sort
set_option linter.unusedSimpArgs false
set_option linter.unusedVariables false

set_option maxHeartbeats 400000 in
theorem equalInts_s (A B : Option Addr) (c d : Nat) (xs ys : List Int) (w : World) (hx : IntsAt w A xs) (hy : IntsAt w B ys) (hn : xs.length * 8 ≤ 140737488351232) (hm : ys.length * 8 ≤ 140737488351232) :
    Calls Try.prog 180 #[.slice A xs.length c, .slice B ys.length d] w fun e w' => e = .returned (.bool (decide (xs = ys))) ∧ Below w.heap.size w w' := by
  by_cases hl : xs.length = ys.length
  · have hb : ((xs.length : Int) != (ys.length : Int)) = false := by simp [hl]
    have HL := Lib.hid hl
    clear hl
    go_enter Try.func180, Try.ntmps180
    go_wp2
    go_loopw [5] (fun i wr => ∃ k : Nat, k ≤ xs.length ∧ i = .int .i64 k ∧ xs.take k = ys.take k ∧ Below w.heap.size w wr) (fun i _ => xs.length - (intOf i).toNat)
    case atStart => exact ⟨0, by omega, rfl, rfl, Below.refl _ _⟩
    case round =>
      obtain ⟨k, hk, rfl, htk, hbel⟩ := hrel
      have HT := Lib.hid htk
      clear htk
      by_cases hlt : k < xs.length
      · have hlt2 : k < ys.length := by have := HL.out; omega
        obtain ⟨b, off, rfl, hbl, hc⟩ := hx (by omega)
        obtain ⟨b2, off2, rfl, hbl2, hc2⟩ := hy (by omega)
        have hck : wr.cell? ⟨b, off + k, none⟩ = some (.int .i64 xs[k]) := (hbel.cell (p := ⟨b, off + k, none⟩) hbl).trans (by rw [hc k hlt]; simp [hlt])
        have hck2 : wr.cell? ⟨b2, off2 + k, none⟩ = some (.int .i64 ys[k]) := (hbel.cell (p := ⟨b2, off2 + k, none⟩) hbl2).trans (by rw [hc2 k hlt2]; simp [hlt2])
        clear hc hc2
        by_cases he : xs[k] = ys[k]
        · have hne : (xs[k] != ys[k]) = false := by simp [he]
          have HE := Lib.hid he
          clear he
          go_wp2_with fail
          go_quiet (fail)
          go_wp2
          go_roundw
          case rel => exact ⟨k + 1, by omega, by go_num, take_eq_step hlt hlt2 HT.out HE.out, bdn hbel _⟩
          case measure => simp [intOf]; omega
        · have hne : (xs[k] != ys[k]) = true := by simp [he]
          go_wp2_with fail
          go_quiet (fail)
          go_wp2
          go_ret
          exact ⟨ret_bool (by simp; rintro rfl; exact he rfl), bdn hbel _⟩
      · obtain rfl : k = xs.length := by omega
        have hfin : decide (xs = ys) = true := by
          have h1 := HT.out
          have h2 := HL.out
          rw [List.take_length, h2, List.take_length] at h1
          simp [h1]
        have HF := Lib.hid hfin
        clear hfin
        go_wp2
        go_ret
        exact ⟨ret_bool HF.out.symm, hbel⟩
  · have hb : ((xs.length : Int) != (ys.length : Int)) = true := by simp; omega
    have hfin : decide (xs = ys) = false := by simp; rintro rfl; exact hl rfl
    have HF := Lib.hid hfin
    clear hfin
    go_enter Try.func180, Try.ntmps180
    go_wp2
    go_ret
    exact ⟨ret_bool HF.out.symm, Below.refl _ _⟩


theorem cmpL_zero : ∀ {xs ys : List Int}, cmpL xs ys = 0 ↔ xs = ys
  | [], [] => by simp [cmpL]
  | [], _ :: _ => by simp [cmpL]
  | _ :: _, [] => by simp [cmpL]
  | a :: xs, b :: ys => by
    unfold cmpL
    by_cases h : cmpI a b = 0
    · rw [if_pos h, cmpL_zero]
      have := (cmpI_zero a b).1 h
      subst this
      simp
    · rw [if_neg h]
      constructor
      · intro e; exact absurd e h
      · intro e
        injection e with e1 e2
        exact absurd ((cmpI_zero a b).2 e1) h
theorem one_get {z : List Ent} {k : Nat} (h : k < z.length) : decide ((nth z k).2 = 1) = decide (z[k].2 = 1) := by rw [nth_get h]
theorem setB_bad {z : List Ent} {k : Nat} (h : k < z.length) (e : z[k].2 ≠ 1) : oneB z = false := allTo_bad h (by rw [one_get h]; simp [e])

theorem tot_step {es : List Ent} (hz : zsB es = true) {k : Nat} (h : k < es.length) :
    totW (es.take (k + 1)) = totW (es.take k) + es[k].2 ∧ -1000000 * (k : Int) ≤ totW (es.take k) ∧ totW (es.take k) ≤ 1000000 * k ∧ -1000000 ≤ es[k].2 ∧ es[k].2 ≤ 1000000 ∧ (k : Int) ≤ 400 := by
  have hb := totW_bd (z := es) (fun e he => by
    obtain ⟨j, hj, rfl⟩ := List.getElem_of_mem he
    exact zsB_wt hz hj) k
  have := zsB_len hz
  exact ⟨totW_step h, hb.1, hb.2, (zsB_wt hz h).1, (zsB_wt hz h).2, by omega⟩
end Go.Proofs.Ythefakiobpijiaa
