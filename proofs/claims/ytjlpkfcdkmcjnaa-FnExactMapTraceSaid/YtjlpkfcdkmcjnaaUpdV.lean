/- HELPER, no statement of the seat: the tests of a trace: both sides. -/
import Derived.Test.YtjlpkfcdkmcjnaaUpdC
import Derived.Test.YtjlpkfcdkmcjnaaEntS
namespace Go.Proofs.Ytjlpkfcdkmcjnaa
open Go.RowKit Go.Sort
set_option linter.unusedSimpArgs false
set_option linter.unusedVariables false

def nthU (z : List Upd) (j : Nat) : Upd := z.getD j (([], (0, 0)), 0)
theorem nthU_get {z : List Upd} {j : Nat} (h : j < z.length) : nthU z j = z[j] := by simp [nthU, h]
def widU (z : List Upd) : Nat := (nthU z 0).1.1.length
def sumU (e : Upd) : Bool := sumE (e.1.1, e.2) && vtB e.1.2.1 e.1.2.2
def ltU (x y : List Int × (Int × Int)) : Bool := decide (orV (cmpL x.1 y.1) (cmpT x.2.1 x.2.2 y.2.1 y.2.2) < 0)
def stepU (z : List Upd) (j : Nat) : Bool := decide ((nthU z j).2 ≠ 0) && (decide ((nthU z j).1.1.length = widU z) && (decide (j = 0) || ltU (nthU z (j - 1)).1 (nthU z j).1))
def sumsU (z : List Upd) : Bool := allTo (fun j => sumU (nthU z j)) z.length
def ordU (z : List Upd) : Bool := allTo (stepU z) z.length
def trB (z : List Upd) : Bool := decide (z.length ≤ 400) && (sumsU z && ordU z)

theorem entry_u (RA : Option Addr) (n rc : Nat) (p q x : Int) (w : World) :
    Calls Try.prog 249 #[.agg #[.slice RA n rc, .int .i64 p, .int .i64 q, .int .i64 x]] w fun e w' => e = .returned (.agg #[.slice RA n rc, .int .i64 x]) ∧ Below w.heap.size w w' := by
  go_enter Try.func249, Try.ntmps249
  go_wp2
  exact bodyPost_ret (v := .agg #[.slice RA n rc, .int .i64 x]) (by simp [results, Try.results249, go_sem]) rfl ⟨rfl, (by repeat (first | exact Below.refl _ _ | refine bal ?_ _ | refine bset ?_ (by simp) _ | refine Below.drew ?_))⟩
theorem isZero_u (v : Value) (p q x : Int) (w : World) :
    Calls Try.prog 245 #[.agg #[v, .int .i64 p, .int .i64 q, .int .i64 x]] w fun e w' => e = .returned (.bool (x == 0)) ∧ Below w.heap.size w w' := by
  go_enter Try.func245, Try.ntmps245
  go_wp2
  go_ret
  exact ⟨rfl, bal (Below.refl _ _) _⟩
theorem row_u (RA : Option Addr) (n rc : Nat) (p q x : Int) (w : World) :
    Calls Try.prog 247 #[.agg #[.slice RA n rc, .int .i64 p, .int .i64 q, .int .i64 x]] w fun e w' => e = .returned (.slice RA n rc) ∧ Below w.heap.size w w' := by
  go_enter Try.func247, Try.ntmps247
  go_wp2
  go_ret
  exact ⟨rfl, bal (Below.refl _ _) _⟩
set_option maxHeartbeats 800000 in
theorem isSummand_u (RA : Option Addr) (rc : Nat) (xs : List Int) (p q x : Int) (w : World) (hx : IntsAt w RA xs) (hn : xs.length ≤ 4194304) :
    Calls Try.prog 244 #[.agg #[.slice RA xs.length rc, .int .i64 p, .int .i64 q, .int .i64 x]] w fun e w' => e = .returned (.bool (sumU ((xs, (p, q)), x))) ∧ Below w.heap.size w w' := by
  have hb0 : Below w.heap.size w (w.alloc (.cells #[.slice RA xs.length rc, .int .i64 p, .int .i64 q, .int .i64 x] 102)) := bal (Below.refl _ _) _
  have hcon := fun W (h : IntsAt W RA xs) => isSummand_e RA rc xs x W h hn
  by_cases h1 : sumE (xs, x) = true
  · have HR : Hid (sumU ((xs, (p, q)), x) = vtB p q) := by simp [Hid, sumU, h1]
    rw [h1] at hcon
    clear h1
    go_enter Try.func244, Try.ntmps244
    go_wp2_with fail
    refine (entry_u _ _ _ _ _ _ _).mono ?_
    rintro e w1 ⟨rfl, b1⟩
    obtain ⟨hc1, hf1⟩ := bcell b1
    have hB1 := btr hb0 b1
    have z1 : w.heap.size + 1 ≤ w1.heap.size := by have := b1.size; simpa using this
    clear b1
    go_wp2_with fail
    refine (hcon _ (hx.below hB1)).mono ?_
    rintro e w2 ⟨rfl, b2⟩
    obtain ⟨hc2, hf2⟩ := bcell b2
    have hB2 := btr hB1 b2
    have t1 : w2.cell? ⟨w.heap.size, 1, none⟩ = some (.int .i64 p) := by rw [hc2 _ _ (by omega), hc1 _ _ (by simp)]; simp
    have t2 : w2.cell? ⟨w.heap.size, 2, none⟩ = some (.int .i64 q) := by rw [hc2 _ _ (by omega), hc1 _ _ (by simp)]; simp
    clear hc1 hf1 hc2 hf2 b2 hcon
    go_wp2_with fail
    refine (isValid_i _ _ _).mono ?_
    rintro e w3 ⟨rfl, b3⟩
    go_wp2_with fail
    go_ret
    exact ⟨ret_bool HR.out.symm, btr hB2 b3⟩
  · have h1' : sumE (xs, x) = false := by simpa using h1
    have HR : Hid (sumU ((xs, (p, q)), x) = false) := by simp [Hid, sumU, h1']
    rw [h1'] at hcon
    clear h1 h1'
    go_enter Try.func244, Try.ntmps244
    go_wp2_with fail
    refine (entry_u _ _ _ _ _ _ _).mono ?_
    rintro e w1 ⟨rfl, b1⟩
    have hB1 := btr hb0 b1
    go_wp2_with fail
    refine (hcon _ (hx.below hB1)).mono ?_
    rintro e w2 ⟨rfl, b2⟩
    go_wp2_with fail
    go_ret
    exact ⟨ret_bool HR.out.symm, btr hB1 b2⟩
theorem m_isSummandU (v p q u : Value) (w : World) : (method 325 102 (.agg #[v, p, q, u]) "loop.example/dataflow/impl.isSummand").run Try.prog w = .ok (244, .agg #[v, p, q, u]) w := by kernel_rfl
theorem m_isZeroU (v p q u : Value) (w : World) : (method 325 102 (.agg #[v, p, q, u]) "loop.example/dataflow/impl.isZero").run Try.prog w = .ok (245, .agg #[v, p, q, u]) w := by kernel_rfl
theorem m_rowU (v p q u : Value) (w : World) : (method 325 102 (.agg #[v, p, q, u]) "loop.example/dataflow/impl.row").run Try.prog w = .ok (247, .agg #[v, p, q, u]) w := by kernel_rfl
theorem m_compareU (v p q u : Value) (w : World) : (method 325 102 (.agg #[v, p, q, u]) "loop.example/dataflow/impl.compare").run Try.prog w = .ok (243, .agg #[v, p, q, u]) w := by kernel_rfl
set_option maxHeartbeats 1600000 in
theorem areSummands_u (A : Option Addr) (c : Nat) (es : List Upd) (w : World) (hx : UpdsAt w A es) (hn : es.length ≤ 4194304) (hr : rowsU es 4194304) :
    Calls Try.prog 145 #[.slice A es.length c, .int .i64 400] w fun e w' => e = .returned (.bool (decide (es.length ≤ 400) && sumsU es)) ∧ Below w.heap.size w w' := by
  by_cases hbig : 400 < es.length
  · have hb' : (400 : Int) < es.length := by omega
    have HR : Hid ((decide (es.length ≤ 400) && sumsU es) = false) := by simp [Hid]; omega
    go_enter Try.func145, Try.ntmps145
    go_wp2
    go_ret
    exact ⟨ret_bool HR.out.symm, Below.refl _ _⟩
  have hb' : (es.length : Int) ≤ 400 := by omega
  go_enter Try.func145, Try.ntmps145
  go_wp2
  go_loopw [6, 13] (fun _ i wr => ∃ k : Nat, k ≤ es.length ∧ i = .int .i64 k ∧ allTo (fun j => sumU (nthU es j)) k = true ∧ Below w.heap.size w wr) (fun _ i _ => es.length - (intOf i).toNat)
  case atStart => exact ⟨0, by omega, rfl, rfl, Below.refl _ _⟩
  case round =>
    obtain ⟨k, hk, rfl, hall, hbel⟩ := hrel
    have HA := Lib.hid hall
    clear hall
    by_cases hlt : k < es.length
    · obtain ⟨b, off, RA, rc, rfl, hbl, hc0, hc1, hc2, hc3, -, hrow⟩ := hx.get k hlt
      have q0 := (hbel.cell (p := ⟨b, off + k * 4, none⟩) hbl).trans hc0
      have q1 := (hbel.cell (p := ⟨b, off + k * 4 + 1, none⟩) hbl).trans hc1
      have q2 := (hbel.cell (p := ⟨b, off + k * 4 + 2, none⟩) hbl).trans hc2
      have q3 := (hbel.cell (p := ⟨b, off + k * 4 + 3, none⟩) hbl).trans hc3
      have hrl := hr.get hlt
      have hm := m_isSummandU
      have hb0 : Below w.heap.size w (wr.alloc (.cells #[.slice RA es[k].1.1.length rc, .int .i64 es[k].1.2.1, .int .i64 es[k].1.2.2, .int .i64 es[k].2] 102)) := bal hbel _
      have e0 := nthU_get hlt
      have HE := Lib.hid e0
      have hcon := isSummand_u RA rc es[k].1.1 es[k].1.2.1 es[k].1.2.2 es[k].2 _ (hrow.below hb0) hrl
      clear hc0 hc1 hc2 hc3 e0
      by_cases hs : sumU es[k] = true
      · rw [show ((es[k].1.1, (es[k].1.2.1, es[k].1.2.2)), es[k].2) = es[k] from rfl, hs] at hcon
        have HS := Lib.hid hs
        clear hs
        go_wp2_with fail
        refine hcon.mono ?_
        rintro e w1 ⟨rfl, hb⟩
        have hB := btr hb0 hb
        clear hcon
        go_wp2
        go_roundw
        case rel => exact ⟨k + 1, by omega, by go_num, allTo_step HA.out (by rw [HE.out]; exact HS.out), hB⟩
        case measure => simp [intOf]; omega
      · have hs' : sumU es[k] = false := by simpa using hs
        rw [show ((es[k].1.1, (es[k].1.2.1, es[k].1.2.2)), es[k].2) = es[k] from rfl, hs'] at hcon
        have HR : Hid (sumsU es = false) := allTo_bad hlt (by rw [HE.out]; exact hs')
        clear hs hs'
        go_wp2_with fail
        refine hcon.mono ?_
        rintro e w1 ⟨rfl, hb⟩
        have hB := btr hb0 hb
        clear hcon
        go_wp2
        go_ret
        exact ⟨ret_bool (by rw [HR.out]; simp), hB⟩
    · obtain rfl : k = es.length := by omega
      have HR : Hid (sumsU es = true) := HA.out
      go_wp2
      go_ret
      exact ⟨ret_bool (by rw [HR.out]; simp; omega), hbel⟩
end Go.Proofs.Ytjlpkfcdkmcjnaa
