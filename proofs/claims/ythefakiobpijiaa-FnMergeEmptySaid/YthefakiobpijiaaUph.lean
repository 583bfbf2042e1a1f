/- HELPER, no statement of the seat: several texts in one file. -/
import Derived.Test.YthefakiobpijiaaUpg
import Derived.Test.YthefakiobpijiaaZbs
import Derived.Carry
import Derived.ChangeOld
import Derived.Lib.SmallJoins
/- HELPER, no statement of the seat: the tests of a trace: both sides. -/
namespace Go.Proofs.Ythefakiobpijiaa
open Go.RowKit Go.Sort
set_option linter.unusedSimpArgs false
set_option linter.unusedVariables false

def nthU (z : List Upd) (j : Nat) : Upd := z.getD j (([], (0, 0)), 0)
theorem nthU_get {z : List Upd} {j : Nat} (h : j < z.length) : nthU z j = z[j] := by simp [nthU, h]
def widU (z : List Upd) : Nat := (nthU z 0).1.1.length
def sumU (e : Upd) : Bool := sumE (e.1.1, e.2) && vtB e.1.2.1 e.1.2.2
def ltU (x y : List Int × (Int × Int)) : Bool := decide (orV (cmpL x.1 y.1) (cmpT x.2.1 x.2.2 y.2.1 y.2.2) < 0)
def stepU (z : List Upd) (j : Nat) : Bool := decide ((nthU z j).2 ≠ 0) && (decide ((nthU z j).1.1.length = widU z) && (decide (j = 0) || ltU (nthU z (j - 1)).1 (nthU z j).1))
def sumsU (z : List Upd) : Bool := allTo (fun j => sumU (nthU z j)) z.length
def ordU (z : List Upd) : Bool := allTo (stepU z) z.length
def trB (z : List Upd) : Bool := decide (z.length ≤ 400) && (sumsU z && ordU z)

theorem entry_u (RA : Option Addr) (n rc : Nat) (p q x : Int) (w : World) :
    Calls Try.prog 249 #[.agg #[.slice RA n rc, .int .i64 p, .int .i64 q, .int .i64 x]] w fun e w' => e = .returned (.agg #[.slice RA n rc, .int .i64 x]) ∧ Below w.heap.size w w' := by
  go_enter Try.func249, Try.ntmps249
  go_wp2
  exact bodyPost_ret (v := .agg #[.slice RA n rc, .int .i64 x]) (by simp [results, Try.results249, go_sem]) rfl ⟨rfl, (by repeat (first | exact Below.refl _ _ | refine bal ?_ _ | refine bset ?_ (by simp) _ | refine Below.drew ?_))⟩
theorem isZero_u (v : Value) (p q x : Int) (w : World) :
    Calls Try.prog 245 #[.agg #[v, .int .i64 p, .int .i64 q, .int .i64 x]] w fun e w' => e = .returned (.bool (x == 0)) ∧ Below w.heap.size w w' := by
  go_enter Try.func245, Try.ntmps245
  go_wp2
  go_ret
  exact ⟨rfl, bal (Below.refl _ _) _⟩
theorem row_u (RA : Option Addr) (n rc : Nat) (p q x : Int) (w : World) :
    Calls Try.prog 247 #[.agg #[.slice RA n rc, .int .i64 p, .int .i64 q, .int .i64 x]] w fun e w' => e = .returned (.slice RA n rc) ∧ Below w.heap.size w w' := by
  go_enter Try.func247, Try.ntmps247
  go_wp2
  go_ret
  exact ⟨rfl, bal (Below.refl _ _) _⟩
set_option maxHeartbeats 800000 in
theorem isSummand_u (RA : Option Addr) (rc : Nat) (xs : List Int) (p q x : Int) (w : World) (hx : IntsAt w RA xs) (hn : xs.length ≤ 4194304) :
    Calls Try.prog 244 #[.agg #[.slice RA xs.length rc, .int .i64 p, .int .i64 q, .int .i64 x]] w fun e w' => e = .returned (.bool (sumU ((xs, (p, q)), x))) ∧ Below w.heap.size w w' := by
  have hb0 : Below w.heap.size w (w.alloc (.cells #[.slice RA xs.length rc, .int .i64 p, .int .i64 q, .int .i64 x] 119)) := bal (Below.refl _ _) _
  have hcon := fun W (h : IntsAt W RA xs) => isSummand_e RA rc xs x W h hn
  by_cases h1 : sumE (xs, x) = true
  · have HR : Hid (sumU ((xs, (p, q)), x) = vtB p q) := by simp [Hid, sumU, h1]
    rw [h1] at hcon
    clear h1
    go_enter Try.func244, Try.ntmps244
    go_wp2_with fail
    refine (entry_u _ _ _ _ _ _ _).mono ?_
    rintro e w1 ⟨rfl, b1⟩
    obtain ⟨hc1, hf1⟩ := bcell b1
    have hB1 := btr hb0 b1
    have z1 : w.heap.size + 1 ≤ w1.heap.size := by have := b1.size; simpa using this
    clear b1
    go_wp2_with fail
    refine (hcon _ (hx.below hB1)).mono ?_
    rintro e w2 ⟨rfl, b2⟩
    obtain ⟨hc2, hf2⟩ := bcell b2
    have hB2 := btr hB1 b2
    have t1 : w2.cell? ⟨w.heap.size, 1, none⟩ = some (.int .i64 p) := by rw [hc2 _ _ (by omega), hc1 _ _ (by simp)]; simp
    have t2 : w2.cell? ⟨w.heap.size, 2, none⟩ = some (.int .i64 q) := by rw [hc2 _ _ (by omega), hc1 _ _ (by simp)]; simp
    clear hc1 hf1 hc2 hf2 b2 hcon
    go_wp2_with fail
    refine (isValid_i _ _ _).mono ?_
    rintro e w3 ⟨rfl, b3⟩
    go_wp2_with fail
    go_ret
    exact ⟨ret_bool HR.out.symm, btr hB2 b3⟩
  · have h1' : sumE (xs, x) = false := by simpa using h1
    have HR : Hid (sumU ((xs, (p, q)), x) = false) := by simp [Hid, sumU, h1']
    rw [h1'] at hcon
    clear h1 h1'
    go_enter Try.func244, Try.ntmps244
    go_wp2_with fail
    refine (entry_u _ _ _ _ _ _ _).mono ?_
    rintro e w1 ⟨rfl, b1⟩
    have hB1 := btr hb0 b1
    go_wp2_with fail
    refine (hcon _ (hx.below hB1)).mono ?_
    rintro e w2 ⟨rfl, b2⟩
    go_wp2_with fail
    go_ret
    exact ⟨ret_bool HR.out.symm, btr hB1 b2⟩
theorem m_isSummandU (v p q u : Value) (w : World) : (method 387 119 (.agg #[v, p, q, u]) "loop.example/dataflow/impl.isSummand").run Try.prog w = .ok (244, .agg #[v, p, q, u]) w := by kernel_rfl
theorem m_isZeroU (v p q u : Value) (w : World) : (method 387 119 (.agg #[v, p, q, u]) "loop.example/dataflow/impl.isZero").run Try.prog w = .ok (245, .agg #[v, p, q, u]) w := by kernel_rfl
theorem m_rowU (v p q u : Value) (w : World) : (method 387 119 (.agg #[v, p, q, u]) "loop.example/dataflow/impl.row").run Try.prog w = .ok (247, .agg #[v, p, q, u]) w := by kernel_rfl
theorem m_compareU (v p q u : Value) (w : World) : (method 387 119 (.agg #[v, p, q, u]) "loop.example/dataflow/impl.compare").run Try.prog w = .ok (243, .agg #[v, p, q, u]) w := by kernel_rfl
set_option maxHeartbeats 1600000 in
theorem areSummands_u (A : Option Addr) (c : Nat) (es : List Upd) (w : World) (hx : UpdsAt w A es) (hn : es.length ≤ 4194304) (hr : rowsU es 4194304) :
    Calls Try.prog 186 #[.slice A es.length c, .int .i64 400] w fun e w' => e = .returned (.bool (decide (es.length ≤ 400) && sumsU es)) ∧ Below w.heap.size w w' := by
  by_cases hbig : 400 < es.length
  · have hb' : (400 : Int) < es.length := by omega
    have HR : Hid ((decide (es.length ≤ 400) && sumsU es) = false) := by simp [Hid]; omega
    go_enter Try.func186, Try.ntmps186
    go_wp2
    go_ret
    exact ⟨ret_bool HR.out.symm, Below.refl _ _⟩
  have hb' : (es.length : Int) ≤ 400 := by omega
  go_enter Try.func186, Try.ntmps186
  go_wp2
  go_loopw [6, 13] (fun _ i wr => ∃ k : Nat, k ≤ es.length ∧ i = .int .i64 k ∧ allTo (fun j => sumU (nthU es j)) k = true ∧ Below w.heap.size w wr) (fun _ i _ => es.length - (intOf i).toNat)
  case atStart => exact ⟨0, by omega, rfl, rfl, Below.refl _ _⟩
  case round =>
    obtain ⟨k, hk, rfl, hall, hbel⟩ := hrel
    have HA := Lib.hid hall
    clear hall
    by_cases hlt : k < es.length
    · obtain ⟨b, off, RA, rc, rfl, hbl, hc0, hc1, hc2, hc3, -, hrow⟩ := hx.get k hlt
      have q0 := (hbel.cell (p := ⟨b, off + k * 4, none⟩) hbl).trans hc0
      have q1 := (hbel.cell (p := ⟨b, off + k * 4 + 1, none⟩) hbl).trans hc1
      have q2 := (hbel.cell (p := ⟨b, off + k * 4 + 2, none⟩) hbl).trans hc2
      have q3 := (hbel.cell (p := ⟨b, off + k * 4 + 3, none⟩) hbl).trans hc3
      have hrl := hr.get hlt
      have hm := m_isSummandU
      have hb0 : Below w.heap.size w (wr.alloc (.cells #[.slice RA es[k].1.1.length rc, .int .i64 es[k].1.2.1, .int .i64 es[k].1.2.2, .int .i64 es[k].2] 119)) := bal hbel _
      have e0 := nthU_get hlt
      have HE := Lib.hid e0
      have hcon := isSummand_u RA rc es[k].1.1 es[k].1.2.1 es[k].1.2.2 es[k].2 _ (hrow.below hb0) hrl
      clear hc0 hc1 hc2 hc3 e0
      by_cases hs : sumU es[k] = true
      · rw [show ((es[k].1.1, (es[k].1.2.1, es[k].1.2.2)), es[k].2) = es[k] from rfl, hs] at hcon
        have HS := Lib.hid hs
        clear hs
        go_wp2_with fail
        refine hcon.mono ?_
        rintro e w1 ⟨rfl, hb⟩
        have hB := btr hb0 hb
        clear hcon
        go_wp2
        go_roundw
        case rel => exact ⟨k + 1, by omega, by go_num, allTo_step HA.out (by rw [HE.out]; exact HS.out), hB⟩
        case measure => simp [intOf]; omega
      · have hs' : sumU es[k] = false := by simpa using hs
        rw [show ((es[k].1.1, (es[k].1.2.1, es[k].1.2.2)), es[k].2) = es[k] from rfl, hs'] at hcon
        have HR : Hid (sumsU es = false) := allTo_bad hlt (by rw [HE.out]; exact hs')
        clear hs hs'
        go_wp2_with fail
        refine hcon.mono ?_
        rintro e w1 ⟨rfl, hb⟩
        have hB := btr hb0 hb
        clear hcon
        go_wp2
        go_ret
        exact ⟨ret_bool (by rw [HR.out]; simp), hB⟩
    · obtain rfl : k = es.length := by omega
      have HR : Hid (sumsU es = true) := HA.out
      go_wp2
      go_ret
      exact ⟨ret_bool (by rw [HR.out]; simp; omega), hbel⟩
end Go.Proofs.Ythefakiobpijiaa

/- HELPER, no statement of the seat: the test of a trace of the program. -/
namespace Go.Proofs.Ythefakiobpijiaa
open Go.RowKit Go.Sort
set_option linter.unusedSimpArgs false
set_option linter.unusedVariables false

theorem widU_nil : widU ([] : List Upd) = 0 := rfl
theorem widU_get {es : List Upd} (h : 0 < es.length) : widU es = es[0].1.1.length := by rw [widU, nthU_get h]
theorem widthOf_u (A : Option Addr) (c : Nat) (es : List Upd) (w : World) (hx : UpdsAt w A es) (hn : es.length ≤ 4194304) :
    Calls Try.prog 211 #[.slice A es.length c] w fun e w' => e = .returned (.int .i64 (widU es)) ∧ Below w.heap.size w w' := by
  by_cases h0 : es.length = 0
  · obtain rfl := List.eq_nil_of_length_eq_zero h0
    go_enter Try.func211, Try.ntmps211
    go_wp2
    go_ret
    exact ⟨rfl, Below.refl _ _⟩
  · have hp : 0 < es.length := by omega
    have hp' : (0 : Int) < es.length := by omega
    have hne : ((es.length : Int) == 0) = false := by rw [beq_eq_false_iff_ne]; omega
    obtain ⟨b, off, RA, rc, rfl, hbl, hc0, hc1, hc2, hc3, hml, hrow⟩ := hx.get 0 hp
    simp only [Nat.zero_mul, Nat.add_zero] at hc0 hc1 hc2 hc3
    have HW := Lib.hid (widU_get hp)
    have hm := m_rowU
    have hml' : es[0].1.1.length ≤ 9223372036854775807 := hml
    clear h0 hml
    go_enter Try.func211, Try.ntmps211
    go_wp2_with (go_at_call 247; refine (row_u _ _ _ _ _ _ _).mono ?_; rintro e w1 ⟨rfl, hb⟩)
    go_ret
    exact ⟨ret_int (by rw [HW.out]), by assumption⟩

theorem stepU_zero {es : List Upd} {k : Nat} (h : k < es.length) (e : es[k].2 = 0) : stepU es k = false := by simp [stepU, nthU_get h, e]
theorem stepU_wid {es : List Upd} {k : Nat} (h : k < es.length) (e : es[k].1.1.length ≠ widU es) : stepU es k = false := by simp [stepU, nthU_get h, e]
theorem stepU_first {es : List Upd} (h : 0 < es.length) (e : es[0].2 ≠ 0) (e1 : es[0].1.1.length = widU es) : stepU es 0 = true := by simp [stepU, nthU_get h, e, e1]
theorem stepU_next {es : List Upd} {m : Nat} (h : m + 1 < es.length) (e : es[m + 1].2 ≠ 0) (e1 : es[m + 1].1.1.length = widU es) : stepU es (m + 1) = ltU es[m].1 es[m + 1].1 := by simp [stepU, nthU_get h, nthU_get (show m < es.length by omega), e, e1]

set_option maxHeartbeats 1600000 in
theorem isSum_u (A : Option Addr) (c : Nat) (es : List Upd) (w : World) (hx : UpdsAt w A es) (hn : es.length ≤ 4194304) (hr : rowsU es 4194304) :
    Calls Try.prog 187 #[.slice A es.length c] w fun e w' => e = .returned (.bool (ordU es)) ∧ Below w.heap.size w w' := by
  go_enter Try.func187, Try.ntmps187
  go_wp2
  go_loopw [3, 4, 7] (fun _ _ i wr => ∃ k : Nat, k ≤ es.length ∧ i = .int .i64 k ∧ allTo (stepU es) k = true ∧ Below w.heap.size w wr) (fun _ _ i _ => es.length - (intOf i).toNat)
  case atStart => exact ⟨0, by omega, rfl, rfl, Below.refl _ _⟩
  case round =>
    obtain ⟨k, hk, rfl, hall, hbel⟩ := hrel
    have HA := Lib.hid hall
    clear hall
    by_cases hlt : k < es.length
    · have hx' := hx
      obtain ⟨b, off, RA, rc, rfl, hbl, hc0, hc1, hc2, hc3, hml, hrow⟩ := hx'.get k hlt
      have q0 := (hbel.cell (p := ⟨b, off + k * 4, none⟩) hbl).trans hc0
      have q1 := (hbel.cell (p := ⟨b, off + k * 4 + 1, none⟩) hbl).trans hc1
      have q2' := (hbel.cell (p := ⟨b, off + k * 4 + 2, none⟩) hbl).trans hc2
      have q3' := (hbel.cell (p := ⟨b, off + k * 4 + 3, none⟩) hbl).trans hc3
      have hrl := hr.get hlt
      have hm1 := m_isZeroU
      have hm2 := m_rowU
      have hm3 := m_compareU
      have hb0 : Below w.heap.size w (wr.alloc (.cells #[.slice RA es[k].1.1.length rc, .int .i64 es[k].1.2.1, .int .i64 es[k].1.2.2, .int .i64 es[k].2] 119)) := bal hbel _
      have hml' : es[k].1.1.length ≤ 9223372036854775807 := hml
      clear hc0 hc1 hc2 hc3 hml
      by_cases hz : es[k].2 = 0
      · have hz' : (es[k].2 == 0) = true := by simp [hz]
        have HR : Hid (ordU es = false) := allTo_bad hlt (stepU_zero hlt hz)
        clear hz
        go_wp2_with (go_at_call 245; refine (isZero_u _ _ _ _ _).mono ?_; rintro e w1 ⟨rfl, hb⟩)
        go_ret
        exact ⟨ret_bool HR.out.symm, btr hb0 (by assumption)⟩
      have hz' : (es[k].2 == 0) = false := by simp [hz]
      have HZ := Lib.hid hz
      clear hz
      go_wp2_with fail
      refine (isZero_u _ _ _ _ _).mono ?_
      rintro e w1 ⟨rfl, hb⟩
      obtain ⟨hcl, hfr⟩ := bcell hb
      have hB1 := btr hb0 hb
      have hs1 : wr.heap.size + 1 ≤ w1.heap.size := by have := hb.size; simpa using this
      clear hb
      go_wp2_with fail
      refine (row_u _ _ _ _ _ _ _).mono ?_
      rintro e w2 ⟨rfl, hb⟩
      obtain ⟨hcl2, hfr2⟩ := bcell hb
      have hB2 := btr hB1 hb
      have hs2 := hb.size
      clear hb
      go_wp2_with fail
      refine (widthOf_u _ _ _ _ (hx.below updR hB2) hn).mono ?_
      rintro e w3 ⟨rfl, hb⟩
      obtain ⟨hcl3, hfr3⟩ := bcell hb
      have hB3 := btr hB2 hb
      have hs3 := hb.size
      clear hb
      by_cases hw : es[k].1.1.length = widU es
      · have hw' : ((es[k].1.1.length : Int) != (widU es : Int)) = false := by simp [hw]
        have HW := Lib.hid hw
        clear hw
        -- the cells of the element of this round, in the world behind the three calls
        have t0 : w3.cell? ⟨wr.heap.size, 0, none⟩ = some (.slice RA es[k].1.1.length rc) := by rw [hcl3 _ _ (by omega), hcl2 _ _ (by omega), hcl _ _ (by simp)]; simp
        have r0 := cgrow t0
        have t1 : w3.cell? ⟨wr.heap.size, 1, none⟩ = some (.int .i64 es[k].1.2.1) := by rw [hcl3 _ _ (by omega), hcl2 _ _ (by omega), hcl _ _ (by simp)]; simp
        have r1 := cgrow t1
        have t2 : w3.cell? ⟨wr.heap.size, 2, none⟩ = some (.int .i64 es[k].1.2.2) := by rw [hcl3 _ _ (by omega), hcl2 _ _ (by omega), hcl _ _ (by simp)]; simp
        have r2 := cgrow t2
        have t3 : w3.cell? ⟨wr.heap.size, 3, none⟩ = some (.int .i64 es[k].2) := by rw [hcl3 _ _ (by omega), hcl2 _ _ (by omega), hcl _ _ (by simp)]; simp
        have r3 := cgrow t3
        by_cases hk0 : k = 0
        · subst hk0
          have HS : Hid (stepU es 0 = true) := stepU_first hlt HZ.out HW.out
          clear hcl hcl2 hcl3 hfr hfr2 hfr3 t0 t1 t2 t3 q0 q1 q2' q3'
          go_wp2_with fail
          refine wp_region_quiet_below (by kernel_rfl) (by kernel_rfl) ?_
          repeat (go_big_quiet_step (fail))
          refine wpQuiet_nil ?_
          intro w4 hw4
          obtain ⟨⟨dq, osq⟩, rfl⟩ := hw4
          have hbq := btr hB3 (below_regrown w3 dq osq)
          generalize grow (redrawn w3 dq) osq = w5 at hbq
          clear r0 r1 r2 r3
          go_wp2
          go_roundw
          case rel => exact ⟨1, by omega, by go_num, allTo_step HA.out HS.out, hbq⟩
          case measure => simp [intOf]; omega
        · obtain ⟨m, rfl⟩ : ∃ m, k = m + 1 := ⟨k - 1, by omega⟩
          obtain ⟨b', off', RP, pc, hA', hbl', hd0, hd1, hd2, hd3, -, hrow'⟩ := hx'.get m (by omega)
          injection hA' with hA'
          injection hA' with h1 h2
          subst h1
          subst h2
          have hlm : m < es.length := by omega
          have q2 := cgrow ((hB3.cell (p := ⟨b, off + m * 4, none⟩) hbl).trans hd0)
          have q3 := cgrow ((hB3.cell (p := ⟨b, off + m * 4 + 1, none⟩) hbl).trans hd1)
          have q4 := cgrow ((hB3.cell (p := ⟨b, off + m * 4 + 2, none⟩) hbl).trans hd2)
          have q5 := cgrow ((hB3.cell (p := ⟨b, off + m * 4 + 3, none⟩) hbl).trans hd3)
          have hrlm := hr.get hlm
          have e1 : IntKind.i64.wrap ((m : Int) + 1 - 1) = m := by rw [IntKind.wrap_i64]; omega
          have e2 : IntKind.i64.wrap (m : Int) = m := by rw [IntKind.wrap_i64]; omega
          have hpos : (0 : Int) < (m : Int) + 1 := by omega
          have hml2 : (m : Int) < es.length := by omega
          have hcon := fun W' (hW : Below w3.heap.size w3 W') => updCompare_i RP RA pc rc es[m].1.1 es[m + 1].1.1 es[m].1.2.1 es[m].1.2.2 es[m].2 es[m + 1].1.2.1 es[m + 1].1.2.2 es[m + 1].2 W' ((hrow'.below hB3).below hW) ((hrow.below hB3).below hW) hrlm hrl
          clear hcl hcl2 hcl3 hfr hfr2 hfr3 t0 t1 t2 t3 q0 q1 q2' q3' hd0 hd1 hd2 hd3
          by_cases hc : orV (cmpL es[m].1.1 es[m + 1].1.1) (cmpT es[m].1.2.1 es[m].1.2.2 es[m + 1].1.2.1 es[m + 1].1.2.2) < 0
          · have HS : Hid (stepU es (m + 1) = true) := by rw [Hid, stepU_next hlt HZ.out HW.out]; simpa [ltU] using hc
            have hc' : ¬ (0 ≤ orV (cmpL es[m].1.1 es[m + 1].1.1) (cmpT es[m].1.2.1 es[m].1.2.2 es[m + 1].1.2.1 es[m + 1].1.2.2)) := by omega
            go_wp2_with fail
            refine wp_region_quiet_below (by kernel_rfl) (by kernel_rfl) ?_
            repeat (go_big_quiet_step ((go_at_call 243; exact Calls.regrown_of (hcon _ (below_regrown _ _ _)))))
            refine wpQuiet_nil ?_
            intro w4 hw4
            obtain ⟨⟨dq, osq⟩, rfl⟩ := hw4
            have hbq := btr hB3 (below_regrown w3 dq osq)
            generalize grow (redrawn w3 dq) osq = w5 at hbq
            clear r0 r1 r2 r3 q2 q3 q4 q5 hcon
            go_wp2
            go_roundw
            case rel => exact ⟨m + 1 + 1, by omega, by go_num, allTo_step HA.out HS.out, hbq⟩
            case measure => simp [intOf]; omega
          · have HR : Hid (ordU es = false) := allTo_bad hlt (by rw [stepU_next hlt HZ.out HW.out]; simpa [ltU] using hc)
            have hc' : 0 ≤ orV (cmpL es[m].1.1 es[m + 1].1.1) (cmpT es[m].1.2.1 es[m].1.2.2 es[m + 1].1.2.1 es[m + 1].1.2.2) := by omega
            clear hc
            go_wp2_with fail
            refine wp_region_quiet_below (by kernel_rfl) (by kernel_rfl) ?_
            repeat (go_big_quiet_step ((go_at_call 243; exact Calls.regrown_of (hcon _ (below_regrown _ _ _)))))
            refine wpQuiet_nil ?_
            intro w4 hw4
            obtain ⟨⟨dq, osq⟩, rfl⟩ := hw4
            have hbq := btr hB3 (below_regrown w3 dq osq)
            generalize grow (redrawn w3 dq) osq = w5 at hbq
            clear r0 r1 r2 r3 q2 q3 q4 q5 hcon
            go_wp2
            go_ret
            exact ⟨ret_bool HR.out.symm, hbq⟩
      · have hw' : ((es[k].1.1.length : Int) != (widU es : Int)) = true := by rw [bne_iff_ne]; omega
        have HR : Hid (ordU es = false) := allTo_bad hlt (stepU_wid hlt hw)
        clear hw
        go_wp2
        go_ret
        exact ⟨ret_bool HR.out.symm, hB3⟩
    · obtain rfl : k = es.length := by omega
      have HR : Hid (ordU es = true) := HA.out
      go_wp2
      go_ret
      exact ⟨ret_bool HR.out.symm, hbel⟩

set_option maxHeartbeats 400000 in
theorem ValidTrace_i (A : Option Addr) (c : Nat) (es : List Upd) (w : World) (hx : UpdsAt w A es) (hn : es.length ≤ 4194304) (hr : rowsU es 4194304) :
    Calls Try.prog 144 #[.slice A es.length c] w fun e w' => e = .returned (.bool (trB es)) ∧ Below w.heap.size w w' := by
  by_cases h1 : (decide (es.length ≤ 400) && sumsU es) = true
  · have HR : Hid (trB es = ordU es) := by rw [Hid, trB, ← Bool.and_assoc, h1]; simp
    have hcon := areSummands_u A c es w hx hn hr
    rw [h1] at hcon
    clear h1
    go_enter Try.func144, Try.ntmps144
    go_wp2_with fail
    refine hcon.mono ?_
    rintro e w1 ⟨rfl, hb⟩
    clear hcon
    go_wp2_with fail
    refine (isSum_u _ _ _ _ (hx.below updR hb) hn hr).mono ?_
    rintro e w2 ⟨rfl, hb2⟩
    go_wp2_with fail
    go_ret
    exact ⟨ret_bool HR.out.symm, btr hb hb2⟩
  · have h1' : (decide (es.length ≤ 400) && sumsU es) = false := by simpa using h1
    have HR : Hid (trB es = false) := by rw [Hid, trB, ← Bool.and_assoc, h1']; simp
    have hcon := areSummands_u A c es w hx hn hr
    rw [h1'] at hcon
    clear h1 h1'
    go_enter Try.func144, Try.ntmps144
    go_wp2_with fail
    refine hcon.mono ?_
    rintro e w1 ⟨rfl, hb⟩
    clear hcon
    go_wp2_with fail
    go_ret
    exact ⟨ret_bool HR.out.symm, hb⟩

/-! ### The comparison of lists -/
set_option maxHeartbeats 800000 in
theorem eqUpdateS_any (A B : Option Addr) (c d : Nat) (xs ys : List Upd) (w : World) (hx : UpdsAt w A xs) (hy : UpdsAt w B ys) (hn : xs.length ≤ 4194304) (hm : ys.length ≤ 4194304) (hr : rowsU xs 4194304) (hs : rowsU ys 4194304) :
    Calls Try.prog 24 #[.slice A xs.length c, .slice B ys.length d] w fun e w' => e = .returned (.bool (decide (xs = ys))) ∧ Below w.heap.size w w' := by
  by_cases hl : xs.length = ys.length
  · have hb : ((xs.length : Int) != (ys.length : Int)) = false := by simp [hl]
    have HL := Lib.hid hl
    clear hl
    go_enter Try.func24, Try.ntmps24
    go_wp2
    go_loopw [5] (fun i wr => ∃ k : Nat, k ≤ xs.length ∧ i = .int .i64 k ∧ xs.take k = ys.take k ∧ Below w.heap.size w wr) (fun i _ => xs.length - (intOf i).toNat)
    case atStart => exact ⟨0, by omega, rfl, rfl, Below.refl _ _⟩
    case round =>
      obtain ⟨k, hk, rfl, htk, hbel⟩ := hrel
      have HT := Lib.hid htk
      clear htk
      by_cases hlt : k < xs.length
      · have hlt2 : k < ys.length := by have := HL.out; omega
        obtain ⟨b, off, RA, rc, rfl, hbl, hc0, hc1, hc2, hc3, -, hrow⟩ := hx.get k hlt
        obtain ⟨b2, off2, RB, rd, rfl, hbl2, hd0, hd1, hd2, hd3, -, hrow2⟩ := hy.get k hlt2
        have q1 := cgrow ((hbel.cell (p := ⟨b, off + k * 4, none⟩) hbl).trans hc0)
        have q2 := cgrow ((hbel.cell (p := ⟨b, off + k * 4 + 1, none⟩) hbl).trans hc1)
        have q3 := cgrow ((hbel.cell (p := ⟨b2, off2 + k * 4, none⟩) hbl2).trans hd0)
        have q4 := cgrow ((hbel.cell (p := ⟨b2, off2 + k * 4 + 1, none⟩) hbl2).trans hd1)
        have q5 := cgrow ((hbel.cell (p := ⟨b, off + k * 4 + 2, none⟩) hbl).trans hc2)
        have q6 := cgrow ((hbel.cell (p := ⟨b, off + k * 4 + 3, none⟩) hbl).trans hc3)
        have q7 := cgrow ((hbel.cell (p := ⟨b2, off2 + k * 4 + 2, none⟩) hbl2).trans hd2)
        have q8 := cgrow ((hbel.cell (p := ⟨b2, off2 + k * 4 + 3, none⟩) hbl2).trans hd3)
        have hl1 := hr.get hlt
        have hl2 := hs.get hlt2
        clear hc0 hc1 hc2 hc3 hd0 hd1 hd2 hd3
        have hcon := fun W' (hW : Below wr.heap.size wr W') => eqUpdate_any RA RB rc rd xs[k] ys[k] W' ((hrow.below hbel).below hW) ((hrow2.below hbel).below hW) hl1 hl2
        by_cases he : xs[k] = ys[k]
        · have hne : eqU xs[k] ys[k] = true := by simp [eqU, he]
          have HE := Lib.hid he
          clear he
          go_wp2_with fail
          refine wp_region_quiet_below (by kernel_rfl) (by kernel_rfl) ?_
          repeat (go_big_quiet_step (exact Calls.regrown_of (hcon _ (below_regrown _ _ _))))
          refine wpQuiet_nil ?_
          intro w3 hw3
          obtain ⟨⟨dq, osq⟩, rfl⟩ := hw3
          have hbq := below_regrown wr dq osq
          generalize grow (redrawn wr dq) osq = w4 at hbq
          clear q1 q2 q3 q4 q5 q6 q7 q8 hcon
          go_wp2
          go_roundw
          case rel => exact ⟨k + 1, by omega, by go_num, take_eq_stepE hlt hlt2 HT.out HE.out, btr hbel hbq⟩
          case measure => simp [intOf]; omega
        · have hne : eqU xs[k] ys[k] = false := by simp [eqU, he]
          go_wp2_with fail
          refine wp_region_quiet_below (by kernel_rfl) (by kernel_rfl) ?_
          repeat (go_big_quiet_step (exact Calls.regrown_of (hcon _ (below_regrown _ _ _))))
          refine wpQuiet_nil ?_
          intro w3 hw3
          obtain ⟨⟨dq, osq⟩, rfl⟩ := hw3
          have hbq := below_regrown wr dq osq
          generalize grow (redrawn wr dq) osq = w4 at hbq
          clear q1 q2 q3 q4 q5 q6 q7 q8 hcon
          go_wp2
          go_ret
          exact ⟨ret_bool (by simp; rintro rfl; exact he rfl), btr hbel hbq⟩
      · obtain rfl : k = xs.length := by omega
        have hfin : decide (xs = ys) = true := by
          have h1 := HT.out
          have h2 := HL.out
          rw [List.take_length, h2, List.take_length] at h1
          simp [h1]
        have HF := Lib.hid hfin
        clear hfin
        go_wp2
        go_ret
        exact ⟨ret_bool HF.out.symm, hbel⟩
  · have hb : ((xs.length : Int) != (ys.length : Int)) = true := by simp; omega
    have hfin : decide (xs = ys) = false := by simp; rintro rfl; exact hl rfl
    have HF := Lib.hid hfin
    clear hfin
    go_enter Try.func24, Try.ntmps24
    go_wp2
    go_ret
    exact ⟨ret_bool HF.out.symm, Below.refl _ _⟩
end Go.Proofs.Ythefakiobpijiaa

/- HELPER, no statement of the seat: the model's test of a trace. -/
namespace Go.Proofs.Ythefakiobpijiaa
open Go.RowKit Go.Sort
set_option linter.unusedSimpArgs false
set_option linter.unusedVariables false

theorem cmpT_lt (x y u v : Int) : decide (cmpT x y u v < 0) = bfB x y u v := by
  unfold cmpT orV bfB cmpI
  by_cases h1 : x < u <;> by_cases h2 : u < x <;> by_cases h3 : y < v <;> by_cases h4 : v < y <;> simp [h1, h2, h3, h4] <;> omega
theorem ltU_eq (x y : List Int × (Int × Int)) : ltU x y = (lessB x.1 y.1 || (decide (x.1 = y.1) && bfB x.2.1 x.2.2 y.2.1 y.2.2)) := by
  by_cases h : cmpL x.1 y.1 = 0
  · have he : decide (x.1 = y.1) = true := by simpa using cmpL_zero.1 h
    rw [← cmpT_lt, he, ltU, lessB, orV, if_pos h, h]
    simp
  · have hne : decide (x.1 = y.1) = false := by simpa using fun e => h (cmpL_zero.2 e)
    rw [hne, ltU, lessB, orV, if_neg h]
    simp
theorem inB_below2 (n : Int) (w : World) : Calls Try.prog 118 #[.int .i64 n, .int .i64 (-1000000), .int .i64 1000000] w fun e w' => e = .returned (.bool (wtB n)) ∧ w = w' :=
  (inRange_any n _ _ w).mono fun e w' ⟨he, hw⟩ => ⟨by rw [he]; rfl, hw⟩

set_option maxHeartbeats 800000 in
theorem validUpdate_s (RA : Option Addr) (rc : Nat) (xs : List Int) (p q x : Int) (w : World) (hx : IntsAt w RA xs) (hn : xs.length ≤ 4194304) :
    Calls Try.prog 148 #[.agg #[.slice RA xs.length rc, .int .i64 p, .int .i64 q, .int .i64 x]] w fun e w' => e = .returned (.bool (sumU ((xs, (p, q)), x))) ∧ Below w.heap.size w w' := by
  have hb0 : Below w.heap.size w (w.alloc (.cells #[.slice RA xs.length rc, .int .i64 p, .int .i64 q, .int .i64 x] 119)) := bal (Below.refl _ _) _
  have hcon := fun W (h : IntsAt W RA xs) => validRow_s RA rc xs W h (by omega)
  cases h1 : rowB xs
  · have HR : Hid (sumU ((xs, (p, q)), x) = false) := by simp [Hid, sumU, sumE, h1]
    rw [h1] at hcon
    clear h1
    go_enter Try.func148, Try.ntmps148
    go_wp2_with fail
    refine (hcon _ (hx.below hb0)).mono ?_
    rintro e w1 ⟨rfl, b1⟩
    go_wp2_with fail
    go_ret
    exact ⟨ret_bool HR.out.symm, btr hb0 b1⟩
  · rw [h1] at hcon
    have hcv := fun W => validTime_s p q W
    cases h2 : vtB p q
    · have HR : Hid (sumU ((xs, (p, q)), x) = false) := by simp [Hid, sumU, sumE, h2]
      rw [h2] at hcv
      clear h1 h2
      go_enter Try.func148, Try.ntmps148
      go_wp2_with fail
      refine (hcon _ (hx.below hb0)).mono ?_
      rintro e w1 ⟨rfl, b1⟩
      obtain ⟨hc1, hf1⟩ := bcell b1
      have hB1 := btr hb0 b1
      clear b1 hcon
      go_wp2_with fail
      refine (hcv _).mono ?_
      rintro e w2 ⟨rfl, b2⟩
      go_wp2_with fail
      go_ret
      exact ⟨ret_bool HR.out.symm, btr hB1 b2⟩
    · have HR : Hid (sumU ((xs, (p, q)), x) = wtB x) := by simp [Hid, sumU, sumE, h1, h2]
      rw [h2] at hcv
      clear h1 h2
      go_enter Try.func148, Try.ntmps148
      go_wp2_with fail
      refine (hcon _ (hx.below hb0)).mono ?_
      rintro e w1 ⟨rfl, b1⟩
      obtain ⟨hc1, hf1⟩ := bcell b1
      have hB1 := btr hb0 b1
      have z1 : w.heap.size + 1 ≤ w1.heap.size := by have := b1.size; simpa using this
      clear b1 hcon
      go_wp2_with fail
      refine (hcv _).mono ?_
      rintro e w2 ⟨rfl, b2⟩
      obtain ⟨hc2, hf2⟩ := bcell b2
      have t3 : w2.cell? ⟨w.heap.size, 3, none⟩ = some (.int .i64 x) := by rw [hc2 _ _ (by omega), hc1 _ _ (by simp)]; simp
      have hB2 := btr hB1 b2
      clear hc1 hf1 hc2 hf2 b2 hcv
      go_wp2_with fail
      refine (inB_below2 _ _).mono ?_
      rintro e w3 ⟨rfl, rfl⟩
      go_wp2_with fail
      go_ret
      exact ⟨ret_bool HR.out.symm, hB2⟩
set_option maxHeartbeats 800000 in
theorem updateLess_s (A B : Option Addr) (c d : Nat) (x y : Upd) (w : World) (hx : IntsAt w A x.1.1) (hy : IntsAt w B y.1.1) (hn : x.1.1.length ≤ 4194304) (hm : y.1.1.length ≤ 4194304) :
    Calls Try.prog 149 #[.agg #[.slice A x.1.1.length c, .int .i64 x.1.2.1, .int .i64 x.1.2.2, .int .i64 x.2], .agg #[.slice B y.1.1.length d, .int .i64 y.1.2.1, .int .i64 y.1.2.2, .int .i64 y.2]] w fun e w' => e = .returned (.bool (ltU x.1 y.1)) ∧ Below w.heap.size w w' := by
  have hlt := ltU_eq x.1 y.1
  obtain ⟨⟨xs, p, q⟩, u⟩ := x
  obtain ⟨⟨ys, r, s⟩, v⟩ := y
  simp only at hx hy hn hm hlt ⊢
  have hb0 : Below w.heap.size w ((w.alloc (.cells #[.slice A xs.length c, .int .i64 p, .int .i64 q, .int .i64 u] 119)).alloc (.cells #[.slice B ys.length d, .int .i64 r, .int .i64 s, .int .i64 v] 119)) := bal (bal (Below.refl _ _) _) _
  have hcl := fun W (h : IntsAt W A xs) (h' : IntsAt W B ys) => rowLess_s A B c d xs ys W h h' (by omega) (by omega)
  have hce := fun W (h : IntsAt W A xs) (h' : IntsAt W B ys) => equalInts_s A B c d xs ys W h h' (by omega) (by omega)
  cases h1 : lessB xs ys
  · rw [h1] at hcl hlt
    cases h2 : decide (xs = ys)
    · rw [h2] at hce hlt
      have HR : Hid (ltU (xs, (p, q)) (ys, (r, s)) = false) := by rw [Hid, hlt]; simp
      clear h1 h2 hlt
      go_enter Try.func149, Try.ntmps149
      go_wp2_with fail
      refine (hcl _ (hx.below hb0) (hy.below hb0)).mono ?_
      rintro e w1 ⟨rfl, b1⟩
      obtain ⟨hc1, hf1⟩ := bcell b1
      have hB1 := btr hb0 b1
      clear b1
      go_wp2_with fail
      refine (hce _ (hx.below hB1) (hy.below hB1)).mono ?_
      rintro e w2 ⟨rfl, b2⟩
      go_wp2_with fail
      go_ret
      exact ⟨ret_bool HR.out.symm, btr hB1 b2⟩
    · rw [h2] at hce hlt
      have HR : Hid (ltU (xs, (p, q)) (ys, (r, s)) = bfB p q r s) := by rw [Hid, hlt]; simp
      clear h1 h2 hlt
      go_enter Try.func149, Try.ntmps149
      go_wp2_with fail
      refine (hcl _ (hx.below hb0) (hy.below hb0)).mono ?_
      rintro e w1 ⟨rfl, b1⟩
      obtain ⟨hc1, hf1⟩ := bcell b1
      have hB1 := btr hb0 b1
      have z1 : w.heap.size + 2 ≤ w1.heap.size := by have := b1.size; simpa using this
      clear b1
      go_wp2_with fail
      refine (hce _ (hx.below hB1) (hy.below hB1)).mono ?_
      rintro e w2 ⟨rfl, b2⟩
      obtain ⟨hc2, hf2⟩ := bcell b2
      have t1 : w2.cell? ⟨w.heap.size, 1, none⟩ = some (.int .i64 p) := by rw [hc2 _ _ (by omega), hc1 _ _ (by simp; omega)]; simp
      have t2 : w2.cell? ⟨w.heap.size, 2, none⟩ = some (.int .i64 q) := by rw [hc2 _ _ (by omega), hc1 _ _ (by simp; omega)]; simp
      have t3 : w2.cell? ⟨w.heap.size + 1, 1, none⟩ = some (.int .i64 r) := by rw [hc2 _ _ (by omega), hc1 _ _ (by simp)]; simp
      have t4 : w2.cell? ⟨w.heap.size + 1, 2, none⟩ = some (.int .i64 s) := by rw [hc2 _ _ (by omega), hc1 _ _ (by simp)]; simp
      have hB2 := btr hB1 b2
      clear hc1 hf1 hc2 hf2 b2 hcl hce
      go_wp2_with fail
      refine (timeBefore_s _ _ _ _ _).mono ?_
      rintro e w3 ⟨rfl, b3⟩
      go_wp2_with fail
      go_ret
      exact ⟨ret_bool HR.out.symm, btr hB2 b3⟩
  · rw [h1] at hcl hlt
    have HR : Hid (ltU (xs, (p, q)) (ys, (r, s)) = true) := by rw [Hid, hlt]; simp
    clear h1 hlt
    go_enter Try.func149, Try.ntmps149
    go_wp2_with fail
    refine (hcl _ (hx.below hb0) (hy.below hb0)).mono ?_
    rintro e w1 ⟨rfl, b1⟩
    go_wp2_with fail
    go_ret
    exact ⟨ret_bool HR.out.symm, btr hb0 b1⟩

def goodU (es : List Upd) (k : Nat) : Bool := sumU (nthU es k) && stepU es k
theorem trB_good (es : List Upd) : trB es = (allTo (goodU es) es.length && decide (es.length ≤ 400)) := by
  have : allTo (goodU es) es.length = (sumsU es && ordU es) := allTo_and
  rw [this, trB, Bool.and_comm]
theorem trB_bad {es : List Upd} {k : Nat} (h : k < es.length) (hg : goodU es k = false) : trB es = false := by rw [trB_good, allTo_bad h hg]; rfl
theorem goodU_sum {es : List Upd} {k : Nat} (h : k < es.length) (e : sumU es[k] = false) : goodU es k = false := by simp [goodU, nthU_get h, e]
theorem goodU_step {es : List Upd} {k : Nat} (e : stepU es k = false) : goodU es k = false := by simp [goodU, e]
theorem goodU_ok {es : List Upd} {k : Nat} (h : k < es.length) (e : sumU es[k] = true) (e2 : stepU es k = true) : goodU es k = true := by simp [goodU, nthU_get h, e, e2]

set_option maxHeartbeats 3200000 in
theorem validTrace_s (A : Option Addr) (c : Nat) (es : List Upd) (w : World) (hx : UpdsAt w A es) (hn : es.length ≤ 4194304) (hr : rowsU es 4194304) :
    Calls Try.prog 81 #[.slice A es.length c] w fun e w' => e = .returned (.bool (trB es)) ∧ Below w.heap.size w w' := by
  go_enter Try.func81, Try.ntmps81
  go_wp2
  go_loopw [3] (fun i wr => ∃ k : Nat, k ≤ es.length ∧ i = .int .i64 k ∧ allTo (goodU es) k = true ∧ Below w.heap.size w wr) (fun i _ => es.length - (intOf i).toNat)
  case atStart => exact ⟨0, by omega, rfl, rfl, Below.refl _ _⟩
  case round =>
    obtain ⟨k, hk, rfl, hall, hbel⟩ := hrel
    have HA := Lib.hid hall
    clear hall
    by_cases hlt : k < es.length
    · have hx' := hx
      obtain ⟨b, off, RA, rc, rfl, hbl, hc0, hc1, hc2, hc3, hml, hrow⟩ := hx'.get k hlt
      obtain ⟨b', off', R0, r0, hA', -, hd0, hd1, hd2, hd3, hml0, -⟩ := hx'.get 0 (by omega)
      injection hA' with hA'
      injection hA' with h1 h2
      subst h1
      subst h2
      simp only [Nat.zero_mul, Nat.add_zero] at hd0 hd1 hd2 hd3
      have hp : 0 < es.length := by omega
      have hp' : (0 : Int) < es.length := by omega
      have hlt' : (k : Int) < es.length := by omega
      have q0 := cgrow ((hbel.cell (p := ⟨b, off + k * 4, none⟩) hbl).trans hc0)
      have q1 := cgrow ((hbel.cell (p := ⟨b, off + k * 4 + 1, none⟩) hbl).trans hc1)
      have q2 := cgrow ((hbel.cell (p := ⟨b, off + k * 4 + 2, none⟩) hbl).trans hc2)
      have q3 := cgrow ((hbel.cell (p := ⟨b, off + k * 4 + 3, none⟩) hbl).trans hc3)
      have q4 := cgrow ((hbel.cell (p := ⟨b, off, none⟩) hbl).trans hd0)
      have hrl := hr.get hlt
      have hw0 := widU_get hp
      have hcv := fun W' (hW : Below wr.heap.size wr W') => validUpdate_s RA rc es[k].1.1 es[k].1.2.1 es[k].1.2.2 es[k].2 W' ((hrow.below hbel).below hW) hrl
      rw [show (((es[k].1.1, (es[k].1.2.1, es[k].1.2.2)), es[k].2) : Upd) = es[k] from rfl] at hcv
      rw [← hw0] at hd0 q4
      clear hc0 hc1 hc2 hc3 hd0 hd1 hd2 hd3 hml hml0 hw0
      by_cases g1 : sumU es[k] = true
      · have hc1 := fun W' hW => (hcv W' hW).mono fun e w' ⟨he, hb⟩ => (⟨by rw [he, g1], hb⟩ : e = Ending.returned (.bool true) ∧ Below W'.heap.size W' w')
        clear hcv
        by_cases g2 : es[k].1.1.length = widU es
        · have hw' : ((es[k].1.1.length : Int) != (widU es : Int)) = false := by simp [g2]
          by_cases g3 : es[k].2 = 0
          · have hz : (es[k].2 == 0) = true := by simp [g3]
            have HR := Lib.hid (trB_bad hlt (goodU_step (stepU_zero hlt g3)))
            clear g1 g2 g3
            go_wp2_with fail
            refine wp_region_quiet_below (by kernel_rfl) (by kernel_rfl) ?_
            repeat (go_big_quiet_step (first | (go_at_call 148; exact Calls.regrown_of (hc1 _ (below_regrown _ _ _)))))
            refine wpQuiet_nil ?_
            intro wq hwq
            obtain ⟨⟨dq, osq⟩, rfl⟩ := hwq
            have hbq := btr hbel (below_regrown wr dq osq)
            generalize grow (redrawn wr dq) osq = wz at hbq
            clear q0 q1 q2 q3 q4 hc1
            go_wp2
            go_ret
            exact ⟨ret_bool HR.out.symm, hbq⟩
          · have hz : (es[k].2 == 0) = false := by simp [g3]
            by_cases hk0 : k = 0
            · subst hk0
              have HS := Lib.hid (goodU_ok hlt g1 (stepU_first hlt g3 g2))
              clear g1 g2 g3
              simp only [Nat.zero_mul, Nat.add_zero] at q0 q1 q2 q3
              clear q4 hw'
              have hw2 : ((es[0].1.1.length : Int) != (es[0].1.1.length : Int)) = false := by simp
              go_wp2_with fail
              refine wp_region_quiet_below (by kernel_rfl) (by kernel_rfl) ?_
              repeat (go_big_quiet_step (first | (go_at_call 148; exact Calls.regrown_of (hc1 _ (below_regrown _ _ _)))))
              refine wpQuiet_nil ?_
              intro wq hwq
              obtain ⟨⟨dq, osq⟩, rfl⟩ := hwq
              have hbq := btr hbel (below_regrown wr dq osq)
              generalize grow (redrawn wr dq) osq = wz at hbq
              clear q0 q1 q2 q3 hc1
              go_wp2
              go_roundw
              case rel => exact ⟨1, by omega, by go_num, allTo_step HA.out HS.out, hbq⟩
              case measure => simp [intOf]; omega
            · obtain ⟨m, rfl⟩ : ∃ m, k = m + 1 := ⟨k - 1, by omega⟩
              obtain ⟨b', off', RP, pc, hA', -, hd0, hd1, hd2, hd3, -, hrow'⟩ := hx'.get m (by omega)
              injection hA' with hA'
              injection hA' with h1 h2
              subst h1
              subst h2
              have hlm : m < es.length := by omega
              have q5 := cgrow ((hbel.cell (p := ⟨b, off + m * 4, none⟩) hbl).trans hd0)
              have q6 := cgrow ((hbel.cell (p := ⟨b, off + m * 4 + 1, none⟩) hbl).trans hd1)
              have q7 := cgrow ((hbel.cell (p := ⟨b, off + m * 4 + 2, none⟩) hbl).trans hd2)
              have q8 := cgrow ((hbel.cell (p := ⟨b, off + m * 4 + 3, none⟩) hbl).trans hd3)
              have hrlm := hr.get hlm
              have hcl := fun W' (hW : Below wr.heap.size wr W') => updateLess_s RP RA pc rc es[m] es[m + 1] W' ((hrow'.below hbel).below hW) ((hrow.below hbel).below hW) hrlm hrl
              have e1 : IntKind.i64.wrap ((m : Int) + 1 - 1) = m := by rw [IntKind.wrap_i64]; omega
              have e2 : IntKind.i64.wrap (m : Int) = m := by rw [IntKind.wrap_i64]; omega
              have hpos : (0 : Int) < (m : Int) + 1 := by omega
              have hml2 : (m : Int) < es.length := by omega
              have hst := stepU_next hlt g3 g2
              clear hd0 hd1 hd2 hd3
              by_cases g5 : ltU es[m].1 es[m + 1].1 = true
              · have hc3 := fun W' hW => (hcl W' hW).mono fun e w' ⟨he, hb⟩ => (⟨by rw [he, g5], hb⟩ : e = Ending.returned (.bool true) ∧ Below W'.heap.size W' w')
                have HS := Lib.hid (goodU_ok hlt g1 (hst.trans g5))
                clear g1 g2 g3 g5 hcl hst
                go_wp2_with fail
                refine wp_region_quiet_below (by kernel_rfl) (by kernel_rfl) ?_
                repeat (go_big_quiet_step (first | (go_at_call 148; exact Calls.regrown_of (hc1 _ (below_regrown _ _ _))) | (go_at_call 149; exact Calls.regrown_of (hc3 _ (below_regrown _ _ _)))))
                refine wpQuiet_nil ?_
                intro wq hwq
                obtain ⟨⟨dq, osq⟩, rfl⟩ := hwq
                have hbq := btr hbel (below_regrown wr dq osq)
                generalize grow (redrawn wr dq) osq = wz at hbq
                clear q0 q1 q2 q3 q4 q5 q6 q7 q8 hc1 hc3
                go_wp2
                go_roundw
                case rel => exact ⟨m + 1 + 1, by omega, by go_num, allTo_step HA.out HS.out, hbq⟩
                case measure => simp [intOf]; omega
              · have g5' : ltU es[m].1 es[m + 1].1 = false := by simpa using g5
                have hc3 := fun W' hW => (hcl W' hW).mono fun e w' ⟨he, hb⟩ => (⟨by rw [he, g5'], hb⟩ : e = Ending.returned (.bool false) ∧ Below W'.heap.size W' w')
                have HR := Lib.hid (trB_bad hlt (goodU_step (hst.trans g5')))
                clear g1 g2 g3 g5 g5' hcl hst
                go_wp2_with fail
                refine wp_region_quiet_below (by kernel_rfl) (by kernel_rfl) ?_
                repeat (go_big_quiet_step (first | (go_at_call 148; exact Calls.regrown_of (hc1 _ (below_regrown _ _ _))) | (go_at_call 149; exact Calls.regrown_of (hc3 _ (below_regrown _ _ _)))))
                refine wpQuiet_nil ?_
                intro wq hwq
                obtain ⟨⟨dq, osq⟩, rfl⟩ := hwq
                have hbq := btr hbel (below_regrown wr dq osq)
                generalize grow (redrawn wr dq) osq = wz at hbq
                clear q0 q1 q2 q3 q4 q5 q6 q7 q8 hc1 hc3
                go_wp2
                go_ret
                exact ⟨ret_bool HR.out.symm, hbq⟩
        · have hw' : ((es[k].1.1.length : Int) != (widU es : Int)) = true := by rw [bne_iff_ne]; omega
          have HR := Lib.hid (trB_bad hlt (goodU_step (stepU_wid hlt g2)))
          clear g1 g2
          go_wp2_with fail
          refine wp_region_quiet_below (by kernel_rfl) (by kernel_rfl) ?_
          repeat (go_big_quiet_step (first | (go_at_call 148; exact Calls.regrown_of (hc1 _ (below_regrown _ _ _)))))
          refine wpQuiet_nil ?_
          intro wq hwq
          obtain ⟨⟨dq, osq⟩, rfl⟩ := hwq
          have hbq := btr hbel (below_regrown wr dq osq)
          generalize grow (redrawn wr dq) osq = wz at hbq
          clear q0 q1 q2 q3 q4 hc1
          go_wp2
          go_ret
          exact ⟨ret_bool HR.out.symm, hbq⟩
      · have g1' : sumU es[k] = false := by simpa using g1
        have hc1 := fun W' hW => (hcv W' hW).mono fun e w' ⟨he, hb⟩ => (⟨by rw [he, g1'], hb⟩ : e = Ending.returned (.bool false) ∧ Below W'.heap.size W' w')
        have HR := Lib.hid (trB_bad hlt (goodU_sum hlt g1'))
        clear g1 g1' hcv
        go_wp2_with fail
        refine wp_region_quiet_below (by kernel_rfl) (by kernel_rfl) ?_
        repeat (go_big_quiet_step (first | (go_at_call 148; exact Calls.regrown_of (hc1 _ (below_regrown _ _ _)))))
        refine wpQuiet_nil ?_
        intro wq hwq
        obtain ⟨⟨dq, osq⟩, rfl⟩ := hwq
        have hbq := btr hbel (below_regrown wr dq osq)
        generalize grow (redrawn wr dq) osq = wz at hbq
        clear q0 q1 q2 q3 q4 hc1
        go_wp2
        go_ret
        exact ⟨ret_bool HR.out.symm, hbq⟩
    · obtain rfl : k = es.length := by omega
      have HF : Hid (trB es = decide (es.length ≤ 400)) := by rw [Hid, trB_good, HA.out]; rfl
      go_wp2
      go_ret
      exact ⟨ret_bool (by rw [HF.out]; by_cases h : es.length ≤ 400 <;> simp [h] <;> omega), hbel⟩
end Go.Proofs.Ythefakiobpijiaa

/- HELPER, no statement of the seat: lists of updates that came in; the measure, with its result. -/
namespace Go.Proofs.Ythefakiobpijiaa
open Go.ChangeShapes Go.WideShapes Go.ChangeAt Go.RowKit
set_option linter.unusedVariables false
set_option linter.unusedSimpArgs false

section
variable {H : Type} {enc : TypeId × Value → H} {W : World}
theorem opens_row {P : Program} {t e : TypeId} (ht : P.underlying t = some (.slice e)) (hc : P.cellsOf t = 1) (he : P.underlying e = some (.int .i64)) (hce : P.cellsOf e = 1) : Opens enc P W t RowR 1 :=
  ⟨hc, fun n cs x hl h => by
    obtain ⟨v, hv⟩ := (opens_slice ht hc (by decide) (opens_int he hce)).2 n cs x hl h
    exact ⟨v, rowR_of_sl hv⟩⟩
theorem opens_at {P : Program} {α : Type} {R : Rd α} {sz : Nat} {t : TypeId} (ho : Opens enc P W t (SlR R sz) 1) {a : Option Addr} {len cap : Nat} {d : DataW H} {p : List MemPlace} (h : DataW.Trod enc P W 0 (fun _ => true) true t (.slice a len cap) d p) :
    ∃ xs : List α, len = xs.length ∧ xs.length ≤ maxLen ∧ SlAt R sz W a xs := by
  obtain ⟨n, h⟩ := h
  obtain ⟨v, A, c, e, hl, hs⟩ := ho.2 n _ _ rfl h
  simp [Value.cells] at e
  obtain ⟨rfl, rfl, rfl⟩ := e
  exact ⟨v, rfl, hl, hs⟩
theorem opens_timeU : Opens enc Try.prog W 109 (PairR IntR IntR) 2 :=
  opens_struct2 Try.underlying109 (by kernel_rfl) rfl rfl (opens_int Try.underlying3 (by kernel_rfl)) (opens_int Try.underlying3 (by kernel_rfl))
theorem opens_update : Opens enc Try.prog W 111 UpdR 4 := by
  have o := opens_struct3 (enc := enc) (W := W) Try.underlying111 (by kernel_rfl) rfl rfl rfl (opens_row Try.underlying72 (by kernel_rfl) Try.underlying3 (by kernel_rfl)) opens_timeU (opens_int Try.underlying3 (by kernel_rfl))
  refine ⟨o.1, fun n cs x hl h => ?_⟩
  obtain ⟨⟨a, ⟨b, d⟩⟩, c1, c4, rfl, h1, c2, c3, rfl, h2, h3⟩ := o.2 n cs x hl h
  exact ⟨((a, b), d), c1 ++ c2, c3, by simp, ⟨c1, c2, rfl, h1, h2⟩, h3⟩
theorem updates_of {a : Option Addr} {len cap : Nat} {d : DataW H} {p : List MemPlace} (h : DataW.Trod enc Try.prog W 0 (fun _ => true) true 34 (.slice a len cap) d p) :
    ∃ es : List Upd, len = es.length ∧ es.length ≤ maxLen ∧ UpdsAt W a es :=
  opens_at (opens_slice Try.underlying34 (by kernel_rfl) (by decide) opens_update) h
end
theorem updSz_nn (es : List Upd) : 0 ≤ updSz es := by unfold updSz; omega
theorem updSz_len {es : List Upd} {n : Int} (h : updSz es ≤ n) : (es.length : Int) ≤ n := by unfold updSz at h; omega
theorem lenSumU_mem {es : List Upd} {e : Upd} (h : e ∈ es) : e.1.1.length ≤ lenSumU es := by
  induction es with
  | nil => cases h
  | cons x l ih =>
    rw [lenSumU, List.map_cons, List.sum_cons]
    rcases List.mem_cons.1 h with rfl | h
    · omega
    · have := ih h; unfold lenSumU at this; omega
theorem updSz_row {es : List Upd} {n : Nat} (h : updSz es ≤ n) : rowsU es n := fun e he => by
  have := lenSumU_mem he
  unfold updSz at h
  omega
theorem szUpdateS_no (A : Option Addr) (c : Nat) (es : List Upd) (left : Int) (w : World) (hx : UpdsAt w A es) (h0 : 0 ≤ left) (h1 : left ≤ 1048576) (hn : es.length ≤ maxLen) (h : left < updSz es) :
    Calls Try.prog 17 #[.slice A es.length c, .int .i64 left] w fun e w' => e = .returned (.int .i64 (-1)) ∧ Below w.heap.size w w' :=
  (szUpdateS_any A c es left w hx h0 h1 hn).mono fun _ _ ⟨he, hb⟩ => ⟨by rw [he, updLeft, if_pos h], hb⟩
theorem szUpdateS_yes (A : Option Addr) (c : Nat) (es : List Upd) (left : Int) (w : World) (hx : UpdsAt w A es) (h0 : 0 ≤ left) (h1 : left ≤ 1048576) (hn : es.length ≤ maxLen) (h : updSz es ≤ left) :
    Calls Try.prog 17 #[.slice A es.length c, .int .i64 left] w fun e w' => e = .returned (.int .i64 (left - updSz es)) ∧ Below w.heap.size w w' :=
  (szUpdateS_any A c es left w hx h0 h1 hn).mono fun _ _ ⟨he, hb⟩ => ⟨by rw [he, updLeft, if_neg (by omega)], hb⟩
/-- A list of updates that the law has made: it reads so, and its blocks are new. -/
theorem UpdsOw.at_ {w : World} {S : Fp} {A : Option Addr} {c : Nat} {es : List Upd} (h : UpdsOw w S A c es) : UpdsAt w A es := SlOw.at_ updO h
end Go.Proofs.Ythefakiobpijiaa
