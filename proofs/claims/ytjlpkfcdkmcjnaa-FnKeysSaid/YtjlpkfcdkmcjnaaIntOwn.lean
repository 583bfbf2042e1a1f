/- HELPER, no statement of the seat: lists of numbers that a call made: marks, and projections. -/
import Derived.Test.YtjlpkfcdkmcjnaaIntBase
import Derived.Laws.AppendOwn
import Derived.Laws.OwnMore
namespace Go.Proofs.Ytjlpkfcdkmcjnaa
open Go.RowKit
set_option linter.unusedSimpArgs false
set_option linter.unusedVariables false

/-- The slice at A is the head of a row of a call's own, which reads as xs. -/
def IntsOwn (w : World) (base : Nat) (A : Option Addr) (c : Nat) (xs : List Int) : Prop := w.ownsRow base 3 1 (.slice A xs.length c) xs.length (xs.map (Value.int .i64))

section
variable {w w' : World} {base : Nat} {A : Option Addr} {c : Nat} {xs : List Int}
theorem IntsOwn.form (h : IntsOwn w base A c xs) : (A = none ∧ xs = []) ∨ ∃ g, A = some ⟨g, 0, none⟩ ∧ base ≤ g ∧ g < w.heap.size := by
  rcases h.2 with ⟨e, hn⟩ | ⟨g, cap, cur, e, hb, hg, _⟩
  · injection e with e1; exact .inl ⟨e1, List.eq_nil_of_length_eq_zero hn⟩
  · injection e with e1; exact .inr ⟨g, e1, hb, (Array.getElem?_eq_some_iff.1 hg).1⟩
theorem IntsOwn.at_ (h : IntsOwn w base A c xs) : IntsAt w A xs := fun hn => by
  rcases h.form with ⟨_, rfl⟩ | ⟨g, rfl, _, hlt⟩
  · simp at hn
  · refine ⟨g, 0, rfl, hlt, fun j hj => ?_⟩
    have := World.ownsRow.cells h (g := g) rfl j (.int .i64 (xs.getD j 0)) (by simp [hj])
    have e : (⟨g, 0, none⟩ : Addr).add j = ⟨g, 0 + j, none⟩ := by unfold Addr.add; split <;> simp_all
    rw [e] at this
    exact this
theorem IntsOwn.below (h : IntsOwn w base A c xs) (hb : Below w.heap.size w w') : IntsOwn w' base A c xs :=
  World.ownsRow.kept (row := none) h ⟨hb.os, hb.tape, hb.output, hb.size, fun k hk _ => hb.block k hk⟩ (by cases hv : (Value.slice A xs.length c).ownBlock <;> simp)
theorem IntsOwn.mono {base' : Nat} (h : IntsOwn w base A c xs) (hb : base' ≤ base) : IntsOwn w base' A c xs := by
  refine ⟨h.1, ?_⟩
  rcases h.2 with h2 | ⟨g, cap, cur, e, hbg, r⟩
  · exact .inl h2
  · exact .inr ⟨g, cap, cur, e, Nat.le_trans hb hbg, r⟩
theorem IntsOwn.ofBlk {g : Nat} (h : Blk w g 3 (ints xs)) (hb : base ≤ g) (hn : xs.length ≤ maxLen) : IntsOwn w base (some ⟨g, 0, none⟩) xs.length xs :=
  ⟨by simp, .inr ⟨g, xs.length, ints xs, rfl, hb, h, Nat.le_refl _, hn, by simp [ints], by simp [ints, List.take_of_length_le]⟩⟩
theorem IntsOwn.nil : IntsOwn w base none 0 [] := World.ownsRow_nil _ _ _ _
theorem IntsOwn.kept {row : Option Nat} (h : IntsOwn w base A c xs) (hg : w.grownBy w' row) (hne : ∀ a, A = some a → row ≠ some a.block) : IntsOwn w' base A c xs :=
  World.ownsRow.kept h hg (by
    cases A with
    | none => exact .inl rfl
    | some a => exact .inr (fun e => hne a rfl e.symm))
/-- What lies elsewhere reads as it did. -/
theorem IntsAt.kept {B : Option Addr} {ys : List Int} {row : Option Nat} (h : IntsAt w B ys) (hg : w.grownBy w' row) (hne : ∀ a, B = some a → row ≠ some a.block) : IntsAt w' B ys := fun hn => by
  obtain ⟨b, off, rfl, hlt, hc⟩ := h hn
  refine ⟨b, off, rfl, Nat.lt_of_lt_of_le hlt hg.size, fun j hj => ?_⟩
  exact (World.cell?_of_block (a := ⟨b, off + j, none⟩) (hg.block b hlt (fun e => hne _ rfl e.symm))).trans (hc j hj)
end
theorem below_of_grown {a w w' : World} {row : Option Nat} (h : Below a.heap.size a w) (hg : w.grownBy w' row) (hr : ∀ k, row = some k → a.heap.size ≤ k) : Below a.heap.size a w' := h.grown hg h.size hr

/-- The marks k, k + 1, .. -/
def marks (k : Int) (n : Nat) : List Int := (List.range n).map fun (j : Nat) => k + (j : Int)
theorem marks_length (k : Int) (n : Nat) : (marks k n).length = n := by simp [marks]
theorem marks_get (k : Int) (n j : Nat) (h : j < n) : (marks k n).getD j 0 = k + j := by simp [marks, h]

theorem mark_step (xs : List Int) (k : Int) (j : Nat) (hj : j < xs.length) : ((marks k j ++ xs.drop j).map (Value.int .i64)).set j (.int .i64 (k + j)) = (marks k (j + 1) ++ xs.drop (j + 1)).map (Value.int .i64) := by
  rw [← List.map_set]
  congr 1
  rw [List.set_append_right _ _ (by simp [marks]), show j - (marks k j).length = 0 by simp [marks], List.drop_eq_getElem_cons hj, List.set_cons_zero]
  simp [marks, List.range_succ]

set_option maxHeartbeats 400000 in
theorem markIntS_any (base : Nat) (A : Option Addr) (c : Nat) (xs : List Int) (k : Int) (w : World) (hx : IntsOwn w base A c xs) (hn : xs.length ≤ 4194304) (hk0 : 0 ≤ k) (hk1 : k ≤ 4611686018427387904) :
    Calls Try.prog 46 #[.slice A xs.length c, .int .i64 k] w fun e w' => e = .returned (.int .i64 (k + xs.length)) ∧ IntsOwn w' base A c (marks k xs.length) ∧ w.grownBy w' (A.map (·.block)) := by
  rcases hx.form with ⟨rfl, rfl⟩ | ⟨g, rfl, hbg, hlt⟩
  · go_enter Try.func46, Try.ntmps46
    go_wp2
    refine wp_loop_rounds 1 ?_
    rw [rounds_succ]
    go_wp2
    go_ret
    exact ⟨ret_int (by simp), by simpa [marks] using hx, World.grownBy.refl _ _⟩
  · go_enter Try.func46, Try.ntmps46
    go_wp2
    go_loopw [1, 5] (fun q i wr => ∃ j : Nat, j ≤ xs.length ∧ i = .int .i64 j ∧ q = .int .i64 (k + j) ∧ wr.ownsRow base 3 1 (.slice (some ⟨g, 0, none⟩) xs.length c) xs.length ((marks k j ++ xs.drop j).map (Value.int .i64)) ∧ w.grownBy wr (some g)) (fun _ i _ => xs.length - (intOf i).toNat)
    case atStart => exact ⟨0, by omega, rfl, by simp, (by have h := hx; unfold IntsOwn at h; simpa [marks] using h), World.grownBy.refl _ _⟩
    case round =>
      obtain ⟨j, hj, rfl, rfl, hown, hgr⟩ := hrel
      by_cases hjl : j < xs.length
      · have hce := World.ownsRow.cellAt hown j (by omega)
        have hll : j < ((marks k j ++ xs.drop j).map (Value.int .i64)).length := by simp [marks]; omega
        rw [List.getElem?_eq_getElem hll] at hce
        have hfr := World.ownsRow.frozenAt hown j
        have hst := World.ownsRow.stored hown j (.int .i64 (k + j))
        rw [mark_step xs k j hjl] at hst
        have HS := Lib.hid hst
        have HG := Lib.hid hgr
        clear hst hown hgr
        generalize ((marks k j ++ xs.drop j).map (Value.int .i64))[j] = u at hce
        clear hll
        go_wp2
        go_roundw
        case rel => exact ⟨j + 1, by omega, by go_num, by go_num, HS.out.1, ⟨HS.out.2.os.trans HG.out.os, HS.out.2.tape.trans HG.out.tape, HS.out.2.output.trans HG.out.output, Nat.le_trans HG.out.size HS.out.2.size, fun i hi hne => (HS.out.2.block i (Nat.lt_of_lt_of_le hi HG.out.size) hne).trans (HG.out.block i hi hne)⟩⟩
        case measure => simp [intOf]; omega
      · obtain rfl : j = xs.length := by omega
        have HO := Lib.hid hown
        have HG := Lib.hid hgr
        clear hown hgr
        go_wp2
        go_ret
        exact ⟨rfl, by have := HO.out; simpa [IntsOwn, marks] using this, HG.out⟩

set_option maxHeartbeats 400000 in
theorem heldIntS_any (A : Option Addr) (c n : Nat) (k : Int) (w : World) (hx : IntsAt w A (marks k n)) (hn : n ≤ 4194304) (hk0 : 0 ≤ k) (hk1 : k ≤ 4611686018427387904) :
    Calls Try.prog 101 #[.slice A n c, .int .i64 k] w fun e w' => e = .returned (.int .i64 (k + n)) ∧ w = w' := by
  go_enter Try.func101, Try.ntmps101
  go_wp2
  go_loopw [1, 5] (fun q i wr => ∃ j : Nat, j ≤ n ∧ i = .int .i64 j ∧ q = .int .i64 (k + j) ∧ w = wr) (fun _ i _ => n - (intOf i).toNat)
  case atStart => exact ⟨0, by omega, rfl, by simp, rfl⟩
  case round =>
    obtain ⟨j, hj, rfl, rfl, rfl⟩ := hrel
    by_cases hjl : j < n
    · obtain ⟨b, off, rfl, hbl, hc⟩ := hx (by simp [marks]; omega)
      have hck : w.cell? ⟨b, off + j, none⟩ = some (.int .i64 (k + j)) := by rw [hc j (by simpa [marks] using hjl), marks_get _ _ _ hjl]
      clear hc hx
      have hne : ((k + (j : Int)) != (k + (j : Int))) = false := by simp
      go_wp2
      go_roundw
      case rel => exact ⟨j + 1, by omega, by go_num, by go_num, by trivial⟩
      case measure => simp [intOf]; omega
    · obtain rfl : j = n := by omega
      clear hx
      go_wp2
      go_ret
      exact ⟨rfl, rfl⟩

/-! ### Projections -/
def colB (cols : List Int) (n : Nat) : Bool := decide (1 ≤ cols.length ∧ cols.length ≤ 6 ∧ ∀ c ∈ cols, 0 ≤ c ∧ c < n)
def projL (xs cols : List Int) : List Int := cols.map fun c => xs.getD c.toNat 0
def colsIn (cols : List Int) (n : Nat) : Prop := ∀ c ∈ cols, 0 ≤ c ∧ c < n
theorem colsIn_step {cols : List Int} {n k : Nat} (h1 : k < cols.length) (h : colsIn (cols.take k) n) (e : 0 ≤ cols[k] ∧ cols[k] < n) : colsIn (cols.take (k + 1)) n := by
  rw [List.take_succ_eq_append_getElem h1]
  intro x hx
  rcases List.mem_append.1 hx with hx | hx
  · exact h x hx
  · simp at hx; subst hx; exact e
theorem colB_bad {cols : List Int} {n k : Nat} (h1 : k < cols.length) (e : ¬ (0 ≤ cols[k] ∧ cols[k] < n)) : colB cols n = false := by
  simp only [colB, decide_eq_false_iff_not]
  rintro ⟨_, _, h⟩
  exact e (h cols[k] (List.getElem_mem h1))
theorem colB_far {cols : List Int} (n : Nat) (h : cols.length < 1 ∨ 6 < cols.length) : colB cols n = false := by
  simp only [colB, decide_eq_false_iff_not]
  rintro ⟨a, b, _⟩
  omega
theorem colB_end {cols : List Int} {n : Nat} (h : colsIn (cols.take cols.length) n) : colB cols n = inB cols.length 1 6 := by
  rw [List.take_length] at h
  simp only [colB, inB]
  congr 1
  simp only [eq_iff_iff]
  constructor
  · rintro ⟨a, b, _⟩; omega
  · rintro ⟨a, b⟩; exact ⟨by omega, by omega, h⟩
theorem inB_iff (c : Int) (n : Nat) : inB c 0 ((n : Int) - 1) = decide (0 ≤ c ∧ c < n) := by
  unfold inB; congr 1; simp only [eq_iff_iff]; constructor <;> rintro ⟨a, b⟩ <;> exact ⟨a, by omega⟩

set_option maxHeartbeats 400000 in
theorem validColumns_s (A : Option Addr) (c : Nat) (cols : List Int) (n : Nat) (w : World) (hx : IntsAt w A cols) (hn : cols.length * 8 ≤ 140737488351232) (hn2 : n ≤ 4194304) :
    Calls Try.prog 79 #[.slice A cols.length c, .int .i64 n] w fun e w' => e = .returned (.bool (colB cols n)) ∧ w = w' := by
  go_enter Try.func79, Try.ntmps79
  go_wp2
  go_loopw [5] (fun i wr => ∃ k : Nat, k ≤ cols.length ∧ i = .int .i64 k ∧ colsIn (cols.take k) n ∧ w = wr) (fun i _ => cols.length - (intOf i).toNat)
  case atStart => exact ⟨0, by omega, rfl, by simp [colsIn], rfl⟩
  case round =>
    obtain ⟨k, hk, rfl, hall, rfl⟩ := hrel
    have HT := Lib.hid hall
    clear hall
    by_cases hlt : k < cols.length
    · obtain ⟨b, off, rfl, hbl, hc⟩ := hx (by omega)
      have hck : w.cell? ⟨b, off + k, none⟩ = some (.int .i64 cols[k]) := by rw [hc k hlt]; simp [hlt]
      clear hc
      by_cases he : 0 ≤ cols[k] ∧ cols[k] < n
      · have hi : inB cols[k] 0 ((n : Int) - 1) = true := by rw [inB_iff]; simpa using he
        have HE := Lib.hid he
        clear he
        go_wp2_with (go_at_call 86; refine (inRange_any _ _ _ _).mono ?_; rintro e w1 ⟨rfl, rfl⟩)
        go_roundw
        case rel => exact ⟨k + 1, by omega, by go_num, colsIn_step hlt HT.out HE.out, by trivial⟩
        case measure => simp [intOf]; omega
      · have hi : inB cols[k] 0 ((n : Int) - 1) = false := by rw [inB_iff]; simpa using he
        have HF := Lib.hid (colB_bad hlt he)
        clear he
        go_wp2_with (go_at_call 86; refine (inRange_any _ _ _ _).mono ?_; rintro e w1 ⟨rfl, rfl⟩)
        go_ret
        exact ⟨ret_bool HF.out.symm, rfl⟩
    · obtain rfl : k = cols.length := by omega
      have HF := Lib.hid (colB_end HT.out)
      go_wp2_with (go_at_call 86; refine (inRange_any _ _ _ _).mono ?_; rintro e w1 ⟨rfl, rfl⟩)
      go_ret
      exact ⟨ret_bool HF.out.symm, rfl⟩

theorem projL_step {xs cols : List Int} {k : Nat} (h : k < cols.length) (hc : 0 ≤ cols[k] ∧ cols[k] < xs.length) (hi : cols[k].toNat < xs.length) :
    (projL xs (cols.take k)).map (Value.int .i64) ++ [.int .i64 xs[cols[k].toNat]] = (projL xs (cols.take (k + 1))).map (Value.int .i64) := by
  rw [List.take_succ_eq_append_getElem h]
  simp only [projL, List.map_append, List.map_cons, List.map_nil]
  congr 3
  simp [hi]
theorem own_slice {w : World} {base n : Nat} {v : Value} {e : TypeId} {size : Nat} {xs : List Value} (h : w.ownsRow base e size v n xs) : ∃ A c, v = .slice A n c := by
  rcases h.2 with ⟨rfl, rfl⟩ | ⟨g, cap, _, rfl, _⟩
  · exact ⟨none, 0, rfl⟩
  · exact ⟨_, cap, rfl⟩
theorem projL_length (xs cols : List Int) : (projL xs cols).length = cols.length := by simp [projL]

set_option maxHeartbeats 800000 in
theorem project_s (A B : Option Addr) (c d : Nat) (xs cols : List Int) (w : World) (hx : IntsAt w A xs) (hy : IntsAt w B cols) (hall : colsIn cols xs.length) (hn : xs.length ≤ 4194304) (hm : cols.length ≤ 4194304) :
    Calls Try.prog 94 #[.slice A xs.length c, .slice B cols.length d] w fun e w' => ∃ A' c', e = .returned (.slice A' (projL xs cols).length c') ∧ IntsOwn w' w.heap.size A' c' (projL xs cols) ∧ Below w.heap.size w w' := by
  obtain ⟨i0, hi, hz0, hz1, hz2⟩ := info_parts Try.infoInt
  go_enter Try.func94, Try.ntmps94
  go_wp2
  go_loopw [5, 6] (fun v i wr => ∃ k : Nat, k ≤ cols.length ∧ i = .int .i64 k ∧ wr.ownsRow w.heap.size 3 1 v k ((projL xs (cols.take k)).map (Value.int .i64)) ∧ Below w.heap.size w wr) (fun _ i _ => cols.length - (intOf i).toNat)
  case atStart => exact ⟨0, by omega, rfl, World.ownsRow_lit w #[] 0 (Nat.le_refl _) (by omega) (by simp), bal (Below.refl _ _) _⟩
  case round =>
    obtain ⟨k, hk, rfl, hown, hbel⟩ := hrel
    by_cases hlt : k < cols.length
    · obtain ⟨b2, off2, rfl, hbl2, hc2⟩ := hy (by omega)
      have hck2 : wr.cell? ⟨b2, off2 + k, none⟩ = some (.int .i64 cols[k]) := (hbel.cell (p := ⟨b2, off2 + k, none⟩) hbl2).trans (by rw [hc2 k hlt]; simp [hlt])
      have hcol := hall cols[k] (List.getElem_mem hlt)
      have hi0 := hcol.1
      have hi1 := hcol.2
      have hit : cols[k].toNat < xs.length := by omega
      obtain ⟨b, off, rfl, hbl, hc⟩ := hx (by omega)
      have hck : wr.cell? ⟨b, off + cols[k].toNat, none⟩ = some (.int .i64 xs[cols[k].toNat]) := (hbel.cell (p := ⟨b, off + cols[k].toNat, none⟩) hbl).trans (by rw [hc _ hit]; simp [hit])
      have HST := Lib.hid (projL_step (xs := xs) hlt hcol hit)
      clear hc hc2 hcol
      go_wp2_with (at_builtin; refine wpList_append_own _ rfl _ _ 32 rfl w.heap.size 3 i0 (.int .i64 0) 1 8 Try.underlying32 hi hz0 hz1 hz2 rfl (by decide) _ _ _ rfl (hown.alloc _) ⟨wr.heap.size, 0, none⟩ 1 1 [.int .i64 xs[cols[k].toNat]] rfl rfl ?c1 ?c2 ?c3 ?c4 ?c5 ?_)
      case c1 =>
        intro j u hj
        match j, hj with
        | 0, hj => simp at hj; subst hj; simp [Addr.add]
      case c2 => intro u hu; simp at hu; subst hu; rfl
      case c3 => unfold maxLen; omega
      case c4 => omega
      case c5 => have := hbel.size; simp; omega
      intro v' w1 hown' hgrow _
      rw [HST.out] at hown'
      have hb1 : Below w.heap.size w w1 := (bal hbel _).grown hgrow (by have := hbel.size; simp; omega) (fun j hj => (World.ownsRow.lt hown j hj).1)
      have HO := Lib.hid hown'
      have HB := Lib.hid hb1
      clear hown' hgrow hown hbel hb1
      go_wp2
      go_roundw
      case rel => exact ⟨k + 1, by omega, by go_num, HO.out, HB.out⟩
      case measure => simp [intOf]; omega
    · obtain rfl : k = cols.length := by omega
      obtain ⟨A', c', hv⟩ := own_slice hown
      have e : cols.take cols.length = cols := List.take_length
      rw [e] at hown
      have HO := Lib.hid hown
      have HB := Lib.hid hbel
      have HV := Lib.hid hv
      clear hown hbel e hv
      go_wp2
      go_ret
      refine ⟨A', c', ?_, ?_, HB.out⟩
      · rw [HV.out, projL_length]; rfl
      · have := HO.out
        rw [HV.out] at this
        unfold IntsOwn
        rw [projL_length]
        exact this

/-- What ProjectRow gives. -/
def projB (xs cols : List Int) : Bool := rowB xs && colB cols xs.length
def projR (xs cols : List Int) : List Int := if projB xs cols = true then projL xs cols else []
theorem row_len {xs : List Int} (h : rowB xs = true) : xs.length ≤ 6 := by simp [rowB] at h; omega
theorem col_in {cols : List Int} {n : Nat} (h : colB cols n = true) : colsIn cols n ∧ cols.length ≤ 6 ∧ 1 ≤ cols.length := by
  simp only [colB, decide_eq_true_eq] at h
  exact ⟨h.2.2, h.2.1, h.1⟩

/-- What stands in the projection after k columns. -/
def projK (xs cols : List Int) (k : Nat) : List Int := projL xs (cols.take k) ++ List.replicate (cols.length - k) 0
theorem projK_length {xs cols : List Int} {k : Nat} (h : k ≤ cols.length) : (projK xs cols k).length = cols.length := by simp [projK, projL]; omega
theorem projK_step {xs cols : List Int} {k : Nat} (h : k < cols.length) (hi : cols[k].toNat < xs.length) : (projK xs cols k).set k xs[cols[k].toNat] = projK xs cols (k + 1) := by
  unfold projK
  have e : cols.length - k = (cols.length - (k + 1)) + 1 := by omega
  rw [List.set_append_right _ _ (by simp [projL]; omega), e, List.replicate_succ]
  have e2 : k - (projL xs (cols.take k)).length = 0 := by simp [projL]; omega
  rw [e2, List.set_cons_zero, List.take_succ_eq_append_getElem h]
  simp only [projL, List.map_append, List.map_cons, List.map_nil, List.append_assoc, List.cons_append, List.nil_append]
  congr 2
  simp [hi]
theorem projK_end {xs cols : List Int} : projK xs cols cols.length = projL xs cols := by simp [projK]

set_option maxHeartbeats 400000 in
theorem areColumns_i (A : Option Addr) (c : Nat) (cols : List Int) (n : Nat) (w : World) (hx : IntsAt w A cols) (hm : cols.length ≤ 4194304) (hn2 : n ≤ 4194304) :
    Calls Try.prog 82 #[.slice A cols.length c, .int .i64 n] w fun e w' => e = .returned (.bool (colB cols n)) ∧ w = w' := by
  by_cases hc1 : cols.length < 1
  · have HF := Lib.hid (colB_far (cols := cols) n (.inl hc1))
    have hc1' : (cols.length : Int) < 1 := by omega
    go_enter Try.func82, Try.ntmps82
    go_wp2
    go_ret
    exact ⟨ret_bool HF.out.symm, rfl⟩
  have hc1' : (1 : Int) ≤ cols.length := by omega
  by_cases hc6 : 6 < cols.length
  · have HF := Lib.hid (colB_far (cols := cols) n (.inr hc6))
    have hc6' : (6 : Int) < cols.length := by omega
    go_enter Try.func82, Try.ntmps82
    go_wp2
    go_ret
    exact ⟨ret_bool HF.out.symm, rfl⟩
  have hc6' : (cols.length : Int) ≤ 6 := by omega
  go_enter Try.func82, Try.ntmps82
  go_wp2
  go_loopw [6, 17] (fun _ i wr => ∃ k : Nat, k ≤ cols.length ∧ i = .int .i64 k ∧ Hid (colsIn (cols.take k) n) ∧ w = wr) (fun _ i _ => cols.length - (intOf i).toNat)
  case atStart => exact ⟨0, by omega, rfl, by simp [Hid, colsIn], rfl⟩
  case round =>
    obtain ⟨k, hk, rfl, hall, rfl⟩ := hrel
    by_cases hlt : k < cols.length
    · obtain ⟨b, off, rfl, hbl, hc⟩ := hx (by omega)
      have hck : w.cell? ⟨b, off + k, none⟩ = some (.int .i64 cols[k]) := by rw [hc k hlt]; simp [hlt]
      clear hc
      by_cases hneg : cols[k] < 0
      · have HF := Lib.hid (colB_bad (n := n) hlt (by omega))
        go_wp2
        go_ret
        exact ⟨ret_bool HF.out.symm, rfl⟩
      have hi0 : (0 : Int) ≤ cols[k] := by omega
      by_cases hbig : (n : Int) ≤ cols[k]
      · have HF := Lib.hid (colB_bad (n := n) hlt (by omega))
        go_wp2
        go_ret
        exact ⟨ret_bool HF.out.symm, rfl⟩
      have hi1 : cols[k] < n := by omega
      have HC := Lib.hid (colsIn_step hlt hall.out ⟨hi0, hi1⟩)
      clear hneg hbig
      go_wp2
      go_roundw
      case rel => exact ⟨k + 1, by omega, by go_num, HC, by trivial⟩
      case measure => simp [intOf]; omega
    · obtain rfl : k = cols.length := by omega
      have hcol : colB cols n = true := by rw [colB_end hall.out]; simp [inB]; omega
      have HF := Lib.hid hcol
      clear hcol
      go_wp2
      go_ret
      exact ⟨ret_bool HF.out.symm, rfl⟩

set_option maxHeartbeats 1600000 in
theorem ProjectRow_i (A B : Option Addr) (c d : Nat) (xs cols : List Int) (w : World) (hx : IntsAt w A xs) (hy : IntsAt w B cols) (hn : xs.length ≤ 4194304) (hm : cols.length ≤ 4194304) :
    Calls Try.prog 25 #[.slice A xs.length c, .slice B cols.length d] w fun e w' => ∃ A' c', e = .returned (.tuple #[.slice A' (projR xs cols).length c', .bool (projB xs cols)]) ∧ IntsOwn w' w.heap.size A' c' (projR xs cols) ∧ Below w.heap.size w w' := by
  have fails : projB xs cols = false → Hid (projR xs cols = []) ∧ Hid (projB xs cols = false) := fun hp => ⟨by simp [Hid, projR, hp], hp⟩
  by_cases h1 : rowB xs = true
  · have hrw := fun W (h : IntsAt W A xs) => ValidRow_i A c xs W h (by omega)
    simp only [h1] at hrw
    by_cases h2 : colB cols xs.length = true
    · have hcin := col_in h2
      have hal := fun W (h : IntsAt W B cols) => areColumns_i B d cols xs.length W h hm hn
      simp only [h2] at hal
      have hp : projB xs cols = true := by simp [projB, h1, h2]
      have hr : projR xs cols = projL xs cols := by simp [projR, hp]
      have HR := Lib.hid hr
      have HP := Lib.hid hp
      have HC := Lib.hid hcin.1
      have hc6 : cols.length ≤ 6 := hcin.2.1
      have hc1 : 1 ≤ cols.length := hcin.2.2
      clear fails h1 h2 hp hr hcin
      obtain ⟨i0, hi, hz0, hz1, hz2⟩ := info_parts Try.infoInt
      go_enter Try.func25, Try.ntmps25
      go_wp2_with fail
      refine (hrw _ hx).mono ?_
      rintro e w1 ⟨rfl, b1⟩
      go_wp2_with fail
      refine (hal _ (hy.below b1)).mono ?_
      rintro e wq ⟨rfl, rfl⟩
      have hmk := run_make (P := Try.prog) w1 32 3 i0 (.int .i64 0) Try.underlying32 hi hz0 .i64 .i64 cols.length cols.length (by omega) (by omega) (by rw [hz2]; omega) (by omega)
      simp only [Int.toNat_natCast, hz1, Nat.mul_one, Value.cells, ints_made] at hmk
      clear hrw hal
      go_wp2_with fail
      go_loopw [7, 8, 24] (fun _ _ i wr => ∃ k : Nat, k ≤ cols.length ∧ i = .int .i64 k ∧ Blk wr w1.heap.size 3 (ints (projK xs cols k)) ∧ Below w1.heap.size w1 wr) (fun _ _ i _ => cols.length - (intOf i).toNat)
      case atStart => exact ⟨0, by omega, rfl, by simpa [projK, projL] using Blk.newAt rfl, bal (Below.refl _ _) _⟩
      case round =>
        obtain ⟨k, hk, rfl, hblk, hbel⟩ := hrel
        clear hmk
        by_cases hlt : k < cols.length
        · obtain ⟨b2, off2, rfl, hbl2, hc2⟩ := (hy.below b1) (by omega)
          have hck2 : wr.cell? ⟨b2, off2 + k, none⟩ = some (.int .i64 cols[k]) := (hbel.cell (p := ⟨b2, off2 + k, none⟩) hbl2).trans (by rw [hc2 k hlt]; simp [hlt])
          have hck := HC.out cols[k] (List.getElem_mem hlt)
          have hi0 : (0 : Int) ≤ cols[k] := hck.1
          have hi1 : cols[k] < xs.length := hck.2
          have hit : cols[k].toNat < xs.length := by omega
          clear hc2 hck
          obtain ⟨b, off, rfl, hbl, hc⟩ := (hx.below b1) (by omega)
          have hck : wr.cell? ⟨b, off + cols[k].toNat, none⟩ = some (.int .i64 xs[cols[k].toNat]) := (hbel.cell (p := ⟨b, off + cols[k].toNat, none⟩) hbl).trans (by rw [hc _ hit]; simp [hit])
          have hpl : k < (projK xs cols k).length := by rw [projK_length hk]; exact hlt
          have hco : wr.cell? ⟨w1.heap.size, k, none⟩ = some (.int .i64 ((projK xs cols k).getD k 0)) := by rw [hblk.cell, ints_get _ _ hpl]
          have hfo := hblk.frozen k
          have hset := hblk.set_ k (.int .i64 xs[cols[k].toNat])
          rw [ints_set, projK_step hlt hit] at hset
          have HS := Lib.hid hset
          have HB := Lib.hid hbel
          generalize (projK xs cols k).getD k 0 = u at hco
          clear hset hc hblk hbel hpl
          go_wp2
          go_roundw
          case rel => exact ⟨k + 1, by omega, by go_num, HS.out, bset HB.out (Nat.le_refl _) _⟩
          case measure => simp [intOf]; omega
        · obtain rfl : k = cols.length := by omega
          have hblk' := hblk
          rw [projK_end] at hblk'
          have hown := IntsOwn.ofBlk (base := w.heap.size) hblk' b1.size (by rw [projL_length]; unfold maxLen; omega)
          have HO := Lib.hid hown
          have HB := Lib.hid hbel
          clear hblk hblk' hown hbel
          go_wp2
          go_ret2
          exact ⟨_, (projL xs cols).length, by rw [HR.out, HP.out, projL_length]; rfl, by rw [HR.out]; exact HO.out, btr b1 HB.out⟩
    · have h2' : colB cols xs.length = false := by simpa using h2
      have hal := fun W (h : IntsAt W B cols) => areColumns_i B d cols xs.length W h hm hn
      simp only [h2'] at hal
      obtain ⟨HR, HP⟩ := fails (by simp [projB, h2'])
      clear fails h1 h2 h2'
      go_enter Try.func25, Try.ntmps25
      go_wp2_with fail
      refine (hrw _ hx).mono ?_
      rintro e w1 ⟨rfl, b1⟩
      go_wp2_with fail
      refine (hal _ (hy.below b1)).mono ?_
      rintro e wq ⟨rfl, rfl⟩
      go_wp2_with fail
      go_ret2
      exact ⟨none, 0, by rw [HR.out, HP.out]; rfl, by rw [HR.out]; exact IntsOwn.nil, b1⟩
  · have h1' : rowB xs = false := by simpa using h1
    obtain ⟨HR, HP⟩ := fails (by simp [projB, h1'])
    clear fails h1
    go_enter Try.func25, Try.ntmps25
    go_wp2_with fail
    refine (ValidRow_i _ _ _ _ hx (by omega)).mono ?_
    rintro e w1 ⟨rfl, b1⟩
    go_wp2_with fail
    go_ret2
    exact ⟨none, 0, by rw [HR.out, HP.out]; rfl, by rw [HR.out]; exact IntsOwn.nil, b1⟩
end Go.Proofs.Ytjlpkfcdkmcjnaa
