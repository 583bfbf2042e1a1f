/- HELPER, no statement of the seat: lists of numbers that a call made: marks, and projections. -/
import Derived.Test.YtfndglpfhdphiadIntBase
import Derived.Laws.AppendOwn
import Derived.Laws.OwnMore
namespace Go.Proofs.Ytfndglpfhdphiad
open Go.RowKit
set_option linter.unusedSimpArgs false
set_option linter.unusedVariables false

/-- The slice at A is the head of a row of a call's own, which reads as xs. -/
def IntsOwn (w : World) (base : Nat) (A : Option Addr) (c : Nat) (xs : List Int) : Prop := w.ownsRow base 3 1 (.slice A xs.length c) xs.length (xs.map (Value.int .i64))

section
variable {w w' : World} {base : Nat} {A : Option Addr} {c : Nat} {xs : List Int}
theorem IntsOwn.form (h : IntsOwn w base A c xs) : (A = none ∧ xs = []) ∨ ∃ g, A = some ⟨g, 0, none⟩ ∧ base ≤ g ∧ g < w.heap.size := by
  rcases h.2 with ⟨e, hn⟩ | ⟨g, cap, cur, e, hb, hg, _⟩
  · injection e with e1; exact .inl ⟨e1, List.eq_nil_of_length_eq_zero hn⟩
  · injection e with e1; exact .inr ⟨g, e1, hb, (Array.getElem?_eq_some_iff.1 hg).1⟩
theorem IntsOwn.at_ (h : IntsOwn w base A c xs) : IntsAt w A xs := fun hn => by
  rcases h.form with ⟨_, rfl⟩ | ⟨g, rfl, _, hlt⟩
  · simp at hn
  · refine ⟨g, 0, rfl, hlt, fun j hj => ?_⟩
    have := World.ownsRow.cells h (g := g) rfl j (.int .i64 (xs.getD j 0)) (by simp [hj])
    have e : (⟨g, 0, none⟩ : Addr).add j = ⟨g, 0 + j, none⟩ := by unfold Addr.add; split <;> simp_all
    rw [e] at this
    exact this
theorem IntsOwn.below (h : IntsOwn w base A c xs) (hb : Below w.heap.size w w') : IntsOwn w' base A c xs :=
  World.ownsRow.kept (row := none) h ⟨hb.os, hb.tape, hb.output, hb.size, fun k hk _ => hb.block k hk⟩ (by cases hv : (Value.slice A xs.length c).ownBlock <;> simp)
theorem IntsOwn.mono {base' : Nat} (h : IntsOwn w base A c xs) (hb : base' ≤ base) : IntsOwn w base' A c xs := by
  refine ⟨h.1, ?_⟩
  rcases h.2 with h2 | ⟨g, cap, cur, e, hbg, r⟩
  · exact .inl h2
  · exact .inr ⟨g, cap, cur, e, Nat.le_trans hb hbg, r⟩
theorem IntsOwn.ofBlk {g : Nat} (h : Blk w g 3 (ints xs)) (hb : base ≤ g) (hn : xs.length ≤ maxLen) : IntsOwn w base (some ⟨g, 0, none⟩) xs.length xs :=
  ⟨by simp, .inr ⟨g, xs.length, ints xs, rfl, hb, h, Nat.le_refl _, hn, by simp [ints], by simp [ints, List.take_of_length_le]⟩⟩
theorem IntsOwn.nil : IntsOwn w base none 0 [] := World.ownsRow_nil _ _ _ _
theorem IntsOwn.kept {row : Option Nat} (h : IntsOwn w base A c xs) (hg : w.grownBy w' row) (hne : ∀ a, A = some a → row ≠ some a.block) : IntsOwn w' base A c xs :=
  World.ownsRow.kept h hg (by
    cases A with
    | none => exact .inl rfl
    | some a => exact .inr (fun e => hne a rfl e.symm))
/-- What lies elsewhere reads as it did. -/
theorem IntsAt.kept {B : Option Addr} {ys : List Int} {row : Option Nat} (h : IntsAt w B ys) (hg : w.grownBy w' row) (hne : ∀ a, B = some a → row ≠ some a.block) : IntsAt w' B ys := fun hn => by
  obtain ⟨b, off, rfl, hlt, hc⟩ := h hn
  refine ⟨b, off, rfl, Nat.lt_of_lt_of_le hlt hg.size, fun j hj => ?_⟩
  exact (World.cell?_of_block (a := ⟨b, off + j, none⟩) (hg.block b hlt (fun e => hne _ rfl e.symm))).trans (hc j hj)
end
theorem below_of_grown {a w w' : World} {row : Option Nat} (h : Below a.heap.size a w) (hg : w.grownBy w' row) (hr : ∀ k, row = some k → a.heap.size ≤ k) : Below a.heap.size a w' := h.grown hg h.size hr

/-- The marks k, k + 1, .. -/
def marks (k : Int) (n : Nat) : List Int := (List.range n).map fun (j : Nat) => k + (j : Int)
theorem marks_length (k : Int) (n : Nat) : (marks k n).length = n := by simp [marks]
theorem marks_get (k : Int) (n j : Nat) (h : j < n) : (marks k n).getD j 0 = k + j := by simp [marks, h]

theorem mark_step (xs : List Int) (k : Int) (j : Nat) (hj : j < xs.length) : ((marks k j ++ xs.drop j).map (Value.int .i64)).set j (.int .i64 (k + j)) = (marks k (j + 1) ++ xs.drop (j + 1)).map (Value.int .i64) := by
  rw [← List.map_set]
  congr 1
  rw [List.set_append_right _ _ (by simp [marks]), show j - (marks k j).length = 0 by simp [marks], List.drop_eq_getElem_cons hj, List.set_cons_zero]
  simp [marks, List.range_succ]

set_option maxHeartbeats 400000 in
theorem markIntS_any (base : Nat) (A : Option Addr) (c : Nat) (xs : List Int) (k : Int) (w : World) (hx : IntsOwn w base A c xs) (hn : xs.length ≤ 4194304) (hk0 : 0 ≤ k) (hk1 : k ≤ 4611686018427387904) :
    Calls Try.prog 75 #[.slice A xs.length c, .int .i64 k] w fun e w' => e = .returned (.int .i64 (k + xs.length)) ∧ IntsOwn w' base A c (marks k xs.length) ∧ w.grownBy w' (A.map (·.block)) := by
  rcases hx.form with ⟨rfl, rfl⟩ | ⟨g, rfl, hbg, hlt⟩
  · go_enter Try.func75, Try.ntmps75
    go_wp2
    refine wp_loop_rounds 1 ?_
    rw [rounds_succ]
    go_wp2
    go_ret
    exact ⟨ret_int (by simp), by simpa [marks] using hx, World.grownBy.refl _ _⟩
  · go_enter Try.func75, Try.ntmps75
    go_wp2
    go_loopw [1, 5] (fun q i wr => ∃ j : Nat, j ≤ xs.length ∧ i = .int .i64 j ∧ q = .int .i64 (k + j) ∧ wr.ownsRow base 3 1 (.slice (some ⟨g, 0, none⟩) xs.length c) xs.length ((marks k j ++ xs.drop j).map (Value.int .i64)) ∧ w.grownBy wr (some g)) (fun _ i _ => xs.length - (intOf i).toNat)
    case atStart => exact ⟨0, by omega, rfl, by simp, (by have h := hx; unfold IntsOwn at h; simpa [marks] using h), World.grownBy.refl _ _⟩
    case round =>
      obtain ⟨j, hj, rfl, rfl, hown, hgr⟩ := hrel
      by_cases hjl : j < xs.length
      · have hce := World.ownsRow.cellAt hown j (by omega)
        have hll : j < ((marks k j ++ xs.drop j).map (Value.int .i64)).length := by simp [marks]; omega
        rw [List.getElem?_eq_getElem hll] at hce
        have hfr := World.ownsRow.frozenAt hown j
        have hst := World.ownsRow.stored hown j (.int .i64 (k + j))
        rw [mark_step xs k j hjl] at hst
        have HS := Lib.hid hst
        have HG := Lib.hid hgr
        clear hst hown hgr
        generalize ((marks k j ++ xs.drop j).map (Value.int .i64))[j] = u at hce
        clear hll
        go_wp2
        go_roundw
        case rel => exact ⟨j + 1, by omega, by go_num, by go_num, HS.out.1, ⟨HS.out.2.os.trans HG.out.os, HS.out.2.tape.trans HG.out.tape, HS.out.2.output.trans HG.out.output, Nat.le_trans HG.out.size HS.out.2.size, fun i hi hne => (HS.out.2.block i (Nat.lt_of_lt_of_le hi HG.out.size) hne).trans (HG.out.block i hi hne)⟩⟩
        case measure => simp [intOf]; omega
      · obtain rfl : j = xs.length := by omega
        have HO := Lib.hid hown
        have HG := Lib.hid hgr
        clear hown hgr
        go_wp2
        go_ret
        exact ⟨rfl, by have := HO.out; simpa [IntsOwn, marks] using this, HG.out⟩

set_option maxHeartbeats 400000 in
theorem heldIntS_any (A : Option Addr) (c n : Nat) (k : Int) (w : World) (hx : IntsAt w A (marks k n)) (hn : n ≤ 4194304) (hk0 : 0 ≤ k) (hk1 : k ≤ 4611686018427387904) :
    Calls Try.prog 76 #[.slice A n c, .int .i64 k] w fun e w' => e = .returned (.int .i64 (k + n)) ∧ w = w' := by
  go_enter Try.func76, Try.ntmps76
  go_wp2
  go_loopw [1, 5] (fun q i wr => ∃ j : Nat, j ≤ n ∧ i = .int .i64 j ∧ q = .int .i64 (k + j) ∧ w = wr) (fun _ i _ => n - (intOf i).toNat)
  case atStart => exact ⟨0, by omega, rfl, by simp, rfl⟩
  case round =>
    obtain ⟨j, hj, rfl, rfl, rfl⟩ := hrel
    by_cases hjl : j < n
    · obtain ⟨b, off, rfl, hbl, hc⟩ := hx (by simp [marks]; omega)
      have hck : w.cell? ⟨b, off + j, none⟩ = some (.int .i64 (k + j)) := by rw [hc j (by simpa [marks] using hjl), marks_get _ _ _ hjl]
      clear hc hx
      have hne : ((k + (j : Int)) != (k + (j : Int))) = false := by simp
      go_wp2
      go_roundw
      case rel => exact ⟨j + 1, by omega, by go_num, by go_num, by trivial⟩
      case measure => simp [intOf]; omega
    · obtain rfl : j = n := by omega
      clear hx
      go_wp2
      go_ret
      exact ⟨rfl, rfl⟩

/-! ### Projections -/
def colB (cols : List Int) (n : Nat) : Bool := decide (1 ≤ cols.length ∧ cols.length ≤ 6 ∧ ∀ c ∈ cols, 0 ≤ c ∧ c < n)
def projL (xs cols : List Int) : List Int := cols.map fun c => xs.getD c.toNat 0
def colsIn (cols : List Int) (n : Nat) : Prop := ∀ c ∈ cols, 0 ≤ c ∧ c < n
theorem colsIn_step {cols : List Int} {n k : Nat} (h1 : k < cols.length) (h : colsIn (cols.take k) n) (e : 0 ≤ cols[k] ∧ cols[k] < n) : colsIn (cols.take (k + 1)) n := by
  rw [List.take_succ_eq_append_getElem h1]
  intro x hx
  rcases List.mem_append.1 hx with hx | hx
  · exact h x hx
  · simp at hx; subst hx; exact e
theorem colB_bad {cols : List Int} {n k : Nat} (h1 : k < cols.length) (e : ¬ (0 ≤ cols[k] ∧ cols[k] < n)) : colB cols n = false := by
  simp only [colB, decide_eq_false_iff_not]
  rintro ⟨_, _, h⟩
  exact e (h cols[k] (List.getElem_mem h1))
theorem colB_far {cols : List Int} (n : Nat) (h : cols.length < 1 ∨ 6 < cols.length) : colB cols n = false := by
  simp only [colB, decide_eq_false_iff_not]
  rintro ⟨a, b, _⟩
  omega
theorem colB_end {cols : List Int} {n : Nat} (h : colsIn (cols.take cols.length) n) : colB cols n = inB cols.length 1 6 := by
  rw [List.take_length] at h
  simp only [colB, inB]
  congr 1
  simp only [eq_iff_iff]
  constructor
  · rintro ⟨a, b, _⟩; omega
  · rintro ⟨a, b⟩; exact ⟨by omega, by omega, h⟩
theorem inB_iff (c : Int) (n : Nat) : inB c 0 ((n : Int) - 1) = decide (0 ≤ c ∧ c < n) := by
  unfold inB; congr 1; simp only [eq_iff_iff]; constructor <;> rintro ⟨a, b⟩ <;> exact ⟨a, by omega⟩

theorem projL_step {xs cols : List Int} {k : Nat} (h : k < cols.length) (hc : 0 ≤ cols[k] ∧ cols[k] < xs.length) (hi : cols[k].toNat < xs.length) :
    (projL xs (cols.take k)).map (Value.int .i64) ++ [.int .i64 xs[cols[k].toNat]] = (projL xs (cols.take (k + 1))).map (Value.int .i64) := by
  rw [List.take_succ_eq_append_getElem h]
  simp only [projL, List.map_append, List.map_cons, List.map_nil]
  congr 3
  simp [hi]
theorem own_slice {w : World} {base n : Nat} {v : Value} {e : TypeId} {size : Nat} {xs : List Value} (h : w.ownsRow base e size v n xs) : ∃ A c, v = .slice A n c := by
  rcases h.2 with ⟨rfl, rfl⟩ | ⟨g, cap, _, rfl, _⟩
  · exact ⟨none, 0, rfl⟩
  · exact ⟨_, cap, rfl⟩
theorem projL_length (xs cols : List Int) : (projL xs cols).length = cols.length := by simp [projL]

/-- What ProjectRow gives. -/
def projB (xs cols : List Int) : Bool := rowB xs && colB cols xs.length
def projR (xs cols : List Int) : List Int := if projB xs cols = true then projL xs cols else []
theorem row_len {xs : List Int} (h : rowB xs = true) : xs.length ≤ 6 := by simp [rowB] at h; omega
theorem col_in {cols : List Int} {n : Nat} (h : colB cols n = true) : colsIn cols n ∧ cols.length ≤ 6 ∧ 1 ≤ cols.length := by
  simp only [colB, decide_eq_true_eq] at h
  exact ⟨h.2.2, h.2.1, h.1⟩

/-- What stands in the projection after k columns. -/
def projK (xs cols : List Int) (k : Nat) : List Int := projL xs (cols.take k) ++ List.replicate (cols.length - k) 0
theorem projK_length {xs cols : List Int} {k : Nat} (h : k ≤ cols.length) : (projK xs cols k).length = cols.length := by simp [projK, projL]; omega
theorem projK_step {xs cols : List Int} {k : Nat} (h : k < cols.length) (hi : cols[k].toNat < xs.length) : (projK xs cols k).set k xs[cols[k].toNat] = projK xs cols (k + 1) := by
  unfold projK
  have e : cols.length - k = (cols.length - (k + 1)) + 1 := by omega
  rw [List.set_append_right _ _ (by simp [projL]; omega), e, List.replicate_succ]
  have e2 : k - (projL xs (cols.take k)).length = 0 := by simp [projL]; omega
  rw [e2, List.set_cons_zero, List.take_succ_eq_append_getElem h]
  simp only [projL, List.map_append, List.map_cons, List.map_nil, List.append_assoc, List.cons_append, List.nil_append]
  congr 2
  simp [hi]
theorem projK_end {xs cols : List Int} : projK xs cols cols.length = projL xs cols := by simp [projK]

end Go.Proofs.Ytfndglpfhdphiad
