/- HELPER, no statement of the seat: several texts in one file. -/
import Derived.Test.YtkonhjdfcfljpaaZbx
import Derived.Test.YtkonhjdfcfljpaaPred
import Derived.Lib.QuietBelow
import Derived.Laws.EntriesVeiled
import Derived.Test.YtkonhjdfcfljpaaBldM
import Derived.Test.YtkonhjdfcfljpaaZbn
import Derived.Test.YtkonhjdfcfljpaaBlu
/- HELPER, no statement of the seat: predicates as tests of rows. -/
namespace Go.Proofs.Ytkonhjdfcfljpaa
open Go.RowKit Go.Sort
set_option linter.unusedSimpArgs false
set_option linter.unusedVariables false


def cmpP (k x v : Int) : Bool := if k = 1 then x == v else if k = 2 then decide (x < v) else if k = 3 then decide (v < x) else x != v
/-- The row r satisfies the predicate of the column m, the kind k and the value v. -/
def holdP (m : Nat) (k v : Int) (r : List Int) : Bool := cmpP k (r.getD m 0) v
theorem IntsAt.at {w : World} {A : Option Addr} {xs : List Int} (h : IntsAt w A xs) {m : Nat} (hm : m < xs.length) : ∃ b off, A = some ⟨b, off, none⟩ ∧ b < w.heap.size ∧ w.cell? ⟨b, off + m, none⟩ = some (.int .i64 xs[m]) := by
  obtain ⟨b, off, e, hlt, hc⟩ := h (by omega)
  exact ⟨b, off, e, hlt, by rw [hc m hm]; simp [hm]⟩
theorem getD_at {xs : List Int} {m : Nat} (h : m < xs.length) : xs.getD m 0 = xs[m] := by simp [h]

end Go.Proofs.Ytkonhjdfcfljpaa

/- HELPER, no statement of the seat: Filter of both sides. -/
namespace Go.Proofs.Ytkonhjdfcfljpaa
open Go.RowKit Go.Sort
set_option linter.unusedSimpArgs false
set_option linter.unusedVariables false


end Go.Proofs.Ytkonhjdfcfljpaa

/- HELPER, no statement of the seat: Filter of both sides. -/
namespace Go.Proofs.Ytkonhjdfcfljpaa
open Go.RowKit Go.Sort
set_option linter.unusedSimpArgs false
set_option linter.unusedVariables false


/-- What Filter gives. -/
def FilF (z : List Ent) (c k v : Int) : List Ent := if (zsB z && pvB c k v (wid z)) = true then z.filter (fun e => holdP c.toNat k v e.1) else []
theorem FilF_len (z : List Ent) (c k v : Int) : (FilF z c k v).length ≤ 400 := by
  unfold FilF
  split
  · rename_i h
    simp only [Bool.and_eq_true] at h
    exact Nat.le_trans (List.length_filter_le _ _) (zsB_len h.1)
  · simp
theorem FilF_row (z : List Ent) (c k v : Int) : rowsIn (FilF z c k v) 6 := by
  unfold FilF
  split
  · rename_i h
    simp only [Bool.and_eq_true] at h
    exact fun e he => zsB_row h.1 e (List.mem_filter.1 he).1
  · intro e he; cases he
theorem pvB_iff {c k v n : Int} : pvB c k v n = true ↔ (1 ≤ n ∧ n ≤ 6) ∧ (0 ≤ c ∧ c < n) ∧ (1 ≤ k ∧ k ≤ 4) ∧ (-9999 ≤ v ∧ v ≤ 9999) := by
  simp only [pvB, inB, Bool.and_eq_true, decide_eq_true_eq]
  constructor <;> (intro h; omega)

/-! ### The model's -/
end Go.Proofs.Ytkonhjdfcfljpaa

/- HELPER, no statement of the seat: FilterTrace of both sides. -/
namespace Go.Proofs.Ytkonhjdfcfljpaa
open Go.RowKit Go.Sort
set_option linter.unusedSimpArgs false
set_option linter.unusedVariables false

theorem trB_filter {l : List Upd} (p : Upd → Bool) (h : trB l = true) : trB (l.filter p) = true := trB_sub List.filter_sublist h
theorem chkT_filter {l : List Upd} (p : Upd → Bool) (h : trB l = true) : chkT (l.filter p) = l.filter p := by simp [chkT, trB_filter p h]
theorem widU_row {l : List Upd} (h : trB l = true) (hp : 0 < l.length) : 1 ≤ widU l ∧ widU l ≤ 6 := by
  have h1 := trB_wid h _ (List.getElem_mem hp)
  have h2 := (sumU_parts (trB_sum h _ (List.getElem_mem hp))).1
  rw [← h1]
  simp only [rowB, decide_eq_true_eq] at h2
  exact ⟨h2.1, h2.2.1⟩
/-- What FilterTrace gives. -/
def FilFU (z : List Upd) (c k v : Int) : List Upd := if (trB z && pvB c k v (widU z)) = true then z.filter (fun e => holdP c.toNat k v e.1.1) else []
theorem FilFU_len (z : List Upd) (c k v : Int) : (FilFU z c k v).length ≤ 400 := by
  unfold FilFU
  split
  · rename_i h
    simp only [Bool.and_eq_true] at h
    exact Nat.le_trans (List.length_filter_le _ _) ((trB_parts h.1).1)
  · simp
theorem FilFU_row (z : List Upd) (c k v : Int) : rowsU (FilFU z c k v) 6 := by
  unfold FilFU
  split
  · rename_i h
    simp only [Bool.and_eq_true] at h
    exact fun e he => trB_row h.1 e (List.mem_filter.1 he).1
  · intro e he; cases he
/-! ### The model's -/
end Go.Proofs.Ytkonhjdfcfljpaa
