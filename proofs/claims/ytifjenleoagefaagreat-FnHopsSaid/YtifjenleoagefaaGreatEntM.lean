/- HELPER, no statement of the seat: marks on lists of entries. -/
import Derived.Test.YtifjenleoagefaaGreatZba
namespace Go.Proofs.YtifjenleoagefaaGreat
open Go.RowKit Go.Sort
set_option linter.unusedSimpArgs false
set_option linter.unusedVariables false

/-- The marks of a list: each element takes cnt x of them. -/
def mkL {α : Type} (cnt : α → Nat) (mk : Int → α → α) : Int → List α → List α
  | _, [] => []
  | k, x :: l => mk k x :: mkL cnt mk (k + cnt x) l
def cntL {α : Type} (cnt : α → Nat) (l : List α) : Nat := (l.map cnt).sum
section
variable {α : Type} {cnt : α → Nat} {mk : Int → α → α}
theorem mkL_length : ∀ (l : List α) (k : Int), (mkL cnt mk k l).length = l.length
  | [], _ => rfl
  | x :: l, k => by simp [mkL, mkL_length l]
theorem cntL_step {l : List α} {j : Nat} (h : j < l.length) : cntL cnt (l.take (j + 1)) = cntL cnt (l.take j) + cnt l[j] := by
  rw [List.take_succ_eq_append_getElem h]
  simp only [cntL, List.map_append, List.sum_append, List.map_cons, List.map_nil, List.sum_cons, List.sum_nil, Nat.add_zero]
theorem cntL_le (l : List α) (j : Nat) : cntL cnt (l.take j) ≤ cntL cnt l := by
  have : cntL cnt l = cntL cnt (l.take j) + cntL cnt (l.drop j) := by
    rw [cntL, cntL, cntL, ← List.sum_append, ← List.map_append, List.take_append_drop]
  omega
theorem mkL_append : ∀ (l r : List α) (k : Int), mkL cnt mk k (l ++ r) = mkL cnt mk k l ++ mkL cnt mk (k + cntL cnt l) r
  | [], r, k => by simp [mkL, cntL]
  | x :: l, r, k => by
    simp only [List.cons_append, mkL, mkL_append l r]
    congr 3
    simp [cntL]
    omega
theorem mkL_get {l : List α} {j : Nat} (h : j < l.length) (k : Int) : ((mkL cnt mk k l)[j]'(by rw [mkL_length]; exact h)) = mk (k + cntL cnt (l.take j)) l[j] := by
  have e : mkL cnt mk k l = mkL cnt mk k (l.take j) ++ mkL cnt mk (k + cntL cnt (l.take j)) (l[j] :: l.drop (j + 1)) := by
    rw [← mkL_append, ← List.drop_eq_getElem_cons h, List.take_append_drop]
  have hl : (mkL cnt mk k (l.take j)).length = j := by rw [mkL_length]; simp; omega
  have : (mkL cnt mk k l)[j]? = some (mk (k + cntL cnt (l.take j)) l[j]) := by
    rw [e, List.getElem?_append_right (by omega), hl]
    simp [mkL]
  rw [List.getElem?_eq_getElem (by rw [mkL_length]; exact h)] at this
  injection this
/-- What stands in a list of which the first j are marked. -/
def mkTo (cnt : α → Nat) (mk : Int → α → α) (k : Int) (l : List α) (j : Nat) : List α := mkL cnt mk k (l.take j) ++ l.drop j
theorem mkTo_length {l : List α} {k : Int} {j : Nat} : (mkTo cnt mk k l j).length = l.length := by simp [mkTo, mkL_length]; omega
theorem mkTo_get {l : List α} {k : Int} {j : Nat} (h : j < l.length) : (mkTo cnt mk k l j)[j]'(by rw [mkTo_length]; exact h) = l[j] := by
  have hl : (mkL cnt mk k (l.take j)).length = j := by rw [mkL_length]; simp; omega
  have : (mkTo cnt mk k l j)[j]? = some l[j] := by
    rw [mkTo, List.getElem?_append_right (by omega), hl]
    simp [h]
  rw [List.getElem?_eq_getElem (by rw [mkTo_length]; exact h)] at this
  injection this
theorem mkTo_step {l : List α} {k : Int} {j : Nat} (h : j < l.length) : (mkTo cnt mk k l j).set j (mk (k + cntL cnt (l.take j)) l[j]) = mkTo cnt mk k l (j + 1) := by
  have hl : (mkL cnt mk k (l.take j)).length = j := by rw [mkL_length]; simp; omega
  unfold mkTo
  rw [List.set_append_right _ _ (by omega), hl, Nat.sub_self, List.drop_eq_getElem_cons h, List.set_cons_zero, List.take_succ_eq_append_getElem h, mkL_append, List.append_assoc]
  rfl
theorem mkTo_end {l : List α} {k : Int} : mkTo cnt mk k l l.length = mkL cnt mk k l := by simp [mkTo]
end

/-- The marks of an entry: its numbers, then its weight. -/
def cntE (e : Ent) : Nat := e.1.length + 1
def mkE (k : Int) (e : Ent) : Ent := (marks k e.1.length, k + e.1.length)

theorem cnt_bd {es : List Ent} (h1 : es.length ≤ 4194304) (h2 : rowsIn es 4194304) : (cntL cntE es : Int) ≤ 17592194433024 := by
  have : ∀ (l : List Ent), rowsIn l 4194304 → cntL cntE l ≤ l.length * 4194305 := by
    intro l
    induction l with
    | nil => intro _; simp [cntL]
    | cons x l ih =>
      intro h
      have h0 := ih (fun e he => h e (by simp [he]))
      have h1 := h x (by simp)
      unfold cntL at h0 ⊢
      rw [List.map_cons, List.sum_cons, List.length_cons]
      have : cntE x = x.1.length + 1 := rfl
      omega
  have := this es h2
  omega
end Go.Proofs.YtifjenleoagefaaGreat
