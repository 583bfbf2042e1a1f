/- HELPER, no statement of the seat: merging two batches, as lists; no program. -/
import Derived.Test.YtffgonddephkkaaGreatVwa
namespace Go.Proofs.YtffgonddephkkaaGreat
open Go.RowKit Go.Sort
set_option linter.unusedSimpArgs false
set_option linter.unusedVariables false

def mrbIn (a b : Bt) : Bool := batB a && (batB b && decide (a.2.1 = b.1))
def mrbOk (a b : Bt) : Bool := mrbIn a b && trB (mrgT a.2.2 b.2.2)
def mrbV (a b : Bt) : Bt := if mrbOk a b = true then (a.1, (b.2.1, mrgT a.2.2 b.2.2)) else ([], ([], []))
theorem mrb_parts {a b : Bt} (h : mrbIn a b = true) : batB a = true ∧ batB b = true ∧ a.2.1 = b.1 := by
  simp only [mrbIn, Bool.and_eq_true, decide_eq_true_eq] at h
  exact ⟨h.1, h.2.1, h.2.2⟩
theorem mrb_perm {a b : Bt} (h : mrbIn a b = true) : (mrgT a.2.2 b.2.2).Perm (a.2.2 ++ b.2.2) := by
  obtain ⟨h1, h2, e⟩ := mrb_parts h
  obtain ⟨a1, a2, a3⟩ := bat_parts h1
  obtain ⟨b1, b2, b3⟩ := bat_parts h2
  exact mrg_perm a2 b2 (apart_cv (up := a.2.1) (fun x hx => (a3 x hx).2) (fun x hx => by rw [e]; exact (b3 x hx).1))
theorem mrb_bat {a b : Bt} (h : mrbIn a b = true) : batB (a.1, (b.2.1, mrgT a.2.2 b.2.2)) = trB (mrgT a.2.2 b.2.2) := by
  have hp := mrb_perm h
  obtain ⟨h1, h2, e⟩ := mrb_parts h
  obtain ⟨a1, a2, a3⟩ := bat_parts h1
  obtain ⟨b1, b2, b3⟩ := bat_parts h2
  rw [e] at a1
  have hn : (mrgT a.2.2 b.2.2).all (fun x => inBt a.1 b.2.1 x.1.2) = true := by
    rw [List.all_eq_true]
    intro x hx
    simp only [inBt, Bool.and_eq_true, Bool.not_eq_true']
    rcases List.mem_append.1 (hp.mem_iff.1 hx) with hx | hx
    · refine ⟨(a3 x hx).1, ?_⟩
      cases hc : cvB b.2.1 x.1.2.1 x.1.2.2 with
      | false => rfl
      | true => have h3 := (a3 x hx).2; rw [e, fl_cv b1 hc] at h3; cases h3
    · exact ⟨fl_cv a1 (b3 x hx).1, (b3 x hx).2⟩
  simp only [batB, fl_trans a1 b1, hn, Bool.true_and, Bool.and_true]
theorem mrb_len {a b : Bt} (h : mrbIn a b = true) : (mrgT a.2.2 b.2.2).length = a.2.2.length + b.2.2.length := by
  rw [(mrb_perm h).length_eq, List.length_append]
theorem mrb_many {a b : Bt} (h : mrbIn a b = true) : decide ((chkT (mrgT a.2.2 b.2.2)).length = a.2.2.length + b.2.2.length) = trB (mrgT a.2.2 b.2.2) := by
  have hl := mrb_len h
  cases ht : trB (mrgT a.2.2 b.2.2) with
  | true => simp [chkT, ht, hl]
  | false =>
    rw [decide_eq_false_iff_not]
    intro e
    simp only [chkT, ht] at e
    have h0 : mrgT a.2.2 b.2.2 = [] := List.eq_nil_of_length_eq_zero (by simp at e; omega)
    rw [h0] at ht
    revert ht
    decide
theorem mrbV_len (a b : Bt) (n1 : a.1.length ≤ 4194304) (n2 : b.2.1.length ≤ 4194304) : (mrbV a b).1.length ≤ 4194304 ∧ (mrbV a b).2.1.length ≤ 4194304 ∧ (mrbV a b).2.2.length ≤ 400 ∧ rowsU (mrbV a b).2.2 6 := by
  unfold mrbV
  split
  · rename_i h
    simp only [mrbOk, Bool.and_eq_true] at h
    exact ⟨n1, n2, (trB_parts h.2).1, trB_row h.2⟩
  · exact ⟨by simp, by simp, by simp, fun e he => by cases he⟩
end Go.Proofs.YtffgonddephkkaaGreat
