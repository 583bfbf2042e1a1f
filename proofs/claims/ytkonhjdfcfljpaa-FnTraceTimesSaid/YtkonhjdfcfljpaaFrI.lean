/- HELPER, no statement of the seat: the program's insertion of a time into an antichain, as lists. -/
import Derived.Test.YtkonhjdfcfljpaaTms
namespace Go.Proofs.Ytkonhjdfcfljpaa
open Go.RowKit Go.Sort
set_option linter.unusedSimpArgs false
set_option linter.unusedVariables false

/-- What t does not cover. -/
def keepF (t : Tm) (xs : List Tm) : List Tm := xs.filter fun e => !leB t.1 t.2 e.1 e.2
/-- How many stand ahead of t. -/
def plc (t : Tm) : List Tm → Nat
  | [] => 0
  | e :: r => if bfB e.1 e.2 t.1 t.2 = true then plc t r + 1 else 0
def insAt (t : Tm) (ks : List Tm) : List Tm := ks.take (plc t ks) ++ [t] ++ ks.drop (plc t ks)
theorem plc_le (t : Tm) : ∀ ks : List Tm, plc t ks ≤ ks.length
  | [] => by simp [plc]
  | e :: r => by
    unfold plc
    have := plc_le t r
    split <;> simp <;> omega
theorem plc_lt (t : Tm) : ∀ (ks : List Tm) (k : Nat) (h : k < ks.length), k < plc t ks → bfB ks[k].1 ks[k].2 t.1 t.2 = true
  | [], k, h, _ => by simp at h
  | e :: r, 0, _, hp => by
    unfold plc at hp
    split at hp
    · assumption
    · omega
  | e :: r, k + 1, h, hp => by
    unfold plc at hp
    split at hp
    · simpa using plc_lt t r k (by simpa using h) (by omega)
    · omega
theorem plc_at (t : Tm) : ∀ (ks : List Tm) (h : plc t ks < ks.length), bfB ks[plc t ks].1 ks[plc t ks].2 t.1 t.2 = false
  | [], h => by simp at h
  | e :: r, h => by
    by_cases hb : bfB e.1 e.2 t.1 t.2 = true
    · have e1 : plc t (e :: r) = plc t r + 1 := by simp [plc, hb]
      have := plc_at t r (by rw [e1] at h; simpa using h)
      simp only [e1, List.getElem_cons_succ]
      exact this
    · have e1 : plc t (e :: r) = 0 := by simp [plc, hb]
      simp only [e1, List.getElem_cons_zero]
      simpa using hb
theorem plc_of (t : Tm) (ks : List Tm) (k : Nat) (hk : k ≤ ks.length) (ha : ∀ j (h : j < ks.length), j < k → bfB ks[j].1 ks[j].2 t.1 t.2 = true) (hb : ∀ h : k < ks.length, bfB ks[k].1 ks[k].2 t.1 t.2 = false) : plc t ks = k := by
  have h1 := plc_le t ks
  rcases Nat.lt_trichotomy (plc t ks) k with h | h | h
  · have := plc_at t ks (by omega)
    rw [ha _ (by omega) h] at this
    cases this
  · exact h
  · have := plc_lt t ks k (by omega) h
    rw [hb (by omega)] at this
    cases this
theorem bf_tri {a b : Tm} (h : leB a.1 a.2 b.1 b.2 = false) : bfB a.1 a.2 b.1 b.2 = !bfB b.1 b.2 a.1 a.2 := by
  simp only [leB, decide_eq_false_iff_not] at h
  unfold bfB
  by_cases h1 : a.1 < b.1 ∨ a.1 = b.1 ∧ a.2 < b.2
  · have h2 : ¬ (b.1 < a.1 ∨ b.1 = a.1 ∧ b.2 < a.2) := by omega
    simp [h1, h2]
  · have h2 : b.1 < a.1 ∨ b.1 = a.1 ∧ b.2 < a.2 := by omega
    simp [h1, h2]
theorem fold_placed (t : Tm) : ∀ (xs acc : List Tm), xs.foldl (insS t) (acc, true) = (acc ++ keepF t xs, true)
  | [], acc => by simp [keepF]
  | e :: xs, acc => by
    rw [List.foldl_cons]
    by_cases h : leB t.1 t.2 e.1 e.2 = true
    · have e1 : insS t (acc, true) e = (acc, true) := by simp [insS, h]
      rw [e1, fold_placed t xs]
      simp [keepF, List.filter_cons, h]
    · have e1 : insS t (acc, true) e = (acc ++ [e], true) := by simp [insS, h]
      rw [e1, fold_placed t xs]
      simp [keepF, List.filter_cons, h]
theorem fold_open (t : Tm) : ∀ (xs acc : List Tm), insE t (xs.foldl (insS t) (acc, false)) = acc ++ insAt t (keepF t xs)
  | [], acc => by simp [keepF, insE, insAt, plc]
  | e :: xs, acc => by
    rw [List.foldl_cons]
    by_cases h : leB t.1 t.2 e.1 e.2 = true
    · have e1 : insS t (acc, false) e = (acc, false) := by simp [insS, h]
      rw [e1, fold_open t xs]
      simp [keepF, List.filter_cons, h]
    · have h' : leB t.1 t.2 e.1 e.2 = false := by simpa using h
      have hk : keepF t (e :: xs) = e :: keepF t xs := by simp [keepF, List.filter_cons, h']
      by_cases hb : bfB t.1 t.2 e.1 e.2 = true
      · have e1 : insS t (acc, false) e = (acc ++ [t] ++ [e], true) := by simp [insS, h, hb]
        have hb2 : bfB e.1 e.2 t.1 t.2 = false := by have := bf_tri h'; rw [hb] at this; simpa using this.symm
        rw [e1, fold_placed, hk]
        simp [insE, insAt, plc, hb2]
      · have hb' : bfB t.1 t.2 e.1 e.2 = false := by simpa using hb
        have hb2 : bfB e.1 e.2 t.1 t.2 = true := by have := bf_tri h'; rw [hb'] at this; simpa using this.symm
        have e1 : insS t (acc, false) e = (acc ++ [e], false) := by simp [insS, h, hb']
        rw [e1, fold_open t xs, hk]
        simp [insAt, plc, hb2]
theorem insT_cv {xs : List Tm} {t : Tm} (h : cvB xs t.1 t.2 = true) : insT xs t = xs := by simp [insT, h]
theorem insT_at {xs : List Tm} {t : Tm} (h : cvB xs t.1 t.2 = false) : insT xs t = insAt t (keepF t xs) := by
  unfold insT
  rw [h, fold_open]
  simp
end Go.Proofs.Ytkonhjdfcfljpaa
