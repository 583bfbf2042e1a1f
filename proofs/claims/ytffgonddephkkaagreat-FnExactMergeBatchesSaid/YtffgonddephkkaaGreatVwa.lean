/- HELPER, no statement of the seat: several texts in one file. -/
import Derived.Test.YtffgonddephkkaaGreatBtc
import Derived.Test.YtffgonddephkkaaGreatMrg
import Derived.Test.YtffgonddephkkaaGreatFro
import Derived.Test.YtffgonddephkkaaGreatCpt
import Derived.Test.YtffgonddephkkaaGreatBat
import Derived.Test.YtffgonddephkkaaGreatTmH
/- HELPER, no statement of the seat: views as lists: what is valid, appended, compacted; no program. -/
namespace Go.Proofs.YtffgonddephkkaaGreat
open Go.RowKit Go.Sort
set_option linter.unusedSimpArgs false
set_option linter.unusedVariables false

/-- The view is valid. -/
def vewB (b : Bt) : Bool := flB b.1 b.2.1 && (trB b.2.2 && b.2.2.all fun e => !cvB b.2.1 e.1.2.1 e.1.2.2)
theorem vew_parts {b : Bt} (h : vewB b = true) : flB b.1 b.2.1 = true ∧ trB b.2.2 = true ∧ ∀ e ∈ b.2.2, cvB b.2.1 e.1.2.1 e.1.2.2 = false := by
  simp only [vewB, Bool.and_eq_true, List.all_eq_true] at h
  exact ⟨h.1, h.2.1, fun e he => by simpa using h.2.2 e he⟩
theorem bat_parts {b : Bt} (h : batB b = true) : flB b.1 b.2.1 = true ∧ trB b.2.2 = true ∧ ∀ e ∈ b.2.2, cvB b.1 e.1.2.1 e.1.2.2 = true ∧ cvB b.2.1 e.1.2.1 e.1.2.2 = false := by
  simp only [batB, inBt, Bool.and_eq_true, List.all_eq_true] at h
  exact ⟨h.1, h.2.1, fun e he => by have := h.2.2 e he; exact ⟨this.1, by simpa using this.2⟩⟩
theorem insK_new {κ : Type} [DecidableEq κ] {lt : κ → κ → Bool} {r : κ} {w : Int} : ∀ {l : List (κ × Int)}, (∀ y ∈ l, y.1 ≠ r) → (insK lt l r w).Perm ((r, w) :: l)
  | [], _ => .refl _
  | x :: l, h => by
    unfold insK
    split
    · exact ((insK_new (fun y hy => h y (by simp [hy]))).cons x).trans (List.Perm.swap _ _ _)
    · rw [if_neg (h x (by simp))]
theorem AddLU_new : ∀ {b a : List Upd}, (∀ x ∈ a, ∀ y ∈ b, x.1 ≠ y.1) → b.Pairwise (fun x y => x.1 ≠ y.1) → (AddLU a b).Perm (a ++ b)
  | [], a, _, _ => by simp [AddLU]
  | e :: b, a, h, hp => by
    have h1 : (insK ltU a e.1 e.2).Perm (e :: a) := insK_new (fun y hy => h y hy e (by simp))
    have h2 := AddLU_new (b := b) (a := insK ltU a e.1 e.2) (fun x hx y hy => by
      rcases List.mem_cons.1 (h1.mem_iff.1 hx) with rfl | hx
      · exact (List.pairwise_cons.1 hp).1 y hy
      · exact h x hx y (by simp [hy])) (List.pairwise_cons.1 hp).2
    show (AddLU (insK ltU a e.1 e.2) b).Perm (a ++ e :: b)
    exact h2.trans ((h1.append_right b).trans (List.perm_middle.symm))
/-- Two traces put together. -/
def mrgT (us tr : List Upd) : List Upd := nz (AddLU us tr)
theorem mrg_norm {us tr : List Upd} (hu : trB us = true) : nz (NormLU (us ++ tr)) = mrgT us tr :=
  nz_ext updTot (NormLU_asc _) (AddLU_asc (trB_asc hu) tr) (fun r => by rw [NormLU_wsum, AddLU_wsum, wsum_append])
theorem mrg_perm {us tr : List Upd} (hu : trB us = true) (ht : trB tr = true) (h : ∀ x ∈ us, ∀ y ∈ tr, x.1 ≠ y.1) : (mrgT us tr).Perm (us ++ tr) := by
  have h1 := AddLU_new (a := us) (b := tr) h (List.Pairwise.imp (fun h => updTot.ne h) (trB_asc ht))
  have h2 : mrgT us tr = AddLU us tr := List.filter_eq_self.2 (fun e he => by
    rcases List.mem_append.1 (h1.mem_iff.1 he) with he | he
    · simp [trB_ne hu e he]
    · simp [trB_ne ht e he])
  rw [h2]
  exact h1
theorem mrg_rows {us tr : List Upd} {n : Nat} (h1 : rowsU us n) (h2 : rowsU tr n) : rowsU (mrgT us tr) n := fun e he =>
  AddLU_all (p := fun r : KeyU => r.1.length ≤ n) tr us h1 h2 e (List.mem_filter.1 he).1
theorem mrg_len (us tr : List Upd) : (mrgT us tr).length ≤ us.length + tr.length :=
  Nat.le_trans (List.length_filter_le _ _) (AddLU_length tr us)
theorem fl_trans {xs ys zs : List Tm} (h1 : flB xs ys = true) (h2 : flB ys zs = true) : flB xs zs = true := by
  obtain ⟨a1, a2, a3⟩ := fl_parts h1
  obtain ⟨b1, b2, b3⟩ := fl_parts h2
  simp only [flB, Bool.and_eq_true, List.all_eq_true]
  refine ⟨⟨a1, b2⟩, fun e he => ?_⟩
  obtain ⟨f, hf, hl⟩ := cv_iff.1 (b3 e he)
  obtain ⟨g, hg, hm⟩ := cv_iff.1 (a3 f hf)
  exact cv_iff.2 ⟨g, hg, leB_tr hm hl⟩
theorem fl_cv {xs ys : List Tm} {u v : Int} (h : flB xs ys = true) (hc : cvB ys u v = true) : cvB xs u v = true := by
  obtain ⟨a1, a2, a3⟩ := fl_parts h
  obtain ⟨f, hf, hl⟩ := cv_iff.1 hc
  obtain ⟨g, hg, hm⟩ := cv_iff.1 (a3 f hf)
  exact cv_iff.2 ⟨g, hg, leB_tr hm hl⟩
theorem apart_cv {up : List Tm} {us tr : List Upd} (h1 : ∀ e ∈ us, cvB up e.1.2.1 e.1.2.2 = false) (h2 : ∀ e ∈ tr, cvB up e.1.2.1 e.1.2.2 = true) : ∀ x ∈ us, ∀ y ∈ tr, x.1 ≠ y.1 := fun x hx y hy e => by
  have a := h1 x hx
  have b := h2 y hy
  rw [e, b] at a
  cases a
/-! ### Appending -/
def appOk (b : Bt) (tr : List Upd) (u : List Tm) : Bool := vewB b && (batB (b.2.1, (u, tr)) && trB (mrgT b.2.2 tr))
def appV (b : Bt) (tr : List Upd) (u : List Tm) : Bt := if appOk b tr u = true then (b.1, (u, mrgT b.2.2 tr)) else ([], ([], []))
theorem app_perm {b : Bt} {tr : List Upd} {u : List Tm} (h1 : vewB b = true) (h2 : batB (b.2.1, (u, tr)) = true) : (mrgT b.2.2 tr).Perm (b.2.2 ++ tr) := by
  obtain ⟨a1, a2, a3⟩ := vew_parts h1
  obtain ⟨b1, b2, b3⟩ := bat_parts h2
  exact mrg_perm a2 b2 (apart_cv a3 (fun e he => (b3 e he).1))
theorem app_vew {b : Bt} {tr : List Upd} {u : List Tm} (h1 : vewB b = true) (h2 : batB (b.2.1, (u, tr)) = true) : vewB (b.1, (u, mrgT b.2.2 tr)) = trB (mrgT b.2.2 tr) := by
  have hp := app_perm h1 h2
  obtain ⟨a1, a2, a3⟩ := vew_parts h1
  obtain ⟨b1, b2, b3⟩ := bat_parts h2
  have hn : (mrgT b.2.2 tr).all (fun e => !cvB u e.1.2.1 e.1.2.2) = true := by
    rw [List.all_eq_true]
    intro e he
    rcases List.mem_append.1 (hp.mem_iff.1 he) with he | he
    · cases hc : cvB u e.1.2.1 e.1.2.2 with
      | false => rfl
      | true => have := a3 e he; rw [fl_cv b1 hc] at this; cases this
    · simp [(b3 e he).2]
  simp only [vewB, fl_trans a1 b1, hn, Bool.true_and, Bool.and_true]
theorem app_len {b : Bt} {tr : List Upd} {u : List Tm} (h1 : vewB b = true) (h2 : batB (b.2.1, (u, tr)) = true) : (mrgT b.2.2 tr).length = b.2.2.length + tr.length := by
  rw [(app_perm h1 h2).length_eq, List.length_append]
/-- What the model asks of the length. -/
theorem app_many {b : Bt} {tr : List Upd} {u : List Tm} (h1 : vewB b = true) (h2 : batB (b.2.1, (u, tr)) = true) : decide ((chkT (mrgT b.2.2 tr)).length = b.2.2.length + tr.length) = trB (mrgT b.2.2 tr) := by
  have hl := app_len h1 h2
  cases h : trB (mrgT b.2.2 tr) with
  | true => simp [chkT, h, hl]
  | false =>
    rw [decide_eq_false_iff_not]
    intro e
    simp only [chkT, h] at e
    have h0 : mrgT b.2.2 tr = [] := List.eq_nil_of_length_eq_zero (by simp at e; omega)
    rw [h0] at h
    revert h
    decide
theorem appV_len (b : Bt) (tr : List Upd) (u : List Tm) (n1 : b.1.length ≤ 4194304) (n2 : u.length ≤ 4194304) : (appV b tr u).1.length ≤ 4194304 ∧ (appV b tr u).2.1.length ≤ 4194304 ∧ (appV b tr u).2.2.length ≤ 400 ∧ rowsU (appV b tr u).2.2 6 := by
  unfold appV
  split
  · rename_i h
    simp only [appOk, Bool.and_eq_true] at h
    exact ⟨n1, n2, (trB_parts h.2.2).1, trB_row h.2.2⟩
  · exact ⟨by simp, by simp, by simp, fun e he => by cases he⟩
/-! ### Compacting -/
def cpvOk (b : Bt) (s : List Tm) : Bool := vewB b && (flB b.1 s && vewB (s, (b.2.1, CptF b.2.2 s)))
def cpvV (b : Bt) (s : List Tm) : Bt := if cpvOk b s = true then (s, (b.2.1, CptF b.2.2 s)) else ([], ([], []))
theorem cpvV_len (b : Bt) (s : List Tm) (n1 : s.length ≤ 4194304) (n2 : b.2.1.length ≤ 4194304) : (cpvV b s).1.length ≤ 4194304 ∧ (cpvV b s).2.1.length ≤ 4194304 ∧ (cpvV b s).2.2.length ≤ 400 ∧ rowsU (cpvV b s).2.2 6 := by
  unfold cpvV
  split
  · exact ⟨n1, n2, CptF_len _ _, CptF_row _ _⟩
  · exact ⟨by simp, by simp, by simp, fun e he => by cases he⟩
/-! ### Reading -/
def redN (b : Bt) (x y : Int) : Int := if (vewB b && vtB x y) = false then 0 else if cvB b.1 x y = false then 2 else if cvB b.2.1 x y = true then 3 else 1
def redF (b : Bt) (x y : Int) : List Ent := if redN b x y = 1 then AsOfF b.2.2 x y else []
theorem redF_len (b : Bt) (x y : Int) : (redF b x y).length ≤ 400 := by
  unfold redF
  split
  · exact AsOfF_len _ _ _
  · simp
theorem redF_row (b : Bt) (x y : Int) : rowsIn (redF b x y) 6 := by
  unfold redF
  split
  · exact AsOfF_row _ _ _
  · intro e he; cases he
end Go.Proofs.YtffgonddephkkaaGreat

/- HELPER, no statement of the seat: views as data: the laws' measure, copy, comparison and marks of a view. -/
namespace Go.Proofs.YtffgonddephkkaaGreat
open Go.RowKit Go.Sort
set_option linter.unusedSimpArgs false
set_option linter.unusedVariables false

section
variable {H : Type} {enc : TypeId × Value → H} {W : World}
end
/-! ### The measure -/
/-! ### The comparison -/
/-! ### The copy -/
/-! ### Marks -/
def cntV (b : Bt) : Nat := 2 * b.1.length + 2 * b.2.1.length + cntL cntU b.2.2
def mkV (k : Int) (b : Bt) : Bt := (marksT k b.1.length, (marksT (k + 2 * (b.1.length : Int)) b.2.1.length, mkL cntU mkU (k + 2 * (b.1.length : Int) + 2 * (b.2.1.length : Int)) b.2.2))
end Go.Proofs.YtffgonddephkkaaGreat

/- HELPER, no statement of the seat: the model's valid views. -/
namespace Go.Proofs.YtffgonddephkkaaGreat
open Go.RowKit Go.Sort
set_option linter.unusedSimpArgs false
set_option linter.unusedVariables false

theorem all_uptoV {us : List Upd} {f : Upd → Bool} {k : Nat} (hk : k < us.length) (h : f us[k] = false) : us.all f = false := by
  rw [List.all_eq_false]
  exact ⟨us[k], List.getElem_mem hk, by simp [h]⟩
end Go.Proofs.YtffgonddephkkaaGreat
