/- HELPER, no statement of the seat: Z-sets as sums; no program. -/
import Derived.Test.YtjlpkfcdkmcjnaaSums
import Derived.Test.YtjlpkfcdkmcjnaaEntO
import Derived.Test.YtjlpkfcdkmcjnaaEntF
namespace Go.Proofs.Ytjlpkfcdkmcjnaa
set_option linter.unusedSimpArgs false
set_option linter.unusedVariables false

theorem cmpI_anti (a b : Int) : cmpI b a = -cmpI a b := by
  unfold cmpI
  by_cases h1 : a < b
  · have : ¬ b < a := by omega
    simp [h1, this]
  · by_cases h2 : b < a <;> simp [h1, h2]
theorem cmpL_anti : ∀ (xs ys : List Int), cmpL ys xs = -cmpL xs ys
  | [], [] => rfl
  | [], _ :: _ => rfl
  | _ :: _, [] => rfl
  | a :: xs, b :: ys => by
    unfold cmpL
    have h := cmpI_anti a b
    by_cases e : cmpI a b = 0
    · rw [if_pos e, if_pos (by omega), cmpL_anti xs ys]
    · rw [if_neg e, if_neg (by omega), h]
theorem cmpL_trans : ∀ (xs ys zs : List Int), cmpL xs ys < 0 → cmpL ys zs < 0 → cmpL xs zs < 0
  | [], [], zs, h, _ => by simp [cmpL] at h
  | _ :: _, [], zs, h, _ => by simp [cmpL] at h
  | [], _ :: _, [], _, h => by simp [cmpL] at h
  | [], _ :: _, _ :: _, _, _ => by simp [cmpL]
  | _ :: _, _ :: _, [], _, h => by simp [cmpL] at h
  | a :: xs, b :: ys, c :: zs, h1, h2 => by
    unfold cmpL at h1 h2 ⊢
    by_cases e1 : cmpI a b = 0
    · have := (cmpI_zero a b).1 e1
      subst this
      rw [if_pos e1] at h1
      by_cases e2 : cmpI a c = 0
      · rw [if_pos e2] at h2 ⊢
        exact cmpL_trans xs ys zs h1 h2
      · rw [if_neg e2] at h2 ⊢
        exact h2
    · rw [if_neg e1] at h1
      by_cases e2 : cmpI b c = 0
      · have := (cmpI_zero b c).1 e2
        subst this
        rw [if_neg e1]
        exact h1
      · rw [if_neg e2] at h2
        have : a < c := by
          unfold cmpI at h1 h2
          split at h1 <;> split at h2 <;> (try split at h1) <;> (try split at h2) <;> omega
        have e3 : cmpI a c = -1 := by unfold cmpI; rw [if_pos this]
        rw [e3]; simp
theorem lessB_iff (xs ys : List Int) : lessB xs ys = true ↔ cmpL xs ys < 0 := by simp [lessB]
theorem lessB_not (xs ys : List Int) : lessB xs ys = false ↔ 0 ≤ cmpL xs ys := by simp [lessB]
theorem rowTot : TotLt lessB where
  irrefl a := by rw [lessB_not, cmpL_zero.2 rfl]; exact Int.le_refl _
  trans a b c h1 h2 := by rw [lessB_iff] at *; exact cmpL_trans a b c h1 h2
  tri a b h1 h2 := by
    rw [lessB_not] at *
    have := cmpL_anti a b
    exact cmpL_zero.1 (by omega)

/-- The order of the entries of a Z-set. -/
theorem asc_of_adj {es : List Ent} (h : ∀ m (h : m + 1 < es.length), lessB es[m].1 es[m + 1].1 = true) : Asc lessB es := by
  induction es with
  | nil => exact List.Pairwise.nil
  | cons x l ih =>
    refine List.pairwise_cons.2 ⟨fun y hy => ?_, ih (fun m hm => by have := h (m + 1) (by simpa using hm); simpa using this)⟩
    have hl : Asc lessB l := ih (fun m hm => by have := h (m + 1) (by simpa using hm); simpa using this)
    cases l with
    | nil => cases hy
    | cons z l =>
      have h0 := h 0 (by simp)
      simp only [List.getElem_cons_zero, List.getElem_cons_succ] at h0
      rcases List.mem_cons.1 hy with rfl | hy
      · exact h0
      · exact rowTot.trans _ _ _ h0 ((List.pairwise_cons.1 hl).1 y hy)
theorem zsB_asc {es : List Ent} (h : zsB es = true) : Asc lessB es := by
  refine asc_of_adj fun m hm => ?_
  rw [zsB_good] at h
  simp only [Bool.and_eq_true] at h
  have := allTo_iff.1 h.1 (m + 1) hm
  simp only [goodE, Bool.and_eq_true] at this
  have h2 := this.2
  simp only [stepB, Bool.and_eq_true, Bool.or_eq_true, decide_eq_true_eq] at h2
  have h3 := h2.2.2
  rw [nth_get hm, Nat.add_sub_cancel, nth_get (show m < es.length by omega)] at h3
  simpa using h3
theorem zsB_nz {es : List Ent} (h : zsB es = true) : nz es = es := by
  refine List.filter_eq_self.2 fun x hx => ?_
  obtain ⟨j, hj, rfl⟩ := List.getElem_of_mem hx
  simpa using (zsB_get h hj).2.2.1

/-! ### Sums of Z-sets -/
/-- What normalize and add come to. -/
def NormL (es : List Ent) : List Ent := es.foldl (fun z e => insK lessB z e.1 e.2) []
def NormF (es : List Ent) : List Ent := if (decide (es.length ≤ 400) && sumsB es) = true then chkF (nz (NormL es)) else []
def AddL (a b : List Ent) : List Ent := b.foldl (fun z e => insK lessB z e.1 e.2) a
def AddF (a b : List Ent) : List Ent := if (zsB a && zsB b) = true then chkF (nz (AddL a b)) else []
theorem AddL_asc {a : List Ent} (h : Asc lessB a) : ∀ b : List Ent, Asc lessB (AddL a b) := by
  intro b
  induction b generalizing a with
  | nil => exact h
  | cons x b ih => exact ih (insK_asc rowTot h x.1 x.2)
theorem AddL_wsum (b : List Ent) : ∀ (a : List Ent) (r : List Int), wsum (AddL a b) r = wsum a r + wsum b r := by
  induction b with
  | nil => intro a r; simp [AddL, wsum_nil]
  | cons x b ih => intro a r; show wsum (AddL (insK lessB a x.1 x.2) b) r = _; rw [ih, insK_wsum, wsum_cons]; omega
theorem NormL_asc (es : List Ent) : Asc lessB (NormL es) := AddL_asc List.Pairwise.nil es
theorem NormL_wsum (es : List Ent) (r : List Int) : wsum (NormL es) r = wsum es r := by
  have := AddL_wsum es [] r
  rw [wsum_nil] at this
  show wsum (AddL [] es) r = _
  omega
end Go.Proofs.Ytjlpkfcdkmcjnaa
