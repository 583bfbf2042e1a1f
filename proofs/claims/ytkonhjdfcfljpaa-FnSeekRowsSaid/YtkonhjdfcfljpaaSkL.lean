/- HELPER, no statement of the seat: what SeekRows comes to, as lists. -/
import Derived.Test.YtkonhjdfcfljpaaSek
import Derived.Test.YtkonhjdfcfljpaaBtc
namespace Go.Proofs.Ytkonhjdfcfljpaa
open Go.RowKit Go.Sort
set_option linter.unusedSimpArgs false
set_option linter.unusedVariables false

theorem SekF_nil {b : Bt} (h : batB b = true) : SekF b [] = b.2.2 := by
  unfold SekF
  rw [if_pos h]
  exact List.filter_eq_self.2 (fun e _ => by simp [seekB])
theorem SekF_tr {b : Bt} {key : List Int} (h : batB b = true) : trB (SekF b key) = true := by
  unfold SekF
  rw [if_pos h]
  exact trB_filter _ (batB_tr h)
theorem SekF_fil {b : Bt} {key : List Int} (h : batB b = true) : SekF b key = b.2.2.filter (fun e => seekB key e.1.1) := by
  unfold SekF
  rw [if_pos h]
/-- How many of the first updates have the prefix. -/
def sekN (key : List Int) (us : List Upd) (i : Nat) : Nat := ((us.take i).filter (fun e => seekB key e.1.1)).length
theorem sekN_step {key : List Int} {us : List Upd} {i : Nat} (h : i < us.length) : sekN key us (i + 1) = sekN key us i + if seekB key us[i].1.1 = true then 1 else 0 := by
  unfold sekN
  rw [List.take_succ_eq_append_getElem h, List.filter_append, List.length_append]
  congr 1
  by_cases h : seekB key us[i].1.1 = true <;> simp [h]
theorem sekN_all {b : Bt} {key : List Int} (h : batB b = true) : sekN key b.2.2 b.2.2.length = (SekF b key).length := by
  unfold sekN
  rw [List.take_length, SekF_fil h]
theorem sekN_le (key : List Int) (us : List Upd) (i : Nat) : sekN key us i ≤ i := by
  unfold sekN
  exact Nat.le_trans (List.length_filter_le _ _) (by simp; omega)
theorem batO_rdD {w : World} {S : Fp} {LA UA TA : Option Addr} {lc uc tc : Nat} {lo up : List Tm} {us : List Upd} (h : BatO w S [.slice LA lo.length lc, .slice UA up.length uc, .slice TA us.length tc] (lo, (up, us))) : UpdsC w TA us := by
  obtain ⟨LA', lc', UA', uc', TA', tc', S1, S2, S3, e, t1, t2, t3, i1, i2, i3⟩ := h.form
  simp only [List.cons.injEq, Value.slice.injEq, and_true, true_and] at e
  obtain ⟨⟨rfl, rfl⟩, ⟨rfl, rfl⟩, ⟨rfl, rfl⟩⟩ := e
  exact UpdsOw.atC t3
end Go.Proofs.Ytkonhjdfcfljpaa
