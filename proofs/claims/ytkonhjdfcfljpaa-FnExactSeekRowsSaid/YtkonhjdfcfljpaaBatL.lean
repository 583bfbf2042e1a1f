/- HELPER, no statement of the seat: batches that a law has made. -/
import Derived.Test.YtkonhjdfcfljpaaBat
namespace Go.Proofs.Ytkonhjdfcfljpaa
open Go.RowKit Go.Sort
set_option linter.unusedSimpArgs false
set_option linter.unusedVariables false

/-- v is a batch that reads so. -/
def BatAt (lo up : List Tm) (us : List Upd) (v : Value) (w : World) : Prop := ∃ LA lc UA uc TA tc, v = .agg #[.slice LA lo.length lc, .slice UA up.length uc, .slice TA us.length tc] ∧ TimesAt w LA lo ∧ TimesAt w UA up ∧ UpdsAt w TA us
theorem stable_batAt (lo up : List Tm) (us : List Upd) : Stable (BatAt lo up us) := fun _ _ _ hb ⟨LA, lc, UA, uc, TA, tc, e, h1, h2, h3⟩ => ⟨LA, lc, UA, uc, TA, tc, e, h1.below hb, h2.below hb, h3.below updR hb⟩
theorem batO_rd {w : World} {S : Fp} {LA UA TA : Option Addr} {lc uc tc : Nat} {lo up : List Tm} {us : List Upd} (h : BatO w S [.slice LA lo.length lc, .slice UA up.length uc, .slice TA us.length tc] (lo, (up, us))) : TimesAt w LA lo ∧ TimesAt w UA up ∧ UpdsAt w TA us := by
  obtain ⟨LA', lc', UA', uc', TA', tc', S1, S2, S3, e, t1, t2, t3, i1, i2, i3⟩ := h.form
  simp only [List.cons.injEq, Value.slice.injEq, and_true, true_and] at e
  obtain ⟨⟨rfl, rfl⟩, ⟨rfl, rfl⟩, ⟨rfl, rfl⟩⟩ := e
  exact ⟨t1.own.at_, t2.own.at_, SlOw.at_ updO t3⟩
theorem batAt_of {w : World} {S : Fp} {LA UA TA : Option Addr} {lc uc tc : Nat} {lo up : List Tm} {us : List Upd} (h : BatO w S [.slice LA lo.length lc, .slice UA up.length uc, .slice TA us.length tc] (lo, (up, us))) : BatAt lo up us (.agg #[.slice LA lo.length lc, .slice UA up.length uc, .slice TA us.length tc]) w := by
  obtain ⟨LA', lc', UA', uc', TA', tc', S1, S2, S3, e, t1, t2, t3, i1, i2, i3⟩ := h.form
  simp only [List.cons.injEq, Value.slice.injEq, and_true, true_and] at e
  obtain ⟨⟨rfl, rfl⟩, ⟨rfl, rfl⟩, ⟨rfl, rfl⟩⟩ := e
  exact ⟨LA, lc, UA, uc, TA, tc, rfl, t1.own.at_, t2.own.at_, SlOw.at_ updO t3⟩
theorem BatO.below {w w' : World} {S : Fp} {cs : List Value} {b : Bt} (h : BatO w S cs b) (ok : OOk BatO BatR 3) (hb : Below w.heap.size w w') : BatO w' S cs b := ok.below h hb
theorem BatO.kept {w w' : World} {S T : Fp} {cs : List Value} {b : Bt} (h : BatO w S cs b) (ok : OOk BatO BatR 3) (hg : GrownS w w' T) (hd : ∀ k, S k → ¬ T k) : BatO w' S cs b := ok.kept h hg hd
end Go.Proofs.Ytkonhjdfcfljpaa
