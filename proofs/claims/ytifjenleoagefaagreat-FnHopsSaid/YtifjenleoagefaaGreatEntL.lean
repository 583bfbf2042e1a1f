/- HELPER, no statement of the seat: lists of entries that came in; the measure, with its result. -/
import Derived.Test.YtifjenleoagefaaGreatZbs
import Derived.Carry
import Derived.ChangeOld
import Derived.Lib.SmallJoins
namespace Go.Proofs.YtifjenleoagefaaGreat
open Go.ChangeShapes Go.WideShapes Go.ChangeAt Go.RowKit
set_option linter.unusedVariables false
set_option linter.unusedSimpArgs false

section
variable {H : Type} {enc : TypeId × Value → H} {W : World}
theorem opens_row {P : Program} {t e : TypeId} (ht : P.underlying t = some (.slice e)) (hc : P.cellsOf t = 1) (he : P.underlying e = some (.int .i64)) (hce : P.cellsOf e = 1) : Opens enc P W t RowR 1 :=
  ⟨hc, fun n cs x hl h => by
    obtain ⟨v, hv⟩ := (opens_slice ht hc (by decide) (opens_int he hce)).2 n cs x hl h
    exact ⟨v, rowR_of_sl hv⟩⟩
theorem opens_at {P : Program} {α : Type} {R : Rd α} {sz : Nat} {t : TypeId} (ho : Opens enc P W t (SlR R sz) 1) {a : Option Addr} {len cap : Nat} {d : DataW H} {p : List MemPlace} (h : DataW.Trod enc P W 0 (fun _ => true) true t (.slice a len cap) d p) :
    ∃ xs : List α, len = xs.length ∧ xs.length ≤ maxLen ∧ SlAt R sz W a xs := by
  obtain ⟨n, h⟩ := h
  obtain ⟨v, A, c, e, hl, hs⟩ := ho.2 n _ _ rfl h
  simp [Value.cells] at e
  obtain ⟨rfl, rfl, rfl⟩ := e
  exact ⟨v, rfl, hl, hs⟩
end
theorem entSz_nn (es : List Ent) : 0 ≤ entSz es := by unfold entSz; omega
theorem entSz_len {es : List Ent} {n : Int} (h : entSz es ≤ n) : (es.length : Int) ≤ n := by unfold entSz at h; omega
theorem lenSum_mem {es : List Ent} {e : Ent} (h : e ∈ es) : e.1.length ≤ lenSum es := by
  induction es with
  | nil => cases h
  | cons x l ih =>
    rw [lenSum, List.map_cons, List.sum_cons]
    rcases List.mem_cons.1 h with rfl | h
    · omega
    · have := ih h; unfold lenSum at this; omega
theorem entSz_row {es : List Ent} {n : Nat} (h : entSz es ≤ n) : rowsIn es n := fun e he => by
  have := lenSum_mem he
  unfold entSz at h
  omega
/-- A list of entries that the law has made: it reads so, and its blocks are new. -/
theorem EntsOw.at_ {w : World} {S : Fp} {A : Option Addr} {c : Nat} {es : List Ent} (h : EntsOw w S A c es) : EntsAt w A es := SlOw.at_ entO h
end Go.Proofs.YtifjenleoagefaaGreat
