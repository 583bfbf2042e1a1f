/- HELPER, no statement of the seat: lists of updates that came in; the measure, with its result. -/
import Derived.Test.YtjlpkfcdkmcjnaaUpdX
import Derived.Carry
import Derived.ChangeOld
import Derived.Lib.SmallJoins
namespace Go.Proofs.Ytjlpkfcdkmcjnaa
open Go.ChangeShapes Go.WideShapes Go.ChangeAt Go.RowKit
set_option linter.unusedVariables false
set_option linter.unusedSimpArgs false

section
variable {H : Type} {enc : TypeId × Value → H} {W : World}
theorem opens_row {P : Program} {t e : TypeId} (ht : P.underlying t = some (.slice e)) (hc : P.cellsOf t = 1) (he : P.underlying e = some (.int .i64)) (hce : P.cellsOf e = 1) : Opens enc P W t RowR 1 :=
  ⟨hc, fun n cs x hl h => by
    obtain ⟨v, hv⟩ := (opens_slice ht hc (by decide) (opens_int he hce)).2 n cs x hl h
    exact ⟨v, rowR_of_sl hv⟩⟩
theorem opens_at {P : Program} {α : Type} {R : Rd α} {sz : Nat} {t : TypeId} (ho : Opens enc P W t (SlR R sz) 1) {a : Option Addr} {len cap : Nat} {d : DataW H} {p : List MemPlace} (h : DataW.Trod enc P W 0 (fun _ => true) true t (.slice a len cap) d p) :
    ∃ xs : List α, len = xs.length ∧ xs.length ≤ maxLen ∧ SlAt R sz W a xs := by
  obtain ⟨n, h⟩ := h
  obtain ⟨v, A, c, e, hl, hs⟩ := ho.2 n _ _ rfl h
  simp [Value.cells] at e
  obtain ⟨rfl, rfl, rfl⟩ := e
  exact ⟨v, rfl, hl, hs⟩
theorem opens_timeU : Opens enc Try.prog W 96 (PairR IntR IntR) 2 :=
  opens_struct2 Try.underlying96 (by kernel_rfl) rfl rfl (opens_int Try.underlying3 (by kernel_rfl)) (opens_int Try.underlying3 (by kernel_rfl))
theorem opens_update : Opens enc Try.prog W 98 UpdR 4 := by
  have o := opens_struct3 (enc := enc) (W := W) Try.underlying98 (by kernel_rfl) rfl rfl rfl (opens_row Try.underlying32 (by kernel_rfl) Try.underlying3 (by kernel_rfl)) opens_timeU (opens_int Try.underlying3 (by kernel_rfl))
  refine ⟨o.1, fun n cs x hl h => ?_⟩
  obtain ⟨⟨a, ⟨b, d⟩⟩, c1, c4, rfl, h1, c2, c3, rfl, h2, h3⟩ := o.2 n cs x hl h
  exact ⟨((a, b), d), c1 ++ c2, c3, by simp, ⟨c1, c2, rfl, h1, h2⟩, h3⟩
theorem updates_of {a : Option Addr} {len cap : Nat} {d : DataW H} {p : List MemPlace} (h : DataW.Trod enc Try.prog W 0 (fun _ => true) true 53 (.slice a len cap) d p) :
    ∃ es : List Upd, len = es.length ∧ es.length ≤ maxLen ∧ UpdsAt W a es :=
  opens_at (opens_slice Try.underlying53 (by kernel_rfl) (by decide) opens_update) h
end
theorem updSz_nn (es : List Upd) : 0 ≤ updSz es := by unfold updSz; omega
theorem updSz_len {es : List Upd} {n : Int} (h : updSz es ≤ n) : (es.length : Int) ≤ n := by unfold updSz at h; omega
theorem lenSumU_mem {es : List Upd} {e : Upd} (h : e ∈ es) : e.1.1.length ≤ lenSumU es := by
  induction es with
  | nil => cases h
  | cons x l ih =>
    rw [lenSumU, List.map_cons, List.sum_cons]
    rcases List.mem_cons.1 h with rfl | h
    · omega
    · have := ih h; unfold lenSumU at this; omega
theorem updSz_row {es : List Upd} {n : Nat} (h : updSz es ≤ n) : rowsU es n := fun e he => by
  have := lenSumU_mem he
  unfold updSz at h
  omega
theorem szUpdateS_no (A : Option Addr) (c : Nat) (es : List Upd) (left : Int) (w : World) (hx : UpdsAt w A es) (h0 : 0 ≤ left) (h1 : left ≤ 1048576) (hn : es.length ≤ maxLen) (h : left < updSz es) :
    Calls Try.prog 38 #[.slice A es.length c, .int .i64 left] w fun e w' => e = .returned (.int .i64 (-1)) ∧ Below w.heap.size w w' :=
  (szUpdateS_any A c es left w hx h0 h1 hn).mono fun _ _ ⟨he, hb⟩ => ⟨by rw [he, updLeft, if_pos h], hb⟩
theorem szUpdateS_yes (A : Option Addr) (c : Nat) (es : List Upd) (left : Int) (w : World) (hx : UpdsAt w A es) (h0 : 0 ≤ left) (h1 : left ≤ 1048576) (hn : es.length ≤ maxLen) (h : updSz es ≤ left) :
    Calls Try.prog 38 #[.slice A es.length c, .int .i64 left] w fun e w' => e = .returned (.int .i64 (left - updSz es)) ∧ Below w.heap.size w w' :=
  (szUpdateS_any A c es left w hx h0 h1 hn).mono fun _ _ ⟨he, hb⟩ => ⟨by rw [he, updLeft, if_neg (by omega)], hb⟩
/-- A list of updates that the law has made: it reads so, and its blocks are new. -/
theorem UpdsOw.at_ {w : World} {S : Fp} {A : Option Addr} {c : Nat} {es : List Upd} (h : UpdsOw w S A c es) : UpdsAt w A es := SlOw.at_ updO h
end Go.Proofs.Ytjlpkfcdkmcjnaa
