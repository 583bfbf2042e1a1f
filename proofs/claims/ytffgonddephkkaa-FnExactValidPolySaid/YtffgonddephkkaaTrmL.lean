/- HELPER, no statement of the seat: lists of terms that came in; the measure, with its result. -/
import Derived.Test.YtffgonddephkkaaTrmA
import Derived.Test.YtffgonddephkkaaEntL
namespace Go.Proofs.Ytffgonddephkkaa
open Go.ChangeShapes Go.WideShapes Go.ChangeAt Go.RowKit
set_option linter.unusedVariables false
set_option linter.unusedSimpArgs false

section
variable {H : Type} {enc : TypeId × Value → H} {W : World}
theorem opens_term : Opens enc Try.prog W 102 TrmR 2 := by
  have h : Opens enc Try.prog W 102 (PairR IntR RowR) 2 := opens_struct2 Try.underlying102 (by kernel_rfl) rfl rfl (opens_int Try.underlying3 (by kernel_rfl)) (opens_row Try.underlying58 (by kernel_rfl) Try.underlying3 (by kernel_rfl))
  exact ⟨h.1, fun n cs x hl hx => by
    obtain ⟨v, hv⟩ := h.2 n cs x hl hx
    exact ⟨(v.2, v.1), hv⟩⟩
theorem terms_of {a : Option Addr} {len cap : Nat} {d : DataW H} {p : List MemPlace} (h : DataW.Trod enc Try.prog W 0 (fun _ => true) true 47 (.slice a len cap) d p) :
    ∃ es : List Ent, len = es.length ∧ es.length ≤ maxLen ∧ TrmsAt W a es :=
  opens_at (opens_slice Try.underlying47 (by kernel_rfl) (by decide) opens_term) h
end
theorem szTermS_no (A : Option Addr) (c : Nat) (es : List Ent) (left : Int) (w : World) (hx : TrmsAt w A es) (h0 : 0 ≤ left) (h1 : left ≤ 1048576) (hn : es.length ≤ maxLen) (h : left < entSz es) :
    Calls Try.prog 25 #[.slice A es.length c, .int .i64 left] w fun e w' => e = .returned (.int .i64 (-1)) ∧ Below w.heap.size w w' :=
  (szTermS_any A c es left w hx h0 h1 hn).mono fun _ _ ⟨he, hb⟩ => ⟨by rw [he, entLeft, if_pos h], hb⟩
theorem szTermS_yes (A : Option Addr) (c : Nat) (es : List Ent) (left : Int) (w : World) (hx : TrmsAt w A es) (h0 : 0 ≤ left) (h1 : left ≤ 1048576) (hn : es.length ≤ maxLen) (h : entSz es ≤ left) :
    Calls Try.prog 25 #[.slice A es.length c, .int .i64 left] w fun e w' => e = .returned (.int .i64 (left - entSz es)) ∧ Below w.heap.size w w' :=
  (szTermS_any A c es left w hx h0 h1 hn).mono fun _ _ ⟨he, hb⟩ => ⟨by rw [he, entLeft, if_neg (by omega)], hb⟩
/-- A list of entries that the law has made: it reads so, and its blocks are new. -/
theorem TrmsOw.at_ {w : World} {S : Fp} {A : Option Addr} {c : Nat} {es : List Ent} (h : TrmsOw w S A c es) : TrmsAt w A es := SlOw.at_ trmO h
end Go.Proofs.Ytffgonddephkkaa
