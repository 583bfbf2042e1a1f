/- HELPER, no statement of the seat: CompactTrace of both sides. -/
import Derived.Test.YtffgonddephkkaaGreatConsS
import Derived.Test.YtffgonddephkkaaGreatFrM
import Derived.Test.YtffgonddephkkaaGreatGrf
namespace Go.Proofs.YtffgonddephkkaaGreat
open Go.RowKit Go.Sort
set_option linter.unusedSimpArgs false
set_option linter.unusedVariables false

def advU (fr : List Tm) (e : Upd) : Upd := ((e.1.1, advT e.1.2 fr), e.2)
def CptF (z : List Upd) (fr : List Tm) : List Upd := if (trB z && frB fr) = true then ConsF (z.map (advU fr)) else []
theorem CptF_len (z : List Upd) (fr : List Tm) : (CptF z fr).length ≤ 400 := by
  unfold CptF
  split
  · exact ConsF_len _
  · simp
theorem CptF_row (z : List Upd) (fr : List Tm) : rowsU (CptF z fr) 6 := by
  unfold CptF
  split
  · exact ConsF_row _
  · intro e he; cases he
theorem adv_sums {z : List Upd} {fr : List Tm} (h : trB z = true) (hf : frB fr = true) : sumsU (z.map (advU fr)) = true := allTo_iff.2 (fun k hk => by
  have hk' : k < z.length := by simpa using hk
  rw [nthU_get hk, List.getElem_map]
  have h1 := trB_sum h _ (List.getElem_mem hk')
  simp only [sumU, advU, Bool.and_eq_true] at h1 ⊢
  exact ⟨h1.1, advT_vt hf h1.2⟩)
theorem CptF_eq {z : List Upd} {fr : List Tm} (h : trB z = true) (hf : frB fr = true) : CptF z fr = chkT (nz (NormLU (z.map (advU fr)))) := by
  have h4 := (trB_parts h).1
  simp [CptF, h, hf, ConsF, adv_sums h hf, h4]
theorem adv_step {z : List Upd} {fr : List Tm} {k : Nat} (h : k < z.length) : (z.map (advU fr)).take (k + 1) = (z.map (advU fr)).take k ++ [advU fr z[k]] := by
  rw [List.take_succ_eq_append_getElem (by simpa using h), List.getElem_map]
theorem IntsOwn.offC {w : World} {base : Nat} {A : Option Addr} {c : Nat} {xs : List Int} (h : IntsOwn w base A c xs) {p : Addr} (hp : ∀ k, blk A = some k → k ≠ p.block) (u : Value) : IntsOwn (w.setCell p u) base A c xs :=
  ownsRow_loc (A := A) (c := c) h (fun k hk => Below.heap_setCell _ _ _ _ (hp k hk))
theorem updR_mkC {w : World} {A : Option Addr} {c : Nat} {xs : List Int} {p q x : Int} (hl : xs.length ≤ maxLen) (h : IntsAt w A xs) : UpdR w [.slice A xs.length c, .int .i64 p, .int .i64 q, .int .i64 x] ((xs, (p, q)), x) :=
  ⟨[_, _, _], [_], rfl, ⟨[_], [_, _], rfl, ⟨A, c, rfl, hl, h⟩, ⟨[_], [_], rfl, rfl, rfl⟩⟩, rfl⟩

theorem absE {P : Program} {f : FuncId} {args : Array Value} {w : World} {Q : Ending → World → Prop} (R : World → Prop) (h : R w) (k : ∀ W, R W → Calls P f args W Q) : Calls P f args w Q := k w h

/-! ### The program's -/
/-! ### The model's -/
end Go.Proofs.YtffgonddephkkaaGreat
