/- HELPER, no statement of the seat: batches as facts of a drawn region; a batch that is stored into a new box. -/
import Derived.Test.YtffgonddephkkaaGreatBtc
import Derived.Test.YtffgonddephkkaaGreatVwc
import Derived.Test.YtffgonddephkkaaGreatRgq
namespace Go.Proofs.YtffgonddephkkaaGreat
open Go.RowKit
set_option linter.unusedSimpArgs false
set_option linter.unusedVariables false

/-- A copy: its capacities are its lengths. -/
def BatC (lo up : List Tm) (us : List Upd) (v : Value) (w : World) : Prop := ∃ LA UA TA, v = .agg #[.slice LA lo.length lo.length, .slice UA up.length up.length, .slice TA us.length us.length] ∧ TimesAt w LA lo ∧ TimesAt w UA up ∧ UpdsAt w TA us
theorem stable_batC (lo up : List Tm) (us : List Upd) : Stable (BatC lo up us) := fun _ _ _ hb ⟨LA, UA, TA, e, h1, h2, h3⟩ => ⟨LA, UA, TA, e, h1.below hb, h2.below hb, h3.below updR hb⟩
theorem batC_of {w : World} {S : Fp} {LA UA TA : Option Addr} {lo up : List Tm} {us : List Upd} (h : BatO w S [.slice LA lo.length lo.length, .slice UA up.length up.length, .slice TA us.length us.length] (lo, (up, us))) : BatC lo up us (.agg #[.slice LA lo.length lo.length, .slice UA up.length up.length, .slice TA us.length us.length]) w :=
  ⟨LA, UA, TA, rfl, batO_rd h⟩
/-- A batch and a flag. -/
def BatP (ok : Bool) (lo up : List Tm) (us : List Upd) (v : Value) (w : World) : Prop := ∃ LA lc UA uc TA tc, v = .tuple #[.agg #[.slice LA lo.length lc, .slice UA up.length uc, .slice TA us.length tc], .bool ok] ∧ TimesAt w LA lo ∧ TimesAt w UA up ∧ UpdsAt w TA us
theorem stable_batP (ok : Bool) (lo up : List Tm) (us : List Upd) : Stable (BatP ok lo up us) := fun _ _ _ hb ⟨LA, lc, UA, uc, TA, tc, e, h1, h2, h3⟩ => ⟨LA, lc, UA, uc, TA, tc, e, h1.below hb, h2.below hb, h3.below updR hb⟩
section
variable {w w' : World} {g : Nat} {t : TypeId} {cs : Array Value} (kG : Blk w g t cs) (hc : NoInt cs) (hg : GrownS w w' (fun k => k = g))
include kG hc hg
theorem TimesAt.box {A : Option Addr} {xs : List Tm} (h : TimesAt w A xs) : TimesAt w' A xs := fun hn => by
  obtain ⟨b, off, e, hlt, hcell⟩ := h hn
  have hne : b ≠ g := fun e' => by
    subst e'
    have h0 := (hcell 0 hn).1
    rw [kG.cell] at h0
    exact hc _ _ h0
  exact ⟨b, off, e, Nat.lt_of_lt_of_le hlt hg.size, fun j hj => ⟨(cell_heapB (hg.block b hlt hne)).trans (hcell j hj).1, (cell_heapB (hg.block b hlt hne)).trans (hcell j hj).2⟩⟩
end
/-- A batch, stored into a box that was made for it. -/
theorem box_batch {w w9 : World} {g : Nat} {t : TypeId} {L U T : Option Addr} {d1 d2 d3 : Nat} {lo up : List Tm} {us : List Upd} (kG : Blk w9 g t #[.slice none 0 0, .slice none 0 0, .slice none 0 0]) (hg : w.heap.size ≤ g) (b : Below w.heap.size w w9) (z1 : TimesAt w9 L lo) (z2 : TimesAt w9 U up) (z3 : UpdsAt w9 T us) :
    Blk (((w9.setCell ⟨g, 0, none⟩ (.slice L lo.length d1)).setCell ⟨g, 1, none⟩ (.slice U up.length d2)).setCell ⟨g, 2, none⟩ (.slice T us.length d3)) g t #[.slice L lo.length d1, .slice U up.length d2, .slice T us.length d3] ∧
    TimesAt (((w9.setCell ⟨g, 0, none⟩ (.slice L lo.length d1)).setCell ⟨g, 1, none⟩ (.slice U up.length d2)).setCell ⟨g, 2, none⟩ (.slice T us.length d3)) L lo ∧
    TimesAt (((w9.setCell ⟨g, 0, none⟩ (.slice L lo.length d1)).setCell ⟨g, 1, none⟩ (.slice U up.length d2)).setCell ⟨g, 2, none⟩ (.slice T us.length d3)) U up ∧
    UpdsAt (((w9.setCell ⟨g, 0, none⟩ (.slice L lo.length d1)).setCell ⟨g, 1, none⟩ (.slice U up.length d2)).setCell ⟨g, 2, none⟩ (.slice T us.length d3)) T us ∧
    Below w.heap.size w (((w9.setCell ⟨g, 0, none⟩ (.slice L lo.length d1)).setCell ⟨g, 1, none⟩ (.slice U up.length d2)).setCell ⟨g, 2, none⟩ (.slice T us.length d3)) := by
  have hgs := (((GrownS.refl w9 (fun k => k = g)).set_ (p := ⟨g, 0, none⟩) rfl (.slice L lo.length d1)).set_ (p := ⟨g, 1, none⟩) rfl (.slice U up.length d2)).set_ (p := ⟨g, 2, none⟩) rfl (.slice T us.length d3)
  refine ⟨?_, z1.box kG noInt3 hgs, z2.box kG noInt3 hgs, z3.box kG noInt3 hgs, bset (bset (bset b hg _) hg _) hg _⟩
  have := ((kG.set_ 0 (.slice L lo.length d1)).set_ 1 (.slice U up.length d2)).set_ 2 (.slice T us.length d3)
  simpa using this
end Go.Proofs.YtffgonddephkkaaGreat
