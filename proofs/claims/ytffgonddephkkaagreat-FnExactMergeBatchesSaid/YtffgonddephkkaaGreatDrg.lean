/- HELPER, no statement of the seat: several texts in one file. -/
import Derived.Test.YtffgonddephkkaaGreatRows
import Derived.Test.YtffgonddephkkaaGreatZba
import Derived.WalkKit
import Derived.ProofKit
import Derived.OpenShut
import Derived.WalkLawsBesides
import Derived.OwnWalk
import Derived.LoopTactic
import Derived.Deep.QuietTactic
import Derived.BigQuiet
import Derived.Below
import Derived.IntWalk
import Derived.Lib.Hide
import Derived.Outline
import Derived.Laws.BitsAllLaws
import Derived.Test.YtffgonddephkkaaGreatTimeBase
import Derived.Maps.AppendAt
import Derived.Carry
import Derived.ChangeOld
import Derived.Lib.SmallJoins
/- HELPER, no statement of the seat: the reader of the generators: whatever the code, it gives numbers in range. -/
namespace Go.Proofs.YtffgonddephkkaaGreat
open Go.RowKit
set_option linter.unusedSimpArgs false
set_option linter.unusedVariables false

/-- Bytes at A, in blocks below g. -/
def BytesAt (w : World) (g : Nat) (A : Option Addr) (n : Nat) : Prop :=
  0 < n → ∃ b off, A = some ⟨b, off, none⟩ ∧ b < g ∧ ∀ j, j < n → ∃ z : Int, 0 ≤ z ∧ z ≤ 255 ∧ w.cell? ⟨b, off + j, none⟩ = some (.int .u8 z)
theorem BytesAt.kept {w w' : World} {g : Nat} {A : Option Addr} {n : Nat} {row : Option Nat} (h : BytesAt w g A n) (hg : w.grownBy w' row) (hr : ∀ k, row = some k → g ≤ k) (hlt : g ≤ w.heap.size) : BytesAt w' g A n := fun hn => by
  obtain ⟨b, off, e, hb, hc⟩ := h hn
  refine ⟨b, off, e, hb, fun j hj => ?_⟩
  obtain ⟨z, h0, h1, h2⟩ := hc j hj
  exact ⟨z, h0, h1, (World.cell?_of_block (a := ⟨b, off + j, none⟩) (hg.block b (by omega) (fun e => by have := hr _ e.symm; omega))).trans h2⟩

theorem xor_nonneg (a : Int) (h0 : 0 ≤ a) (h1 : a ≤ 1099511627776) : 0 ≤ bits .xor .i64 a (a / 64) ∧ bits .xor .i64 a (a / 64) ≤ 4611686018427387904 := by
  obtain ⟨A, rfl⟩ := Int.eq_ofNat_of_zero_le h0
  have d : ((A : Int) / 64) = ((A / 64 : Nat) : Int) := by omega
  rw [d]
  have hA : A < 2 ^ 41 := by omega
  have hx : A ^^^ (A / 64) < 2 ^ 41 := Nat.xor_lt_two_pow hA (by omega)
  have e1 : (BitVec.ofInt 64 (A : Int)).toNat = A := by rw [BitVec.ofInt_natCast, BitVec.toNat_ofNat]; exact Nat.mod_eq_of_lt (by omega)
  have e2 : (BitVec.ofInt 64 ((A / 64 : Nat) : Int)).toNat = A / 64 := by rw [BitVec.ofInt_natCast, BitVec.toNat_ofNat]; exact Nat.mod_eq_of_lt (by omega)
  have e3 : bits .xor .i64 (A : Int) ((A / 64 : Nat) : Int) = ((A ^^^ (A / 64) : Nat) : Int) := by
    show IntKind.i64.wrap ((BitVec.ofInt 64 (A : Int) ^^^ BitVec.ofInt 64 ((A / 64 : Nat) : Int)).toNat : Int) = _
    rw [BitVec.toNat_xor, e1, e2, IntKind.wrap_i64]
    omega
  rw [e3]
  omega

end Go.Proofs.YtffgonddephkkaaGreat

/- HELPER, no statement of the seat: the generators of times: whatever the code, they give times. -/
namespace Go.Proofs.YtffgonddephkkaaGreat
open Go.RowKit
set_option linter.unusedSimpArgs false
set_option linter.unusedVariables false

section
variable {w w' : World} {g n c : Nat} {A : Option Addr} {p : Int}
theorem BytesAt.below (h : BytesAt w g A n) (hb : Below w.heap.size w w') (hlt : g ≤ w.heap.size) : BytesAt w' g A n := fun hn => by
  obtain ⟨b, off, e, hb', hc⟩ := h hn
  refine ⟨b, off, e, hb', fun j hj => ?_⟩
  obtain ⟨z, h0, h1, h2⟩ := hc j hj
  exact ⟨z, h0, h1, (hb.cell (p := ⟨b, off + j, none⟩) (Nat.lt_of_lt_of_le hb' hlt)).trans h2⟩
theorem BytesAt.far (h : BytesAt w g A n) {q : Addr} (hq : g ≤ q.block) (u : Value) : BytesAt (w.setCell q u) g A n := fun hn => by
  obtain ⟨b, off, e, hb', hc⟩ := h hn
  refine ⟨b, off, e, hb', fun j hj => ?_⟩
  obtain ⟨z, h0, h1, h2⟩ := hc j hj
  exact ⟨z, h0, h1, (World.cell?_of_block (a := ⟨b, off + j, none⟩) (Below.heap_setCell w q u b (by omega))).trans h2⟩
theorem gbel {r : Option Nat} (h : Below w.heap.size w w') : w.grownBy w' r := ⟨h.os, h.tape, h.output, h.size, fun k hk _ => h.block k hk⟩
theorem gal {r : Option Nat} (h : w.grownBy w' r) (o : Obj) : w.grownBy (w'.alloc o) r := h.trans (World.grownBy_alloc _ _ _)
theorem gset {r : Option Nat} (h : w.grownBy w' r) {q : Addr} (hq : w.heap.size ≤ q.block) (u : Value) : w.grownBy (w'.setCell q u) r :=
  ⟨h.os, h.tape, h.output, by simpa [World.setCell] using h.size, fun k hk hn => (Below.heap_setCell w' q u k (by omega)).trans (h.block k hk hn)⟩
theorem Blk.kept {b : Nat} {t : TypeId} {cs : Array Value} (h : Blk w b t cs) (hg : w.grownBy w' (some g)) (hne : b ≠ g) : Blk w' b t cs :=
  (hg.block b h.lt (fun e => hne (by injection e))).trans h
theorem gbelow {r : Nat} (hB : Below w.heap.size w w') {w2 : World} (h : w'.grownBy w2 (some r)) (hr : w.heap.size ≤ r) : Below w.heap.size w w2 :=
  ⟨h.os.trans hB.os, h.tape.trans hB.tape, h.output.trans hB.output, Nat.le_trans hB.size h.size, fun k hk => (h.block k (Nat.lt_of_lt_of_le hk hB.size) (fun e => by injection e with e; omega)).trans (hB.block k hk)⟩
end

end Go.Proofs.YtffgonddephkkaaGreat

/- HELPER, no statement of the seat: the reader made, and the generators of two times. -/
namespace Go.Proofs.YtffgonddephkkaaGreat
open Go.RowKit
set_option linter.unusedSimpArgs false
set_option linter.unusedVariables false

end Go.Proofs.YtffgonddephkkaaGreat

/- HELPER, no statement of the seat: a code that came in. -/
namespace Go.Proofs.YtffgonddephkkaaGreat
open Go.ChangeShapes Go.WideShapes Go.ChangeAt Go.RowKit
set_option linter.unusedVariables false
set_option linter.unusedSimpArgs false

section
variable {H : Type} {enc : TypeId × Value → H} {P : Program} {W : World}
theorem wf_u8_of {n : Int} (h : (Lit.int .u8 n).wf = true) : 0 ≤ n ∧ n ≤ 255 := by
  have h' : IntKind.min .u8 ≤ n ∧ n ≤ IntKind.max .u8 := by simpa [Lit.wf] using h
  have e1 : IntKind.min .u8 = 0 := by decide
  have e2 : IntKind.max .u8 = 255 := by decide
  rw [e1, e2] at h'
  exact h'
theorem bytes_of {t e : TypeId} {a : Option Addr} {len cap : Nat} {d : DataW H} {p : List MemPlace} (ht : P.underlying t = some (.slice e)) (he : P.underlying e = some (.int .u8)) (hc : P.cellsOf e = 1)
    (h : DataW.Trod enc P W 0 (fun _ => true) true t (.slice a len cap) d p) : len ≤ cap ∧ len ≤ maxLen ∧ BytesAt W W.heap.size a len := by
  obtain ⟨fuel, hf⟩ := h
  rcases open_ints ht he hc hf with ⟨hcs, _⟩ | ⟨x, l, c, zs, hcs, _, hl, hm, hz, _, hcell, hwz⟩
  · simp [Value.cells] at hcs
    obtain ⟨rfl, rfl, rfl⟩ := hcs
    exact ⟨Nat.le_refl _, by simp, fun h => absurd h (by simp)⟩
  · simp [Value.cells] at hcs
    obtain ⟨rfl, rfl, rfl⟩ := hcs
    have hz' : zs.length = cap := by simpa using hz
    refine ⟨hl, by omega, fun hn => ?_⟩
    have hpos : 0 < zs.length := by omega
    obtain ⟨b, off, spot⟩ := x
    have h0 := hcell 0 hpos
    have hspot : spot = none := by simpa [Addr.add] using World.cell?_spot h0
    subst hspot
    have h0' : W.cell? ⟨b, off, none⟩ = some (.int .u8 (zs.getD 0 0)) := by simpa [Addr.add] using h0
    refine ⟨b, off, rfl, block_lt_of_cell h0', fun j hj => ?_⟩
    have hj' : j < zs.length := by omega
    have hw := wf_u8_of (hwz (zs.getD j 0) (by simp [List.getD, hj']))
    have := hcell j hj'
    refine ⟨zs.getD j 0, hw.1, hw.2, ?_⟩
    rw [← this]
    by_cases hj0 : j = 0
    · subst hj0; simp [Addr.add]
    · simp [Addr.add, hj0]
end
end Go.Proofs.YtffgonddephkkaaGreat
