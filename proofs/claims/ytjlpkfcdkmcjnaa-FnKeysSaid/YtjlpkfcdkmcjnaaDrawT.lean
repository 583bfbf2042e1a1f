/- HELPER, no statement of the seat: the generators of times: whatever the code, they give times. -/
import Derived.Test.YtjlpkfcdkmcjnaaDraw
import Derived.Test.YtjlpkfcdkmcjnaaTimeBase
import Derived.Maps.AppendAt
namespace Go.Proofs.Ytjlpkfcdkmcjnaa
open Go.RowKit
set_option linter.unusedSimpArgs false
set_option linter.unusedVariables false

section
variable {w w' : World} {g n c : Nat} {A : Option Addr} {p : Int}
theorem BytesAt.below (h : BytesAt w g A n) (hb : Below w.heap.size w w') (hlt : g ≤ w.heap.size) : BytesAt w' g A n := fun hn => by
  obtain ⟨b, off, e, hb', hc⟩ := h hn
  refine ⟨b, off, e, hb', fun j hj => ?_⟩
  obtain ⟨z, h0, h1, h2⟩ := hc j hj
  exact ⟨z, h0, h1, (hb.cell (p := ⟨b, off + j, none⟩) (Nat.lt_of_lt_of_le hb' hlt)).trans h2⟩
theorem BytesAt.far (h : BytesAt w g A n) {q : Addr} (hq : g ≤ q.block) (u : Value) : BytesAt (w.setCell q u) g A n := fun hn => by
  obtain ⟨b, off, e, hb', hc⟩ := h hn
  refine ⟨b, off, e, hb', fun j hj => ?_⟩
  obtain ⟨z, h0, h1, h2⟩ := hc j hj
  exact ⟨z, h0, h1, (World.cell?_of_block (a := ⟨b, off + j, none⟩) (Below.heap_setCell w q u b (by omega))).trans h2⟩
theorem Rdr.below (h : Rdr w g A n c p) (hb : Below w.heap.size w w') : Rdr w' g A n c p :=
  ⟨h.1.below hb, h.2.1.below hb (Nat.le_of_lt h.1.lt), h.2.2⟩
theorem Rdr.alloc (h : Rdr w g A n c p) (o : Obj) : Rdr (w.alloc o) g A n c p := h.below (bal (Below.refl _ _) o)
theorem Rdr.far (h : Rdr w g A n c p) {q : Addr} (hq : g < q.block) (u : Value) : Rdr (w.setCell q u) g A n c p :=
  ⟨h.1.far (by omega) u, h.2.1.far (by omega) u, h.2.2⟩
theorem gbel {r : Option Nat} (h : Below w.heap.size w w') : w.grownBy w' r := ⟨h.os, h.tape, h.output, h.size, fun k hk _ => h.block k hk⟩
theorem gal {r : Option Nat} (h : w.grownBy w' r) (o : Obj) : w.grownBy (w'.alloc o) r := h.trans (World.grownBy_alloc _ _ _)
theorem gset {r : Option Nat} (h : w.grownBy w' r) {q : Addr} (hq : w.heap.size ≤ q.block) (u : Value) : w.grownBy (w'.setCell q u) r :=
  ⟨h.os, h.tape, h.output, by simpa [World.setCell] using h.size, fun k hk hn => (Below.heap_setCell w' q u k (by omega)).trans (h.block k hk hn)⟩
theorem Blk.kept {b : Nat} {t : TypeId} {cs : Array Value} (h : Blk w b t cs) (hg : w.grownBy w' (some g)) (hne : b ≠ g) : Blk w' b t cs :=
  (hg.block b h.lt (fun e => hne (by injection e))).trans h
theorem gbelow {r : Nat} (hB : Below w.heap.size w w') {w2 : World} (h : w'.grownBy w2 (some r)) (hr : w.heap.size ≤ r) : Below w.heap.size w w2 :=
  ⟨h.os.trans hB.os, h.tape.trans hB.tape, h.output.trans hB.output, Nat.le_trans hB.size h.size, fun k hk => (h.block k (Nat.lt_of_lt_of_le hk hB.size) (fun e => by injection e with e; omega)).trans (hB.block k hk)⟩
end

def PickR (w : World) (g : Nat) (A : Option Addr) (n c : Nat) (p m : Int) (e : Ending) (w' : World) : Prop :=
  ∃ q : Int, e = .returned (.int .i64 q) ∧ 0 ≤ q ∧ (0 < m → q < m) ∧ Rdr w' g A n c (p + 1) ∧ w.grownBy w' (some g)
theorem pick_r (g : Nat) (A : Option Addr) (n c : Nat) (p m : Int) (w : World) (hr : Rdr w g A n c p) (hp : p + 1 ≤ 1000000000) (hm : m ≤ 1000000000) :
    Calls Try.prog 59 #[.pointer (some ⟨g, 0, none⟩), .int .i64 m] w (PickR w g A n c p m) :=
  (pick_any g A n c p m w hr hm).mono fun _ _ ⟨q, he, h0, h1, hb, hg⟩ => ⟨q, he, h0, h1, ⟨hb, hr.2.1.kept hg (fun k e => by injection e with e; omega) (Nat.le_of_lt hr.1.lt), hr.2.2.1, by have := hr.2.2.2.1; omega, hp⟩, hg⟩

def TimeR (w : World) (g : Nat) (A : Option Addr) (n c : Nat) (p k : Int) (e : Ending) (w' : World) : Prop :=
  ∃ x y q : Int, e = .returned (.agg #[.int .i64 x, .int .i64 y]) ∧ p ≤ q ∧ q ≤ p + k ∧ Rdr w' g A n c q ∧ w.grownBy w' (some g)

end Go.Proofs.Ytjlpkfcdkmcjnaa
