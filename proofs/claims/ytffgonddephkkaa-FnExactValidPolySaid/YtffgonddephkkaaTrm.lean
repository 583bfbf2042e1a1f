/- HELPER, no statement of the seat: terms of polynomials as data. -/
import Derived.Test.YtffgonddephkkaaZba
namespace Go.Proofs.Ytffgonddephkkaa
open Go.RowKit Go.Sort
set_option linter.unusedSimpArgs false
set_option linter.unusedVariables false

/-- A term: its coefficient, then its variables; as a value: the variables, then the coefficient. -/
def TrmR : Rd Ent := fun w cs e => PairR IntR RowR w cs (e.2, e.1)
def TrmO : Ow Ent := fun w S cs e => PairO IntO RowO w S cs (e.2, e.1)
theorem trmR : ROk TrmR 2 := ⟨fun h => (pairR intR rowR).len h, fun h hb => (pairR intR rowR).below h hb⟩
theorem trmO : OOk TrmO TrmR 2 where
  len := fun h => (pairO intO rowO).len h
  lt := fun h => (pairO intO rowO).lt h
  loc := fun h q => (pairO intO rowO).loc h q
  mono := fun h s l => (pairO intO rowO).mono h s l
  rd := fun h => (pairO intO rowO).rd h
  one := fun h => (pairO intO rowO).one h
theorem TrmR.form {w : World} {cs : List Value} {e : Ent} (h : TrmR w cs e) : ∃ A c, cs = [.int .i64 e.2, .slice A e.1.length c] ∧ e.1.length ≤ maxLen ∧ IntsAt w A e.1 := by
  obtain ⟨c1, c2, rfl, h2, ⟨A, c, e2, l, h⟩⟩ := h
  rw [h2, e2]
  exact ⟨A, c, rfl, l, h⟩
theorem TrmR.mk {w : World} {A : Option Addr} {c : Nat} {xs : List Int} {x : Int} (l : xs.length ≤ maxLen) (h : IntsAt w A xs) : TrmR w [.int .i64 x, .slice A xs.length c] (xs, x) := ⟨[_], [_], rfl, rfl, ⟨A, c, rfl, l, h⟩⟩
theorem TrmO.form {w : World} {S : Fp} {cs : List Value} {e : Ent} (h : TrmO w S cs e) : ∃ A c, cs = [.int .i64 e.2, .slice A e.1.length c] ∧ (∀ k, blk A = some k → S k) ∧ IntsOwn w 0 A c e.1 := by
  obtain ⟨_, c1, c2, S1, S2, rfl, _, i2, _, h2, ⟨_, A, c, e2, hS, h⟩⟩ := h
  rw [h2.1, e2]
  exact ⟨A, c, rfl, fun k hk => i2 k (hS k hk), h⟩
theorem TrmO.mk {w : World} {S : Fp} {A : Option Addr} {c : Nat} {xs : List Int} {x : Int} (hl : ∀ k, S k → k < w.heap.size) (hS : ∀ k, blk A = some k → S k) (h : IntsOwn w 0 A c xs) : TrmO w S [.int .i64 x, .slice A xs.length c] (xs, x) :=
  ⟨hl, [_], [_], fun _ => False, S, rfl, fun _ hk => hk.elim, fun _ hk => hk, fun _ h _ => h, ⟨rfl, fun _ hk => hk.elim⟩, ⟨hl, A, c, rfl, hS, h⟩⟩
abbrev TrmsAt (w : World) (A : Option Addr) (es : List Ent) : Prop := SlAt TrmR 2 w A es
abbrev TrmsOw (w : World) (S : Fp) (A : Option Addr) (c : Nat) (es : List Ent) : Prop := SlOw TrmO 2 103 w S A c es
theorem TrmsAt.get {w : World} {A : Option Addr} {es : List Ent} (h : TrmsAt w A es) (j : Nat) (hj : j < es.length) :
    ∃ b off RA rc, A = some ⟨b, off, none⟩ ∧ b < w.heap.size ∧ w.cell? ⟨b, off + j * 2, none⟩ = some (.int .i64 es[j].2) ∧ w.cell? ⟨b, off + j * 2 + 1, none⟩ = some (.slice RA es[j].1.length rc) ∧ es[j].1.length ≤ maxLen ∧ IntsAt w RA es[j].1 := by
  obtain ⟨b, off, rfl, hlt, hc⟩ := h (by omega)
  obtain ⟨cs, hl, hcell, hr⟩ := hc j hj
  obtain ⟨RA, rc, rfl, l, hi⟩ := hr.form
  exact ⟨b, off, RA, rc, rfl, hlt, by simpa using hcell 0 (by omega), by simpa using hcell 1 (by omega), l, hi⟩
theorem Try.infoTrm : (Try.prog.info? 103).map (fun i => (i.zero, i.size, i.bytes)) = some (some (.agg #[.int .i64 0, .slice none 0 0]), 2, 32) := by kernel_rfl
end Go.Proofs.Ytffgonddephkkaa
