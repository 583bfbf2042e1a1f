/- HELPER, no statement of the seat: entries and lists of entries: what they read as, and contracts of the functions that copy, compare, measure and mark them. -/
import Derived.Test.YtjlpkfcdkmcjnaaIntOwn
import Derived.Test.YtjlpkfcdkmcjnaaData
import Derived.Laws.ResultCell
import Derived.Lib.QuietBelow
namespace Go.Proofs.Ytjlpkfcdkmcjnaa
open Go.RowKit
set_option linter.unusedSimpArgs false
set_option linter.unusedVariables false

/-! ### Rows as data -/
def RowR : Rd (List Int) := fun w cs xs => ∃ A c, cs = [.slice A xs.length c] ∧ xs.length ≤ maxLen ∧ IntsAt w A xs
def RowO : Ow (List Int) := fun w S cs xs => (∀ k, S k → k < w.heap.size) ∧ ∃ A c, cs = [.slice A xs.length c] ∧ (∀ k, blk A = some k → S k) ∧ IntsOwn w 0 A c xs
theorem rowR : ROk RowR 1 := ⟨fun ⟨_, _, e, _⟩ => by rw [e]; rfl, fun ⟨A, c, e, l, h⟩ hb => ⟨A, c, e, l, h.below hb⟩⟩
theorem rowO : OOk RowO RowR 1 where
  len := fun ⟨_, _, _, e, _⟩ => by rw [e]; rfl
  lt := fun h => h.1
  loc := fun ⟨l, A, c, e, hS, h⟩ q => ⟨fun k hk => lt_of_heap (q k hk) (l k hk), A, c, e, hS, ownsRow_loc h (fun k hk => q k (hS k hk))⟩
  mono := fun ⟨_, A, c, e, hS, h⟩ s l => ⟨l, A, c, e, fun k hk => s k (hS k hk), h⟩
  rd := fun ⟨_, A, c, e, _, h⟩ => ⟨A, c, e, (by
    rcases ownsRow_form h with ⟨_, _, h3⟩ | ⟨g, _, _, _, h1, h2⟩
    · omega
    · omega), h.at_⟩
  one := fun ⟨_, _, _, e, _⟩ u hu => by rw [e] at hu; simp at hu; rw [hu]; rfl
theorem ints_of_sl {w : World} {A : Option Addr} {xs : List Int} (h : SlAt IntR 1 w A xs) : IntsAt w A xs := fun hn => by
  obtain ⟨b, off, e, hlt, hc⟩ := h hn
  refine ⟨b, off, e, hlt, fun j hj => ?_⟩
  obtain ⟨cs, _, hcell, hr⟩ := hc j hj
  have := hcell 0 (by omega)
  simp only [Nat.mul_one, Nat.add_zero] at this
  rw [this, hr]
  simp [hj]
theorem rowR_of_sl {w : World} {cs : List Value} {xs : List Int} (h : SlR IntR 1 w cs xs) : RowR w cs xs := by
  obtain ⟨A, c, e, l, h⟩ := h
  exact ⟨A, c, e, l, ints_of_sl h⟩

abbrev Ent := List Int × Int
def EntR : Rd Ent := PairR RowR IntR
def EntO : Ow Ent := PairO RowO IntO
theorem entR : ROk EntR 2 := pairR rowR intR
theorem entO : OOk EntO EntR 2 := pairO rowO intO
theorem EntR.form {w : World} {cs : List Value} {e : Ent} (h : EntR w cs e) : ∃ A c, cs = [.slice A e.1.length c, .int .i64 e.2] ∧ e.1.length ≤ maxLen ∧ IntsAt w A e.1 := by
  obtain ⟨c1, c2, rfl, ⟨A, c, rfl, l, h⟩, h2⟩ := h
  rw [h2]
  exact ⟨A, c, rfl, l, h⟩
theorem EntR.mk {w : World} {A : Option Addr} {c : Nat} {xs : List Int} {x : Int} (l : xs.length ≤ maxLen) (h : IntsAt w A xs) : EntR w [.slice A xs.length c, .int .i64 x] (xs, x) := ⟨[_], [_], rfl, ⟨A, c, rfl, l, h⟩, rfl⟩
theorem EntO.form {w : World} {S : Fp} {cs : List Value} {e : Ent} (h : EntO w S cs e) : ∃ A c, cs = [.slice A e.1.length c, .int .i64 e.2] ∧ (∀ k, blk A = some k → S k) ∧ IntsOwn w 0 A c e.1 := by
  obtain ⟨_, c1, c2, S1, S2, rfl, i1, _, _, ⟨_, A, c, rfl, hS, h⟩, h2, _⟩ := h
  rw [h2]
  exact ⟨A, c, rfl, fun k hk => i1 k (hS k hk), h⟩
theorem EntO.mk {w : World} {S : Fp} {A : Option Addr} {c : Nat} {xs : List Int} {x : Int} (hl : ∀ k, S k → k < w.heap.size) (hS : ∀ k, blk A = some k → S k) (h : IntsOwn w 0 A c xs) : EntO w S [.slice A xs.length c, .int .i64 x] (xs, x) :=
  ⟨hl, [_], [_], S, fun _ => False, rfl, fun _ hk => hk, fun _ hk => hk.elim, fun _ _ hk => hk, ⟨hl, A, c, rfl, hS, h⟩, rfl, fun _ hk => hk.elim⟩

abbrev EntsAt (w : World) (A : Option Addr) (es : List Ent) : Prop := SlAt EntR 2 w A es
abbrev EntsOw (w : World) (S : Fp) (A : Option Addr) (c : Nat) (es : List Ent) : Prop := SlOw EntO 2 34 w S A c es
theorem EntsAt.get {w : World} {A : Option Addr} {es : List Ent} (h : EntsAt w A es) (j : Nat) (hj : j < es.length) :
    ∃ b off RA rc, A = some ⟨b, off, none⟩ ∧ b < w.heap.size ∧ w.cell? ⟨b, off + j * 2, none⟩ = some (.slice RA es[j].1.length rc) ∧ w.cell? ⟨b, off + j * 2 + 1, none⟩ = some (.int .i64 es[j].2) ∧ es[j].1.length ≤ maxLen ∧ IntsAt w RA es[j].1 := by
  obtain ⟨b, off, rfl, hlt, hc⟩ := h (by omega)
  obtain ⟨cs, hl, hcell, hr⟩ := hc j hj
  obtain ⟨RA, rc, rfl, l, hi⟩ := hr.form
  exact ⟨b, off, RA, rc, rfl, hlt, by simpa using hcell 0 (by omega), by simpa using hcell 1 (by omega), l, hi⟩
def rowsIn (es : List Ent) (n : Nat) : Prop := ∀ e ∈ es, e.1.length ≤ n
theorem rowsIn.get {es : List Ent} {n : Nat} (h : rowsIn es n) {j : Nat} (hj : j < es.length) : es[j].1.length ≤ n := h _ (List.getElem_mem hj)

theorem Try.infoEnt : (Try.prog.info? 34).map (fun i => (i.zero, i.size, i.bytes)) = some (some (.agg #[.slice none 0 0, .int .i64 0]), 2, 32) := by kernel_rfl
end Go.Proofs.Ytjlpkfcdkmcjnaa
