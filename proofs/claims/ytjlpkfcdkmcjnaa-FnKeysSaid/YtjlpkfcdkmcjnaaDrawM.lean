/- HELPER, no statement of the seat: the generators of lists of entries, of a Z-set with a key. -/
import Derived.Test.YtjlpkfcdkmcjnaaDrawE
namespace Go.Proofs.Ytjlpkfcdkmcjnaa
open Go.RowKit Go.Sort
set_option linter.unusedSimpArgs false
set_option linter.unusedVariables false

theorem ZA.ofPlus {w w0 w1 w2 : World} {z : List Ent} {A : Option Addr} {c : Nat} (h : EntsOw w2 (plus (news w0 w1) w1 w2) A c z) (h0 : w.heap.size ≤ w0.heap.size) (h1 : w0.heap.size ≤ w1.heap.size) (h2 : w1.heap.size ≤ w2.heap.size) (hl : z.length ≤ 40) (hr : rowsIn z 10) (hw : wts z 4000000) : ZA w z A c w2 :=
  ⟨h.mono (fun k hk => by
    rcases hk with hk | hk
    · exact ⟨Nat.le_trans h0 hk.1, Nat.lt_of_lt_of_le hk.2 h2⟩
    · exact ⟨Nat.le_trans (Nat.le_trans h0 h1) hk.1, hk.2⟩) (fun k hk => hk.2), hl, hr, hw⟩
/-! ### A Z-set with a key -/
def ZKey (w : World) (e : Ending) (w' : World) : Prop := ∃ (z : List Ent) (key : List Int) (A1 A2 : Option Addr) (c1 c2 : Nat), e = .returned (.tuple #[.slice A1 z.length c1, .slice A2 key.length c2]) ∧ ZA w z A1 c1 w' ∧ IntsAt w' A2 key ∧ key.length ≤ 8 ∧ Below w.heap.size w w'
end Go.Proofs.Ytjlpkfcdkmcjnaa
