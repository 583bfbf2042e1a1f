/- HELPER, no statement of the seat: contracts of the functions that copy, measure and compare lists of entries. -/
import Derived.Test.YthbphdaklkaeaaaEnt
namespace Go.Proofs.Ythbphdaklkaeaaa
open Go.RowKit Go.Sort
set_option linter.unusedSimpArgs false
set_option linter.unusedVariables false

theorem cgrow {w : World} {b o : Nat} {v : Value} (h : w.cell? ⟨b, o, none⟩ = some v) : ∀ d os, (grow (redrawn w d) os).cell? ⟨b, o, none⟩ = some v := fun d os => cell_regrown h d os

/-- The blocks that have come since w, up to now. -/
def news (w w' : World) : Fp := fun k => w.heap.size ≤ k ∧ k < w'.heap.size

theorem rowO_new {w w' : World} {g : Nat} {xs : List Int} (hg : w.heap.size ≤ g) (hk : Blk w' g 3 (ints xs)) (hn : xs.length ≤ maxLen) (x : Int) : EntO w' (news w w') [.slice (some ⟨g, 0, none⟩) xs.length xs.length, .int .i64 x] (xs, x) :=
  EntO.mk (fun k hk => hk.2) (fun k e => by simp [blk] at e; subst e; exact ⟨hg, hk.lt⟩) (IntsOwn.ofBlk hk (Nat.zero_le _) hn)

def lenSum (es : List Ent) : Nat := (es.map fun e => e.1.length).sum
theorem lenSum_step {es : List Ent} {k : Nat} (h : k < es.length) : lenSum (es.take (k + 1)) = lenSum (es.take k) + es[k].1.length := by
  rw [List.take_succ_eq_append_getElem h]
  simp only [lenSum, List.map_append, List.sum_append, List.map_cons, List.map_nil, List.sum_cons, List.sum_nil, Nat.add_zero]
theorem lenSum_le (es : List Ent) (k : Nat) : lenSum (es.take k) ≤ lenSum es := by
  have : lenSum es = lenSum (es.take k) + lenSum (es.drop k) := by
    rw [lenSum, lenSum, lenSum, ← List.sum_append, ← List.map_append, List.take_append_drop]
  omega

/-- The measure of a list of entries; what is left behind it. -/
def entSz (es : List Ent) : Int := es.length + lenSum es
def entLeft (left : Int) (es : List Ent) : Int := if left < entSz es then -1 else left - entSz es
def eqE (x y : Ent) : Bool := decide (x = y)
theorem take_eq_stepE {α : Type} {xs ys : List α} {k : Nat} (h1 : k < xs.length) (h2 : k < ys.length) (h : xs.take k = ys.take k) (e : xs[k] = ys[k]) : xs.take (k + 1) = ys.take (k + 1) := by
  rw [List.take_succ_eq_append_getElem h1, List.take_succ_eq_append_getElem h2, h, e]
end Go.Proofs.Ythbphdaklkaeaaa
