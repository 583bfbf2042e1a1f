/- HELPER, no statement of the seat: a list of times that came in. -/
import Derived.Test.YthefakiobpijiaaFrt
import Derived.Deep.SlicePairs
import Derived.Carry
import Derived.ChangeOld
import Derived.Lib.SmallJoins
namespace Go.Proofs.Ythefakiobpijiaa
open Go.ChangeShapes Go.WideShapes Go.ChangeAt Go.RowKit
set_option linter.unusedVariables false
set_option linter.unusedSimpArgs false

section
variable {H : Type} {enc : TypeId × Value → H} {P : Program} {W : World}
theorem times_of {t e : TypeId} {f0 f1 : Field} {a : Option Addr} {len cap : Nat} {d : DataW H} {p : List MemPlace} (ht : P.underlying t = some (.slice e)) (he : P.underlying e = some (.struct #[f0, f1]))
    (ce : P.cellsOf e = 2) (o0 : f0.offset = 0) (o1 : f1.offset = 1) (c0 : P.cellsOf f0.type = 1) (c1 : P.cellsOf f1.type = 1)
    (t0 : P.underlying f0.type = some (.int .i64)) (t1 : P.underlying f1.type = some (.int .i64))
    (h : DataW.Trod enc P W 0 (fun _ => true) true t (.slice a len cap) d p) : ∃ xs : List Tm, len = xs.length ∧ xs.length ≤ maxLen ∧ TimesAt W a xs := by
  obtain ⟨fuel, hf⟩ := h
  rcases Go.Deep.open_slice_pairs ht he ce o0 o1 c0 c1 hf with ⟨hcs, _⟩ | ⟨x, l, c, m, n, V0, V1, D0, D1, P0, P1, hcs, _, hl, hm, hmm, _, hi⟩
  · simp [Value.cells] at hcs
    obtain ⟨rfl, rfl, rfl⟩ := hcs
    exact ⟨[], rfl, by simp, fun h => absurd h (by simp)⟩
  · simp [Value.cells] at hcs
    obtain ⟨rfl, rfl, rfl⟩ := hcs
    have hm' : m = cap := by simpa using hmm
    subst hm'
    have hv : ∀ i, i < m → V0 i = .int .i64 (intOf (V0 i)) ∧ V1 i = .int .i64 (intOf (V1 i)) := fun i hlt => by
      obtain ⟨_, _, g0, g1⟩ := hi i hlt
      obtain ⟨n0, e0, -, -⟩ := DataW.trod_int t0 g0
      obtain ⟨n1, e1, -, -⟩ := DataW.trod_int t1 g1
      simp only [List.cons.injEq, and_true] at e0 e1
      rw [e0, e1]
      exact ⟨rfl, rfl⟩
    refine ⟨(List.range len).map fun i => (intOf (V0 i), intOf (V1 i)), by simp, by simp; omega, fun hn => ?_⟩
    have hpos : 0 < len := by simpa using hn
    obtain ⟨b, off, spot⟩ := x
    have h0 := (hi 0 (by omega)).1
    have hspot : spot = none := by simpa [Addr.add] using World.cell?_spot h0
    subst hspot
    have h0' : W.cell? ⟨b, off, none⟩ = some (V0 0) := by simpa [Addr.add] using h0
    refine ⟨b, off, rfl, block_lt_of_cell h0', fun j hj => ?_⟩
    have hjl : j < len := by simpa using hj
    obtain ⟨g0, g1, -, -⟩ := hi j (by omega)
    obtain ⟨k0, k1⟩ := hv j (by omega)
    have eg : ((List.range len).map fun i => (intOf (V0 i), intOf (V1 i))).getD j (0, 0) = (intOf (V0 j), intOf (V1 j)) := by simp [List.getD, hjl]
    rw [eg]
    show _ = some (Value.int .i64 (intOf (V0 j))) ∧ _ = some (Value.int .i64 (intOf (V1 j)))
    rw [← k0, ← k1, ← g0, ← g1]
    by_cases hj0 : j = 0
    · subst hj0; simp [Addr.add]
    · have hj2 : ¬ j * 2 = 0 := by omega
      simp [Addr.add, hj2, Nat.add_assoc]
end
theorem szTimeS_no (A : Option Addr) (c n : Nat) (left : Int) (w : World) (h0 : 0 ≤ left) (h1 : left ≤ 1048576) (hn : n ≤ maxLen) (h : left < n) :
    Calls Try.prog 80 #[.slice A n c, .int .i64 left] w fun e w' => e = .returned (.int .i64 (-1)) ∧ w = w' :=
  (szTimeS_any A c n left w h0 h1 hn).mono fun _ _ ⟨he, hw⟩ => ⟨by rw [he, if_pos h], hw⟩
theorem szTimeS_yes (A : Option Addr) (c n : Nat) (left : Int) (w : World) (h0 : 0 ≤ left) (h1 : left ≤ 1048576) (hn : n ≤ maxLen) (h : (n : Int) ≤ left) :
    Calls Try.prog 80 #[.slice A n c, .int .i64 left] w fun e w' => e = .returned (.int .i64 (left - n)) ∧ w = w' :=
  (szTimeS_any A c n left w h0 h1 hn).mono fun _ _ ⟨he, hw⟩ => ⟨by rw [he, if_neg (by omega)], hw⟩
/-- v is the list of times xs, new. -/
def TimesV (B : Nat) (xs : List Tm) (v : Value) (w : World) : Prop := ∃ b, v = .slice (some ⟨b, 0, none⟩) xs.length xs.length ∧ B ≤ b ∧ Blk w b 117 (timeC xs)
theorem stable_timesV (B : Nat) (xs : List Tm) : Stable (TimesV B xs) := fun _ _ _ hb ⟨b, e, h1, h2⟩ => ⟨b, e, h1, h2.below hb⟩
end Go.Proofs.Ythefakiobpijiaa
