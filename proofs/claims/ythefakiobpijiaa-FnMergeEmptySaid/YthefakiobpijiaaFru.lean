/- HELPER, no statement of the seat: several texts in one file. -/
import Derived.Test.YthefakiobpijiaaFrt
/- HELPER, no statement of the seat: AdvanceTime. -/
namespace Go.Proofs.Ythefakiobpijiaa
open Go.RowKit Go.Sort
set_option linter.unusedSimpArgs false
set_option linter.unusedVariables false

def jn (a b : Tm) : Tm := (max a.1 b.1, max a.2 b.2)
def mt (a b : Tm) : Tm := (min a.1 b.1, min a.2 b.2)
def advN (t : Tm) (xs : List Tm) : Nat → Tm
  | 0 => jn t (tg xs 0)
  | k + 1 => mt (advN t xs k) (jn t (tg xs (k + 1)))
theorem advN_next {t : Tm} {xs : List Tm} {k : Nat} (h : 1 ≤ k) : (#[.int .i64 (advN t xs (k + 1 - 1)).1, .int .i64 (advN t xs (k + 1 - 1)).2] : Array Value) = #[.int .i64 (min (advN t xs (k - 1)).1 (max t.1 (tg xs k).1)), .int .i64 (min (advN t xs (k - 1)).2 (max t.2 (tg xs k).2))] := by
  obtain ⟨j, rfl⟩ : ∃ j, k = j + 1 := ⟨k - 1, by omega⟩
  rfl
def atR (t : Tm) (xs : List Tm) : Tm := if frB xs && vtB t.1 t.2 && decide (0 < xs.length) then advN t xs (xs.length - 1) else t

end Go.Proofs.Ythefakiobpijiaa

/- HELPER, no statement of the seat: AdvanceTime of the model. -/
namespace Go.Proofs.Ythefakiobpijiaa
open Go.RowKit Go.Sort
set_option linter.unusedSimpArgs false
set_option linter.unusedVariables false

def advT (t : Tm) (xs : List Tm) : Tm := if 0 < xs.length then advN t xs (xs.length - 1) else t
theorem atR_yes {t : Tm} {xs : List Tm} (hf : frB xs = true) (hv : vtB t.1 t.2 = true) : atR t xs = advT t xs := by
  unfold atR advT
  rw [hf, hv]
  simp
theorem atR_nf {t : Tm} {xs : List Tm} (hf : frB xs = false) : atR t xs = t := by simp [atR, hf]
theorem atR_nv {t : Tm} {xs : List Tm} (hv : vtB t.1 t.2 = false) : atR t xs = t := by simp [atR, hv]

end Go.Proofs.Ythefakiobpijiaa

/- HELPER, no statement of the seat: AdvanceTime of the program. -/
namespace Go.Proofs.Ythefakiobpijiaa
open Go.RowKit Go.Sort
set_option linter.unusedSimpArgs false
set_option linter.unusedVariables false

end Go.Proofs.Ythefakiobpijiaa
