/- HELPER, no statement of the seat: several texts in one file. -/
import Derived.Shelf.SlSortCmp.NoneTotal
import Derived.Test.YthefakiobpijiaaProg
import Derived.Test.YthefakiobpijiaaCmpU
import Derived.Test.YthefakiobpijiaaBlu
/- HELPER, no statement of the seat: the library's contract of slices.SortFunc, laid (a table of numbers and one theorem, a field a fact of the program's own or the kernel's comparison). -/
namespace Go.Proofs.Ythefakiobpijiaa
open Go.Shelf
end Go.Proofs.Ythefakiobpijiaa

/- HELPER, no statement of the seat: slices.SortFunc at updates. -/
namespace Go.Proofs.Ythefakiobpijiaa
open Go.RowKit Go.Sort Go.Shelf
set_option linter.unusedSimpArgs false
set_option linter.unusedVariables false

/-- An update as it lies in memory; its row is read in w0. -/
def SU (w0 : World) : Type := { q : (Option Addr × Nat) × Upd // IntsAt w0 q.1.1 q.2.1.1 ∧ q.2.1.1.length ≤ 4194304 }
instance (w0 : World) : Inhabited (SU w0) := ⟨⟨((none, 0), (([], (0, 0)), 0)), fun h => absurd h (by simp), by simp⟩⟩
def updS {w0 : World} (x : SU w0) : Upd := x.1.2
def encU {w0 : World} (x : SU w0) : List Value := [.slice x.1.1.1 x.1.2.1.1.length x.1.1.2, .int .i64 x.1.2.1.2.1, .int .i64 x.1.2.1.2.2, .int .i64 x.1.2.2]
def cfU {w0 : World} (x y : SU w0) : Int := cmpKU x.1.2.1 y.1.2.1
theorem encU_len {w0 : World} (x : SU w0) : (encU x).length = 4 := rfl
theorem encU_one {w0 : World} (x : SU w0) : ∀ v ∈ encU x, v.oneCell' = true := fun v hv => by
  simp [encU] at hv
  rcases hv with rfl | rfl | rfl | rfl <;> rfl
theorem encU_rd {w0 : World} (x : SU w0) : UpdR w0 (encU x) (updS x) := UpdR.of (updS x) (Nat.le_trans x.2.2 (by unfold maxLen; omega)) x.2.1
theorem ltSU {w0 : World} (x y : SU w0) : ltOf cfU x y = ltU x.1.2.1 y.1.2.1 := rfl
theorem swoU {w0 : World} : SWO (ltOf (cfU (w0 := w0))) where
  irrefl x := by rw [ltSU]; exact updTot.irrefl _
  trans x y z h1 h2 := by rw [ltSU] at *; exact updTot.trans _ _ _ h1 h2
  ntrans x y z h1 h2 := by rw [ltSU] at *; exact ge_trans updTot h2 h1
theorem sU_of {w0 : World} {css : List (List Value)} {es : List Upd} (rd : RdL UpdR w0 css es) (hr : rowsU es 4194304) : ∃ l : List (SU w0), l.map updS = es ∧ l.map encU = css := by
  have each : ∀ i : Fin es.length, ∃ q : SU w0, updS q = es[i.1] ∧ encU q = css[i.1]'(by rw [rd.len]; exact i.2) := fun i => by
    obtain ⟨RA, rc, hcs, hml, hrow⟩ := (rd.elt i.1 (by rw [rd.len]; exact i.2) i.2).form
    exact ⟨⟨((RA, rc), es[i.1]), hrow, hr _ (List.getElem_mem i.2)⟩, rfl, hcs.symm⟩
  refine ⟨(List.finRange es.length).map (fun i => Classical.choose (each i)), ?_, ?_⟩
  · apply List.ext_getElem
    · simp
    · intro i h1 h2
      simp only [List.getElem_map, List.getElem_finRange]
      exact (Classical.choose_spec (each ⟨i, h2⟩)).1
  · apply List.ext_getElem
    · simp [rd.len]
    · intro i h1 h2
      simp only [List.getElem_map, List.getElem_finRange]
      exact (Classical.choose_spec (each ⟨i, by rw [← rd.len]; exact h2⟩)).2
theorem holdsU {w w0 : World} {base g c n : Nat} {E : TypeId} {l : List (SU w0)} (hown : w.ownsRow base E 4 (.slice (some ⟨g, 0, none⟩) n c) n (l.map encU).flatten) (hn : n = l.length) : HoldsK encU 4 w g 0 l.toArray := by
  intro t ht
  have ht' : t < l.length * 4 := by simpa using ht
  have hq : t / 4 < l.length := by omega
  have e := World.ownsRow.cellAt hown t (by omega)
  have hfl := flat_get (sz := 4) (css := l.map encU) (fun cs hc => by obtain ⟨x, _, rfl⟩ := List.mem_map.1 hc; rfl) (t / 4) (by simpa using hq) (t % 4) (Nat.mod_lt _ (by omega))
  rw [show t / 4 * 4 + t % 4 = t by omega] at hfl
  rw [hfl] at e
  refine ⟨?_, World.ownsRow.frozenAt hown _⟩
  rw [get_flatK _ _ _ _ (by simpa using ht'), Nat.zero_add, e, List.getElem_map]
  rw [show (l.toArray)[t / 4]! = l[t / 4] by simp [hq]]
  have hm : t % 4 < (encU l[t / 4]).length := by rw [encU_len]; exact Nat.mod_lt _ (by omega)
  rw [List.getElem?_eq_getElem hm, List.getElem!_eq_getElem?_getD, List.getElem?_eq_getElem hm]
  rfl
theorem below_sortWorldU {w0 w : World} {α : Type} [Inhabited α] {enc : α → List Value} {k g off m : Nat} {d : Array α} {os : Array Obj} (h : RowKit.Below w0.heap.size w0 w) (hg : w0.heap.size ≤ g) : RowKit.Below w0.heap.size w0 (sortWorldK enc k w g off m d os) := by
  refine h.trans ⟨rfl, rfl, rfl, ?_, fun q hq => ?_⟩
  · simp [sortWorldK, grow, putRowK]
  · have hs := h.size
    have h1 : (putRowK enc k (Sort.ahead w m) g off d).heap[q]? = w.heap[q]? := by
      simp only [putRowK, putRow, mapBlock, Array.getElem?_modify]
      rw [if_neg (by omega)]
      rfl
    have h2 : q < (putRowK enc k (Sort.ahead w m) g off d).heap.size := by simp [putRowK]; omega
    simp only [sortWorldK, grow]
    rw [Array.getElem?_append_left h2, h1]

end Go.Proofs.Ythefakiobpijiaa
