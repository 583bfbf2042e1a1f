/- HELPER, no statement of the seat: several texts in one file. -/
import Derived.Test.YtkonhjdfcfljpaaBldM
import Derived.Test.YtkonhjdfcfljpaaUpdN
import Derived.Deep.RegionHeld3
import Derived.Deep.RegionLaw
import Derived.Deep.AppendLies
import Derived.Deep.DrawnRows
/- HELPER, no statement of the seat: the program's builder of sums, at updates. -/
namespace Go.Proofs.Ytkonhjdfcfljpaa
open Go.RowKit Go.Sort
set_option linter.unusedSimpArgs false
set_option linter.unusedVariables false
attribute [local go_sem ↓] Go.wp_at_zero Go.wp_at_succ

theorem UpdR.mk {w : World} {A : Option Addr} {c : Nat} {xs : List Int} {p q x : Int} (l : xs.length ≤ maxLen) (h : IntsAt w A xs) : UpdR w [.slice A xs.length c, .int .i64 p, .int .i64 q, .int .i64 x] ((xs, (p, q)), x) :=
  ⟨[_, _, _], [_], rfl, ⟨[_], [_, _], rfl, ⟨A, c, rfl, l, h⟩, ⟨[_], [_], rfl, rfl, rfl⟩⟩, rfl⟩
theorem UpdR.of {w : World} {A : Option Addr} {c : Nat} (e : Upd) {x : Int} (l : e.1.1.length ≤ maxLen) (h : IntsAt w A e.1.1) : UpdR w [.slice A e.1.1.length c, .int .i64 e.1.2.1, .int .i64 e.1.2.2, .int .i64 x] (e.1, x) := by
  obtain ⟨⟨a, b, d⟩, y⟩ := e
  exact UpdR.mk l h
theorem compare_u (RA RB : Option Addr) (c d : Nat) (x y : Upd) (w : World) (hx : IntsAt w RA x.1.1) (hy : IntsAt w RB y.1.1) (hn : x.1.1.length ≤ 4194304) (hm : y.1.1.length ≤ 4194304) :
    Calls Try.prog 195 #[.agg #[.slice RA x.1.1.length c, .int .i64 x.1.2.1, .int .i64 x.1.2.2, .int .i64 x.2], .agg #[.slice RB y.1.1.length d, .int .i64 y.1.2.1, .int .i64 y.1.2.2, .int .i64 y.2]] w fun e w' => e = .returned (.int .i64 (cmpKU x.1 y.1)) ∧ Below w.heap.size w w' :=
  updCompare_i RA RB c d x.1.1 y.1.1 _ _ _ _ _ _ w hx hy hn hm
theorem snocAtU {w : World} {base g c : Nat} {E : TypeId} {m : List Upd} {y : Upd} {css : List (List Value)} {w0 : World} (hr : w.ownsRow base E 4 (.slice (some ⟨g, 0, none⟩) (m.length + 1) c) (m.length + 1) css.flatten) (rd : RdL UpdR w0 css (m ++ [y])) :
    ∃ RA rc, UpdR w0 [.slice RA y.1.1.length rc, .int .i64 y.1.2.1, .int .i64 y.1.2.2, .int .i64 y.2] y ∧ w.cell? ⟨g, m.length * 4, none⟩ = some (.slice RA y.1.1.length rc) ∧ w.cell? ⟨g, m.length * 4 + 1, none⟩ = some (.int .i64 y.1.2.1) ∧ w.cell? ⟨g, m.length * 4 + 2, none⟩ = some (.int .i64 y.1.2.2) ∧ w.cell? ⟨g, m.length * 4 + 3, none⟩ = some (.int .i64 y.2) ∧ y.1.1.length ≤ maxLen ∧ IntsAt w0 RA y.1.1 := by
  have hcl : css.length = m.length + 1 := by rw [rd.len]; simp
  have h1 : m.length < css.length := by omega
  have h2 : m.length < (m ++ [y]).length := by simp
  have he := rd.elt m.length h1 h2
  rw [show (m ++ [y])[m.length] = y by simp] at he
  obtain ⟨RA, rc, hcs, hml, hrow⟩ := he.form
  have cell : ∀ i, i < 4 → w.cell? ⟨g, m.length * 4 + i, none⟩ = (css[m.length])[i]? := fun i hi => by
    rw [World.ownsRow.cellAt hr (m.length * 4 + i) (by omega), flat_get (rd.elen updR) m.length h1 i hi]
  have c0 := cell 0 (by omega)
  have c1 := cell 1 (by omega)
  have c2 := cell 2 (by omega)
  have c3 := cell 3 (by omega)
  rw [hcs] at c0 c1 c2 c3
  exact ⟨RA, rc, by rw [← hcs]; exact he, by simpa using c0, by simpa using c1, by simpa using c2, by simpa using c3, hml, hrow⟩

end Go.Proofs.Ytkonhjdfcfljpaa

/- HELPER, no statement of the seat: the sums of the program, at updates. -/
namespace Go.Proofs.Ytkonhjdfcfljpaa
open Go.RowKit Go.Sort
set_option linter.unusedSimpArgs false
set_option linter.unusedVariables false

/-! ### slices.DeleteFunc -/
def IdxPU (es : List Upd) (e : Ending) : Prop := (e = .returned (.int .i64 (-1)) ∧ ∀ x ∈ es, x.2 ≠ 0) ∨ ∃ (k : Nat) (hk : k < es.length), e = .returned (.int .i64 (k : Int)) ∧ es[k].2 = 0 ∧ ∀ x ∈ es.take k, x.2 ≠ 0
def isNzU (es : List Upd) (i : Nat) : Bool := decide ((es.getD i (([], (0, 0)), 0)).2 ≠ 0)
theorem isNzU_at {es : List Upd} {i : Nat} (h : i < es.length) : isNzU es i = decide (es[i].2 ≠ 0) := by simp [isNzU, h]
theorem selTo_nzU (es : List Upd) : (selTo (isNzU es) es.length).map (fun i => es.getD i (([], (0, 0)), 0)) = nz es := by
  have := selTo_map (l := es) (fun x => decide (x.2 ≠ 0)) (([], (0, 0)), 0) es.length (Nat.le_refl _)
  rw [List.take_length] at this
  exact this
theorem getD_cellsU {w : World} {E : TypeId} {base g c n j : Nat} {css : List (List Value)} (he : ∀ cs ∈ css, cs.length = 4) (hr : w.ownsRow base E 4 (.slice (some ⟨g, 0, none⟩) n c) n css.flatten) (hj : j < css.length) (hn : css.length = n) :
    ∃ u v x y, css.getD j [] = [u, v, x, y] ∧ w.cell? ⟨g, j * 4, none⟩ = some u ∧ w.cell? ⟨g, j * 4 + 1, none⟩ = some v ∧ w.cell? ⟨g, j * 4 + 2, none⟩ = some x ∧ w.cell? ⟨g, j * 4 + 3, none⟩ = some y := by
  have hl := he _ (List.getElem_mem hj)
  have cell : ∀ i, i < 4 → w.cell? ⟨g, j * 4 + i, none⟩ = (css[j])[i]? := fun i hi => by
    rw [World.ownsRow.cellAt hr (j * 4 + i) (by omega), flat_get he j hj i hi]
  have c0 := cell 0 (by omega)
  have c1 := cell 1 (by omega)
  have c2 := cell 2 (by omega)
  have c3 := cell 3 (by omega)
  rw [getD_lt _ hj]
  generalize css[j] = q at hl c0 c1 c2 c3
  match q, hl with
  | [u, v, x, y], _ => exact ⟨u, v, x, y, rfl, by simpa using c0, by simpa using c1, by simpa using c2, by simpa using c3⟩

/-- The first elements of a row, in a world in which their cells are the same. -/
theorem at_of_takeU {w wr : World} {base g i n c : Nat} {E : TypeId} {D css : List (List Value)} {xs : List Upd} (hD : ∀ cs ∈ D, cs.length = 4) (hlen : D.length = n) (hown : wr.ownsRow base E 4 (.slice (some ⟨g, 0, none⟩) n c) n D.flatten) (htake : D.take i = css) (hrd : RdL UpdR w css xs) (hi : i ≤ n) (hcell : ∀ o, o < i * 4 → w.cell? ⟨g, o, none⟩ = wr.cell? ⟨g, o, none⟩) (hlt : g < w.heap.size) : UpdsAt w (some ⟨g, 0, none⟩) xs := fun _ => by
  refine ⟨g, 0, rfl, hlt, fun j hj => ?_⟩
  have hcl : css.length = i := by rw [← htake, List.length_take]; omega
  have hji : j < i := by rw [← hcl, hrd.len]; exact hj
  have hjD : j < D.length := by omega
  have hjc : j < css.length := by omega
  have e : css[j] = D[j] := by
    subst htake
    rw [List.getElem_take]
  refine ⟨css[j], by rw [e]; exact hD _ (List.getElem_mem hjD), fun o ho => ?_, hrd.elt j hjc hj⟩
  have := World.ownsRow.cellAt hown (j * 4 + o) (by omega)
  rw [Nat.zero_add, hcell _ (by omega), this, flat_get hD j hjD o ho, e]
theorem zero_upd (w : World) : (zeroValue 54).run Try.prog w = .ok (.agg #[.slice none 0 0, .int .i64 0, .int .i64 0, .int .i64 0]) w := by kernel_rfl

theorem size_setCells0U (b : Nat) : ∀ (vs : List Value) (o : Nat) (w : World), (w.setCells b o vs).heap.size = w.heap.size
  | [], _, _ => rfl
  | v :: vs, o, w => (size_setCells0U b vs (o + 1) _).trans (by simp [World.setCell])

end Go.Proofs.Ytkonhjdfcfljpaa
