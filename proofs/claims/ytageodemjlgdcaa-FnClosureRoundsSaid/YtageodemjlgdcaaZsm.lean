/- HELPER, no statement of the seat: marks on lists of Z-sets; lists of Z-sets that have the room that they say. -/
import Derived.Test.YtageodemjlgdcaaZss
import Derived.Test.YtageodemjlgdcaaEntM
namespace Go.Proofs.Ytageodemjlgdcaa
open Go.RowKit Go.Sort
set_option linter.unusedSimpArgs false
set_option linter.unusedVariables false

/-! ### Room -/
def ZlC : Rd Zs := fun w cs z => ∃ A c, cs = [.slice A z.length c] ∧ z.length ≤ c ∧ c ≤ maxLen ∧ EntsAt w A z
theorem zlC : ROk ZlC 1 := ⟨fun ⟨_, _, e, _⟩ => by rw [e]; rfl, fun ⟨A, c, e, l, m, h⟩ hb => ⟨A, c, e, l, m, h.below entR hb⟩⟩
abbrev ZssC (w : World) (A : Option Addr) (zs : List Zs) : Prop := SlAt ZlC 1 w A zs
theorem ZssC.at_ {w : World} {A : Option Addr} {zs : List Zs} (h : ZssC w A zs) : ZssAt w A zs := fun hn => by
  obtain ⟨b, off, e, hlt, hc⟩ := h hn
  refine ⟨b, off, e, hlt, fun j hj => ?_⟩
  obtain ⟨cs, h1, h2, A', c', e', l, m, h3⟩ := hc j hj
  exact ⟨cs, h1, h2, A', c', e', Nat.le_trans l m, h3⟩
theorem ZssC.get {w : World} {A : Option Addr} {zs : List Zs} (h : ZssC w A zs) (k : Nat) (hk : k < zs.length) :
    ∃ b off ZA zc, A = some ⟨b, off, none⟩ ∧ b < w.heap.size ∧ w.cell? ⟨b, off + k, none⟩ = some (.slice ZA zs[k].length zc) ∧ zs[k].length ≤ zc ∧ zc ≤ maxLen ∧ EntsAt w ZA zs[k] := by
  obtain ⟨b, off, e, hlt, hc⟩ := h (by omega)
  obtain ⟨cs, hl, hcell, ZA, zc, hcs, l, m, hz⟩ := hc k hk
  have := hcell 0 (by omega)
  simp only [Nat.mul_one, Nat.add_zero] at this
  rw [hcs] at this
  exact ⟨b, off, ZA, zc, e, hlt, this, l, m, hz⟩
abbrev ZssOw (w : World) (S : Fp) (A : Option Addr) (c : Nat) (zs : List Zs) : Prop := SlOw ZlO 1 23 w S A c zs
theorem EntsOw.len_cap {w : World} {S : Fp} {A : Option Addr} {c : Nat} {es : List Ent} (h : EntsOw w S A c es) : es.length ≤ c ∧ c ≤ maxLen := by
  obtain ⟨css, F, h⟩ := h
  rcases h.form with ⟨_, rfl, rfl⟩ | ⟨g, _, _, _, h1, h2⟩
  · simp
  · exact ⟨h1, h2⟩
theorem ZssOw.len_cap {w : World} {S : Fp} {A : Option Addr} {c : Nat} {zs : List Zs} (h : ZssOw w S A c zs) : zs.length ≤ c ∧ c ≤ maxLen := by
  obtain ⟨css, F, h⟩ := h
  rcases h.form with ⟨_, rfl, rfl⟩ | ⟨g, _, _, _, h1, h2⟩
  · simp
  · exact ⟨h1, h2⟩
theorem ZssOw.at_ {w : World} {S : Fp} {A : Option Addr} {c : Nat} {zs : List Zs} (h : ZssOw w S A c zs) : SlAt ZlR 1 w A zs := SlOw.at_ zlO h
theorem ZssOw.atC {w : World} {S : Fp} {A : Option Addr} {c : Nat} {zs : List Zs} (h : ZssOw w S A c zs) : ZssC w A zs := fun hn => by
  obtain ⟨css, F, h⟩ := h
  rcases h.form with ⟨_, _, rfl⟩ | ⟨g, rfl, _, hlt, _⟩
  · simp at hn
  · refine ⟨g, 0, rfl, hlt, fun j hj => ?_⟩
    have h1 : j < css.length := by rw [h.clen]; exact hj
    refine ⟨css[j], h.elen _ (List.getElem_mem h1), fun i hi => by rw [Nat.zero_add, h.cell j h1 i hi], ?_⟩
    obtain ⟨ZA, zc, hcs, hown⟩ := h.elt j h1 hj
    have hcap := EntsOw.len_cap hown
    exact ⟨ZA, zc, hcs, hcap.1, hcap.2, SlOw.at_ entO hown⟩

/-! ### Marks -/
def cntZ (z : Zs) : Nat := cntL cntE z
def mkZ (k : Int) (z : Zs) : Zs := mkL cntE mkE k z
theorem mkZ_length (k : Int) (z : Zs) : (mkZ k z).length = z.length := mkL_length z k
theorem cntZ_sz (z : Zs) : (cntZ z : Int) = entSz z := by
  induction z with
  | nil => rfl
  | cons e l ih =>
    simp only [cntZ, cntL, entSz, lenSum, List.map_cons, List.sum_cons, List.length_cons, cntE] at *
    omega
theorem cnt_zs (zs : List Zs) : (cntL cntZ zs : Int) = zSum zs := by
  induction zs with
  | nil => rfl
  | cons z l ih =>
    have h := cntZ_sz z
    simp only [cntL, zSum, List.map_cons, List.sum_cons] at *
    omega
theorem cnt_zsz (zs : List Zs) : (cntL cntZ zs : Int) ≤ zsSz zs := by rw [cnt_zs]; unfold zsSz; omega
end Go.Proofs.Ytageodemjlgdcaa
