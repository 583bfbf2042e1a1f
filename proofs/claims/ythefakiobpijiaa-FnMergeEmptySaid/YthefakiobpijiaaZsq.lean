/- HELPER, no statement of the seat: several texts in one file. -/
import Derived.Test.YthefakiobpijiaaEntL
import Derived.Test.YthefakiobpijiaaEntM
import Derived.Test.YthefakiobpijiaaDrh
/- HELPER, no statement of the seat: lists of Z-sets that came in, copied, measured and compared. -/
namespace Go.Proofs.Ythefakiobpijiaa
open Go.ChangeShapes Go.WideShapes Go.ChangeAt Go.RowKit Go.Sort
set_option linter.unusedSimpArgs false
set_option linter.unusedVariables false

abbrev Zs := List Ent
def ZlR : Rd Zs := SlR EntR 2
def ZlO : Ow Zs := SlO EntO 2 260
theorem zlR : ROk ZlR 1 := slR entR
theorem zlO : OOk ZlO ZlR 1 := slO entO
def ZssAt (w : World) (A : Option Addr) (zs : List Zs) : Prop := SlAt ZlR 1 w A zs
theorem ZssAt.below {w w' : World} {A : Option Addr} {zs : List Zs} (h : ZssAt w A zs) (hb : Below w.heap.size w w') : ZssAt w' A zs := SlAt.below zlR h hb
theorem ZssAt.get {w : World} {A : Option Addr} {zs : List Zs} (h : ZssAt w A zs) (k : Nat) (hk : k < zs.length) :
    ∃ b off ZA zc, A = some ⟨b, off, none⟩ ∧ b < w.heap.size ∧ w.cell? ⟨b, off + k, none⟩ = some (.slice ZA zs[k].length zc) ∧ zs[k].length ≤ maxLen ∧ EntsAt w ZA zs[k] := by
  obtain ⟨b, off, e, hlt, hc⟩ := h (by omega)
  obtain ⟨cs, hl, hcell, ZA, zc, hcs, hm, hz⟩ := hc k hk
  have := hcell 0 (by omega)
  simp only [Nat.mul_one, Nat.add_zero] at this
  rw [hcs] at this
  exact ⟨b, off, ZA, zc, e, hlt, this, hm, hz⟩
section
variable {H : Type} {enc : TypeId × Value → H} {W : World}
end

/-! ### The measure -/
def zSum (zs : List Zs) : Int := (zs.map entSz).sum
theorem zSum_step {zs : List Zs} {k : Nat} (h : k < zs.length) : zSum (zs.take (k + 1)) = zSum (zs.take k) + entSz zs[k] := by
  rw [List.take_succ_eq_append_getElem h]
  simp only [zSum, List.map_append, List.sum_append, List.map_cons, List.map_nil, List.sum_cons, List.sum_nil, Int.add_zero]
theorem zSum_nn (zs : List Zs) : 0 ≤ zSum zs := by
  induction zs with
  | nil => simp [zSum]
  | cons x l ih => have := entSz_nn x; simp only [zSum, List.map_cons, List.sum_cons] at *; omega
theorem zSum_le (zs : List Zs) (k : Nat) : zSum (zs.take k) ≤ zSum zs := by
  have : zSum zs = zSum (zs.take k) + zSum (zs.drop k) := by
    rw [zSum, zSum, zSum, ← List.sum_append, ← List.map_append, List.take_append_drop]
  have := zSum_nn (zs.drop k)
  omega
theorem zSum_mem {zs : List Zs} {z : Zs} (h : z ∈ zs) : entSz z ≤ zSum zs := by
  induction zs with
  | nil => cases h
  | cons x l ih =>
    have h1 := entSz_nn x
    have h2 := zSum_nn l
    simp only [zSum, List.map_cons, List.sum_cons] at *
    rcases List.mem_cons.1 h with rfl | h
    · omega
    · have := ih h; omega
def zsSz (zs : List Zs) : Int := zs.length + zSum zs
def zsLeft (left : Int) (zs : List Zs) : Int := if left < zsSz zs then -1 else left - zsSz zs
theorem zsSz_nn (zs : List Zs) : 0 ≤ zsSz zs := by have := zSum_nn zs; unfold zsSz; omega
def zsIn (zs : List Zs) (n : Nat) : Prop := ∀ z ∈ zs, z.length ≤ n ∧ rowsIn z n
theorem zsSz_in {zs : List Zs} {n : Nat} (h : zsSz zs ≤ n) : zsIn zs n := fun z hz => by
  have h1 := zSum_mem hz
  have h2 : entSz z ≤ (n : Int) := by unfold zsSz at h; omega
  exact ⟨by have := entSz_len h2; omega, entSz_row h2⟩
theorem zsSz_len {zs : List Zs} {n : Int} (h : zsSz zs ≤ n) : (zs.length : Int) ≤ n := by have := zSum_nn zs; unfold zsSz at h; omega
theorem zsIn.get {zs : List Zs} {n k : Nat} (h : zsIn zs n) (hk : k < zs.length) : zs[k].length ≤ n ∧ rowsIn zs[k] n := h _ (List.getElem_mem hk)
/-! ### Copies -/
end Go.Proofs.Ythefakiobpijiaa

/- HELPER, no statement of the seat: marks on lists of Z-sets; lists of Z-sets that have the room that they say. -/
namespace Go.Proofs.Ythefakiobpijiaa
open Go.RowKit Go.Sort
set_option linter.unusedSimpArgs false
set_option linter.unusedVariables false

/-! ### Room -/
def ZlC : Rd Zs := fun w cs z => ∃ A c, cs = [.slice A z.length c] ∧ z.length ≤ c ∧ c ≤ maxLen ∧ EntsAt w A z
theorem zlC : ROk ZlC 1 := ⟨fun ⟨_, _, e, _⟩ => by rw [e]; rfl, fun ⟨A, c, e, l, m, h⟩ hb => ⟨A, c, e, l, m, h.below entR hb⟩⟩
abbrev ZssC (w : World) (A : Option Addr) (zs : List Zs) : Prop := SlAt ZlC 1 w A zs
theorem ZssC.at_ {w : World} {A : Option Addr} {zs : List Zs} (h : ZssC w A zs) : ZssAt w A zs := fun hn => by
  obtain ⟨b, off, e, hlt, hc⟩ := h hn
  refine ⟨b, off, e, hlt, fun j hj => ?_⟩
  obtain ⟨cs, h1, h2, A', c', e', l, m, h3⟩ := hc j hj
  exact ⟨cs, h1, h2, A', c', e', Nat.le_trans l m, h3⟩
theorem ZssC.get {w : World} {A : Option Addr} {zs : List Zs} (h : ZssC w A zs) (k : Nat) (hk : k < zs.length) :
    ∃ b off ZA zc, A = some ⟨b, off, none⟩ ∧ b < w.heap.size ∧ w.cell? ⟨b, off + k, none⟩ = some (.slice ZA zs[k].length zc) ∧ zs[k].length ≤ zc ∧ zc ≤ maxLen ∧ EntsAt w ZA zs[k] := by
  obtain ⟨b, off, e, hlt, hc⟩ := h (by omega)
  obtain ⟨cs, hl, hcell, ZA, zc, hcs, l, m, hz⟩ := hc k hk
  have := hcell 0 (by omega)
  simp only [Nat.mul_one, Nat.add_zero] at this
  rw [hcs] at this
  exact ⟨b, off, ZA, zc, e, hlt, this, l, m, hz⟩
theorem EntsOw.len_cap {w : World} {S : Fp} {A : Option Addr} {c : Nat} {es : List Ent} (h : EntsOw w S A c es) : es.length ≤ c ∧ c ≤ maxLen := by
  obtain ⟨css, F, h⟩ := h
  rcases h.form with ⟨_, rfl, rfl⟩ | ⟨g, _, _, _, h1, h2⟩
  · simp
  · exact ⟨h1, h2⟩
/-! ### Marks -/
def cntZ (z : Zs) : Nat := cntL cntE z
def mkZ (k : Int) (z : Zs) : Zs := mkL cntE mkE k z
theorem mkZ_length (k : Int) (z : Zs) : (mkZ k z).length = z.length := mkL_length z k
theorem cntZ_sz (z : Zs) : (cntZ z : Int) = entSz z := by
  induction z with
  | nil => rfl
  | cons e l ih =>
    simp only [cntZ, cntL, entSz, lenSum, List.map_cons, List.sum_cons, List.length_cons, cntE] at *
    omega
theorem cnt_zs (zs : List Zs) : (cntL cntZ zs : Int) = zSum zs := by
  induction zs with
  | nil => rfl
  | cons z l ih =>
    have h := cntZ_sz z
    simp only [cntL, zSum, List.map_cons, List.sum_cons] at *
    omega
theorem cnt_zsz (zs : List Zs) : (cntL cntZ zs : Int) ≤ zsSz zs := by rw [cnt_zs]; unfold zsSz; omega
end Go.Proofs.Ythefakiobpijiaa

/- HELPER, no statement of the seat: one element of a list of its own put in the place of another; lists of Z-sets that grow. -/
namespace Go.Proofs.Ythefakiobpijiaa
open Go.RowKit Go.Sort
set_option linter.unusedSimpArgs false
set_option linter.unusedVariables false

section
variable {α : Type} {O : Ow α} {R : Rd α} {sz : Nat} {E : TypeId} {w w' : World} {S : Fp} {c : Nat} {xs : List α} {css : List (List Value)} {F : Nat → Fp}
/-- Another element has been put in the place of element j; what the others lead to is as it was. -/
theorem SlF.swap2 (ok : OOk O R sz) {g : Nat} (h : SlF O sz E w S (some ⟨g, 0, none⟩) c xs css F) {j : Nat} (hj : j < xs.length) {x' : α} {cs' : List Value} {T U : Fp}
    (hrow : w'.ownsRow 0 E sz (.slice (some ⟨g, 0, none⟩) xs.length c) xs.length (css.set j cs').flatten) (hl : cs'.length = sz) (hx : O w' T cs' x')
    (hoth : ∀ i, i ≠ j → ∀ k, F i k → w'.heap[k]? = w.heap[k]?) (hT1 : ∀ k, T k → U k ∧ k ≠ g) (hT2 : ∀ i, i ≠ j → ∀ k, F i k → ¬ T k)
    (hU : ∀ k, S k → U k) (hUl : ∀ k, U k → k < w'.heap.size) :
    SlF O sz E w' U (some ⟨g, 0, none⟩) c (xs.set j x') (css.set j cs') (fun i => if i = j then T else F i) := by
  have hcl := h.clen
  refine ⟨hUl, fun k hk => hU k (h.top k hk), ?_, by simp [hcl], ?_, ?_, ?_, ?_⟩
  · rw [List.length_set]; exact hrow
  · intro cs hc
    rcases List.mem_or_eq_of_mem_set hc with hc | rfl
    · exact h.elen cs hc
    · exact hl
  · intro i k hk
    by_cases e : i = j
    · rw [if_pos e] at hk
      exact ⟨(hT1 k hk).1, fun e2 => by simp [blk] at e2; exact (hT1 k hk).2 e2.symm⟩
    · rw [if_neg e] at hk
      exact ⟨hU k (h.sub i k hk).1, (h.sub i k hk).2⟩
  · intro i m k hi hm
    by_cases ei : i = j <;> by_cases em : m = j
    · omega
    · rw [if_pos ei] at hi; rw [if_neg em] at hm; exact absurd hi (hT2 m em k hm)
    · rw [if_neg ei] at hi; rw [if_pos em] at hm; exact absurd hm (hT2 i ei k hi)
    · rw [if_neg ei] at hi; rw [if_neg em] at hm; exact h.apart i m k hi hm
  · intro i h1 h2
    by_cases e : i = j
    · subst e
      rw [if_pos rfl]
      simpa using hx
    · rw [if_neg e, List.getElem_set_ne (fun h => e h.symm), List.getElem_set_ne (fun h => e h.symm)]
      exact ok.loc (h.elt i (by simpa using h1) (by simpa using h2)) (hoth i e)
end
theorem zl_srcs {w : World} {A : Option Addr} {n c : Nat} {E : TypeId} : ∀ a, some (⟨w.heap.size, 0, none⟩ : Addr) = some a → ∀ j u, [Value.slice A n c][j]? = some u → (w.alloc (.cells #[.slice A n c] E)).cell? (a.add j) = some u := by
  intro a e j u hu
  injection e with e
  subst e
  match j, hu with
  | 0, hu => simp at hu; subst hu; simp [Addr.add]
theorem zl_ones {A : Option Addr} {n c : Nat} : ∀ u ∈ [Value.slice A n c], u.oneCell' = true := by
  intro u hu
  simp at hu
  subst hu
  rfl
end Go.Proofs.Ythefakiobpijiaa

/- HELPER, no statement of the seat: the generators of lists of Z-sets. -/
namespace Go.Proofs.Ythefakiobpijiaa
open Go.RowKit Go.Sort
set_option linter.unusedSimpArgs false
set_option linter.unusedVariables false

def zlB (zs : List Zs) : Prop := ∀ z ∈ zs, z.length ≤ 40 ∧ rowsIn z 10 ∧ wts z 4000000
theorem zlB_nil : zlB [] := fun z h => by cases h
theorem zlB.snoc {zs : List Zs} {z : Zs} (h : zlB zs) (k : z.length ≤ 40 ∧ rowsIn z 10 ∧ wts z 4000000) : zlB (zs ++ [z]) := fun y hy => by
  rcases List.mem_append.1 hy with hy | hy
  · exact h y hy
  · simp at hy; subst hy; exact k
theorem zlB.in_ {zs : List Zs} (h : zlB zs) : zsIn zs 4194304 := fun z hz => ⟨by have := (h z hz).1; omega, fun e he => by have := (h z hz).2.1 e he; omega⟩
end Go.Proofs.Ythefakiobpijiaa
