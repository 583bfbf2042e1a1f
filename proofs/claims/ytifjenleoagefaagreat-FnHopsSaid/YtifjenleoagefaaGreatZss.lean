/- HELPER, no statement of the seat: lists of Z-sets that came in, copied, measured and compared. -/
import Derived.Test.YtifjenleoagefaaGreatEntL
namespace Go.Proofs.YtifjenleoagefaaGreat
open Go.ChangeShapes Go.WideShapes Go.ChangeAt Go.RowKit Go.Sort
set_option linter.unusedSimpArgs false
set_option linter.unusedVariables false

abbrev Zs := List Ent
def ZlR : Rd Zs := SlR EntR 2
def ZlO : Ow Zs := SlO EntO 2 33
theorem zlR : ROk ZlR 1 := slR entR
theorem zlO : OOk ZlO ZlR 1 := slO entO
def ZssAt (w : World) (A : Option Addr) (zs : List Zs) : Prop := SlAt ZlR 1 w A zs
theorem ZssAt.below {w w' : World} {A : Option Addr} {zs : List Zs} (h : ZssAt w A zs) (hb : Below w.heap.size w w') : ZssAt w' A zs := SlAt.below zlR h hb
theorem ZssAt.get {w : World} {A : Option Addr} {zs : List Zs} (h : ZssAt w A zs) (k : Nat) (hk : k < zs.length) :
    ∃ b off ZA zc, A = some ⟨b, off, none⟩ ∧ b < w.heap.size ∧ w.cell? ⟨b, off + k, none⟩ = some (.slice ZA zs[k].length zc) ∧ zs[k].length ≤ maxLen ∧ EntsAt w ZA zs[k] := by
  obtain ⟨b, off, e, hlt, hc⟩ := h (by omega)
  obtain ⟨cs, hl, hcell, ZA, zc, hcs, hm, hz⟩ := hc k hk
  have := hcell 0 (by omega)
  simp only [Nat.mul_one, Nat.add_zero] at this
  rw [hcs] at this
  exact ⟨b, off, ZA, zc, e, hlt, this, hm, hz⟩
section
variable {H : Type} {enc : TypeId × Value → H} {W : World}
end

/-! ### The measure -/
def zSum (zs : List Zs) : Int := (zs.map entSz).sum
theorem zSum_step {zs : List Zs} {k : Nat} (h : k < zs.length) : zSum (zs.take (k + 1)) = zSum (zs.take k) + entSz zs[k] := by
  rw [List.take_succ_eq_append_getElem h]
  simp only [zSum, List.map_append, List.sum_append, List.map_cons, List.map_nil, List.sum_cons, List.sum_nil, Int.add_zero]
theorem zSum_nn (zs : List Zs) : 0 ≤ zSum zs := by
  induction zs with
  | nil => simp [zSum]
  | cons x l ih => have := entSz_nn x; simp only [zSum, List.map_cons, List.sum_cons] at *; omega
theorem zSum_le (zs : List Zs) (k : Nat) : zSum (zs.take k) ≤ zSum zs := by
  have : zSum zs = zSum (zs.take k) + zSum (zs.drop k) := by
    rw [zSum, zSum, zSum, ← List.sum_append, ← List.map_append, List.take_append_drop]
  have := zSum_nn (zs.drop k)
  omega
theorem zSum_mem {zs : List Zs} {z : Zs} (h : z ∈ zs) : entSz z ≤ zSum zs := by
  induction zs with
  | nil => cases h
  | cons x l ih =>
    have h1 := entSz_nn x
    have h2 := zSum_nn l
    simp only [zSum, List.map_cons, List.sum_cons] at *
    rcases List.mem_cons.1 h with rfl | h
    · omega
    · have := ih h; omega
def zsSz (zs : List Zs) : Int := zs.length + zSum zs
def zsLeft (left : Int) (zs : List Zs) : Int := if left < zsSz zs then -1 else left - zsSz zs
theorem zsSz_nn (zs : List Zs) : 0 ≤ zsSz zs := by have := zSum_nn zs; unfold zsSz; omega
def zsIn (zs : List Zs) (n : Nat) : Prop := ∀ z ∈ zs, z.length ≤ n ∧ rowsIn z n
theorem zsSz_in {zs : List Zs} {n : Nat} (h : zsSz zs ≤ n) : zsIn zs n := fun z hz => by
  have h1 := zSum_mem hz
  have h2 : entSz z ≤ (n : Int) := by unfold zsSz at h; omega
  exact ⟨by have := entSz_len h2; omega, entSz_row h2⟩
theorem zsSz_len {zs : List Zs} {n : Int} (h : zsSz zs ≤ n) : (zs.length : Int) ≤ n := by have := zSum_nn zs; unfold zsSz at h; omega
theorem zsIn.get {zs : List Zs} {n k : Nat} (h : zsIn zs n) (hk : k < zs.length) : zs[k].length ≤ n ∧ rowsIn zs[k] n := h _ (List.getElem_mem hk)
/-! ### Copies -/
theorem Tryz.infoZl : (Tryz.prog.info? 23).map (fun i => (i.zero, i.size, i.bytes)) = some (some (.slice none 0 0), 1, 24) := by kernel_rfl
end Go.Proofs.YtifjenleoagefaaGreat
