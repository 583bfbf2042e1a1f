/- HELPER, no statement of the seat: MapColumns of both sides. -/
import Derived.Test.YtjobecoogjojjaaNormI
import Derived.Test.YtjobecoogjojjaaNormS
import Derived.Test.YtjobecoogjojjaaZbx
namespace Go.Proofs.Ytjobecoogjojjaa
open Go.RowKit Go.Sort
set_option linter.unusedSimpArgs false
set_option linter.unusedVariables false


def mapE (cols : List Int) (e : Ent) : Ent := (projL e.1 cols, e.2)
def MapF (z : List Ent) (cols : List Int) : List Ent := if (zsB z && colB cols (wid z)) = true then NormF (z.map (mapE cols)) else []
theorem MapF_len (z : List Ent) (cols : List Int) : (MapF z cols).length ≤ 400 := by
  unfold MapF
  split
  · exact NormF_len _
  · simp
theorem MapF_row (z : List Ent) (cols : List Int) : rowsIn (MapF z cols) 6 := by
  unfold MapF
  split
  · exact NormF_row _
  · intro e he; cases he
theorem rowB_proj {xs cols : List Int} (h : rowB xs = true) (hc : colB cols xs.length = true) : rowB (projL xs cols) = true := by
  obtain ⟨h1, h2, h3⟩ := col_in hc
  simp only [rowB, decide_eq_true_eq] at h ⊢
  refine ⟨by rw [projL_length]; exact h3, by rw [projL_length]; exact h2, fun x hx => ?_⟩
  obtain ⟨c, hcm, rfl⟩ := List.mem_map.1 hx
  have := h1 c hcm
  have hl : c.toNat < xs.length := by omega
  rw [show xs.getD c.toNat 0 = xs[c.toNat] by simp [hl]]
  exact h.2.2 _ (List.getElem_mem hl)
theorem sums_map {z : List Ent} {cols : List Int} (h : zsB z = true) (hc : colB cols (wid z) = true) : sumsB (z.map (mapE cols)) = true := allTo_iff.2 (fun k hk => by
  have hk' : k < z.length := by simpa using hk
  rw [nth_get hk, List.getElem_map]
  have h1 := zsB_get h hk'
  simp only [sumE, mapE, Bool.and_eq_true]
  exact ⟨rowB_proj h1.1 (by rw [h1.2.2.2]; exact hc), h1.2.1⟩)
theorem MapF_eq {z : List Ent} {cols : List Int} (h : zsB z = true) (hc : colB cols (wid z) = true) : MapF z cols = chkF (nz (AddL [] (z.map (mapE cols)))) := by
  have h4 := zsB_len h
  simp only [MapF, h, hc, Bool.and_self, if_true, NormF, sums_map h hc, List.length_map, h4, decide_true]
  rfl
theorem MapF_no {z : List Ent} {cols : List Int} (h : colB cols (wid z) = false) : MapF z cols = [] := by simp [MapF, h]
theorem colB_zero (cols : List Int) : colB cols 0 = false := by
  simp only [colB, decide_eq_false_iff_not]
  rintro ⟨h1, _, h⟩
  obtain ⟨x, hx⟩ : ∃ x, x ∈ cols := ⟨cols[0], List.getElem_mem _⟩
  have := h x hx
  omega
theorem map_rows {z : List Ent} {cols : List Int} (hc : cols.length ≤ 6) : rowsIn (z.map (mapE cols)) 6 := fun e he => by
  obtain ⟨q, _, rfl⟩ := List.mem_map.1 he
  simp only [mapE, projL_length]
  exact hc

theorem widthOf_sM (A : Option Addr) (c : Nat) (z : List Ent) (w : World) (hx : EntsAt w A z) (hp : 0 < z.length) (hr : rowsIn z 4194304) :
    Calls Try.prog 168 #[.slice A z.length c] w fun e w' => e = .returned (.int .i64 (wid z)) ∧ Below w.heap.size w w' := by
  obtain ⟨b, off, RA, rc, rfl, hbl, hc0, -, -, -⟩ := hx.get 0 hp
  simp only [Nat.zero_mul, Nat.add_zero] at hc0
  have hp' : (0 : Int) < z.length := by omega
  have HW := Lib.hid (wid_get hp)
  go_enter Try.func168, Try.ntmps168
  go_wp2
  go_ret
  exact ⟨ret_int (by rw [HW.out]), Below.refl _ _⟩


end Go.Proofs.Ytjobecoogjojjaa
