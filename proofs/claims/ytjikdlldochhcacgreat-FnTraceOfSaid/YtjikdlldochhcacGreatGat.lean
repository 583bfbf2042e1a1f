/- HELPER, no statement of the seat: Z-sets added one after the other. -/
import Derived.Test.YtjikdlldochhcacGreatAddI
import Derived.Test.YtjikdlldochhcacGreatAddZ
import Derived.Test.YtjikdlldochhcacGreatZsm
namespace Go.Proofs.YtjikdlldochhcacGreat
open Go.RowKit Go.Sort
set_option linter.unusedSimpArgs false
set_option linter.unusedVariables false

theorem chkF_zs (z : List Ent) : zsB (chkF z) = true := by
  unfold chkF
  split
  · assumption
  · rfl
theorem AddF_zs (a b : List Ent) : zsB (AddF a b) = true := by
  unfold AddF
  split
  · exact chkF_zs _
  · rfl
theorem AddF_of {a b : List Ent} (ha : zsB a = true) (hb : zsB b = true) : AddF a b = chkF (nz (AddL a b)) := by simp [AddF, ha, hb]
def gatL (zs : List Zs) : Zs := zs.foldl AddF []
theorem gatL_step {zs : List Zs} {k : Nat} (h : k < zs.length) : gatL (zs.take (k + 1)) = AddF (gatL (zs.take k)) zs[k] := by
  rw [List.take_succ_eq_append_getElem h, gatL, List.foldl_append]
  rfl
theorem gatL_zs (zs : List Zs) : zsB (gatL zs) = true := by
  have : ∀ (zs : List Zs) (a : Zs), zsB a = true → zsB (zs.foldl AddF a) = true := by
    intro zs
    induction zs with
    | nil => intro a h; exact h
    | cons z l ih => intro a _; exact ih _ (AddF_zs a z)
  exact this zs [] rfl
def allZ (zs : List Zs) : Bool := zs.all zsB
theorem allZ_get {zs : List Zs} (h : allZ zs = true) {k : Nat} (hk : k < zs.length) : zsB zs[k] = true := List.all_eq_true.1 h _ (List.getElem_mem hk)
theorem allZ_bad {zs : List Zs} {k : Nat} (hk : k < zs.length) (h : zsB zs[k] = false) : allZ zs = false := by
  unfold allZ
  rw [List.all_eq_false]
  exact ⟨zs[k], List.getElem_mem hk, by simp [h]⟩
def upZ (zs : List Zs) (k : Nat) : Prop := ∀ j (h : j < zs.length), j < k → zsB zs[j] = true
theorem upZ_step {zs : List Zs} {k : Nat} (h : upZ zs k) (e : ∀ (hk : k < zs.length), zsB zs[k] = true) : upZ zs (k + 1) := fun j hj hlt => by
  rcases Nat.lt_succ_iff_lt_or_eq.1 hlt with h' | rfl
  · exact h j hj h'
  · exact e hj
theorem upZ_end {zs : List Zs} (h : upZ zs zs.length) : allZ zs = true := by
  unfold allZ
  rw [List.all_eq_true]
  intro z hz
  obtain ⟨j, hj, rfl⟩ := List.getElem_of_mem hz
  exact h j hj hj
def gatF (zs : List Zs) : Zs := if allZ zs = true ∧ zs.length ≤ 8 then gatL zs else []
theorem gatF_zs (zs : List Zs) : zsB (gatF zs) = true := by
  unfold gatF
  split
  · exact gatL_zs zs
  · rfl
theorem gatF_len (zs : List Zs) : (gatF zs).length ≤ 400 := zsB_len (gatF_zs zs)
theorem gatF_row (zs : List Zs) : rowsIn (gatF zs) 6 := zsB_row (gatF_zs zs)
theorem rowsIn_big {z : Zs} (h : zsB z = true) : z.length ≤ 4194304 ∧ rowsIn z 4194304 :=
  ⟨by have := zsB_len h; omega, fun e he => by have := zsB_row h e he; omega⟩
theorem endNoE (w W : World) (h : Below w.heap.size w W) : EntsOw (W.alloc (.cells #[] 52)) (news w (W.alloc (.cells #[] 52))) (some ⟨W.heap.size, 0, none⟩) 0 [] :=
  ⟨_, _, SlF.made EntO 2 52 W #[] 0 (by simp [maxLen]) (by simp) ⟨h.size, by simp⟩ (fun q hq => by have := hq.2; simpa using this)⟩
end Go.Proofs.YtjikdlldochhcacGreat
