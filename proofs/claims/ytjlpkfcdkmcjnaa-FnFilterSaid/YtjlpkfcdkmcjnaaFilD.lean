/- HELPER, no statement of the seat: how filters divide a Z-set; no program. -/
import Derived.Test.YtjlpkfcdkmcjnaaSmM
namespace Go.Proofs.Ytjlpkfcdkmcjnaa
set_option linter.unusedSimpArgs false
set_option linter.unusedVariables false

theorem FilF_of {z : List Ent} {c k v : Int} (h : zsB z = true) (hv : pvB c k v (wid z) = true) : FilF z c k v = z.filter (fun e => holdP c.toNat k v e.1) := by simp [FilF, h, hv]
theorem pvB_kind {c k v n j : Int} (h : pvB c k v n = true) (h1 : 1 ≤ j) (h4 : j ≤ 4) : pvB c j v n = true := by
  obtain ⟨a, b, _, d⟩ := pvB_iff.1 h
  exact pvB_iff.2 ⟨a, b, ⟨h1, h4⟩, d⟩
theorem FilF_eq_ne {z : List Ent} {c k v : Int} (h : zsB z = true) (hv : pvB c k v (wid z) = true) : AddF (FilF z c 1 v) (FilF z c 4 v) = z := by
  rw [FilF_of h (pvB_kind hv (by omega) (by omega)), FilF_of h (pvB_kind hv (by omega) (by omega))]
  refine zsB_dividing h (fun r => holdP c.toNat 1 v r) (fun r => holdP c.toNat 4 v r) (fun e _ => ?_)
  simp only [holdP, cmpP]
  simp
  rfl
theorem FilF_lt_gt {z : List Ent} {c k v : Int} (h : zsB z = true) (hv : pvB c k v (wid z) = true) : AddF (FilF z c 2 v) (FilF z c 3 v) = FilF z c 4 v := by
  rw [FilF_of h (pvB_kind hv (by omega) (by omega)), FilF_of h (pvB_kind hv (by omega) (by omega)), FilF_of h (pvB_kind hv (by omega) (by omega))]
  have hy := zsB_filter (fun e : Ent => holdP c.toNat 4 v e.1) h
  have h2 : z.filter (fun e => holdP c.toNat 2 v e.1) = (z.filter (fun e => holdP c.toNat 4 v e.1)).filter (fun e => holdP c.toNat 2 v e.1) := by
    rw [List.filter_filter]
    refine List.filter_congr fun e _ => ?_
    simp only [holdP, cmpP]
    simp
    omega
  have h3 : z.filter (fun e => holdP c.toNat 3 v e.1) = (z.filter (fun e => holdP c.toNat 4 v e.1)).filter (fun e => holdP c.toNat 3 v e.1) := by
    rw [List.filter_filter]
    refine List.filter_congr fun e _ => ?_
    simp only [holdP, cmpP]
    simp
    omega
  rw [h2, h3]
  refine zsB_dividing hy (fun r => holdP c.toNat 2 v r) (fun r => holdP c.toNat 3 v r) (fun e he => ?_)
  have := (List.mem_filter.1 he).2
  simp only [holdP, cmpP] at this ⊢
  simp at this
  rw [Bool.eq_iff_iff]
  simp
  omega
theorem FilF_twice {z : List Ent} {c k v : Int} (h : zsB z = true) (hv : pvB c k v (wid z) = true) : FilF (FilF z c k v) c k v = FilF z c k v := by
  rw [FilF_of h hv]
  have hf := zsB_filter (fun e : Ent => holdP c.toNat k v e.1) h
  rcases Nat.eq_zero_or_pos (z.filter (fun e => holdP c.toNat k v e.1)).length with h0 | hp
  · rw [List.eq_nil_of_length_eq_zero h0, FilF_nil]
  · have hw : wid (z.filter (fun e => holdP c.toNat k v e.1)) = wid z := wid_of (fun e he => zsB_wid h e (List.mem_filter.1 he).1) hp
    rw [FilF_of hf (by rw [hw]; exact hv), List.filter_filter]
    refine List.filter_congr fun e _ => ?_
    simp
end Go.Proofs.Ytjlpkfcdkmcjnaa
