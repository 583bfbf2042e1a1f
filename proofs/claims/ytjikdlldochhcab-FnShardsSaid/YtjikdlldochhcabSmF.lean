/- HELPER, no statement of the seat: filters of small Z-sets, as lists; no program. -/
import Derived.Test.YtjikdlldochhcabSmM
import Derived.Test.YtjikdlldochhcabFilI
namespace Go.Proofs.Ytjikdlldochhcab
set_option linter.unusedSimpArgs false
set_option linter.unusedVariables false

/-! ### Filters -/
theorem wsum_fil (p : List Int → Bool) (l : List Ent) (r : List Int) : wsum (l.filter fun e => p e.1) r = if p r = true then wsum l r else 0 := by
  induction l with
  | nil => simp [wsum_nil]
  | cons x l ih =>
    by_cases hx : p x.1 = true
    · rw [List.filter_cons_of_pos (by simpa using hx), wsum_cons, ih, wsum_cons]
      by_cases e : x.1 = r
      · subst e; simp [hx]
      · simp [e]
    · rw [List.filter_cons_of_neg (by simpa using hx), ih, wsum_cons]
      by_cases e : x.1 = r
      · subst e; simp [hx]
      · simp [e]
theorem Sm.fil {n k : Nat} {b : Int} {z : List Ent} (h : Sm n k b z) (p : Ent → Bool) : Sm n k b (z.filter p) :=
  ⟨zsB_filter p h.zs, Nat.le_trans (List.length_filter_le _ _) h.len, fun e he => h.wt e (List.mem_filter.1 he).1, fun e he => h.wd e (List.mem_filter.1 he).1⟩
theorem fil_add {n k m : Nat} {b d : Int} {x y : List Ent} (hx : Sm n k b x) (hy : Sm n m d y) (hb : 0 ≤ b) (hd : 0 ≤ d) (hl : k + m ≤ 400) (hw : b + d ≤ 1000000) (p : List Int → Bool) :
    (AddF x y).filter (fun e => p e.1) = AddF (x.filter fun e => p e.1) (y.filter fun e => p e.1) := by
  refine zs_ext (zsB_filter _ (hx.add hy hb hd hl hw).zs) ((hx.fil _).add (hy.fil _) hb hd hl hw).zs (fun r => ?_)
  rw [wsum_fil, hx.add_wsum hy hb hd hl hw, (hx.fil _).add_wsum (hy.fil _) hb hd hl hw, wsum_fil, wsum_fil]
  split <;> omega
theorem FilF_nil (c k v : Int) : FilF [] c k v = [] := by simp [FilF]
theorem FilF_Sm {n k : Nat} {b : Int} {z : List Ent} (h : Sm n k b z) {c kd v : Int} (hv : pvB c kd v n = true) : FilF z c kd v = z.filter (fun e => holdP c.toNat kd v e.1) := by
  rcases Nat.eq_zero_or_pos z.length with h0 | hp
  · rw [List.eq_nil_of_length_eq_zero h0]; simp [FilF]
  · simp [FilF, h.zs, wid_of h.wd hp, hv]
theorem FilF_bad {n k : Nat} {b : Int} {z : List Ent} (h : Sm n k b z) {c kd v : Int} (hv : pvB c kd v n = false) : FilF z c kd v = [] := by
  rcases Nat.eq_zero_or_pos z.length with h0 | hp
  · rw [List.eq_nil_of_length_eq_zero h0]; simp [FilF]
  · simp [FilF, h.zs, wid_of h.wd hp, hv]
theorem FilF_add {n : Nat} {x y : List Ent} (hx : Sm n 12 9 x) (hy : Sm n 12 9 y) (c kd v : Int) : FilF (AddF x y) c kd v = AddF (FilF x c kd v) (FilF y c kd v) := by
  have ha := hx.add hy (by omega) (by omega) (by omega) (by omega)
  cases hv : pvB c kd v n
  · rw [FilF_bad ha hv, FilF_bad hx hv, FilF_bad hy hv]; rfl
  · rw [FilF_Sm ha hv, FilF_Sm hx hv, FilF_Sm hy hv]
    exact fil_add hx hy (by omega) (by omega) (by omega) (by omega) _
theorem zsB_dividing {z : List Ent} (h : zsB z = true) (p q : List Int → Bool) (hpq : ∀ e ∈ z, q e.1 = !p e.1) : AddF (z.filter fun e => p e.1) (z.filter fun e => q e.1) = z := by
  have h1 := zsB_filter (fun e => p e.1) h
  have h2 := zsB_filter (fun e => q e.1) h
  have h3 : nz (AddL (z.filter fun e => p e.1) (z.filter fun e => q e.1)) = z := by
    rw [← zsB_nz h]
    conv => lhs; rw [zsB_nz h]
    refine nz_ext rowTot (AddL_asc (zsB_asc h1) _) (zsB_asc h) (fun r => ?_)
    rw [AddL_wsum, wsum_fil, wsum_fil]
    by_cases hr : ∃ e ∈ z, e.1 = r
    · obtain ⟨e, he, rfl⟩ := hr
      rw [hpq e he]
      cases p e.1 <;> simp
    · have h0 := wsum_zero (l := z) (r := r) (fun x hx e => hr ⟨x, hx, e⟩)
      rw [h0]; split <;> split <;> rfl
  simp [AddF, h1, h2, h3, chkF, h]

end Go.Proofs.Ytjikdlldochhcab
