/- HELPER, no statement of the seat: the program's Add. -/
import Derived.Test.YtifjenleoagefaaGreatBld
namespace Go.Proofs.YtifjenleoagefaaGreat
open Go.RowKit Go.Sort
set_option linter.unusedSimpArgs false
set_option linter.unusedVariables false

theorem EntsOw.cap {w : World} {S : Fp} {A : Option Addr} {c : Nat} {es : List Ent} (h : EntsOw w S A c es) : es.length ≤ c := by
  obtain ⟨css, F, h⟩ := h
  rcases h.form with ⟨_, _, rfl⟩ | ⟨g, _, _, _, h1, _⟩
  · simp
  · exact h1
theorem chkF_len (es : List Ent) : (chkF es).length ≤ 400 := by
  unfold chkF
  split
  · rename_i h; exact zsB_len h
  · simp
theorem chkF_row (es : List Ent) : rowsIn (chkF es) 6 := by
  unfold chkF
  split
  · rename_i h; exact zsB_row h
  · intro e he; cases he
theorem AddF_len (a b : List Ent) : (AddF a b).length ≤ 400 := by
  unfold AddF
  split
  · exact chkF_len _
  · simp
theorem AddF_row (a b : List Ent) : rowsIn (AddF a b) 6 := by
  unfold AddF
  split
  · exact chkF_row _
  · intro e he; cases he
theorem NormF_len (a : List Ent) : (NormF a).length ≤ 400 := by
  unfold NormF
  split
  · exact chkF_len _
  · simp
theorem NormF_row (a : List Ent) : rowsIn (NormF a) 6 := by
  unfold NormF
  split
  · exact chkF_row _
  · intro e he; cases he

theorem AddL_length (a : List Ent) : ∀ b : List Ent, (AddL a b).length ≤ a.length + b.length := by
  intro b
  induction b generalizing a with
  | nil => simp [AddL]
  | cons x b ih =>
    have h1 := ih (insK lessB a x.1 x.2)
    have h2 := insK_length (lt := lessB) a x.1 x.2
    show (AddL (insK lessB a x.1 x.2) b).length ≤ _
    rw [List.length_cons]
    omega
theorem AddL_rows {n : Nat} {a : List Ent} (h : rowsIn a n) : ∀ {b : List Ent}, rowsIn b n → rowsIn (AddL a b) n := by
  intro b hb
  induction b generalizing a with
  | nil => exact h
  | cons x b ih => exact ih (rows_ins h (hb x (by simp)) x.2) (fun e he => hb e (by simp [he]))
/-- es is the sum of what has come of a and b, and nothing that is still to come lies below any of it. -/
structure Merged (a b : List Ent) (i j : Nat) (es : List Ent) : Prop where
  asc : Asc lessB es
  sum : ∀ r, wsum es r = wsum (a.take i) r + wsum (b.take j) r
  overA : Over lessB es (a.drop i)
  overB : Over lessB es (b.drop j)
  len : es.length ≤ i + j
  wts : wIn es ((i + j) * 1000000)
  rows : rowsIn es 4194304
theorem Merged.start (a b : List Ent) : Merged a b 0 0 [] :=
  ⟨List.Pairwise.nil, fun r => by simp [wsum_nil], over_nil _, over_nil _, by simp, (fun e he => by cases he), (fun e he => by cases he)⟩
theorem less_total {x y : List Int} (h : cmpL x y ≤ 0) : lessB y x = false := by
  rw [lessB_not]
  have := cmpL_anti x y
  omega
theorem drop_mem {a : List Ent} {i : Nat} {x : Ent} (h : x ∈ a.drop (i + 1)) (hi : i < a.length) : x ∈ a.drop i := by
  rw [List.drop_eq_getElem_cons hi]
  exact List.mem_cons_of_mem _ h
theorem Merged.left {a b es : List Ent} {i j : Nat} (h : Merged a b i j es) (ha : zsB a = true) (hb : zsB b = true) (hi : i < a.length) (hj : j < b.length) (hc : cmpL a[i].1 b[j].1 ≤ 0) : Merged a b (i + 1) j (addM es a[i]) := by
  have ia : a[i] ∈ a.drop i := by rw [List.drop_eq_getElem_cons hi]; exact List.mem_cons_self
  have hA := zsB_asc ha
  have hB := zsB_asc hb
  have hle := less_total hc
  refine ⟨addM_asc rowTot h.asc (fun y hy => h.overA _ ia y hy), fun r => ?_, over_add rowTot (fun x hx y hy => h.overA x (drop_mem hx hi) y hy) (fun y hy => ?_), over_add rowTot h.overB (fun y hy => ?_), by have := addM_length es a[i]; have := h.len; omega, ?_, ?_⟩
  · rw [addM_wsum, h.sum, List.take_succ_eq_append_getElem hi, wsum_append, wsum_cons, wsum_nil]; omega
  · obtain ⟨k, hk, rfl⟩ := List.getElem_of_mem hy
    rw [List.getElem_drop]
    exact rowTot.asymm (asc_lt hA hi (by simp at hk; omega) (by omega))
  · obtain ⟨k, hk, rfl⟩ := List.getElem_of_mem hy
    rw [List.getElem_drop]
    by_cases h0 : k = 0
    · subst h0; exact hle
    · exact ge_trans rowTot hle (rowTot.asymm (asc_lt hB hj (by simp at hk; omega) (by omega)))
  · have := addM_in h.wts (by omega) (by omega : (0 : Int) ≤ 1000000) (zsB_wt ha hi)
    refine this.mono ?_
    push_cast; omega
  · exact addM_all (p := fun r : List Int => r.length ≤ 4194304) h.rows (by have := zsB_row ha a[i] (List.getElem_mem hi); omega)
theorem Merged.right {a b es : List Ent} {i j : Nat} (h : Merged a b i j es) (ha : zsB a = true) (hb : zsB b = true) (hi : i < a.length) (hj : j < b.length) (hc : 0 < cmpL a[i].1 b[j].1) : Merged a b i (j + 1) (addM es b[j]) := by
  have ib : b[j] ∈ b.drop j := by rw [List.drop_eq_getElem_cons hj]; exact List.mem_cons_self
  have hA := zsB_asc ha
  have hB := zsB_asc hb
  have hle : lessB a[i].1 b[j].1 = false := by rw [lessB_not]; omega
  refine ⟨addM_asc rowTot h.asc (fun y hy => h.overB _ ib y hy), fun r => ?_, over_add rowTot h.overA (fun y hy => ?_), over_add rowTot (fun x hx y hy => h.overB x (drop_mem hx hj) y hy) (fun y hy => ?_), by have := addM_length es b[j]; have := h.len; omega, ?_, ?_⟩
  · rw [addM_wsum, h.sum, List.take_succ_eq_append_getElem hj, wsum_append, wsum_cons, wsum_nil]; omega
  · obtain ⟨k, hk, rfl⟩ := List.getElem_of_mem hy
    rw [List.getElem_drop]
    by_cases h0 : k = 0
    · subst h0; exact hle
    · exact ge_trans rowTot hle (rowTot.asymm (asc_lt hA hi (by simp at hk; omega) (by omega)))
  · obtain ⟨k, hk, rfl⟩ := List.getElem_of_mem hy
    rw [List.getElem_drop]
    exact rowTot.asymm (asc_lt hB hj (by simp at hk; omega) (by omega))
  · have := addM_in h.wts (by omega) (by omega : (0 : Int) ≤ 1000000) (zsB_wt hb hj)
    refine this.mono ?_
    push_cast; omega
  · exact addM_all (p := fun r : List Int => r.length ≤ 4194304) h.rows (by have := zsB_row hb b[j] (List.getElem_mem hj); omega)
/-- The rest behind what was merged: the sum of both. -/
theorem Merged.done {a b es : List Ent} {i j : Nat} (h : Merged a b i j es) (ha : zsB a = true) (hb : zsB b = true) (hend : a.length ≤ i ∨ b.length ≤ j) : nz (sumM (sumM es (a.drop i)) (b.drop j)) = nz (AddL a b) := by
  have hA := asc_up rowTot (zsB_asc ha)
  have hB := asc_up rowTot (zsB_asc hb)
  refine nz_ext rowTot ?_ (AddL_asc (zsB_asc ha) b) (fun r => ?_)
  · refine sumM_asc rowTot _ _ (sumM_asc rowTot _ _ h.asc (up_drop hA i) h.overA) (up_drop hB j) ?_
    refine over_sum rowTot _ _ h.overB (fun x hx y hy => ?_)
    rcases hend with he | he
    · rw [List.drop_eq_nil_of_le he] at hy; cases hy
    · rw [List.drop_eq_nil_of_le he] at hx; cases hx
  · have h1 : wsum a r = wsum (a.take i) r + wsum (a.drop i) r := by rw [← wsum_append, List.take_append_drop]
    have h2 : wsum b r = wsum (b.take j) r + wsum (b.drop j) r := by rw [← wsum_append, List.take_append_drop]
    rw [sumM_wsum, sumM_wsum, h.sum, AddL_wsum]
    omega

theorem sumB_e (w0 w : World) (A : Option Addr) (c : Nat) (es : List Ent) (css : List (List Value)) (h : BAt w0 w A c es css) (hn : es.length ≤ 4194304) :
    Calls Tryz.prog 81 #[.pointer (some ⟨w0.heap.size, 0, none⟩)] w fun e w' => ∃ A' c', e = .returned (.slice A' (nz es).length c') ∧ EntsAt w' A' (nz es) ∧ Below w0.heap.size w0 w' := by
  have q0 := h.bk.one
  have H := Lib.hid h
  clear h
  go_enter Tryz.func81, Tryz.ntmps81
  go_wp2_with fail
  refine (delZ_e w0 w (w0.heap.size + 1) A c es css H.out.bel (by omega) H.out.row H.out.rd hn).mono ?_
  rintro e w1 ⟨A1, c1, rfl, ha, hb⟩
  go_wp2_with fail
  go_ret
  exact ⟨A1, c1, rfl, ha, hb⟩

def lenVA : Value → Nat
  | .slice _ n _ => n
  | _ => 0
theorem EntsAt.tail {w : World} {b off : Nat} {x : Ent} {xs : List Ent} (h : EntsAt w (some ⟨b, off, none⟩) (x :: xs)) : EntsAt w (some ⟨b, off + 2, none⟩) xs := fun hp => by
  obtain ⟨b', off', e, hl, hc⟩ := h (by simp)
  injection e with e
  injection e with e1 e2
  subst e1
  subst e2
  refine ⟨b, off + 2, rfl, hl, fun j hj => ?_⟩
  obtain ⟨cs, hl2, hcell, hr⟩ := hc (j + 1) (by simp; omega)
  refine ⟨cs, hl2, fun i hi => ?_, by simpa using hr⟩
  rw [← hcell i hi, show off + 2 + j * 2 + i = off + (j + 1) * 2 + i by omega]
theorem drop_cons {α : Type} {x : α} {xs a : List α} {i : Nat} (h : x :: xs = a.drop i) : ∃ hi : i < a.length, x = a[i] ∧ xs = a.drop (i + 1) := by
  have hi : i < a.length := by
    rcases Nat.lt_or_ge i a.length with h' | h'
    · exact h'
    · rw [List.drop_eq_nil_of_le h'] at h; cases h
  rw [List.drop_eq_getElem_cons hi] at h
  injection h with h1 h2
  exact ⟨hi, h1, h2⟩

end Go.Proofs.YtifjenleoagefaaGreat
