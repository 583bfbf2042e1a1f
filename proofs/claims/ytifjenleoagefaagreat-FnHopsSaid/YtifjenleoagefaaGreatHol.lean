/- HELPER, no statement of the seat: the hops from a vertex, as lists; no program. -/
import Derived.Test.YtifjenleoagefaaGreatCgc
namespace Go.Proofs.YtifjenleoagefaaGreat
open Go.RowKit Go.Sort
set_option linter.unusedSimpArgs false
set_option linter.unusedVariables false

def hopN (s : Nat) : Nat → List (List Nat) → List Ent
  | _, [] => []
  | n, l :: L => (vtx (l.getD s 0)).map (fun y => pr y n) ++ hopN s (n + 1) L
theorem hopN_snoc (s : Nat) : ∀ (L : List (List Nat)) (n : Nat) (l : List Nat), hopN s n (L ++ [l]) = hopN s n L ++ (vtx (l.getD s 0)).map (fun y => pr y (n + L.length))
  | [], n, l => by simp [hopN]
  | m :: L, n, l => by
    simp only [List.cons_append, hopN, hopN_snoc s L (n + 1) l, List.append_assoc, List.length_cons]
    rw [show n + 1 + L.length = n + (L.length + 1) by omega]
theorem hopN_step (s : Nat) (L : List (List Nat)) {i : Nat} (h : i < L.length) : hopN s 1 (L.take (i + 1)) = hopN s 1 (L.take i) ++ (vtx (L[i].getD s 0)).map (fun y => pr y (i + 1)) := by
  rw [List.take_succ_eq_append_getElem h, hopN_snoc, List.length_take, show 1 + min i L.length = i + 1 by omega]
theorem hopN_mem (s : Nat) : ∀ (L : List (List Nat)) (n : Nat) (e : Ent), e ∈ hopN s n L ↔ ∃ p ∈ numR n L, ∃ y, y < 20 ∧ hasR p.2 s y = true ∧ e = pr y p.1
  | [], n, e => by simp [hopN, numR]
  | l :: L, n, e => by
    simp only [hopN, numR, List.mem_append, hopN_mem s L (n + 1) e, List.mem_map, List.mem_cons, mem_vtx]
    constructor
    · rintro (⟨y, ⟨hy, h⟩, rfl⟩ | ⟨p, hp, h⟩)
      · exact ⟨(n, l), .inl rfl, y, hy, h, rfl⟩
      · exact ⟨p, .inr hp, h⟩
    · rintro ⟨p, rfl | hp, y, hy, h, e⟩
      · exact .inl ⟨y, ⟨hy, h⟩, e.symm⟩
      · exact .inr ⟨p, hp, y, hy, h, e⟩
theorem hopN_ones (s : Nat) (L : List (List Nat)) (n : Nat) : Ones (hopN s n L) := fun e he => by
  obtain ⟨p, _, y, _, _, rfl⟩ := (hopN_mem s L n e).1 he
  rfl
theorem hopN_two (s : Nat) (L : List (List Nat)) (n : Nat) : ∀ e ∈ hopN s n L, e.1.length = 2 ∧ e.2 = 1 := fun e he => by
  obtain ⟨p, _, y, _, _, rfl⟩ := (hopN_mem s L n e).1 he
  exact ⟨rfl, rfl⟩
theorem numR_le : ∀ (L : List (List Nat)) (n : Nat) (p : Nat × List Nat), p ∈ numR n L → p.1 < n + L.length
  | [], n, p, h => by simp [numR] at h
  | l :: L, n, p, h => by
    simp only [numR, List.mem_cons] at h
    rcases h with rfl | h
    · simp
    · have := numR_le L (n + 1) p h
      rw [List.length_cons]; omega
def key0 (e : Ent) : Int := e.1.headD 0
theorem vtx_nodup (a : Nat) : (vtx a).Nodup := List.Pairwise.sublist List.filter_sublist List.nodup_range
theorem hopN_keys (s : Nat) : ∀ {L : List (List Nat)} {f : List Nat} (n : Nat), OkR f → Djs f L → ((hopN s n L).map key0).Nodup
  | [], _, n, _, _ => by simp [hopN]
  | l :: L, f, n, hf, hd => by
    rw [hopN, List.map_append, List.nodup_append]
    refine ⟨?_, hopN_keys s (n + 1) (orR_ok hf hd.1) hd.2.2.2, fun a ha b hb => ?_⟩
    · have h := vtx_nodup (l.getD s 0)
      rw [List.nodup_iff_pairwise_ne] at h ⊢
      rw [List.map_map, List.pairwise_map]
      exact h.imp (fun {a b} h e => h (Int.ofNat_inj.1 (by simpa [key0, pr] using e)))
    · rintro rfl
      obtain ⟨e1, h1, rfl⟩ := List.mem_map.1 ha
      obtain ⟨y, hy, rfl⟩ := List.mem_map.1 h1
      obtain ⟨e2, h2, h4⟩ := List.mem_map.1 hb
      obtain ⟨p, hp, y', _, hxy, rfl⟩ := (hopN_mem s L (n + 1) e2).1 h2
      have e0 : (y' : Int) = y := by simpa [key0, pr] using h4
      have e : y' = y := by omega
      subst e
      have h5 := djs_disj (L := L) (orR_ok hf hd.1) hd.2.2.2 p.2 (numR_mem L (n + 1) p hp).1 s y'
      exact h5 ⟨by rw [orR_has hf hd.1, show hasR l s y' = true from (mem_vtx.1 hy).2]; simp, hxy⟩
theorem nodup_lenH {α : Type} [DecidableEq α] : ∀ (l m : List α), l.Nodup → (∀ x ∈ l, x ∈ m) → l.length ≤ m.length
  | [], m, _, _ => by simp
  | x :: l, m, hn, hs => by
    have hx := hs x (by simp)
    have h := nodup_lenH l (m.erase x) (List.nodup_cons.1 hn).2 (fun y hy => (List.mem_erase_of_ne (fun e => (List.nodup_cons.1 hn).1 (by rw [← e]; exact hy))).2 (hs y (by simp [hy])))
    rw [List.length_erase_of_mem hx] at h
    have := List.length_pos_of_mem hx
    rw [List.length_cons]; omega
theorem hopN_len {r : List Nat} (hr : OkR r) (s : Nat) : (hopN s 1 (rds r)).length ≤ 20 := by
  have h := nodup_lenH ((hopN s 1 (rds r)).map key0) ((List.range 20).map fun (x : Nat) => (x : Int)) (hopN_keys s 1 zeroR_ok (rds_djs hr)) (fun x hx => by
    obtain ⟨e, he, rfl⟩ := List.mem_map.1 hx
    obtain ⟨p, _, y, hy, _, rfl⟩ := (hopN_mem s _ _ e).1 he
    exact List.mem_map.2 ⟨y, by simpa using hy, rfl⟩)
  simpa using h
theorem hopN_sums {r : List Nat} (hr : OkR r) (s : Nat) : ∀ e ∈ hopN s 1 (rds r), sumE e = true := fun e he => by
  obtain ⟨p, hp, y, hy, _, rfl⟩ := (hopN_mem s _ _ e).1 he
  have h1 := numR_le _ _ _ hp
  have h2 := rds_len hr
  simp [sumE, pr, rowB, wtB, inB]
  omega
theorem AddL_keyH {b : List Ent} : ∀ {a : List Ent} {y : Ent}, y ∈ AddL a b → (∃ q ∈ a, y.1 = q.1) ∨ ∃ q ∈ b, y.1 = q.1 := AddL_keyD
theorem hop_ones {r : List Nat} (hr : OkR r) (s : Nat) : Ones (AddL [] (hopN s 1 (rds r))) := fun e he => by
  have hk : ((hopN s 1 (rds r)).map (·.1)).Nodup := by
    have h := hopN_keys s 1 zeroR_ok (rds_djs hr)
    rw [List.nodup_iff_pairwise_ne, List.pairwise_map] at h ⊢
    exact h.imp (fun {a b} h e => h (by unfold key0; rw [e]))
  have ho := hopN_ones s (rds r) 1
  have hA : Asc lessB (AddL [] (hopN s 1 (rds r))) := AddL_asc asc_nil _
  have h1 := wsum_mem hA he
  rw [AddL_wsum, wsum_nil, Int.zero_add, keys_wsum ho hk] at h1
  by_cases hm : (e.1, (1 : Int)) ∈ hopN s 1 (rds r)
  · rw [if_pos hm] at h1; exact h1.symm
  · exfalso
    obtain ⟨f, hf, hfe⟩ : ∃ f ∈ hopN s 1 (rds r), f.1 = e.1 := by
      rcases AddL_keyH he with ⟨q, hq, _⟩ | ⟨q, hq, e2⟩
      · cases hq
      · exact ⟨q, hq, e2.symm⟩
    exact hm (by rw [← hfe, ← ho f hf]; exact hf)
theorem hop_zs {r : List Nat} (hr : OkR r) (s : Nat) : zsB (AddL [] (hopN s 1 (rds r))) = true := by
  have hk : ∀ e ∈ AddL [] (hopN s 1 (rds r)), e ∈ hopN s 1 (rds r) := fun e he => by
    have h1 := hop_ones hr s e he
    rcases AddL_keyH he with ⟨q, hq, _⟩ | ⟨q, hq, e2⟩
    · cases hq
    · have h2 := hopN_ones s (rds r) 1 q hq
      rw [show e = q from Prod.ext e2 (h1.trans h2.symm)]; exact hq
  have hlen : (AddL [] (hopN s 1 (rds r))).length ≤ 400 := by
    have h1 := hopN_len hr s
    have : ∀ (b a : List Ent), (AddL a b).length ≤ a.length + b.length := fun b => by
      induction b with
      | nil => intro a; simp [AddL]
      | cons x b ih =>
        intro a
        have h1 := ih (insK lessB a x.1 x.2)
        have h2 := insK_length (lt := lessB) a x.1 x.2
        show (AddL (insK lessB a x.1 x.2) b).length ≤ _
        rw [List.length_cons]; omega
    have h2 := this (hopN s 1 (rds r)) []
    simp at h2; omega
  exact zsB_mk (n := 2) hlen (fun e he => hopN_sums hr s e (hk e he)) (fun e he => by rw [hop_ones hr s e he]; decide) (fun e he => (hopN_two s _ _ e (hk e he)).1) (AddL_asc asc_nil _)
theorem hop_norm {r : List Nat} (hr : OkR r) (s : Nat) : NormF (hopN s 1 (rds r)) = AddL [] (hopN s 1 (rds r)) := by
  have h1 := hopN_len hr s
  have h2 : sumsB (hopN s 1 (rds r)) = true := allTo_iff.2 (fun j hj => by rw [nth_get hj]; exact hopN_sums hr s _ (List.getElem_mem hj))
  have h3 : nz (AddL [] (hopN s 1 (rds r))) = AddL [] (hopN s 1 (rds r)) := zsB_nz (hop_zs hr s)
  have h4 : NormL (hopN s 1 (rds r)) = AddL [] (hopN s 1 (rds r)) := rfl
  unfold NormF
  rw [h2, h4, h3, if_pos (by simp; omega), chkF, if_pos (hop_zs hr s)]
/-! ### The hops out of the pairs -/
def hopE (s n : Nat) (l : List Ent) : List Ent := (l.filter fun e => decide (e.1.headD 0 = (s : Int))).map fun e => ([e.1.getD 1 0, (n : Int)], 1)
theorem flat_one (f : Nat → List Ent) (s : Nat) : ∀ n, ((List.range n).flatMap fun x => if x = s then f x else []) = if s < n then f s else []
  | 0 => by simp
  | n + 1 => by
    rw [List.range_succ, List.flatMap_append, flat_one f s n]
    by_cases h : n = s
    · subst h; simp
    · by_cases h2 : s < n
      · simp [h, h2, show s < n + 1 by omega]
      · simp [h, h2, show ¬ s < n + 1 by omega]
theorem hopE_prs {s : Nat} (hs : s < 20) (n : Nat) (l : List Nat) : hopE s n (prs l) = (vtx (l.getD s 0)).map (fun y => pr y n) := by
  unfold hopE prs
  rw [List.filter_flatMap]
  have h : ∀ x : Nat, ((vtx (l.getD x 0)).map (pr x)).filter (fun e => decide (e.1.headD 0 = (s : Int))) = if x = s then (vtx (l.getD x 0)).map (pr x) else [] := fun x => by
    by_cases h : x = s
    · subst h
      rw [if_pos rfl, List.filter_eq_self]
      intro e he
      obtain ⟨y, _, rfl⟩ := List.mem_map.1 he
      simp [pr]
    · rw [if_neg h, List.filter_eq_nil_iff]
      intro e he
      obtain ⟨y, _, rfl⟩ := List.mem_map.1 he
      simp [pr]; omega
  simp only [h]
  rw [flat_one (fun x => (vtx (l.getD x 0)).map (pr x)) s 20, if_pos hs, List.map_map]
  rfl
def hpTo (s : Nat) (L : List (List Nat)) (i k : Nat) : List Ent := hopN s 1 (L.take i) ++ hopE s (i + 1) ((prs (L.getD i [])).take k)
theorem hpTo_zero (s : Nat) (L : List (List Nat)) (i : Nat) : hpTo s L i 0 = hopN s 1 (L.take i) := by simp [hpTo, hopE]
theorem hpTo_next {s : Nat} (hs : s < 20) {L : List (List Nat)} {i : Nat} (h : i < L.length) : hpTo s L i (prs L[i]).length = hpTo s L (i + 1) 0 := by
  rw [hpTo_zero, hopN_step s L h, hpTo, show L.getD i [] = L[i] by simp [h], List.take_length, hopE_prs hs]
theorem hpTo_step {s : Nat} {L : List (List Nat)} {i k : Nat} (h : i < L.length) (hk : k < (prs L[i]).length) : hpTo s L i (k + 1) = hpTo s L i k ++ if (prs L[i])[k].1.headD 0 = (s : Int) then [([(prs L[i])[k].1.getD 1 0, ((i + 1 : Nat) : Int)], 1)] else [] := by
  have e : L.getD i [] = L[i] := by simp [h]
  rw [hpTo, hpTo, e, List.take_succ_eq_append_getElem hk, List.append_assoc]
  congr 1
  unfold hopE
  rw [List.filter_append, List.map_append]
  congr 1
  generalize (prs L[i])[k] = f
  by_cases hc : f.1.headD 0 = (s : Int)
  · simp only [List.filter_cons, hc, decide_true, if_true, List.filter_nil, List.map_cons, List.map_nil]
  · simp only [List.filter_cons, hc, decide_false, if_false, List.filter_nil, List.map_nil, Bool.false_eq_true]
theorem hopE_len (s n : Nat) (l : List Ent) : (hopE s n l).length ≤ l.length := by
  rw [hopE, List.length_map]; exact List.length_filter_le _ _
theorem hopN_le (s : Nat) : ∀ (L : List (List Nat)) (n : Nat), (hopN s n L).length ≤ L.length * 400
  | [], n => by simp [hopN]
  | l :: L, n => by
    have h1 := hopN_le s L (n + 1)
    have h2 := vtx_len (l.getD s 0)
    rw [hopN, List.length_append, List.length_map, List.length_cons, Nat.succ_mul]; omega
theorem hpTo_len (s : Nat) {L : List (List Nat)} (hL : L.length ≤ 400) (i k : Nat) : (hpTo s L i k).length ≤ 160400 := by
  have h1 := hopN_le s (L.take i) 1
  have h2 : (L.take i).length ≤ 400 := by rw [List.length_take]; omega
  have h3 := prs_len (L.getD i [])
  have h5 := hopE_len s (i + 1) ((prs (L.getD i [])).take k)
  rw [hpTo, List.length_append]
  rw [List.length_take] at h5
  have h4 : (L.take i).length * 400 ≤ 400 * 400 := Nat.mul_le_mul_right _ h2
  omega
theorem hpTo_end (s : Nat) (L : List (List Nat)) : hpTo s L L.length 0 = hopN s 1 L := by rw [hpTo_zero, List.take_length]
theorem hpTo_two {s : Nat} (hs : s < 20) (L : List (List Nat)) (i k : Nat) : ∀ e ∈ hpTo s L i k, e.1.length = 2 ∧ e.2 = 1 := fun e he => by
  rcases List.mem_append.1 he with h | h
  · exact hopN_two s _ _ e h
  · obtain ⟨f, _, rfl⟩ := List.mem_map.1 h
    exact ⟨rfl, rfl⟩
def HopsF (es : List Ent) (s : Int) : List Ent := if (edgB es && decide (0 ≤ s ∧ s ≤ 19)) = true then AddL [] (hopN s.toNat 1 (rds (relOf es))) else []
theorem HopsF_len (es : List Ent) (s : Int) : (HopsF es s).length ≤ 400 := by
  unfold HopsF; split
  · rename_i h
    simp only [Bool.and_eq_true] at h
    exact zsB_len (hop_zs (relOf_ok h.1) _)
  · simp
theorem HopsF_row (es : List Ent) (s : Int) : rowsIn (HopsF es s) 4194304 := fun e he => by
  unfold HopsF at he; split at he
  · rename_i h
    simp only [Bool.and_eq_true] at h
    have := zsB_row (hop_zs (relOf_ok h.1) _) e he
    omega
  · cases he
end Go.Proofs.YtifjenleoagefaaGreat
