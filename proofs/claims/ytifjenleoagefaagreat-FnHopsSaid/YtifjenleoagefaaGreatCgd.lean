/- HELPER, no statement of the seat: several texts in one file. -/
import Derived.Test.YtifjenleoagefaaGreatCga
import Derived.Test.YtifjenleoagefaaGreatZbx
/- HELPER, no statement of the seat: what holds of closures, as relations; no program. -/
namespace Go.Proofs.YtifjenleoagefaaGreat
open Go.RowKit Go.Sort
set_option linter.unusedSimpArgs false
set_option linter.unusedVariables false

def TrB (z : List Ent) : Bool := edgB z && decide (nandR (thenR (relOf z) (relOf z)) (relOf z) = zeroR)
def SubR (r s : List Nat) : Prop := ∀ x y, hasR r x y = true → hasR s x y = true
def TrR (r : List Nat) : Prop := ∀ x y z, hasR r x y = true → hasR r y z = true → hasR r x z = true
theorem relOf_prs {r : List Nat} (hr : OkR r) : relOf (prs r) = r := prs_inj (relOf_ok (prs_edg r)) hr (prs_relOf (prs_edg r))
theorem orR_zero {r : List Nat} (hr : OkR r) : orR zeroR r = r := rel_ext (orR_ok zeroR_ok hr) hr (fun x y => by rw [orR_has zeroR_ok hr, zeroR_has]; rfl)
theorem closR_self {r : List Nat} (hr : OkR r) (ht : TrR r) : closR r = r := by
  unfold closR rds
  rw [rdsR]
  by_cases h0 : r = zeroR
  · rw [if_pos h0]; exact h0.symm
  · rw [if_neg h0, orR_zero hr]
    have hz : nandR (thenR r r) r = zeroR := rel_ext (nandR_ok (thenR_ok hr hr) hr) zeroR_ok (fun x z => by
      rw [nandR_has (thenR_ok hr hr) hr, zeroR_has]
      cases h : hasR (thenR r r) x z with
      | false => rfl
      | true =>
        obtain ⟨y, h1, h2⟩ := (thenR_has hr x z).1 h
        rw [ht x y z h1 h2]; rfl)
    rw [hz, rdsR, if_pos rfl, List.foldl_cons, List.foldl_nil, orR_zero hr]
theorem closR_tr {r : List Nat} (hr : OkR r) : TrR (closR r) := fun x y z h1 h2 => closR_trans hr h1 h2
theorem closR_idem {r : List Nat} (hr : OkR r) : closR (closR r) = closR r := closR_self (closR_ok hr) (closR_tr hr)
theorem trR_iff {r : List Nat} (hr : OkR r) : nandR (thenR r r) r = zeroR ↔ TrR r := by
  constructor
  · intro h x y z h1 h2
    have h3 : hasR (thenR r r) x z = true := (thenR_has hr x z).2 ⟨y, h1, h2⟩
    have h4 : hasR (nandR (thenR r r) r) x z = false := by rw [h, zeroR_has]
    rw [nandR_has (thenR_ok hr hr) hr, h3] at h4
    simpa using h4
  · intro ht
    refine rel_ext (nandR_ok (thenR_ok hr hr) hr) zeroR_ok (fun x z => ?_)
    rw [nandR_has (thenR_ok hr hr) hr, zeroR_has]
    cases h : hasR (thenR r r) x z with
    | false => rfl
    | true =>
      obtain ⟨y, h1, h2⟩ := (thenR_has hr x z).1 h
      rw [ht x y z h1 h2]; rfl
/-- What holds of the edges, and goes on over an edge, holds of the closure. -/
theorem rdsR_ind {r : List Nat} (hr : OkR r) (T : Nat → Nat → Prop) (hT : ∀ x y z, T x y → hasR r y z = true → T x z) : ∀ (n : Nat) (f l : List Nat), RdInv f l → (∀ x y, hasR l x y = true → T x y) → ∀ k ∈ rdsR r n f l, ∀ x y, hasR k x y = true → T x y
  | 0, _, _, _, _, k, hk => by simp [rdsR] at hk
  | n + 1, f, l, hI, hl, k, hk => by
    unfold rdsR at hk
    by_cases h0 : l = zeroR
    · rw [if_pos h0] at hk; cases hk
    · rw [if_neg h0] at hk
      rcases List.mem_cons.1 hk with rfl | hk
      · exact hl
      · refine rdsR_ind hr T hT n _ _ (hI.next hr) (fun x z h => ?_) k hk
        have hg := orR_ok hI.okf hI.okl
        have ht := thenR_ok hI.okl hr
        rw [nandR_has ht hg, Bool.and_eq_true] at h
        obtain ⟨y, h3, h4⟩ := (thenR_has hI.okl x z).1 h.1
        exact hT x y z (hl x y h3) h4
theorem closR_ind {r : List Nat} (hr : OkR r) (T : Nat → Nat → Prop) (h0 : ∀ x y, hasR r x y = true → T x y) (hT : ∀ x y z, T x y → hasR r y z = true → T x z) {x y : Nat} (h : hasR (closR r) x y = true) : T x y := by
  obtain ⟨l, hl, h⟩ := (closR_has hr x y).1 h
  exact rdsR_ind hr T hT 401 zeroR r (RdInv.start hr) h0 l hl x y h
theorem closR_min {r t : List Nat} (hr : OkR r) (hs : SubR r t) (ht : TrR t) : SubR (closR r) t := fun x y h =>
  closR_ind hr (fun x y => hasR t x y = true) hs (fun x y z h1 h2 => ht x y z h1 (hs y z h2)) h
theorem closR_mono {r s : List Nat} (hr : OkR r) (hs : OkR s) (h : SubR r s) : SubR (closR r) (closR s) := closR_min hr (fun x y hxy => closR_sub hs (h x y hxy)) (closR_tr hs)
theorem sub_nand {r s : List Nat} (hr : OkR r) (hs : OkR s) : SubR (nandR r s) r := fun x y h => by
  rw [nandR_has hr hs, Bool.and_eq_true] at h; exact h.1
theorem sub_or {r s : List Nat} (hr : OkR r) (hs : OkR s) : SubR r (orR r s) := fun x y h => by rw [orR_has hr hs, h]; rfl
theorem sub_and_l {r s : List Nat} (hr : OkR r) (hs : OkR s) : SubR (andR r s) r := fun x y h => by
  rw [andR_has hr hs, Bool.and_eq_true] at h; exact h.1
theorem sub_and_r {r s : List Nat} (hr : OkR r) (hs : OkR s) : SubR (andR r s) s := fun x y h => by
  rw [andR_has hr hs, Bool.and_eq_true] at h; exact h.2
theorem and_of_sub {r s : List Nat} (hr : OkR r) (hs : OkR s) (h : SubR s r) : andR r s = s := rel_ext2 (andR_ok hr hs) hs (fun x y => by
  rw [andR_has hr hs, Bool.and_eq_true]
  exact ⟨fun h => h.2, fun h2 => ⟨h x y h2, h2⟩⟩)
theorem or_nand {r s : List Nat} (hr : OkR r) (hs : OkR s) (h : SubR r s) : orR r (nandR s r) = s := rel_ext (orR_ok hr (nandR_ok hs hr)) hs (fun x y => by
  have hxy := h x y
  rw [orR_has hr (nandR_ok hs hr), nandR_has hs hr]
  cases h1 : hasR r x y <;> cases h2 : hasR s x y <;> simp_all)
theorem nand_or {r s : List Nat} (hr : OkR r) (hs : OkR s) (hd : DisjR r s) : nandR (orR r s) s = r := rel_ext (nandR_ok (orR_ok hr hs) hs) hr (fun x y => by
  have hxy := hd x y
  rw [nandR_has (orR_ok hr hs) hs, orR_has hr hs]
  cases h1 : hasR r x y <;> cases h2 : hasR s x y <;> simp_all)
theorem disj_nand {r s : List Nat} (hr : OkR r) (hs : OkR s) : DisjR s (nandR r s) := fun x y ⟨h1, h2⟩ => by
  rw [nandR_has hr hs, h1] at h2; simp at h2

/-! Z-sets of pairs. -/
theorem prs_weight {s : List Nat} (hs : OkR s) (x y : Nat) : WeightF (prs s) [(x : Int), (y : Int)] = if hasR s x y = true then 1 else 0 := by
  rw [WeightF, if_pos (prs_zs s), ones_wOf (prs_ones s)]
  have h1 : (([(x : Int), (y : Int)], (1 : Int)) ∈ prs s) ↔ hasR s x y = true := has_prs hs x y
  by_cases h : hasR s x y = true
  · rw [if_pos h, if_pos (h1.2 h)]
  · rw [if_neg h, if_neg (fun h2 => h (h1.1 h2))]
def subE (a b : List Ent) : Bool := a.all fun e => decide (WeightF b e.1 ≠ 0)
theorem subE_prs {r s : List Nat} (hr : OkR r) (hs : OkR s) : subE (prs r) (prs s) = true ↔ SubR r s := by
  rw [subE, List.all_eq_true]
  constructor
  · intro h x y hxy
    have h1 := h (pr x y) ((has_prs hr x y).2 hxy)
    rw [decide_eq_true_eq, pr, prs_weight hs] at h1
    by_cases h2 : hasR s x y = true
    · exact h2
    · rw [if_neg h2] at h1; exact absurd rfl h1
  · intro h e he
    obtain ⟨x, y, _, _, hxy, rfl⟩ := mem_prs.1 he
    rw [decide_eq_true_eq, pr, prs_weight hs, if_pos (h x y hxy)]
    decide
theorem sub_all {r s : List Nat} (hr : OkR r) (hs : OkR s) (h : SubR r s) : ∀ e ∈ prs r, WeightF (prs s) e.1 ≠ 0 := fun e he => by
  have := List.all_eq_true.1 ((subE_prs hr hs).2 h) e he
  simpa using this
theorem prs_set (r : List Nat) : setB (prs r) = true := by
  have h := prs_edg r
  simp only [edgB, Bool.and_eq_true] at h
  exact h.1
theorem ClosF_prs {r : List Nat} (hr : OkR r) : ClosF (prs r) = prs (closR r) := by rw [ClosF, if_pos (prs_edg r), relOf_prs hr]
theorem AddF_uni {r s : List Nat} (hr : OkR r) (hs : OkR s) : zsB (AddF (prs r) (prs s)) = true ∧ DisF (AddF (prs r) (prs s)) = prs (orR r s) ∧ (AddF (prs r) (prs s)).length = (prs (orR r s)).length := by
  obtain ⟨h1, h2⟩ := uni_ok hr hs
  have h3 : AddF (prs r) (prs s) = nz (AddL (prs r) (prs s)) := by rw [AddF, prs_zs, prs_zs]; simp [chkF, h1]
  rw [h3]
  refine ⟨h1, by rw [DisF_is h1, h2], ?_⟩
  rw [← h2]
  have hp : ∀ e ∈ nz (AddL (prs r) (prs s)), 0 < e.2 := fun e he => by
    have hasc : Asc lessB (nz (AddL (prs r) (prs s))) := List.Pairwise.sublist List.filter_sublist (AddL_asc (prs_asc r) _)
    have h4 := nz_mem e he
    have h5 := wsum_mem hasc he
    rw [nz_wsum, AddL_wsum, ones_wsum (prs_asc r) (prs_ones r), ones_wsum (prs_asc s) (prs_ones s)] at h5
    split at h5 <;> split at h5 <;> omega
  unfold disL
  rw [List.length_map, List.filter_eq_self.2 (fun e he => by simpa using hp e he)]
theorem AddF_disj {r s : List Nat} (hr : OkR r) (hs : OkR s) (h : (AddF (prs r) (prs s)).length = (prs r).length + (prs s).length) : DisjR r s := by
  rw [(AddF_uni hr hs).2.2] at h
  have h1 : szR (orR r s) = szR r + szR s := h
  rw [szR_count, szR_count, szR_count] at h1
  have h2 : (cellsR.countP fun p => hasR (orR r s) p.1 p.2) = cellsR.countP fun p => hasR r p.1 p.2 || hasR s p.1 p.2 := by
    congr 1; funext p; exact orR_has hr hs p.1 p.2
  rw [h2] at h1
  have key : ∀ (l : List (Nat × Nat)), l.countP (fun p => hasR r p.1 p.2 || hasR s p.1 p.2) ≤ l.countP (fun p => hasR r p.1 p.2) + l.countP (fun p => hasR s p.1 p.2) ∧ (l.countP (fun p => hasR r p.1 p.2 || hasR s p.1 p.2) = l.countP (fun p => hasR r p.1 p.2) + l.countP (fun p => hasR s p.1 p.2) → ∀ p ∈ l, ¬ (hasR r p.1 p.2 = true ∧ hasR s p.1 p.2 = true)) := by
    intro l
    induction l with
    | nil => exact ⟨by simp, fun _ p hp => by cases hp⟩
    | cons q l ih =>
      simp only [List.countP_cons]
      cases hq1 : hasR r q.1 q.2 <;> cases hq2 : hasR s q.1 q.2 <;> simp only [Bool.or_self, Bool.or_true, Bool.true_or, Bool.false_eq_true, if_true, if_false]
      · refine ⟨by omega, fun h p hp => ?_⟩
        rcases List.mem_cons.1 hp with rfl | hp
        · simp [hq1]
        · exact ih.2 (by omega) p hp
      · refine ⟨by omega, fun h p hp => ?_⟩
        rcases List.mem_cons.1 hp with rfl | hp
        · simp [hq1]
        · exact ih.2 (by omega) p hp
      · refine ⟨by omega, fun h p hp => ?_⟩
        rcases List.mem_cons.1 hp with rfl | hp
        · simp [hq2]
        · exact ih.2 (by omega) p hp
      · exact ⟨by omega, fun h => by omega⟩
  intro x y hxy
  have hx : x < 20 := by
    rcases Nat.lt_or_ge x 20 with h | h
    · exact h
    · rw [hasR_out hr h] at hxy; exact absurd hxy.1 (by simp)
  have hy : y < 20 := by
    rcases Nat.lt_or_ge y 20 with h | h
    · exact h
    · rw [hr.big h] at hxy; exact absurd hxy.1 (by simp)
  exact (key cellsR).2 h1 (x, y) (by simp [cellsR]; exact ⟨hx, hy⟩) hxy
/-- The difference of two sets of pairs. -/
theorem minF_ws {r s : List Nat} (k : List Int) : wsum (nz (AddL (prs r) (NegF (prs s)))) k = (if (k, (1 : Int)) ∈ prs r then 1 else 0) - if (k, (1 : Int)) ∈ prs s then 1 else 0 := by
  rw [nz_wsum, AddL_wsum, NegF_of (prs_zs s), wsum_negL, ones_wsum (prs_asc r) (prs_ones r), ones_wsum (prs_asc s) (prs_ones s)]
  omega
theorem minF_asc (r s : List Nat) : Asc lessB (nz (AddL (prs r) (NegF (prs s)))) := List.Pairwise.sublist List.filter_sublist (AddL_asc (prs_asc r) _)
theorem nand_mem {r s : List Nat} (hr : OkR r) (hs : OkR s) (k : List Int) : (k, (1 : Int)) ∈ prs (nandR r s) ↔ (k, (1 : Int)) ∈ prs r ∧ (k, (1 : Int)) ∉ prs s := by
  simp only [mem_prs, nandR_has hr hs, Bool.and_eq_true]
  constructor
  · rintro ⟨x, y, hx, hy, ⟨h1, h2⟩, e⟩
    refine ⟨⟨x, y, hx, hy, h1, e⟩, ?_⟩
    rintro ⟨x', y', _, _, h3, e'⟩
    obtain ⟨rfl, rfl⟩ := pr_inj (e.symm.trans e')
    rw [h3] at h2; simp at h2
  · rintro ⟨⟨x, y, hx, hy, h1, e⟩, h2⟩
    refine ⟨x, y, hx, hy, ⟨h1, ?_⟩, e⟩
    cases h3 : hasR s x y
    · rfl
    · exact absurd ⟨x, y, hx, hy, h3, e⟩ h2
theorem nodup_len {α : Type} [DecidableEq α] : ∀ (l m : List α), l.Nodup → (∀ x ∈ l, x ∈ m) → l.length ≤ m.length
  | [], m, _, _ => by simp
  | x :: l, m, hn, hs => by
    have hx := hs x (by simp)
    have h := nodup_len l (m.erase x) (List.nodup_cons.1 hn).2 (fun y hy => (List.mem_erase_of_ne (fun e => (List.nodup_cons.1 hn).1 (by rw [← e]; exact hy))).2 (hs y (by simp [hy])))
    rw [List.length_erase_of_mem hx] at h
    have := List.length_pos_of_mem hx
    rw [List.length_cons]; omega
theorem minF_len {r s : List Nat} (hr : OkR r) (hs : OkR s) : (nz (AddL (prs r) (NegF (prs s)))).length ≤ 400 := by
  have hm : ∀ e ∈ nz (AddL (prs r) (NegF (prs s))), (e.1, (1 : Int)) ∈ prs (orR r s) := fun e he => by
    have h1 := nz_mem e he
    have h2 := wsum_mem (minF_asc r s) he
    rw [minF_ws] at h2
    have h3 : (e.1, (1 : Int)) ∈ prs r ∨ (e.1, (1 : Int)) ∈ prs s := by
      by_cases c1 : (e.1, (1 : Int)) ∈ prs r
      · exact .inl c1
      · by_cases c2 : (e.1, (1 : Int)) ∈ prs s
        · exact .inr c2
        · rw [if_neg c1, if_neg c2] at h2; omega
    simp only [mem_prs, orR_has hr hs, Bool.or_eq_true] at h3 ⊢
    rcases h3 with ⟨x, y, hx, hy, h, e⟩ | ⟨x, y, hx, hy, h, e⟩
    · exact ⟨x, y, hx, hy, .inl h, e⟩
    · exact ⟨x, y, hx, hy, .inr h, e⟩
  have ha : ∀ l : List Ent, Asc lessB l → Asc lessB (l.map fun e => (e.1, (1 : Int))) := fun l hl => by
    unfold Asc; rw [List.pairwise_map]; exact hl
  have hnd : ((nz (AddL (prs r) (NegF (prs s)))).map fun e => (e.1, (1 : Int))).Nodup := by
    refine List.Pairwise.imp (fun {a b} h e => ?_) (ha _ (minF_asc r s))
    rw [e, rowTot.irrefl] at h; cases h
  have hsub : ∀ e ∈ (nz (AddL (prs r) (NegF (prs s)))).map fun e => (e.1, (1 : Int)), e ∈ prs (orR r s) := fun e he => by
    obtain ⟨q, hq, rfl⟩ := List.mem_map.1 he
    exact hm q hq
  have h4 := nodup_len _ _ hnd hsub
  rw [List.length_map] at h4
  exact Nat.le_trans h4 (prs_len _)
theorem minF_dis {r s : List Nat} (hr : OkR r) (hs : OkR s) : zsB (AddF (prs r) (NegF (prs s))) = true ∧ DisF (AddF (prs r) (NegF (prs s))) = prs (nandR r s) ∧ (SubR s r → AddF (prs r) (NegF (prs s)) = prs (nandR r s)) := by
  have hasc := minF_asc r s
  have hrow : ∀ e ∈ nz (AddL (prs r) (NegF (prs s))), (e.2 = 1 ∨ e.2 = -1) ∧ rowB e.1 = true ∧ e.1.length = 2 := fun e he => by
    have h1 := nz_mem e he
    have h2 := wsum_mem hasc he
    rw [minF_ws] at h2
    by_cases c1 : (e.1, (1 : Int)) ∈ prs r <;> by_cases c2 : (e.1, (1 : Int)) ∈ prs s <;> simp only [c1, c2, if_true, if_false] at h2
    · omega
    · exact ⟨.inl (by omega), prs_row r (e.1, 1) c1⟩
    · exact ⟨.inr (by omega), prs_row s (e.1, 1) c2⟩
    · omega
  have hz : zsB (nz (AddL (prs r) (NegF (prs s)))) = true := zsB_mk (n := 2) (minF_len hr hs) (fun e he => by
    have h1 := (hrow e he).1
    have h2 := (hrow e he).2.1
    simp [sumE, h2, wtB, inB]; omega) (fun e he => nz_mem e he) (fun e he => (hrow e he).2.2) hasc
  have he : AddF (prs r) (NegF (prs s)) = nz (AddL (prs r) (NegF (prs s))) := by
    rw [AddF, prs_zs, zsB_NegF (prs_zs s)]; simp [chkF, hz]
  have hd : disL (nz (AddL (prs r) (NegF (prs s)))) = prs (nandR r s) := ones_ext (disL_ascR hasc) (prs_asc _) (disL_ones _) (prs_ones _) (fun k => by
    rw [disL_oneR hasc, minF_ws, nand_mem hr hs]
    by_cases c1 : (k, (1 : Int)) ∈ prs r <;> by_cases c2 : (k, (1 : Int)) ∈ prs s <;> simp [c1, c2])
  rw [he]
  refine ⟨hz, by rw [DisF_is hz, hd], fun hsub => ?_⟩
  rw [← hd]
  refine (disL_self (fun e hm => ?_)).symm
  have h1 := nz_mem e hm
  have h2 := wsum_mem hasc hm
  rw [minF_ws] at h2
  have h3 : (e.1, (1 : Int)) ∈ prs s → (e.1, (1 : Int)) ∈ prs r := fun h => by
    obtain ⟨x, y, hx, hy, hxy, e'⟩ := mem_prs.1 h
    exact mem_prs.2 ⟨x, y, hx, hy, hsub x y hxy, e'⟩
  by_cases c1 : (e.1, (1 : Int)) ∈ prs r <;> by_cases c2 : (e.1, (1 : Int)) ∈ prs s <;> simp only [c1, c2, if_true, if_false] at h2
  · omega
  · omega
  · exact absurd (h3 c2) c1
  · omega
/-- Parts of edges are edges. -/
theorem edgB_sub {a b : List Ent} (h : a.Sublist b) (hb : edgB b = true) : edgB a = true := by
  obtain ⟨h1, h2, h3⟩ := edgB_parts hb
  have hm : ∀ e ∈ a, e ∈ b := fun e he => h.subset he
  have hasc : Asc lessB b := zsB_asc h1
  have hz : zsB a = true := zsB_mk (n := 2) (Nat.le_trans h.length_le (zsB_len h1)) (fun e he => by
    have := h2 e (hm e he)
    obtain ⟨j, hj, rfl⟩ := List.getElem_of_mem (hm e he)
    have hg := zsB_get h1 hj
    simp [sumE, hg.1, hg.2.1]) (fun e he => by rw [h2 e (hm e he)]; decide) (fun e he => by
    have := h3 e (hm e he)
    simp [edgeE] at this; exact this.1) (List.Pairwise.sublist h hasc)
  simp only [edgB, setB, oneB, Bool.and_eq_true]
  refine ⟨⟨hz, allTo_iff.2 fun j hj => ?_⟩, allTo_iff.2 fun j hj => ?_⟩
  · rw [nth_get hj, h2 _ (hm _ (List.getElem_mem hj))]; rfl
  · rw [nth_get hj]; exact h3 _ (hm _ (List.getElem_mem hj))
theorem relOf_sub {a b : List Ent} (h : a.Sublist b) (hb : edgB b = true) : SubR (relOf a) (relOf b) := fun x y hxy => (relOf_has hb x y).2 (h.subset ((relOf_has (edgB_sub h hb) x y).1 hxy))

/-! Deletions. -/
theorem over_sub {r g : List Nat} (hr : OkR r) (hg : OkR g) (hsub : SubR g r) : SubR (overR (closR r) g) (closR r) := fun x y h => by
  have hc := closR_ok hr
  have h1 := (has_prs (overR_ok hc hg) x y).2 h
  rw [← overE_prs hr hg hsub] at h1
  exact (has_prs hc x y).1 (List.mem_filter.1 h1).1
theorem over_has {c e : List Nat} (hc : OkR c) (he : OkR e) (x y : Nat) : hasR (overR c e) x y = true ↔ ∃ u v, hasR (orR c idR) x u = true ∧ hasR e u v = true ∧ hasR (orR c idR) v y = true := by
  unfold overR
  rw [thenR_has (thenR_ok (orR_ok hc idR_ok) he)]
  constructor
  · rintro ⟨v, h1, h2⟩
    obtain ⟨u, h3, h4⟩ := (thenR_has (orR_ok hc idR_ok) x v).1 h1
    exact ⟨u, v, h3, h4, h2⟩
  · rintro ⟨u, v, h3, h4, h2⟩
    exact ⟨v, (thenR_has (orR_ok hc idR_ok) x v).2 ⟨u, h3, h4⟩, h2⟩
theorem id_self {c : List Nat} (hc : OkR c) {x y : Nat} {e : List Nat} (he : OkR e) (h : hasR e x y = true) : hasR (orR c idR) x x = true ∧ hasR (orR c idR) y y = true := by
  rw [orR_has hc idR_ok, orR_has hc idR_ok, Bool.or_eq_true, Bool.or_eq_true, idR_has, idR_has]
  refine ⟨.inr ⟨?_, rfl⟩, .inr ⟨?_, rfl⟩⟩
  · rcases Nat.lt_or_ge x 20 with h' | h'
    · exact h'
    · rw [hasR_out he h'] at h; cases h
  · rcases Nat.lt_or_ge y 20 with h' | h'
    · exact h'
    · rw [he.big h'] at h; cases h
theorem edge_over {r g : List Nat} (hr : OkR r) (hg : OkR g) : SubR g (overR (closR r) g) := fun x y h => by
  have hc := closR_ok hr
  obtain ⟨h1, h2⟩ := id_self hc hg h
  exact (over_has hc hg x y).2 ⟨x, y, h1, h, h2⟩
/-- A pair of the closure is one of the rest, or overdeleted. -/
theorem rest_or_over {r m : List Nat} (hr : OkR r) (hm : OkR m) {x y : Nat} (h : hasR (closR r) x y = true) : hasR (closR (nandR r m)) x y = true ∨ hasR (overR (closR r) (andR r m)) x y = true := by
  have hn := nandR_ok hr hm
  have ha := andR_ok hr hm
  have hc := closR_ok hr
  have hedge : ∀ u v, hasR r u v = true → hasR (nandR r m) u v = true ∨ hasR (andR r m) u v = true := fun u v h => by
    rw [nandR_has hr hm, andR_has hr hm, h]
    cases hasR m u v <;> simp
  refine closR_ind hr (fun x y => hasR (closR (nandR r m)) x y = true ∨ hasR (overR (closR r) (andR r m)) x y = true) (fun x y h => ?_) (fun x y z h1 h2 => ?_) h
  · rcases hedge x y h with h | h
    · exact .inl (closR_sub hn h)
    · exact .inr (edge_over hr ha x y h)
  · rcases h1 with h1 | h1
    · rcases hedge y z h2 with h3 | h3
      · exact .inl (closR_step hn h1 h3)
      · right
        have hxy : hasR (closR r) x y = true := closR_mono hn hr (sub_nand hr hm) x y h1
        refine (over_has hc ha x z).2 ⟨y, z, ?_, h3, (id_self hc ha h3).2⟩
        rw [orR_has hc idR_ok, hxy]; rfl
    · right
      obtain ⟨u, v, h3, h4, h5⟩ := (over_has hc ha x y).1 h1
      refine (over_has hc ha x z).2 ⟨u, v, h3, h4, ?_⟩
      rw [orR_has hc idR_ok, Bool.or_eq_true] at h5 ⊢
      rcases h5 with h5 | h5
      · exact .inl (closR_step hr h5 h2)
      · obtain ⟨_, rfl⟩ := (idR_has v y).1 h5
        exact .inl (closR_sub hr h2)
theorem del_over {r m : List Nat} (hr : OkR r) (hm : OkR m) : orR (redG r (closR r) m) (delG r (closR r) m) = ovrG r (closR r) m ∧ DisjR (redG r (closR r) m) (delG r (closR r) m) := by
  have hn := nandR_ok hr hm
  have ha := andR_ok hr hm
  have hc := closR_ok hr
  have hk := closR_ok hn
  have ho := overR_ok hc ha
  have hsub := over_sub hr ha (sub_and_l hr hm)
  unfold redG delG ovrG
  constructor
  · refine rel_ext2 (orR_ok (andR_ok ho hk) (nandR_ok hc hk)) ho (fun x y => ?_)
    rw [orR_has (andR_ok ho hk) (nandR_ok hc hk), andR_has ho hk, nandR_has hc hk]
    have h1 := hsub x y
    have h2 := rest_or_over hr hm (x := x) (y := y)
    cases h3 : hasR (overR (closR r) (andR r m)) x y <;> cases h4 : hasR (closR (nandR r m)) x y <;> cases h5 : hasR (closR r) x y <;> simp_all
  · intro x y ⟨h1, h2⟩
    rw [andR_has ho hk, Bool.and_eq_true] at h1
    rw [nandR_has hc hk, h1.2] at h2
    simp at h2
end Go.Proofs.YtifjenleoagefaaGreat

/- HELPER, no statement of the seat: the laws on closures, as lists; no program. -/
namespace Go.Proofs.YtifjenleoagefaaGreat
open Go.RowKit Go.Sort
set_option linter.unusedSimpArgs false
set_option linter.unusedVariables false

theorem edg_rel {z : List Ent} (h : edgB z = true) : ∃ R, OkR R ∧ z = prs R := ⟨relOf z, relOf_ok h, (prs_relOf h).symm⟩
theorem mntF_prs {R M : List Nat} (hR : OkR R) (hM : OkR M) (G : List Nat → List Nat → List Nat → List Nat) : MntF G (prs R) (prs (closR R)) (prs M) = prs (G R (closR R) M) := by
  have hc := closR_ok hR
  have h : mntB (prs R) (prs (closR R)) (prs M) = true := by
    simp only [mntB, prs_edg, relOf_prs hR, relOf_prs hc, Bool.true_and, decide_true]
  rw [MntF, if_pos h, relOf_prs hR, relOf_prs hc, relOf_prs hM]
theorem mnt3 {z y x : List Ent} (h1 : edgB z = true) (h2 : edgB x = true) (h3 : ClosF z = y) : ∃ R M, OkR R ∧ OkR M ∧ z = prs R ∧ x = prs M ∧ y = prs (closR R) ∧ ∀ G, MntF G z y x = prs (G R (closR R) M) := by
  obtain ⟨R, hR, rfl⟩ := edg_rel h1
  obtain ⟨M, hM, rfl⟩ := edg_rel h2
  rw [ClosF_prs hR] at h3
  subst h3
  exact ⟨R, M, hR, hM, rfl, rfl, rfl, fun G => mntF_prs hR hM G⟩
/-- P62 -/
theorem tr_law {z : List Ent} (h : edgB z = true) : decide (ClosF z = z) = TrB z := by
  obtain ⟨R, hR, rfl⟩ := edg_rel h
  rw [ClosF_prs hR, TrB, prs_edg, relOf_prs hR, Bool.true_and, Bool.eq_iff_iff, decide_eq_true_eq, decide_eq_true_eq, trR_iff hR]
  constructor
  · intro h; have h1 := prs_inj (closR_ok hR) hR h; rw [← h1]; exact closR_tr hR
  · intro h; rw [closR_self hR h]
/-- P61 -/
theorem clo_law {z : List Ent} (h : edgB z = true) : (∀ e ∈ z, WeightF (ClosF z) e.1 ≠ 0) ∧ TrB (ClosF z) = true ∧ ClosF (ClosF z) = ClosF z ∧ edgB (ClosF z) = true := by
  obtain ⟨R, hR, rfl⟩ := edg_rel h
  have hc := closR_ok hR
  rw [ClosF_prs hR, ClosF_prs hc, closR_idem hR]
  refine ⟨sub_all hR hc (fun x y h => closR_sub hR h), ?_, rfl, prs_edg _⟩
  rw [TrB, prs_edg, relOf_prs hc, Bool.true_and, decide_eq_true_eq, trR_iff hc]
  exact closR_tr hR
theorem min_law {z y : List Ent} (h : edgB z = true) (h2 : TrB y = true) (h3 : subE z y = true) : ∀ e ∈ ClosF z, WeightF y e.1 ≠ 0 := by
  obtain ⟨R, hR, rfl⟩ := edg_rel h
  have h4 : edgB y = true := by simp only [TrB, Bool.and_eq_true] at h2; exact h2.1
  obtain ⟨S, hS, rfl⟩ := edg_rel h4
  rw [TrB, prs_edg, relOf_prs hS, Bool.true_and, decide_eq_true_eq, trR_iff hS] at h2
  rw [ClosF_prs hR]
  exact sub_all (closR_ok hR) hS (closR_min hR ((subE_prs hR hS).1 h3) h2)
/-- P63 -/
theorem mono_law {a z : List Ent} (h : edgB z = true) (hs : a.Sublist z) : ∀ e ∈ ClosF a, WeightF (ClosF z) e.1 ≠ 0 := by
  have ha := edgB_sub hs h
  have h1 := relOf_sub hs h
  rw [ClosF, if_pos ha, ClosF, if_pos h]
  exact sub_all (closR_ok (relOf_ok ha)) (closR_ok (relOf_ok h)) (closR_mono (relOf_ok ha) (relOf_ok h) h1)
/-- P73 -/
theorem ins_law {z y x : List Ent} (h1 : edgB z = true) (h2 : edgB x = true) (h3 : ClosF z = y) : AddF y (MntF insG z y x) = ClosF (DisF (AddF z x)) := by
  obtain ⟨R, M, hR, hM, rfl, rfl, rfl, hF⟩ := mnt3 h1 h2 h3
  have ho := orR_ok hR hM
  have hn := nandR_ok (closR_ok ho) (closR_ok hR)
  rw [hF, (AddF_uni hR hM).2.1, ClosF_prs ho, insG, add_prs (closR_ok hR) hn (disj_nand (closR_ok ho) (closR_ok hR)), or_nand (closR_ok hR) (closR_ok ho) (closR_mono hR ho (sub_or hR hM))]
/-- P74 -/
theorem del_law {z y x : List Ent} (h1 : edgB z = true) (h2 : edgB x = true) (h3 : ClosF z = y) : (∀ e ∈ MntF delG z y x, WeightF y e.1 ≠ 0) ∧ AddF y (NegF (MntF delG z y x)) = ClosF (DisF (AddF z (NegF x))) := by
  obtain ⟨R, M, hR, hM, rfl, rfl, rfl, hF⟩ := mnt3 h1 h2 h3
  have hc := closR_ok hR
  have hn := nandR_ok hR hM
  have hk := closR_ok hn
  have hd : OkR (delG R (closR R) M) := nandR_ok hc hk
  rw [hF, (minF_dis hR hM).2.1, ClosF_prs hn, (minF_dis hc hd).2.2 (sub_nand hc hk)]
  refine ⟨sub_all hd hc (sub_nand hc hk), ?_⟩
  rw [delG, nand_nand hc hk, and_of_sub hc hk (closR_mono hn hR (sub_nand hR hM))]
/-- P75 -/
theorem over_law {z y x : List Ent} (h1 : edgB z = true) (h2 : edgB x = true) (h3 : ClosF z = y) : AddF (MntF redG z y x) (MntF delG z y x) = MntF ovrG z y x ∧ ∀ e ∈ DisF (AddF z (NegF (DisF (AddF z (NegF x))))), WeightF (MntF ovrG z y x) e.1 ≠ 0 := by
  obtain ⟨R, M, hR, hM, rfl, rfl, rfl, hF⟩ := mnt3 h1 h2 h3
  have hc := closR_ok hR
  have hn := nandR_ok hR hM
  have ha := andR_ok hR hM
  have hk := closR_ok hn
  have ho : OkR (overR (closR R) (andR R M)) := overR_ok hc ha
  obtain ⟨h4, h5⟩ := del_over hR hM
  rw [hF, hF, hF, (minF_dis hR hM).2.1, (minF_dis hR hn).2.1, nand_nand hR hM]
  refine ⟨?_, sub_all ha ho (edge_over hR ha)⟩
  exact (add_prs (r := redG R (closR R) M) (s := delG R (closR R) M) (andR_ok ho hk) (nandR_ok hc hk) h5).trans (congrArg prs h4)
/-- P76 -/
theorem red_law {z y x : List Ent} (h : MntF redG z y x ≠ []) : (∀ e ∈ MntF redG z y x, WeightF (MntF ovrG z y x) e.1 ≠ 0) ∧ ∀ e ∈ MntF redG z y x, WeightF (ClosF (DisF (AddF z (NegF x)))) e.1 ≠ 0 := by
  have hm : mntB z y x = true := by
    cases h1 : mntB z y x
    · exact absurd (by rw [MntF, h1]; rfl) h
    · rfl
  simp only [mntB, Bool.and_eq_true, decide_eq_true_eq] at hm
  obtain ⟨h1, h2, h3, h4⟩ := hm
  have h5 : ClosF z = y := by rw [ClosF, if_pos h1, h4, prs_relOf h2]
  obtain ⟨R, M, hR, hM, rfl, rfl, rfl, hF⟩ := mnt3 h1 h3 h5
  have hc := closR_ok hR
  have hn := nandR_ok hR hM
  have ho : OkR (overR (closR R) (andR R M)) := overR_ok hc (andR_ok hR hM)
  have hk := closR_ok hn
  rw [hF, hF, (minF_dis hR hM).2.1, ClosF_prs hn]
  exact ⟨sub_all (andR_ok ho hk) ho (sub_and_l ho hk), sub_all (andR_ok ho hk) hk (sub_and_r ho hk)⟩
/-- P77 -/
theorem insdel_law {z y x : List Ent} (h1 : edgB z = true) (h2 : edgB x = true) (h3 : ClosF z = y) (h4 : (AddF z x).length = z.length + x.length) : MntF delG (AddF z x) (AddF y (MntF insG z y x)) x = MntF insG z y x := by
  obtain ⟨R, M, hR, hM, rfl, rfl, rfl, hF⟩ := mnt3 h1 h2 h3
  have hd := AddF_disj hR hM h4
  have ho := orR_ok hR hM
  have hn := nandR_ok (closR_ok ho) (closR_ok hR)
  rw [hF, add_prs hR hM hd]
  have h5 : AddF (prs (closR R)) (prs (insG R (closR R) M)) = prs (closR (orR R M)) := by
    rw [insG, add_prs (closR_ok hR) hn (disj_nand (closR_ok ho) (closR_ok hR)), or_nand (closR_ok hR) (closR_ok ho) (closR_mono hR ho (sub_or hR hM))]
  rw [h5, mntF_prs ho hM, delG, nand_or hR hM hd, insG]
theorem mntF_edg (G : List Nat → List Nat → List Nat → List Nat) (z y x : List Ent) : edgB (MntF G z y x) = true := by
  unfold MntF; split
  · exact prs_edg _
  · exact (by rw [← prs_zero]; exact prs_edg _)
end Go.Proofs.YtifjenleoagefaaGreat
