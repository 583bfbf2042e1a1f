/- HELPER, no statement of the seat: what the model does with closures that are maintained, as relations; no program. -/
import Derived.Test.YtifjenleoagefaaRm
namespace Go.Proofs.Ytifjenleoagefaa
open Go.RowKit Go.Sort
set_option linter.unusedSimpArgs false
set_option linter.unusedVariables false

theorem rel_ext {r s : List Nat} (hr : OkR r) (hs : OkR s) (h : ∀ x y, hasR r x y = hasR s x y) : r = s := by
  apply List.ext_getElem (by rw [hr.len, hs.len])
  intro i h1 h2
  apply Nat.eq_of_testBit_eq
  intro y
  have := h i y
  unfold hasR at this
  rw [gd_lt h1, gd_lt h2] at this
  exact this
theorem prs_inj {r s : List Nat} (hr : OkR r) (hs : OkR s) (h : prs r = prs s) : r = s := rel_ext hr hs ((prs_ext hr hs).1 h)
theorem rel_ext2 {r s : List Nat} (hr : OkR r) (hs : OkR s) (h : ∀ x y, hasR r x y = true ↔ hasR s x y = true) : r = s := rel_ext hr hs (fun x y => Bool.eq_iff_iff.2 (h x y))

/-! The model's union. -/
theorem uni_ok {r s : List Nat} (hr : OkR r) (hs : OkR s) : zsB (nz (AddL (prs r) (prs s))) = true ∧ disL (nz (AddL (prs r) (prs s))) = prs (orR r s) := by
  have hasc : Asc lessB (nz (AddL (prs r) (prs s))) := List.Pairwise.sublist List.filter_sublist (AddL_asc (prs_asc r) _)
  have hws : ∀ k, wsum (nz (AddL (prs r) (prs s))) k = (if (k, (1 : Int)) ∈ prs r then 1 else 0) + if (k, (1 : Int)) ∈ prs s then 1 else 0 := fun k => by
    rw [nz_wsum, AddL_wsum, ones_wsum (prs_asc r) (prs_ones r), ones_wsum (prs_asc s) (prs_ones s)]
  have h0 : ∀ k, (k, (1 : Int)) ∈ prs (orR r s) ↔ (k, (1 : Int)) ∈ prs r ∨ (k, (1 : Int)) ∈ prs s := fun k => by
    simp only [mem_prs, orR_has hr hs, Bool.or_eq_true]
    constructor
    · rintro ⟨x, y, hx, hy, h | h, e⟩
      · exact .inl ⟨x, y, hx, hy, h, e⟩
      · exact .inr ⟨x, y, hx, hy, h, e⟩
    · rintro (⟨x, y, hx, hy, h, e⟩ | ⟨x, y, hx, hy, h, e⟩)
      · exact ⟨x, y, hx, hy, .inl h, e⟩
      · exact ⟨x, y, hx, hy, .inr h, e⟩
  have hd : disL (nz (AddL (prs r) (prs s))) = prs (orR r s) := ones_ext (disL_ascR hasc) (prs_asc _) (disL_ones _) (prs_ones _) (fun k => by
    rw [disL_oneR hasc, hws, h0]
    by_cases c1 : (k, (1 : Int)) ∈ prs r <;> by_cases c2 : (k, (1 : Int)) ∈ prs s <;> simp [c1, c2])
  have hin : ∀ e ∈ nz (AddL (prs r) (prs s)), (e.2 = 1 ∨ e.2 = 2) ∧ (e.1, (1 : Int)) ∈ prs (orR r s) := fun e he => by
    have h1 := nz_mem e he
    have h2 := wsum_mem hasc he
    rw [hws] at h2
    rw [h0]
    by_cases c1 : (e.1, (1 : Int)) ∈ prs r <;> by_cases c2 : (e.1, (1 : Int)) ∈ prs s <;> simp only [c1, c2, if_true, if_false] at h2 <;> simp [c1, c2] <;> omega
  have hlen : (nz (AddL (prs r) (prs s))).length ≤ 400 := by
    have : (nz (AddL (prs r) (prs s))).length = (disL (nz (AddL (prs r) (prs s)))).length := by
      conv => rhs; unfold disL
      rw [List.length_map, List.filter_eq_self.2 (fun e he => by have := (hin e he).1; simp; omega)]
    rw [this, hd]; exact prs_len _
  refine ⟨zsB_mk (n := 2) hlen (fun e he => ?_) (fun e he => nz_mem e he) (fun e he => (prs_row _ _ (hin e he).2).2) hasc, hd⟩
  have h1 := (hin e he).1
  have h2 : rowB e.1 = true := (prs_row _ _ (hin e he).2).1
  simp [sumE, h2, wtB, inB]
  omega
theorem uni_prs {r s : List Nat} (hr : OkR r) (hs : OkR s) : disL (chkF (nz (AddL (prs r) (prs s)))) = prs (orR r s) := by
  rw [chkF, if_pos (uni_ok hr hs).1, (uni_ok hr hs).2]
theorem nand_nand {r s : List Nat} (hr : OkR r) (hs : OkR s) : nandR r (nandR r s) = andR r s :=
  rel_ext (nandR_ok hr (nandR_ok hr hs)) (andR_ok hr hs) (fun x y => by
    rw [nandR_has hr (nandR_ok hr hs), nandR_has hr hs, andR_has hr hs]
    cases hasR r x y <;> cases hasR s x y <;> rfl)

/-! The closure is transitive. -/
theorem fold_has : ∀ (L : List (List Nat)) (f : List Nat), OkR f → (∀ l ∈ L, OkR l) → ∀ x y, hasR (L.foldl orR f) x y = true ↔ hasR f x y = true ∨ ∃ l ∈ L, hasR l x y = true
  | [], f, _, _, x, y => by simp
  | l :: L, f, hf, hL, x, y => by
    have hl := hL l (by simp)
    rw [List.foldl_cons, fold_has L _ (orR_ok hf hl) (fun k hk => hL k (by simp [hk])), orR_has hf hl, Bool.or_eq_true]
    constructor
    · rintro ((h | h) | ⟨k, hk, h⟩)
      · exact .inl h
      · exact .inr ⟨l, by simp, h⟩
      · exact .inr ⟨k, by simp [hk], h⟩
    · rintro (h | ⟨k, hk, h⟩)
      · exact .inl (.inl h)
      · rcases List.mem_cons.1 hk with rfl | hk
        · exact .inl (.inr h)
        · exact .inr ⟨k, hk, h⟩
theorem rdsR_cont {r : List Nat} (hr : OkR r) : ∀ (n : Nat) (f l : List Nat), RdInv f l → 400 - szR f < n → (∀ x y z, hasR f x y = true → hasR r y z = true → hasR (orR f l) x z = true) →
    ∀ x y z, hasR ((rdsR r n f l).foldl orR f) x y = true → hasR r y z = true → hasR ((rdsR r n f l).foldl orR f) x z = true
  | 0, _, _, _, h, _ => by omega
  | n + 1, f, l, hI, hn, hc => by
    unfold rdsR
    by_cases hl : l = zeroR
    · rw [if_pos hl]
      intro x y z h1 h2
      have := hc x y z h1 h2
      rw [hl, orR_has hI.okf zeroR_ok, zeroR_has] at this
      simpa using this
    · have hs := hI.sz hl
      rw [if_neg hl, List.foldl_cons]
      refine rdsR_cont hr n _ _ (hI.next hr) (by omega) (fun x y z h1 h2 => ?_)
      have hg := orR_ok hI.okf hI.okl
      have ht := thenR_ok hI.okl hr
      rw [orR_has hg (nandR_ok ht hg), nandR_has ht hg]
      by_cases h3 : hasR (orR f l) x z = true
      · simp [h3]
      · rw [orR_has hI.okf hI.okl, Bool.or_eq_true] at h1
        rcases h1 with h1 | h1
        · exact absurd (hc x y z h1 h2) h3
        · have h4 : hasR (thenR l r) x z = true := (thenR_has hI.okl x z).2 ⟨y, h1, h2⟩
          simp [h4, h3]
theorem rdsR_all {r : List Nat} (hr : OkR r) (F : List Nat) (hF : ∀ x y z, hasR F x y = true → hasR r y z = true → hasR F x z = true) : ∀ (n : Nat) (f l : List Nat), RdInv f l → (∀ x y z, hasR F x y = true → hasR l y z = true → hasR F x z = true) →
    ∀ k ∈ rdsR r n f l, ∀ x y z, hasR F x y = true → hasR k y z = true → hasR F x z = true
  | 0, _, _, _, _, k, hk => by simp [rdsR] at hk
  | n + 1, f, l, hI, hl, k, hk => by
    unfold rdsR at hk
    by_cases h0 : l = zeroR
    · rw [if_pos h0] at hk; cases hk
    · rw [if_neg h0] at hk
      rcases List.mem_cons.1 hk with rfl | hk
      · exact hl
      · refine rdsR_all hr F hF n _ _ (hI.next hr) (fun x y z h1 h2 => ?_) k hk
        have hg := orR_ok hI.okf hI.okl
        have ht := thenR_ok hI.okl hr
        rw [nandR_has ht hg, Bool.and_eq_true] at h2
        obtain ⟨w, h3, h4⟩ := (thenR_has hI.okl y z).1 h2.1
        exact hF x w z (hl x y w h1 h3) h4
theorem rds_ok {r : List Nat} (hr : OkR r) : ∀ l ∈ rds r, OkR l := fun l hl => (djs_mem (rds_djs hr) l hl).1
theorem closR_has {r : List Nat} (hr : OkR r) (x y : Nat) : hasR (closR r) x y = true ↔ ∃ l ∈ rds r, hasR l x y = true := by
  unfold closR
  rw [fold_has _ _ zeroR_ok (rds_ok hr), zeroR_has]
  simp
theorem closR_sub {r : List Nat} (hr : OkR r) {x y : Nat} (h : hasR r x y = true) : hasR (closR r) x y = true := by
  rw [closR_has hr]
  have h0 : r ≠ zeroR := fun e => by rw [e, zeroR_has] at h; cases h
  exact ⟨r, by unfold rds rdsR; rw [if_neg h0]; simp, h⟩
theorem closR_step {r : List Nat} (hr : OkR r) {x y z : Nat} (h1 : hasR (closR r) x y = true) (h2 : hasR r y z = true) : hasR (closR r) x z = true :=
  rdsR_cont hr 401 zeroR r (RdInv.start hr) (by omega) (fun x y z h => by rw [zeroR_has] at h; cases h) x y z h1 h2
theorem closR_trans {r : List Nat} (hr : OkR r) {x y z : Nat} (h1 : hasR (closR r) x y = true) (h2 : hasR (closR r) y z = true) : hasR (closR r) x z = true := by
  obtain ⟨l, hl, h⟩ := (closR_has hr y z).1 h2
  exact rdsR_all hr (closR r) (fun x y z h1 h2 => closR_step hr h1 h2) 401 zeroR r (RdInv.start hr) (fun x y z h1 h2 => closR_step hr h1 h2) l hl x y z h1 h

/-! What is overdeleted. -/
def idR : List Nat := (List.range 20).map fun x => 2 ^ x
theorem idR_ok : OkR idR := ⟨by simp [idR], fun a ha => by
  obtain ⟨x, hx, rfl⟩ := List.mem_map.1 ha
  have := List.mem_range.1 hx
  exact (Nat.pow_lt_pow_right (by decide) this : 2 ^ x < 2 ^ 20)⟩
theorem idR_has (x y : Nat) : hasR idR x y = true ↔ x < 20 ∧ x = y := by
  unfold hasR
  rcases Nat.lt_or_ge x 20 with h | h
  · rw [gd_lt (by simpa [idR] using h)]
    simp [idR, h, Nat.testBit_two_pow]
  · rw [gd_ge (by simpa [idR] using h)]
    simp; omega
def overR (c e : List Nat) : List Nat := thenR (thenR (orR c idR) e) (orR c idR)
theorem overR_ok {c e : List Nat} (hc : OkR c) (he : OkR e) : OkR (overR c e) := thenR_ok (thenR_ok (orR_ok hc idR_ok) he) (orR_ok hc idR_ok)
def reachB (cs : List Ent) (x y : Int) : Bool := decide (x = y) || decide (0 < wOf cs [x, y])
def hitB (cs : List Ent) (e f : Ent) : Bool := reachB cs (gi e.1 0) (gi f.1 0) && reachB cs (gi f.1 1) (gi e.1 1)
def overE (cs gs : List Ent) : List Ent := cs.filter fun e => gs.any fun f => hitB cs e f
theorem reachB_prs {c : List Nat} (hc : OkR c) {x y : Nat} (hx : x < 20) : reachB (prs c) (x : Int) (y : Int) = true ↔ hasR (orR c idR) x y = true := by
  rw [orR_has hc idR_ok, Bool.or_eq_true, idR_has, reachB, Bool.or_eq_true, decide_eq_true_eq, decide_eq_true_eq, ones_wOf (prs_ones c)]
  have h1 : (([(x : Int), (y : Int)], (1 : Int)) ∈ prs c) ↔ hasR c x y = true := has_prs hc x y
  by_cases h : hasR c x y = true
  · simp [h1, h]
  · simp [h1, h, hx]; omega
theorem overE_prs {r g : List Nat} (hr : OkR r) (hg : OkR g) (hsub : ∀ x y, hasR g x y = true → hasR r x y = true) : overE (prs (closR r)) (prs g) = prs (overR (closR r) g) := by
  have hc := closR_ok hr
  have ho := overR_ok hc hg
  have h1 : Ones (overE (prs (closR r)) (prs g)) := fun e he => prs_ones _ e (List.mem_filter.1 he).1
  refine ones_ext (List.Pairwise.sublist List.filter_sublist (prs_asc _)) (prs_asc _) h1 (prs_ones _) (fun k => ?_)
  have hov : ∀ x y, hasR (overR (closR r) g) x y = true ↔ ∃ u v, hasR (orR (closR r) idR) x u = true ∧ hasR g u v = true ∧ hasR (orR (closR r) idR) v y = true := fun x y => by
    unfold overR
    rw [thenR_has (thenR_ok (orR_ok hc idR_ok) hg)]
    constructor
    · rintro ⟨v, h1, h2⟩
      obtain ⟨u, h3, h4⟩ := (thenR_has (orR_ok hc idR_ok) x v).1 h1
      exact ⟨u, v, h3, h4, h2⟩
    · rintro ⟨u, v, h3, h4, h2⟩
      exact ⟨v, (thenR_has (orR_ok hc idR_ok) x v).2 ⟨u, h3, h4⟩, h2⟩
  constructor
  · intro h
    obtain ⟨hm, hp⟩ := List.mem_filter.1 h
    obtain ⟨x, y, hx, hy, hxy, e⟩ := mem_prs.1 hm
    obtain ⟨f, hf, hh⟩ := List.any_eq_true.1 hp
    obtain ⟨u, v, hu, hv, huv, rfl⟩ := mem_prs.1 hf
    rw [e] at hh ⊢
    rw [has_prs ho, hov]
    simp only [hitB, pr, Bool.and_eq_true] at hh
    exact ⟨u, v, (reachB_prs hc hx).1 (by simpa [gi] using hh.1), huv, (reachB_prs hc hv).1 (by simpa [gi] using hh.2)⟩
  · intro h
    obtain ⟨x, y, hx, hy, hxy, e⟩ := mem_prs.1 h
    rw [e]
    obtain ⟨u, v, h1, h2, h3⟩ := (hov x y).1 hxy
    have h4 : hasR (closR r) u v = true := closR_sub hr (hsub u v h2)
    have hu : u < 20 := by
      rcases Nat.lt_or_ge u 20 with hu | hu
      · exact hu
      · rw [hasR_out hg hu] at h2; cases h2
    have hv : v < 20 := by
      rcases Nat.lt_or_ge v 20 with hv | hv
      · exact hv
      · rw [hg.big hv] at h2; cases h2
    have h5 : hasR (closR r) x v = true := by
      rw [orR_has hc idR_ok, Bool.or_eq_true, idR_has] at h1
      rcases h1 with h1 | ⟨_, rfl⟩
      · exact closR_trans hr h1 h4
      · exact h4
    have h6 : hasR (closR r) x y = true := by
      have h3' := h3
      rw [orR_has hc idR_ok, Bool.or_eq_true, idR_has] at h3'
      rcases h3' with h3' | ⟨_, rfl⟩
      · exact closR_trans hr h5 h3'
      · exact h5
    refine List.mem_filter.2 ⟨(has_prs hc x y).2 h6, List.any_eq_true.2 ⟨pr u v, (has_prs hg u v).2 h2, ?_⟩⟩
    simp only [hitB, pr, Bool.and_eq_true]
    exact ⟨by simpa [gi] using (reachB_prs hc hx).2 h1, by simpa [gi] using (reachB_prs hc hv).2 h3⟩

/-! What the four functions come to. -/
def mntB (es cs ms : List Ent) : Bool := edgB es && (edgB cs && (edgB ms && decide (closR (relOf es) = relOf cs)))
def MntF (G : List Nat → List Nat → List Nat → List Nat) (es cs ms : List Ent) : List Ent := if mntB es cs ms = true then prs (G (relOf es) (relOf cs) (relOf ms)) else []
def insG (r c m : List Nat) : List Nat := nandR (closR (orR r m)) c
def ovrG (r c m : List Nat) : List Nat := overR c (andR r m)
def redG (r c m : List Nat) : List Nat := andR (overR c (andR r m)) (closR (nandR r m))
def delG (r c m : List Nat) : List Nat := nandR c (closR (nandR r m))
theorem mnt_eq {es cs : List Ent} (h1 : edgB es = true) (h2 : edgB cs = true) : decide (closR (relOf es) = relOf cs) = decide (prs (closR (relOf es)) = cs) := by
  rw [Bool.eq_iff_iff, decide_eq_true_eq, decide_eq_true_eq]
  constructor
  · intro h; rw [h, prs_relOf h2]
  · intro h
    exact prs_inj (closR_ok (relOf_ok h1)) (relOf_ok h2) (by rw [h, prs_relOf h2])
theorem MntF_len (G : List Nat → List Nat → List Nat → List Nat) (es cs ms : List Ent) : (MntF G es cs ms).length ≤ 400 := by
  unfold MntF; split
  · exact prs_len _
  · simp
theorem MntF_row (G : List Nat → List Nat → List Nat → List Nat) (es cs ms : List Ent) : rowsIn (MntF G es cs ms) 4194304 := fun e he => by
  unfold MntF at he; split at he
  · have := (prs_row _ e he).2; omega
  · cases he
end Go.Proofs.Ytifjenleoagefaa
