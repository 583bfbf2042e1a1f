/- HELPER, no statement of the seat: relations: unions, differences, compositions, the rounds of a closure; no program. -/
import Derived.Test.YtifjenleoagefaaRl
namespace Go.Proofs.Ytifjenleoagefaa
open Go.RowKit Go.Sort
set_option linter.unusedSimpArgs false
set_option linter.unusedVariables false

theorem edgeE_row {e : Ent} (h : edgeE e = true) : ∃ X Y : Nat, X < 20 ∧ Y < 20 ∧ e.1 = [(X : Int), (Y : Int)] := by
  obtain ⟨xs, v⟩ := e
  simp only [edgeE, Bool.and_eq_true, decide_eq_true_eq, inB] at h
  obtain ⟨hl, h0, h1⟩ := h
  match xs, hl with
  | [a, b], _ =>
    simp only [gi, List.getD_cons_zero, List.getD_cons_succ] at h0 h1
    exact ⟨a.toNat, b.toNat, by omega, by omega, by simp; omega⟩
theorem edgB_parts {es : List Ent} (h : edgB es = true) : zsB es = true ∧ Ones es ∧ ∀ e ∈ es, edgeE e = true := by
  simp only [edgB, setB, oneB, Bool.and_eq_true] at h
  obtain ⟨⟨h1, h2⟩, h3⟩ := h
  refine ⟨h1, fun e he => ?_, fun e he => ?_⟩
  · obtain ⟨j, hj, rfl⟩ := List.getElem_of_mem he
    have := allTo_iff.1 h2 j hj
    rw [nth_get hj] at this
    simpa using this
  · obtain ⟨j, hj, rfl⟩ := List.getElem_of_mem he
    have := allTo_iff.1 h3 j hj
    rwa [nth_get hj] at this
theorem prs_edg (r : List Nat) : edgB (prs r) = true := by
  simp only [edgB, setB, oneB, Bool.and_eq_true]
  refine ⟨⟨prs_zs r, allTo_iff.2 fun j hj => ?_⟩, allTo_iff.2 fun j hj => ?_⟩
  · rw [nth_get hj, prs_ones r _ (List.getElem_mem hj)]; rfl
  · rw [nth_get hj]
    obtain ⟨x, y, hx, hy, _, e⟩ := mem_prs.1 (List.getElem_mem hj)
    rw [e]
    simp [edgeE, pr, gi, inB]
    omega

/-! The relation of edges. -/
def setR (r : List Nat) (x y : Nat) : List Nat := r.set x (r.getD x 0 ||| 2 ^ y)
def relOf (es : List Ent) : List Nat := es.foldl (fun r e => setR r (gi e.1 0).toNat (gi e.1 1).toNat) zeroR
theorem setR_ok {r : List Nat} (h : OkR r) {x y : Nat} (hy : y < 20) : OkR (setR r x y) := by
  refine ⟨by simp [setR, h.len], fun a ha => ?_⟩
  rcases List.mem_or_eq_of_mem_set ha with h' | rfl
  · exact h.bits a h'
  · have h1 : r.getD x 0 < 2 ^ 20 := h.at x
    have h2 : 2 ^ y < 2 ^ 20 := Nat.pow_lt_pow_right (by decide) hy
    exact Nat.or_lt_two_pow h1 h2
theorem setR_has {r : List Nat} (h : OkR r) {X Y : Nat} (hX : X < 20) (x y : Nat) : hasR (setR r X Y) x y = (hasR r x y || (decide (x = X) && decide (y = Y))) := by
  unfold hasR setR
  by_cases hx : x = X
  · subst hx
    rw [gd_lt (by simp [h.len]; exact hX), List.getElem_set_self, Nat.testBit_or, Nat.testBit_two_pow]
    simp [eq_comm]
  · by_cases hl : x < r.length
    · rw [gd_lt (by simpa using hl), gd_lt hl, List.getElem_set_ne (by omega)]
      simp [hx]
    · rw [gd_ge (by simp; omega), gd_ge (by omega)]
      simp [hx]
theorem fold_rel : ∀ (es : List Ent) (r : List Nat), OkR r → (∀ e ∈ es, edgeE e = true) →
    OkR (es.foldl (fun r e => setR r (gi e.1 0).toNat (gi e.1 1).toNat) r) ∧ ∀ x y, hasR (es.foldl (fun r e => setR r (gi e.1 0).toNat (gi e.1 1).toNat) r) x y = true ↔ hasR r x y = true ∨ ∃ e ∈ es, e.1 = [(x : Int), (y : Int)]
  | [], r, h, _ => ⟨h, fun x y => by simp⟩
  | e :: es, r, h, he => by
    obtain ⟨X, Y, hX, hY, e1⟩ := edgeE_row (he e (by simp))
    have hg0 : (gi e.1 0).toNat = X := by rw [e1]; rfl
    have hg1 : (gi e.1 1).toNat = Y := by rw [e1]; rfl
    obtain ⟨h1, h2⟩ := fold_rel es (setR r X Y) (setR_ok h hY) (fun f hf => he f (by simp [hf]))
    rw [List.foldl_cons, hg0, hg1]
    refine ⟨h1, fun x y => ?_⟩
    rw [h2, setR_has h hX]
    simp only [Bool.or_eq_true, Bool.and_eq_true, decide_eq_true_eq, List.mem_cons, exists_eq_or_imp, e1]
    have : (x = X ∧ y = Y) ↔ [(X : Int), (Y : Int)] = [(x : Int), (y : Int)] := by
      constructor
      · rintro ⟨rfl, rfl⟩; rfl
      · intro h; simp at h; omega
    rw [this, or_assoc]
theorem relOf_ok {es : List Ent} (h : edgB es = true) : OkR (relOf es) := (fold_rel es zeroR zeroR_ok (edgB_parts h).2.2).1
theorem relOf_has {es : List Ent} (h : edgB es = true) (x y : Nat) : hasR (relOf es) x y = true ↔ pr x y ∈ es := by
  have := (fold_rel es zeroR zeroR_ok (edgB_parts h).2.2).2 x y
  rw [zeroR_has] at this
  unfold relOf
  rw [this]
  constructor
  · rintro (h' | ⟨e, he, e1⟩)
    · cases h'
    · have h1 := (edgB_parts h).2.1 e he
      rw [show pr x y = e from by rw [pr, ← e1, ← h1]]
      exact he
  · exact fun h' => .inr ⟨_, h', rfl⟩
theorem prs_relOf {es : List Ent} (h : edgB es = true) : prs (relOf es) = es := by
  obtain ⟨hz, h1, he⟩ := edgB_parts h
  refine ones_ext (prs_asc _) (zsB_asc hz) (prs_ones _) h1 (fun k => ?_)
  constructor
  · intro hk
    obtain ⟨x, y, _, _, hb, e⟩ := mem_prs.1 hk
    rw [e]
    exact (relOf_has h x y).1 hb
  · intro hk
    obtain ⟨X, Y, hX, hY, e1⟩ := edgeE_row (he _ hk)
    have : (k, (1 : Int)) = pr X Y := by rw [pr, ← e1]
    rw [this] at hk ⊢
    exact (has_prs (relOf_ok h) X Y).2 ((relOf_has h X Y).2 hk)

/-! Unions, differences, common pairs, compositions. -/
def orR (r s : List Nat) : List Nat := List.zipWith (fun a b => a ||| b) r s
def andR (r s : List Nat) : List Nat := List.zipWith (fun a b => a &&& b) r s
def nandR (r s : List Nat) : List Nat := List.zipWith (fun a b => a &&& (4294967295 - b)) r s
theorem zip_at {f : Nat → Nat → Nat} (hf : f 0 0 = 0) {r s : List Nat} (hr : r.length = 20) (hs : s.length = 20) (x : Nat) : (List.zipWith f r s).getD x 0 = f (r.getD x 0) (s.getD x 0) := by
  by_cases hx : x < 20
  · rw [gd_lt (by simp [hr, hs]; exact hx), gd_lt (by omega), gd_lt (by omega), List.getElem_zipWith]
  · rw [gd_ge (by simp [hr, hs]; omega), gd_ge (by omega), gd_ge (by omega), hf]
theorem zip_ok {f : Nat → Nat → Nat} (hf : ∀ a b, a < 1048576 → b < 1048576 → f a b < 1048576) {r s : List Nat} (hr : OkR r) (hs : OkR s) : OkR (List.zipWith f r s) := by
  refine ⟨by simp [hr.len, hs.len], fun a ha => ?_⟩
  obtain ⟨i, hi, rfl⟩ := List.getElem_of_mem ha
  rw [List.getElem_zipWith]
  exact hf _ _ (hr.bits _ (List.getElem_mem _)) (hs.bits _ (List.getElem_mem _))
theorem orR_ok {r s : List Nat} (hr : OkR r) (hs : OkR s) : OkR (orR r s) := zip_ok (fun a b ha hb => Nat.or_lt_two_pow (n := 20) ha hb) hr hs
theorem andR_ok {r s : List Nat} (hr : OkR r) (hs : OkR s) : OkR (andR r s) := zip_ok (fun a b ha hb => Nat.lt_of_le_of_lt Nat.and_le_left ha) hr hs
theorem nandR_ok {r s : List Nat} (hr : OkR r) (hs : OkR s) : OkR (nandR r s) := zip_ok (fun a b ha hb => Nat.lt_of_le_of_lt Nat.and_le_left ha) hr hs
theorem orR_has {r s : List Nat} (hr : OkR r) (hs : OkR s) (x y : Nat) : hasR (orR r s) x y = (hasR r x y || hasR s x y) := by
  unfold hasR orR
  rw [zip_at (by rfl) hr.len hs.len, Nat.testBit_or]
theorem andR_has {r s : List Nat} (hr : OkR r) (hs : OkR s) (x y : Nat) : hasR (andR r s) x y = (hasR r x y && hasR s x y) := by
  unfold hasR andR
  rw [zip_at (by rfl) hr.len hs.len, Nat.testBit_and]
theorem nand_bit {a b y : Nat} (ha : a < 4294967296) (hb : b < 4294967296) : (a &&& (4294967295 - b)).testBit y = (a.testBit y && !b.testBit y) := by
  rw [Nat.testBit_and, show 4294967295 - b = 2 ^ 32 - (b + 1) from by omega, Nat.testBit_two_pow_sub_succ (by simpa using hb)]
  by_cases hy : y < 32
  · simp [hy]
  · have : a.testBit y = false := Nat.testBit_lt_two_pow (Nat.lt_of_lt_of_le ha (show 4294967296 ≤ 2 ^ y from by
      have : 2 ^ 32 ≤ 2 ^ y := Nat.pow_le_pow_right (by decide) (by omega)
      simpa using this))
    simp [this]
theorem nandR_has {r s : List Nat} (hr : OkR r) (hs : OkR s) (x y : Nat) : hasR (nandR r s) x y = (hasR r x y && !hasR s x y) := by
  unfold hasR nandR
  rw [zip_at (f := fun a b => a &&& (4294967295 - b)) (by decide) hr.len hs.len, nand_bit (by have := hr.at x; omega) (by have := hs.at x; omega)]
def orTo (s : List Nat) (c : Nat) (l : List Nat) : Nat := l.foldl (fun c y => c ||| s.getD y 0) c
theorem orTo_bit (s : List Nat) : ∀ (l : List Nat) (c z : Nat), (orTo s c l).testBit z = true ↔ c.testBit z = true ∨ ∃ y ∈ l, hasR s y z = true
  | [], c, z => by simp [orTo]
  | y :: l, c, z => by
    have := orTo_bit s l (c ||| s.getD y 0) z
    unfold orTo at this ⊢
    rw [List.foldl_cons, this, Nat.testBit_or]
    simp [hasR, or_assoc]
theorem orTo_lt {s : List Nat} (hs : OkR s) : ∀ (l : List Nat) (c : Nat), c < 1048576 → orTo s c l < 1048576
  | [], c, h => h
  | y :: l, c, h => by
    unfold orTo
    rw [List.foldl_cons]
    exact orTo_lt hs l _ (Nat.or_lt_two_pow (n := 20) h (hs.at y))
def thenR (r s : List Nat) : List Nat := r.map fun a => orTo s 0 (vtx a)
theorem thenR_ok {r s : List Nat} (hr : OkR r) (hs : OkR s) : OkR (thenR r s) := by
  refine ⟨by simp [thenR, hr.len], fun a ha => ?_⟩
  obtain ⟨b, _, rfl⟩ := List.mem_map.1 ha
  exact orTo_lt hs _ _ (by decide)
theorem thenR_has {r s : List Nat} (hr : OkR r) (x z : Nat) : hasR (thenR r s) x z = true ↔ ∃ y, hasR r x y = true ∧ hasR s y z = true := by
  by_cases hx : x < 20
  · have : (thenR r s).getD x 0 = orTo s 0 (vtx (r.getD x 0)) := by
      rw [gd_lt (by simp [thenR, hr.len]; exact hx), gd_lt (by rw [hr.len]; exact hx)]
      simp [thenR]
    rw [hasR, this, orTo_bit]
    simp only [Nat.zero_testBit, Bool.false_eq_true, false_or, mem_vtx]
    constructor
    · rintro ⟨y, ⟨_, h1⟩, h2⟩; exact ⟨y, h1, h2⟩
    · rintro ⟨y, h1, h2⟩
      refine ⟨y, ⟨?_, h1⟩, h2⟩
      apply Decidable.byContradiction; intro hy; rw [hr.big (by omega)] at h1; cases h1
  · have h1 : hasR (thenR r s) x z = false := by
      unfold hasR
      rw [gd_ge (by simp [thenR, hr.len]; omega)]
      simp
    rw [h1]
    simp only [Bool.false_eq_true, false_iff]
    rintro ⟨y, h2, _⟩
    rw [hasR_out hr (by omega)] at h2; cases h2

/-! The same on sets of pairs. -/
def cmpsE (a b : List Ent) : List Ent := a.flatMap fun e => (b.filter fun f => decide (gi e.1 1 = gi f.1 0)).map fun f => ([gi e.1 0, gi f.1 1], 1)
def compE (a b : List Ent) : List Ent := disL (AddL [] (cmpsE a b))
def minE (a b : List Ent) : List Ent := a.filter fun e => decide (wOf b e.1 = 0)
theorem cmpsE_ones (a b : List Ent) : Ones (cmpsE a b) := fun e he => by
  simp only [cmpsE, List.mem_flatMap, List.mem_map] at he
  obtain ⟨_, _, _, _, rfl⟩ := he
  rfl
theorem asc_nil : Asc lessB ([] : List Ent) := List.Pairwise.nil
theorem compE_mem (a b : List Ent) (k : List Int) : (k, 1) ∈ compE a b ↔ ∃ e ∈ a, ∃ f ∈ b, gi e.1 1 = gi f.1 0 ∧ k = [gi e.1 0, gi f.1 1] := by
  unfold compE
  rw [disL_oneR (AddL_asc asc_nil _), AddL_wsum, wsum_nil, Int.zero_add, ones_pos (cmpsE_ones a b)]
  simp only [cmpsE, List.mem_flatMap, List.mem_map, List.mem_filter, decide_eq_true_eq]
  constructor
  · rintro ⟨e, he, f, ⟨hf, h1⟩, h2⟩
    exact ⟨e, he, f, hf, h1, (congrArg (fun e : Ent => e.1) h2).symm⟩
  · rintro ⟨e, he, f, hf, h1, rfl⟩
    exact ⟨e, he, f, ⟨hf, h1⟩, rfl⟩
theorem compE_prs {r s : List Nat} (hr : OkR r) (hs : OkR s) : compE (prs r) (prs s) = prs (thenR r s) := by
  refine ones_ext (disL_ascR (AddL_asc asc_nil _)) (prs_asc _) (disL_ones _) (prs_ones _) (fun k => ?_)
  rw [compE_mem]
  constructor
  · rintro ⟨e, he, f, hf, h1, rfl⟩
    obtain ⟨x, y, hx, hy, hb, rfl⟩ := mem_prs.1 he
    obtain ⟨y', z, hy', hz, hc, rfl⟩ := mem_prs.1 hf
    have h1' : (y : Int) = (y' : Int) := h1
    obtain rfl : y = y' := by omega
    exact (has_prs (thenR_ok hr hs) x z).2 ((thenR_has hr x z).2 ⟨y, hb, hc⟩)
  · intro h
    obtain ⟨x, z, hx, hz, hb, e⟩ := mem_prs.1 h
    obtain ⟨y, h1, h2⟩ := (thenR_has hr x z).1 hb
    exact ⟨_, (has_prs hr x y).2 h1, _, (has_prs hs y z).2 h2, rfl, congrArg (fun e : Ent => e.1) e⟩
theorem minE_prs {r s : List Nat} (hr : OkR r) (hs : OkR s) : minE (prs r) (prs s) = prs (nandR r s) := by
  refine ones_ext (List.Pairwise.sublist List.filter_sublist (prs_asc r)) (prs_asc _) (fun e he => prs_ones r e (List.mem_filter.1 he).1) (prs_ones _) (fun k => ?_)
  unfold minE
  rw [List.mem_filter, decide_eq_true_eq, ones_wOf (prs_ones s)]
  constructor
  · rintro ⟨h1, h2⟩
    obtain ⟨x, y, hx, hy, hb, e⟩ := mem_prs.1 h1
    rw [e]
    refine (has_prs (nandR_ok hr hs) x y).2 ?_
    rw [nandR_has hr hs, hb]
    have h3 : (k, (1 : Int)) ∉ prs s := fun h => by rw [if_pos h] at h2; cases h2
    rw [e, has_prs hs] at h3
    simpa using h3
  · intro h
    obtain ⟨x, y, hx, hy, hb, e⟩ := mem_prs.1 h
    rw [nandR_has hr hs, Bool.and_eq_true, Bool.not_eq_true'] at hb
    rw [e]
    refine ⟨(has_prs hr x y).2 hb.1, ?_⟩
    rw [if_neg]
    rw [has_prs hs, hb.2]; decide
def DisjR (r s : List Nat) : Prop := ∀ x y, ¬ (hasR r x y = true ∧ hasR s x y = true)
theorem add_prs {r s : List Nat} (hr : OkR r) (hs : OkR s) (hd : DisjR r s) : AddF (prs r) (prs s) = prs (orR r s) := by
  have hz : nz (AddL (prs r) (prs s)) = prs (orR r s) := by
    rw [← zsB_nz (prs_zs (orR r s))]
    refine nz_ext rowTot (AddL_asc (prs_asc r) _) (prs_asc _) (fun k => ?_)
    rw [AddL_wsum, ones_wsum (prs_asc r) (prs_ones r), ones_wsum (prs_asc s) (prs_ones s), ones_wsum (prs_asc _) (prs_ones _)]
    have h0 : (k, (1 : Int)) ∈ prs (orR r s) ↔ (k, (1 : Int)) ∈ prs r ∨ (k, (1 : Int)) ∈ prs s := by
      simp only [mem_prs, orR_has hr hs, Bool.or_eq_true]
      constructor
      · rintro ⟨x, y, hx, hy, h | h, e⟩
        · exact .inl ⟨x, y, hx, hy, h, e⟩
        · exact .inr ⟨x, y, hx, hy, h, e⟩
      · rintro (⟨x, y, hx, hy, h, e⟩ | ⟨x, y, hx, hy, h, e⟩)
        · exact ⟨x, y, hx, hy, .inl h, e⟩
        · exact ⟨x, y, hx, hy, .inr h, e⟩
    have h1 : ¬ ((k, (1 : Int)) ∈ prs r ∧ (k, (1 : Int)) ∈ prs s) := by
      rintro ⟨h1, h2⟩
      obtain ⟨x, y, _, _, hb, e⟩ := mem_prs.1 h1
      rw [e, has_prs hs] at h2
      exact hd x y ⟨hb, h2⟩
    by_cases c1 : (k, (1 : Int)) ∈ prs r
    · have c2 : (k, (1 : Int)) ∉ prs s := fun h => h1 ⟨c1, h⟩
      rw [if_pos c1, if_neg c2, if_pos (h0.2 (.inl c1))]; rfl
    · by_cases c2 : (k, (1 : Int)) ∈ prs s
      · rw [if_neg c1, if_pos c2, if_pos (h0.2 (.inr c2))]; rfl
      · rw [if_neg c1, if_neg c2, if_neg (fun h => (h0.1 h).elim c1 c2)]; rfl
  rw [AddF, prs_zs, prs_zs, hz]
  simp [chkF, prs_zs]

/-! How many pairs. -/
def cellsR : List (Nat × Nat) := (List.range 20).flatMap fun x => (List.range 20).map fun y => (x, y)
theorem prs_cells (r : List Nat) : prs r = (cellsR.filter fun p => hasR r p.1 p.2).map fun p => pr p.1 p.2 := by
  unfold prs cellsR
  rw [List.filter_flatMap, List.map_flatMap]
  congr 1
  funext x
  rw [List.filter_map, List.map_map]
  rfl
def szR (r : List Nat) : Nat := (prs r).length
theorem szR_le (r : List Nat) : szR r ≤ 400 := prs_len r
theorem countP_or {α : Type} (p q : α → Bool) (h : ∀ x, ¬ (p x = true ∧ q x = true)) : ∀ l : List α, l.countP (fun x => p x || q x) = l.countP p + l.countP q
  | [] => rfl
  | x :: l => by
    have ih := countP_or p q h l
    have hx := h x
    simp only [List.countP_cons, ih]
    cases hp : p x <;> cases hq : q x <;> simp_all <;> omega
theorem szR_count (r : List Nat) : szR r = cellsR.countP fun p => hasR r p.1 p.2 := by
  unfold szR
  rw [prs_cells, List.length_map, List.countP_eq_length_filter]
theorem szR_or {r s : List Nat} (hr : OkR r) (hs : OkR s) (hd : DisjR r s) : szR (orR r s) = szR r + szR s := by
  rw [szR_count, szR_count, szR_count, ← countP_or (fun p : Nat × Nat => hasR r p.1 p.2) (fun p => hasR s p.1 p.2) (fun p => hd p.1 p.2)]
  congr 1
  funext p
  exact orR_has hr hs p.1 p.2
theorem szR_pos {r : List Nat} (hr : OkR r) (h : r ≠ zeroR) : 0 < szR r := by
  apply Nat.pos_of_ne_zero
  intro h0
  exact h ((rel_zero hr).2 (List.length_eq_zero_iff.1 h0))

/-! The rounds. -/
def rdsR (r : List Nat) : Nat → List Nat → List Nat → List (List Nat)
  | 0, _, _ => []
  | n + 1, f, l => if l = zeroR then [] else l :: rdsR r n (orR f l) (nandR (thenR l r) (orR f l))
def rds (r : List Nat) : List (List Nat) := rdsR r 401 zeroR r
structure RdInv (f l : List Nat) : Prop where
  okf : OkR f
  okl : OkR l
  dj : DisjR f l
theorem RdInv.start {r : List Nat} (h : OkR r) : RdInv zeroR r := ⟨zeroR_ok, h, fun x y ⟨h1, _⟩ => by rw [zeroR_has] at h1; cases h1⟩
theorem RdInv.next {r f l : List Nat} (hr : OkR r) (h : RdInv f l) : RdInv (orR f l) (nandR (thenR l r) (orR f l)) := by
  have h1 := orR_ok h.okf h.okl
  have h2 := thenR_ok h.okl hr
  refine ⟨h1, nandR_ok h2 h1, fun x y ⟨a, b⟩ => ?_⟩
  rw [nandR_has h2 h1, a] at b
  simp at b
theorem RdInv.sz {f l : List Nat} (h : RdInv f l) (hl : l ≠ zeroR) : szR f < szR (orR f l) ∧ szR (orR f l) ≤ 400 := by
  rw [szR_or h.okf h.okl h.dj]
  have := szR_pos h.okl hl
  have h2 := szR_le (orR f l)
  rw [szR_or h.okf h.okl h.dj] at h2
  omega
theorem rdsR_fuel {r : List Nat} (hr : OkR r) : ∀ (n m : Nat) (f l : List Nat), RdInv f l → 400 - szR f < n → 400 - szR f < m → rdsR r n f l = rdsR r m f l
  | 0, _, _, _, _, h, _ => by omega
  | _ + 1, 0, _, _, _, _, h => by omega
  | n + 1, m + 1, f, l, hI, h1, h2 => by
    unfold rdsR
    by_cases hl : l = zeroR
    · rw [if_pos hl, if_pos hl]
    · have := hI.sz hl
      rw [if_neg hl, if_neg hl, rdsR_fuel hr n m _ _ (hI.next hr) (by omega) (by omega)]
/-- What is left of the rounds. -/
def restR (r f l : List Nat) : List (List Nat) := rdsR r 401 f l
theorem restR_end {r f : List Nat} : restR r f zeroR = [] := by simp [restR, rdsR]
theorem restR_step {r f l : List Nat} (hr : OkR r) (h : RdInv f l) (hl : l ≠ zeroR) : restR r f l = l :: restR r (orR f l) (nandR (thenR l r) (orR f l)) := by
  have := h.sz hl
  unfold restR
  rw [rdsR, if_neg hl, rdsR_fuel hr 400 401 _ _ (h.next hr) (by omega) (by omega)]
theorem rds_rest (r : List Nat) : rds r = restR r zeroR r := rfl
theorem restR_len {r : List Nat} (hr : OkR r) : ∀ (n : Nat) (f l : List Nat), RdInv f l → 400 - szR f < n → (rdsR r n f l).length ≤ 400 - szR f
  | 0, _, _, _, _ => by simp [rdsR]
  | n + 1, f, l, hI, h1 => by
    unfold rdsR
    by_cases hl : l = zeroR
    · rw [if_pos hl]; simp
    · have := hI.sz hl
      have h2 := restR_len hr n _ _ (hI.next hr) (by omega)
      rw [if_neg hl, List.length_cons]
      omega
theorem rds_len {r : List Nat} (hr : OkR r) : (rds r).length ≤ 400 := by
  have h1 := szR_le zeroR
  have := restR_len hr 401 zeroR r (RdInv.start hr) (by omega)
  unfold rds
  omega
def closR (r : List Nat) : List Nat := (rds r).foldl orR zeroR
/-- Rounds that have no pair in common. -/
def Djs : List Nat → List (List Nat) → Prop
  | _, [] => True
  | f, l :: L => OkR l ∧ l ≠ zeroR ∧ DisjR f l ∧ Djs (orR f l) L
theorem rdsR_djs {r : List Nat} (hr : OkR r) : ∀ (n : Nat) (f l : List Nat), RdInv f l → Djs f (rdsR r n f l)
  | 0, _, _, _ => trivial
  | n + 1, f, l, hI => by
    unfold rdsR
    by_cases hl : l = zeroR
    · rw [if_pos hl]; trivial
    · rw [if_neg hl]
      exact ⟨hI.okl, hl, hI.dj, rdsR_djs hr n _ _ (hI.next hr)⟩
theorem rds_djs {r : List Nat} (hr : OkR r) : Djs zeroR (rds r) := rdsR_djs hr _ _ _ (RdInv.start hr)
theorem djs_ok : ∀ {L : List (List Nat)} {f : List Nat}, OkR f → Djs f L → OkR (L.foldl orR f)
  | [], _, h, _ => h
  | l :: L, f, h, hd => djs_ok (L := L) (orR_ok h hd.1) hd.2.2.2
theorem djs_mem : ∀ {L : List (List Nat)} {f : List Nat}, Djs f L → ∀ l ∈ L, OkR l ∧ l ≠ zeroR
  | [], _, _, _, h => by cases h
  | k :: L, f, hd, l, h => by
    rcases List.mem_cons.1 h with rfl | h
    · exact ⟨hd.1, hd.2.1⟩
    · exact djs_mem (L := L) hd.2.2.2 l h
theorem djs_add : ∀ {L : List (List Nat)} {f : List Nat}, OkR f → Djs f L → (L.map prs).foldl AddF (prs f) = prs (L.foldl orR f)
  | [], _, _, _ => rfl
  | l :: L, f, h, hd => by
    rw [List.map_cons, List.foldl_cons, List.foldl_cons, add_prs h hd.1 hd.2.2.1]
    exact djs_add (L := L) (orR_ok h hd.1) hd.2.2.2
theorem closR_ok {r : List Nat} (hr : OkR r) : OkR (closR r) := djs_ok zeroR_ok (rds_djs hr)
theorem prs_zero : prs zeroR = [] := (rel_zero zeroR_ok).1 rfl
theorem closR_add {r : List Nat} (hr : OkR r) : ((rds r).map prs).foldl AddF [] = prs (closR r) := by
  rw [← prs_zero]
  exact djs_add zeroR_ok (rds_djs hr)
def ClosF (es : List Ent) : List Ent := if edgB es = true then prs (closR (relOf es)) else []
def RoundsF (es : List Ent) : List (List Ent) := if edgB es = true then (rds (relOf es)).map prs else []
end Go.Proofs.Ytifjenleoagefaa
