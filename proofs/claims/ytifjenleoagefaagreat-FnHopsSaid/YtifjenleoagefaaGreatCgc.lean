/- HELPER, no statement of the seat: several texts in one file. -/
import Derived.Test.YtifjenleoagefaaGreatCga
import Derived.Test.YtifjenleoagefaaGreatRe
/- HELPER, no statement of the seat: tables of distances, as lists; no program. -/
namespace Go.Proofs.YtifjenleoagefaaGreat
open Go.RowKit Go.Sort
set_option linter.unusedSimpArgs false
set_option linter.unusedVariables false

/-! ### What the model adds up -/
def wd (d : Nat) (e : Ent) : Ent := (e.1 ++ [(d : Int)], 1)
def dstN : Nat → List (List Nat) → List Ent
  | _, [] => []
  | n, l :: L => (prs l).map (wd n) ++ dstN (n + 1) L
theorem dstN_snoc : ∀ (L : List (List Nat)) (n : Nat) (l : List Nat), dstN n (L ++ [l]) = dstN n L ++ (prs l).map (wd (n + L.length))
  | [], n, l => by simp [dstN]
  | m :: L, n, l => by
    simp only [List.cons_append, dstN, dstN_snoc L (n + 1) l, List.append_assoc, List.length_cons]
    rw [show n + 1 + L.length = n + (L.length + 1) by omega]
theorem dstN_step (L : List (List Nat)) {i : Nat} (h : i < L.length) : dstN 1 (L.take (i + 1)) = dstN 1 (L.take i) ++ (prs L[i]).map (wd (i + 1)) := by
  rw [List.take_succ_eq_append_getElem h, dstN_snoc, List.length_take, show 1 + min i L.length = i + 1 by omega]
theorem dstN_mem : ∀ (L : List (List Nat)) (n : Nat) (e : Ent), e ∈ dstN n L ↔ ∃ p ∈ numR n L, ∃ x y, x < 20 ∧ y < 20 ∧ hasR p.2 x y = true ∧ e = ([(x : Int), (y : Int), (p.1 : Int)], 1)
  | [], n, e => by simp [dstN, numR]
  | l :: L, n, e => by
    simp only [dstN, numR, List.mem_append, dstN_mem L (n + 1) e, List.mem_map, List.mem_cons]
    constructor
    · rintro (⟨f, hf, rfl⟩ | ⟨p, hp, h⟩)
      · obtain ⟨x, y, hx, hy, hxy, rfl⟩ := mem_prs.1 hf
        exact ⟨(n, l), .inl rfl, x, y, hx, hy, hxy, rfl⟩
      · exact ⟨p, .inr hp, h⟩
    · rintro ⟨p, rfl | hp, x, y, hx, hy, hxy, e⟩
      · exact .inl ⟨pr x y, mem_prs.2 ⟨x, y, hx, hy, hxy, rfl⟩, e.symm⟩
      · exact .inr ⟨p, hp, x, y, hx, hy, hxy, e⟩
theorem dstN_ones (L : List (List Nat)) (n : Nat) : Ones (dstN n L) := fun e he => by
  obtain ⟨p, _, x, y, _, _, _, rfl⟩ := (dstN_mem L n e).1 he
  rfl
theorem dstN_three (L : List (List Nat)) (n : Nat) : ∀ e ∈ dstN n L, e.1.length = 3 ∧ e.2 = 1 := fun e he => by
  obtain ⟨p, _, x, y, _, _, _, rfl⟩ := (dstN_mem L n e).1 he
  exact ⟨rfl, rfl⟩
theorem djs_disj : ∀ {L : List (List Nat)} {f : List Nat}, OkR f → Djs f L → ∀ l ∈ L, DisjR f l
  | [], _, _, _, _, h => by cases h
  | k :: L, f, hf, hd, l, h => by
    rcases List.mem_cons.1 h with rfl | h
    · exact hd.2.2.1
    · have h1 := djs_disj (L := L) (orR_ok hf hd.1) hd.2.2.2 l h
      intro x y hxy
      refine h1 x y ⟨?_, hxy.2⟩
      rw [orR_has hf hd.1, hxy.1]; rfl
/-- No pair comes twice. -/
theorem numR_mem : ∀ (L : List (List Nat)) (n : Nat) (p : Nat × List Nat), p ∈ numR n L → p.2 ∈ L ∧ n ≤ p.1
  | [], n, p, h => by simp [numR] at h
  | l :: L, n, p, h => by
    simp only [numR, List.mem_cons] at h
    rcases h with rfl | h
    · exact ⟨by simp, Nat.le_refl _⟩
    · obtain ⟨h1, h2⟩ := numR_mem L (n + 1) p h
      exact ⟨by simp [h1], by omega⟩
theorem numR_one : ∀ {L : List (List Nat)} {f : List Nat} (n : Nat), OkR f → Djs f L → ∀ p ∈ numR n L, ∀ q ∈ numR n L, ∀ x y, hasR p.2 x y = true → hasR q.2 x y = true → p = q
  | [], _, n, _, _, p, hp, _, _, _, _, _, _ => by simp [numR] at hp
  | l :: L, f, n, hf, hd, p, hp, q, hq, x, y, h1, h2 => by
    have hl := hd.1
    have hsub : ∀ m ∈ L, ¬ (hasR l x y = true ∧ hasR m x y = true) := fun m hm h => by
      have h3 := djs_disj (L := L) (orR_ok hf hl) hd.2.2.2 m hm x y
      exact h3 ⟨by rw [orR_has hf hl, h.1]; simp, h.2⟩
    simp only [numR, List.mem_cons] at hp hq
    rcases hp with rfl | hp
    · rcases hq with rfl | hq
      · rfl
      · exact absurd ⟨h1, h2⟩ (hsub q.2 (numR_mem L (n + 1) q hq).1)
    · rcases hq with rfl | hq
      · exact absurd ⟨h2, h1⟩ (hsub p.2 (numR_mem L (n + 1) p hp).1)
      · exact numR_one (L := L) (n + 1) (orR_ok hf hl) hd.2.2.2 p hp q hq x y h1 h2
theorem keys_wsum : ∀ {l : List Ent}, Ones l → (l.map (·.1)).Nodup → ∀ k, wsum l k = if (k, (1 : Int)) ∈ l then 1 else 0
  | [], _, _, k => by simp [wsum_nil]
  | x :: l, h1, hn, k => by
    have hx : x.2 = 1 := h1 x (by simp)
    have hl : Ones l := fun e he => h1 e (by simp [he])
    rw [List.map_cons, List.nodup_cons] at hn
    rw [wsum_cons, keys_wsum hl hn.2]
    by_cases e : x.1 = k
    · have hnm : (k, (1 : Int)) ∉ l := fun h => hn.1 (by rw [e]; exact List.mem_map.2 ⟨_, h, rfl⟩)
      have hxk : x = (k, 1) := Prod.ext e hx
      rw [if_pos e, if_neg hnm, if_pos (by rw [hxk]; simp), hx]; rfl
    · have hiff : (k, (1 : Int)) ∈ x :: l ↔ (k, (1 : Int)) ∈ l := by
        rw [List.mem_cons]
        exact ⟨fun h => h.resolve_left (fun h => e (by rw [← h])), .inr⟩
      rw [if_neg e, Int.zero_add]
      by_cases hm : (k, (1 : Int)) ∈ l
      · rw [if_pos hm, if_pos (hiff.2 hm)]
      · rw [if_neg hm, if_neg (fun h => hm (hiff.1 h))]
theorem prs_keys (l : List Nat) : ((prs l).map (·.1)).Nodup := by
  have h := prs_asc l
  unfold Asc at h
  rw [List.nodup_iff_pairwise_ne, List.pairwise_map]
  exact h.imp (fun {a b} h e => by rw [e, rowTot.irrefl] at h; cases h)
theorem dstN_keys : ∀ {L : List (List Nat)} {f : List Nat} (n : Nat), OkR f → Djs f L → ((dstN n L).map (·.1)).Nodup
  | [], _, n, _, _ => by simp [dstN]
  | l :: L, f, n, hf, hd => by
    rw [dstN, List.map_append, List.nodup_append]
    refine ⟨?_, dstN_keys (n + 1) (orR_ok hf hd.1) hd.2.2.2, fun a ha b hb => ?_⟩
    · have h := prs_keys l
      rw [List.nodup_iff_pairwise_ne, List.pairwise_map] at h ⊢
      rw [List.pairwise_map]
      exact h.imp (fun {a b} h e => h (List.append_cancel_right e))
    · rintro rfl
      obtain ⟨e1, h1, rfl⟩ := List.mem_map.1 ha
      obtain ⟨f1, h3, rfl⟩ := List.mem_map.1 h1
      obtain ⟨e2, h2, h4⟩ := List.mem_map.1 hb
      obtain ⟨p, hp, x, y, _, _, hxy, rfl⟩ := (dstN_mem L (n + 1) e2).1 h2
      obtain ⟨x', y', _, _, hxy', rfl⟩ := mem_prs.1 h3
      simp only [wd, pr, List.cons_append, List.nil_append, List.cons.injEq, Int.natCast_inj] at h4
      obtain ⟨rfl, rfl, _⟩ := h4
      have h5 := djs_disj (L := L) (orR_ok hf hd.1) hd.2.2.2 p.2 (numR_mem L (n + 1) p hp).1 x y
      exact h5 ⟨by rw [orR_has hf hd.1, hxy']; simp, hxy⟩
/-! ### The table -/
def setT (T : List Int) (x y : Nat) (d : Int) : List Int := T.set (20 * x + y) d
def getT (T : List Int) (x y : Nat) : Int := T.getD (20 * x + y) 0
def zeroT : List Int := List.replicate 400 0
theorem zeroT_len : zeroT.length = 400 := List.length_replicate
def rowT (T : List Int) (x : Nat) (d : Int) (ys : List Nat) : List Int := ys.foldl (fun T y => setT T x y d) T
def roundTo (T : List Int) (l : List Nat) (d : Int) (k : Nat) : List Int := (List.range k).foldl (fun T x => rowT T x d (vtx (l.getD x 0))) T
def tblN (T : List Int) (L : List (Nat × List Nat)) : List Int := L.foldl (fun T p => roundTo T p.2 (p.1 : Int) 20) T
theorem getT_set {T : List Int} (hT : T.length = 400) {x y X Y : Nat} (hx : x < 20) (hy : y < 20) (hX : X < 20) (hY : Y < 20) (d : Int) : getT (setT T X Y d) x y = if x = X ∧ y = Y then d else getT T x y := by
  unfold getT setT
  rw [List.getD_eq_getElem?_getD, List.getElem?_set]
  by_cases h : x = X ∧ y = Y
  · obtain ⟨rfl, rfl⟩ := h
    rw [if_pos rfl, if_pos (by omega), if_pos ⟨rfl, rfl⟩]; rfl
  · rw [if_neg (by omega), if_neg h, List.getD_eq_getElem?_getD]
theorem rowT_get : ∀ (ys : List Nat) {T : List Int} (hT : T.length = 400) {x y X : Nat} (hx : x < 20) (hy : y < 20) (hX : X < 20) (d : Int), (∀ y ∈ ys, y < 20) → (rowT T X d ys).length = 400 ∧ getT (rowT T X d ys) x y = if x = X ∧ y ∈ ys then d else getT T x y
  | [], T, hT, x, y, X, _, _, _, d, _ => by simp [rowT, hT]
  | Y :: ys, T, hT, x, y, X, hx, hy, hX, d, h => by
    have hY := h Y (by simp)
    have ih := rowT_get ys (T := setT T X Y d) (by simpa [setT] using hT) hx hy hX d (fun z hz => h z (by simp [hz]))
    have e : rowT T X d (Y :: ys) = rowT (setT T X Y d) X d ys := rfl
    rw [e]
    refine ⟨ih.1, ?_⟩
    rw [ih.2, getT_set hT hx hy hX hY]
    by_cases h1 : x = X
    · by_cases h2 : y ∈ ys
      · simp [h1, h2]
      · by_cases h3 : y = Y <;> simp [h1, h2, h3]
    · simp [h1]
theorem roundTo_succ (T : List Int) (l : List Nat) (d : Int) (k : Nat) : roundTo T l d (k + 1) = rowT (roundTo T l d k) k d (vtx (l.getD k 0)) := by simp [roundTo, List.range_succ]
theorem roundTo_get {T : List Int} (hT : T.length = 400) {l : List Nat} (hl : OkR l) {x y : Nat} (hx : x < 20) (hy : y < 20) (d : Int) : ∀ k, k ≤ 20 → (roundTo T l d k).length = 400 ∧ getT (roundTo T l d k) x y = if x < k ∧ hasR l x y = true then d else getT T x y
  | 0, _ => by simp [roundTo, hT]
  | k + 1, hk => by
    have ih := roundTo_get hT hl hx hy d k (by omega)
    have h := rowT_get (vtx (l.getD k 0)) ih.1 hx hy (show k < 20 by omega) d (fun z hz => (mem_vtx.1 hz).1)
    rw [roundTo_succ]
    refine ⟨h.1, ?_⟩
    rw [h.2, ih.2]
    by_cases e : x = k
    · subst e
      have hb : (l.getD x 0).testBit y = hasR l x y := rfl
      by_cases h2 : hasR l x y = true
      · rw [if_pos ⟨rfl, mem_vtx.2 ⟨hy, hb.trans h2⟩⟩, if_pos ⟨by omega, h2⟩]
      · rw [if_neg (fun h => h2 (hb.symm.trans (mem_vtx.1 h.2).2)), if_neg (fun h => h2 h.2), if_neg (fun h => h2 h.2)]
    · rw [if_neg (fun h => e h.1)]
      by_cases h2 : x < k
      · by_cases h3 : hasR l x y = true
        · rw [if_pos ⟨h2, h3⟩, if_pos ⟨by omega, h3⟩]
        · rw [if_neg (fun h => h3 h.2), if_neg (fun h => h3 h.2)]
      · rw [if_neg (fun h => h2 h.1), if_neg (fun h => by omega)]
theorem tblN_get {x y : Nat} (hx : x < 20) (hy : y < 20) : ∀ {L : List (List Nat)} {f : List Nat} (n : Nat) {T : List Int}, T.length = 400 → OkR f → Djs f L →
    (tblN T (numR n L)).length = 400 ∧ ((∃ p ∈ numR n L, hasR p.2 x y = true ∧ getT (tblN T (numR n L)) x y = (p.1 : Int)) ∨ ((∀ p ∈ numR n L, hasR p.2 x y = false) ∧ getT (tblN T (numR n L)) x y = getT T x y))
  | [], f, n, T, hT, _, _ => ⟨by simpa [tblN, numR] using hT, .inr ⟨fun p hp => by simp [numR] at hp, by simp [tblN, numR]⟩⟩
  | l :: L, f, n, T, hT, hf, hd => by
    have hl := hd.1
    have hr := roundTo_get hT hl hx hy (n : Int) 20 (by omega)
    have ih := tblN_get hx hy (n + 1) (L := L) hr.1 (orR_ok hf hl) hd.2.2.2
    have e : tblN T (numR n (l :: L)) = tblN (roundTo T l (n : Int) 20) (numR (n + 1) L) := rfl
    rw [e]
    refine ⟨ih.1, ?_⟩
    rcases ih.2 with ⟨p, hp, h1, h2⟩ | ⟨h1, h2⟩
    · exact .inl ⟨p, by simp [numR, hp], h1, h2⟩
    · rw [h2, hr.2]
      by_cases h3 : hasR l x y = true
      · exact .inl ⟨(n, l), by simp [numR], h3, by rw [if_pos ⟨by omega, h3⟩]⟩
      · refine .inr ⟨fun p hp => ?_, by rw [if_neg (fun h => h3 h.2)]⟩
        simp only [numR, List.mem_cons] at hp
        rcases hp with rfl | hp
        · simpa using h3
        · exact h1 p hp
def distT (r : List Nat) : List Int := tblN zeroT (numR 1 (rds r))
theorem zeroT_get (x y : Nat) : getT zeroT x y = 0 := by
  unfold getT zeroT
  rw [List.getD_eq_getElem?_getD, List.getElem?_replicate]
  split <;> rfl
theorem distT_len {r : List Nat} (hr : OkR r) : (distT r).length = 400 := (tblN_get (x := 0) (y := 0) (by decide) (by decide) 1 zeroT_len zeroR_ok (rds_djs hr)).1
/-! ### The entries of a table -/
def entT (T : List Int) : List Ent := (List.range 20).flatMap fun (x : Nat) => ((List.range 20).filter fun y => decide (0 < getT T x y)).map fun (y : Nat) => ([(x : Int), (y : Int), getT T x y], (1 : Int))
theorem mem_entT {T : List Int} {e : Ent} : e ∈ entT T ↔ ∃ x y, x < 20 ∧ y < 20 ∧ 0 < getT T x y ∧ e = ([(x : Int), (y : Int), getT T x y], 1) := by
  simp only [entT, List.mem_flatMap, List.mem_map, List.mem_filter, List.mem_range, decide_eq_true_eq]
  constructor
  · rintro ⟨x, hx, y, ⟨hy, h⟩, rfl⟩; exact ⟨x, y, hx, hy, h, rfl⟩
  · rintro ⟨x, y, hx, hy, h, rfl⟩; exact ⟨x, hx, y, ⟨hy, h⟩, rfl⟩
theorem entT_ones (T : List Int) : Ones (entT T) := fun e he => by
  obtain ⟨x, y, _, _, _, rfl⟩ := mem_entT.1 he
  rfl
theorem less3 (a b c d e f : Int) (h : a < d ∨ a = d ∧ b < e) : lessB [a, b, c] [d, e, f] = true := by
  simp only [lessB, cmpL, cmpI]
  rcases h with h | ⟨rfl, h⟩
  · simp [h]
  · simp [h]
theorem entT_asc (T : List Int) : Asc lessB (entT T) := by
  unfold entT Asc
  rw [List.pairwise_flatMap]
  refine ⟨fun x hx => ?_, ?_⟩
  · rw [List.pairwise_map]
    refine List.Pairwise.imp (R := fun a b : Nat => a < b) (fun {a b} h => less3 _ _ _ _ _ _ (.inr ⟨rfl, by omega⟩)) (List.Pairwise.sublist List.filter_sublist List.pairwise_lt_range)
  · refine List.Pairwise.imp (R := fun a b : Nat => a < b) (fun {a b} h e he f hf => ?_) List.pairwise_lt_range
    obtain ⟨y, _, rfl⟩ := List.mem_map.1 he
    obtain ⟨z, _, rfl⟩ := List.mem_map.1 hf
    exact less3 _ _ _ _ _ _ (.inl (by omega))
theorem entT_len (T : List Int) : (entT T).length ≤ 400 := by
  have := flatR_len (fun (x : Nat) => ((List.range 20).filter fun y => decide (0 < getT T x y)).map fun (y : Nat) => (([(x : Int), (y : Int), getT T x y], (1 : Int)) : Ent)) 20 (fun x => by rw [List.length_map]; exact Nat.le_trans (List.length_filter_le _ _) (by simp)) (List.range 20)
  simpa [entT] using this
theorem dst_ent {r : List Nat} (hr : OkR r) (k : List Int) : (k, (1 : Int)) ∈ dstN 1 (rds r) ↔ (k, (1 : Int)) ∈ entT (distT r) := by
  have hd := rds_djs hr
  rw [dstN_mem, mem_entT]
  constructor
  · rintro ⟨p, hp, x, y, hx, hy, hxy, e⟩
    rcases (tblN_get hx hy 1 (T := zeroT) zeroT_len zeroR_ok hd).2 with ⟨q, hq, h1, h2⟩ | ⟨h1, _⟩
    · have hpq := numR_one 1 zeroR_ok hd p hp q hq x y hxy h1
      subst hpq
      have h3 : getT (distT r) x y = (p.1 : Int) := h2
      have h4 := (numR_mem _ _ _ hp).2
      exact ⟨x, y, hx, hy, by rw [h3]; omega, by rw [h3]; exact e⟩
    · rw [h1 p hp] at hxy; cases hxy
  · rintro ⟨x, y, hx, hy, h0, e⟩
    rcases (tblN_get hx hy 1 (T := zeroT) zeroT_len zeroR_ok hd).2 with ⟨q, hq, h1, h2⟩ | ⟨_, h2⟩
    · have h3 : getT (distT r) x y = (q.1 : Int) := h2
      exact ⟨q, hq, x, y, hx, hy, h1, by rw [← h3]; exact e⟩
    · have h3 : getT (distT r) x y = 0 := h2.trans (zeroT_get x y)
      rw [h3] at h0; cases h0
theorem AddL_keyD {b : List Ent} : ∀ {a : List Ent} {y : Ent}, y ∈ AddL a b → (∃ q ∈ a, y.1 = q.1) ∨ ∃ q ∈ b, y.1 = q.1 := by
  induction b with
  | nil => intro a y h; exact .inl ⟨y, h, rfl⟩
  | cons x b ih =>
    intro a y h
    rcases ih (a := insK lessB a x.1 x.2) h with ⟨q, hq, e⟩ | ⟨q, hq, e⟩
    · rcases insK_key hq with e2 | ⟨q2, hq2, e2⟩
      · exact .inr ⟨x, by simp, e.trans e2⟩
      · exact .inl ⟨q2, hq2, e.trans e2⟩
    · exact .inr ⟨q, by simp [hq], e⟩
theorem dst_law {r : List Nat} (hr : OkR r) : AddL [] (dstN 1 (rds r)) = entT (distT r) := by
  have hk := dstN_keys 1 zeroR_ok (rds_djs hr)
  have ho := dstN_ones (rds r) 1
  have hA : Asc lessB (AddL [] (dstN 1 (rds r))) := AddL_asc asc_nil _
  have hw : ∀ k, wsum (AddL [] (dstN 1 (rds r))) k = if (k, (1 : Int)) ∈ dstN 1 (rds r) then 1 else 0 := fun k => by
    rw [AddL_wsum, wsum_nil, Int.zero_add, keys_wsum ho hk]
  have hone : Ones (AddL [] (dstN 1 (rds r))) := fun e he => by
    have h1 := wsum_mem hA he
    rw [hw] at h1
    have h2 : 0 < wsum (AddL [] (dstN 1 (rds r))) e.1 ∨ wsum (AddL [] (dstN 1 (rds r))) e.1 = 0 := by rw [hw]; split <;> simp
    by_cases hm : (e.1, (1 : Int)) ∈ dstN 1 (rds r)
    · rw [if_pos hm] at h1; exact h1.symm
    · exfalso
      obtain ⟨f, hf, hfe⟩ : ∃ f ∈ dstN 1 (rds r), f.1 = e.1 := by
        rcases AddL_keyD he with ⟨q, hq, _⟩ | ⟨q, hq, e2⟩
        · cases hq
        · exact ⟨q, hq, e2.symm⟩
      exact hm (by rw [← hfe, ← ho f hf]; exact hf)
  refine ones_ext hA (entT_asc _) hone (entT_ones _) (fun k => ?_)
  rw [← dst_ent hr, ← ones_pos hone, hw]
  by_cases hm : (k, (1 : Int)) ∈ dstN 1 (rds r) <;> simp [hm]
end Go.Proofs.YtifjenleoagefaaGreat

/- HELPER, no statement of the seat: paths of a relation by their number of edges, and the table of distances; no program. -/
namespace Go.Proofs.YtifjenleoagefaaGreat
open Go.RowKit Go.Sort
set_option linter.unusedSimpArgs false
set_option linter.unusedVariables false

theorem has_lt {r : List Nat} (hr : OkR r) {x y : Nat} (h : hasR r x y = true) : x < 20 ∧ y < 20 := by
  constructor
  · apply Decidable.byContradiction
    intro hn
    rw [hasR_out hr (by omega)] at h; cases h
  · apply Decidable.byContradiction
    intro hn
    rw [hr.big (by omega)] at h; cases h
/-- A path of n + 1 edges. -/
def wk (r : List Nat) : Nat → Nat → Nat → Prop
  | 0, x, y => hasR r x y = true
  | n + 1, x, z => ∃ y, wk r n x y ∧ hasR r y z = true
theorem wk_first {r : List Nat} : ∀ {n x z : Nat}, wk r (n + 1) x z ↔ ∃ y, hasR r x y = true ∧ wk r n y z
  | 0, x, z => by simp [wk]
  | n + 1, x, z => by
    constructor
    · rintro ⟨y, h, h2⟩
      obtain ⟨v, h3, h4⟩ := wk_first.1 h
      exact ⟨v, h3, y, h4, h2⟩
    · rintro ⟨v, h3, y, h4, h2⟩
      exact ⟨y, wk_first.2 ⟨v, h3, h4⟩, h2⟩
theorem wk_lt {r : List Nat} (hr : OkR r) : ∀ {n x y : Nat}, wk r n x y → x < 20 ∧ y < 20
  | 0, x, y, h => has_lt hr h
  | n + 1, x, z, h => by
    obtain ⟨y, h1, h2⟩ := h
    exact ⟨(wk_lt hr h1).1, (has_lt hr h2).2⟩
/-- The shortest path has i + 1 edges. -/
def shw (r : List Nat) (i x y : Nat) : Prop := wk r i x y ∧ ∀ j, j < i → ¬ wk r j x y
structure RdQ (r : List Nat) (i : Nat) (f l : List Nat) : Prop where
  seen : ∀ x y, hasR f x y = true ↔ ∃ j, j < i ∧ wk r j x y
  front : ∀ x y, hasR l x y = true ↔ shw r i x y
theorem RdQ.start (r : List Nat) : RdQ r 0 zeroR r := ⟨fun x y => by rw [zeroR_has]; simp, fun x y => by simp [shw, wk]⟩
theorem RdQ.next {r f l : List Nat} {i : Nat} (hr : OkR r) (h : RdInv f l) (q : RdQ r i f l) : RdQ r (i + 1) (orR f l) (nandR (thenR l r) (orR f l)) := by
  have hs : ∀ x y, hasR (orR f l) x y = true ↔ ∃ j, j < i + 1 ∧ wk r j x y := fun x y => by
    rw [orR_has h.okf h.okl, Bool.or_eq_true, q.seen, q.front]
    constructor
    · rintro (⟨j, hj, hw⟩ | hw)
      · exact ⟨j, by omega, hw⟩
      · exact ⟨i, by omega, hw.1⟩
    · rintro ⟨j, hj, hw⟩
      by_cases he : ∃ m, m < i ∧ wk r m x y
      · exact .inl he
      · have : j = i := by
          apply Decidable.byContradiction
          intro hne
          exact he ⟨j, by omega, hw⟩
        subst this
        exact .inr ⟨hw, fun m hm hw' => he ⟨m, hm, hw'⟩⟩
  refine ⟨hs, fun x z => ?_⟩
  rw [nandR_has (thenR_ok h.okl hr) (orR_ok h.okf h.okl), Bool.and_eq_true, thenR_has h.okl, Bool.not_eq_true']
  constructor
  · rintro ⟨⟨y, h1, h2⟩, h3⟩
    refine ⟨⟨y, ((q.front x y).1 h1).1, h2⟩, fun j hj hw => ?_⟩
    rw [(hs x z).2 ⟨j, hj, hw⟩] at h3; cases h3
  · rintro ⟨⟨y, h1, h2⟩, h3⟩
    refine ⟨⟨y, (q.front x y).2 ⟨h1, fun j hj hw => h3 (j + 1) (by omega) ⟨y, hw, h2⟩⟩, h2⟩, ?_⟩
    cases hc : hasR (orR f l) x z
    · rfl
    · obtain ⟨j, hj, hw⟩ := (hs x z).1 hc
      exact absurd hw (h3 j hj)
theorem rdsR_wk {r : List Nat} (hr : OkR r) : ∀ (n : Nat) (f l : List Nat) (i : Nat), RdInv f l → RdQ r i f l → ∀ k (hk : k < (rdsR r n f l).length) x y, hasR (rdsR r n f l)[k] x y = true ↔ shw r (i + k) x y
  | 0, f, l, i, _, _, k, hk, x, y => by simp [rdsR] at hk
  | n + 1, f, l, i, hI, q, k, hk, x, y => by
    by_cases hl : l = zeroR
    · have e : rdsR r (n + 1) f l = [] := by rw [rdsR, if_pos hl]
      rw [e] at hk; simp at hk
    · have e : rdsR r (n + 1) f l = l :: rdsR r n (orR f l) (nandR (thenR l r) (orR f l)) := by rw [rdsR, if_neg hl]
      have hg : ∀ (h2 : k < (l :: rdsR r n (orR f l) (nandR (thenR l r) (orR f l))).length), (rdsR r (n + 1) f l)[k] = (l :: rdsR r n (orR f l) (nandR (thenR l r) (orR f l)))[k] := fun h2 => by simp only [e]
      rw [hg (by rw [← e]; exact hk)]
      cases k with
      | zero => simpa using q.front x y
      | succ k =>
        have hk2 : k < (rdsR r n (orR f l) (nandR (thenR l r) (orR f l))).length := by rw [e] at hk; simpa using hk
        have := rdsR_wk hr n _ _ (i + 1) (hI.next hr) (q.next hr hI) k hk2 x y
        rw [List.getElem_cons_succ, this, show i + 1 + k = i + (k + 1) by omega]
theorem rds_wk {r : List Nat} (hr : OkR r) (k : Nat) (hk : k < (rds r).length) (x y : Nat) : hasR (rds r)[k] x y = true ↔ shw r k x y := by
  have := rdsR_wk hr 401 zeroR r 0 (RdInv.start hr) (RdQ.start r) k hk x y
  rwa [Nat.zero_add] at this
theorem wk_clos {r : List Nat} (hr : OkR r) : ∀ {n x y : Nat}, wk r n x y → hasR (closR r) x y = true
  | 0, x, y, h => closR_sub hr h
  | n + 1, x, z, ⟨y, h1, h2⟩ => closR_step hr (wk_clos hr h1) h2
theorem wk_rds {r : List Nat} (hr : OkR r) {n x y : Nat} (h : wk r n x y) : ∃ k, ∃ hk : k < (rds r).length, hasR (rds r)[k] x y = true := by
  obtain ⟨l, hl, h2⟩ := (closR_has hr x y).1 (wk_clos hr h)
  obtain ⟨k, hk, rfl⟩ := List.getElem_of_mem hl
  exact ⟨k, hk, h2⟩
theorem shw_rds {r : List Nat} (hr : OkR r) {i x y : Nat} : shw r i x y ↔ ∃ hk : i < (rds r).length, hasR (rds r)[i] x y = true := by
  constructor
  · intro h
    obtain ⟨k, hk, h2⟩ := wk_rds hr h.1
    have h3 := (rds_wk hr k hk x y).1 h2
    have : k = i := by
      rcases Nat.lt_trichotomy k i with hh | hh | hh
      · exact absurd h3.1 (h.2 k hh)
      · exact hh
      · exact absurd h.1 (h3.2 i hh)
    subst this
    exact ⟨hk, h2⟩
  · rintro ⟨hk, h⟩
    exact (rds_wk hr i hk x y).1 h
theorem wk_shw {r : List Nat} (hr : OkR r) {n x y : Nat} (h : wk r n x y) : ∃ k, k ≤ n ∧ shw r k x y := by
  obtain ⟨k, hk, h2⟩ := wk_rds hr h
  have h3 := (rds_wk hr k hk x y).1 h2
  refine ⟨k, ?_, h3⟩
  apply Decidable.byContradiction
  intro hn
  exact h3.2 n (by omega) h
theorem numR_at : ∀ (L : List (List Nat)) (n : Nat) (p : Nat × List Nat), p ∈ numR n L ↔ ∃ i, ∃ h : i < L.length, p = (n + i, L[i])
  | [], n, p => by simp [numR]
  | l :: L, n, p => by
    simp only [numR, List.mem_cons, numR_at L (n + 1) p]
    constructor
    · rintro (rfl | ⟨i, h, rfl⟩)
      · exact ⟨0, by simp, by simp⟩
      · exact ⟨i + 1, by simpa using h, by simp; omega⟩
    · rintro ⟨i, h, rfl⟩
      cases i with
      | zero => exact .inl (by simp)
      | succ i => exact .inr ⟨i, by simpa using h, by simp; omega⟩
/-- The table holds the numbers of edges of the shortest paths. -/
theorem dist_shw {r : List Nat} (hr : OkR r) {x y : Nat} (hx : x < 20) (hy : y < 20) (d : Nat) : getT (distT r) x y = ((d + 1 : Nat) : Int) ↔ shw r d x y := by
  rcases (tblN_get hx hy 1 (T := zeroT) zeroT_len zeroR_ok (rds_djs hr)).2 with ⟨p, hp, h1, h2⟩ | ⟨h1, h2⟩
  · obtain ⟨i, hi, rfl⟩ := (numR_at _ _ _).1 hp
    have hs := (rds_wk hr i hi x y).1 h1
    have e : getT (distT r) x y = ((1 + i : Nat) : Int) := h2
    rw [e]
    constructor
    · intro hd
      have : d = i := by omega
      rw [this]; exact hs
    · intro hd
      have : d = i := by
        rcases Nat.lt_trichotomy d i with hh | hh | hh
        · exact absurd hd.1 (hs.2 d hh)
        · exact hh
        · exact absurd hs.1 (hd.2 i hh)
      omega
  · have e : getT (distT r) x y = 0 := h2.trans (zeroT_get x y)
    rw [e]
    constructor
    · intro hd; omega
    · intro hd
      obtain ⟨hk, h3⟩ := (shw_rds hr).1 hd
      rw [h1 _ ((numR_at _ _ _).2 ⟨d, hk, rfl⟩)] at h3
      cases h3
theorem dist_form {r : List Nat} (hr : OkR r) {x y : Nat} (hx : x < 20) (hy : y < 20) : getT (distT r) x y = 0 ∨ ∃ d : Nat, d < 400 ∧ getT (distT r) x y = ((d + 1 : Nat) : Int) := by
  rcases (tblN_get hx hy 1 (T := zeroT) zeroT_len zeroR_ok (rds_djs hr)).2 with ⟨p, hp, h1, h2⟩ | ⟨h1, h2⟩
  · obtain ⟨i, hi, rfl⟩ := (numR_at _ _ _).1 hp
    have := rds_len hr
    exact .inr ⟨i, by omega, by have e : getT (distT r) x y = ((1 + i : Nat) : Int) := h2
                                rw [e]; omega⟩
  · exact .inl (h2.trans (zeroT_get x y))
/-- The first edge of a shortest path. -/
theorem dist_next {r : List Nat} (hr : OkR r) {x y : Nat} (hx : x < 20) (hy : y < 20) {d : Nat} (h : getT (distT r) x y = ((d + 2 : Nat) : Int)) : ∃ v, v < 20 ∧ hasR r x v = true ∧ getT (distT r) v y = ((d + 1 : Nat) : Int) := by
  have hs := (dist_shw hr hx hy (d + 1)).1 h
  obtain ⟨v, h1, h2⟩ := wk_first.1 hs.1
  have hv := (has_lt hr h1).2
  exact ⟨v, hv, h1, (dist_shw hr hv hy d).2 ⟨h2, fun j hj hw => hs.2 (j + 1) (by omega) (wk_first.2 ⟨v, h1, hw⟩)⟩⟩
/-- An edge behind a path. -/
theorem dist_tri {r : List Nat} (hr : OkR r) {x y z : Nat} (hx : x < 20) {d : Nat} (h : getT (distT r) x y = ((d + 1 : Nat) : Int)) (h2 : hasR r y z = true) : ∃ e : Nat, e ≤ d + 1 ∧ getT (distT r) x z = ((e + 1 : Nat) : Int) := by
  have hyz := has_lt hr h2
  have hs := (dist_shw hr hx hyz.1 d).1 h
  obtain ⟨e, he, h3⟩ := wk_shw hr (n := d + 1) ⟨y, hs.1, h2⟩
  exact ⟨e, he, (dist_shw hr hx hyz.2 e).2 h3⟩
end Go.Proofs.YtifjenleoagefaaGreat

/- HELPER, no statement of the seat: shortest paths, the smallest vertex first, as lists; no program. -/
namespace Go.Proofs.YtifjenleoagefaaGreat
open Go.RowKit Go.Sort
set_option linter.unusedSimpArgs false
set_option linter.unusedVariables false

/-- A vertex that is next on the way. -/
def isN (r : List Nat) (T : List Int) (y n x v : Nat) : Bool := hasR r x v && decide (getT T v y = (n : Int))
def nxt (r : List Nat) (T : List Int) (y n x : Nat) : Nat := ((List.range 20).find? (isN r T y n x)).getD x
theorem find_first {p : Nat → Bool} : ∀ {n v : Nat}, v < n → p v = true → ∃ u, u ≤ v ∧ p u = true ∧ (∀ j, j < u → p j = false) ∧ (List.range n).find? p = some u
  | 0, v, h, _ => by omega
  | n + 1, v, h, hp => by
    by_cases hc : ∃ j, j < n ∧ p j = true
    · obtain ⟨j, hj, hpj⟩ := hc
      obtain ⟨u, h1, h2, h3, h4⟩ := find_first hj hpj
      refine ⟨u, ?_, h2, h3, by rw [List.range_succ, List.find?_append, h4]; rfl⟩
      apply Decidable.byContradiction
      intro hn
      rw [h3 v (by omega)] at hp; cases hp
    · have hno : ∀ j, j < n → p j = false := fun j hj => by
        cases h : p j
        · rfl
        · exact absurd ⟨j, hj, h⟩ hc
      have e : v = n := by
        apply Decidable.byContradiction
        intro hne
        rw [hno v (by omega)] at hp; cases hp
      subst e
      refine ⟨v, Nat.le_refl _, hp, hno, ?_⟩
      rw [List.range_succ, List.find?_append, List.find?_eq_none.2 (fun j hj => by rw [hno j (by simpa using hj)]; simp)]
      simp [hp]
theorem nxt_ok {r : List Nat} {T : List Int} {y n x v : Nat} (hv : v < 20) (h : isN r T y n x v = true) : isN r T y n x (nxt r T y n x) = true ∧ nxt r T y n x < 20 ∧ ∀ j, j < nxt r T y n x → isN r T y n x j = false := by
  obtain ⟨u, h1, h2, h3, h4⟩ := find_first hv h
  have e : nxt r T y n x = u := by rw [nxt, h4]; rfl
  rw [e]
  exact ⟨h2, by omega, h3⟩
theorem nxt_eq {r : List Nat} {T : List Int} {y n x v : Nat} (hv : v < 20) (h : isN r T y n x v = true) (hno : ∀ j, j < v → isN r T y n x j = false) : nxt r T y n x = v := by
  obtain ⟨h1, h2, h3⟩ := nxt_ok hv h
  rcases Nat.lt_trichotomy (nxt r T y n x) v with hh | hh | hh
  · rw [hno _ hh] at h1; cases h1
  · exact hh
  · rw [h3 _ hh] at h; cases h
def posP (r : List Nat) (T : List Int) (y d x : Nat) : Nat → Nat
  | 0 => x
  | k + 1 => nxt r T y (d - k) (posP r T y d x k)
def walkP (r : List Nat) (T : List Int) (y d x k : Nat) : List Int := (List.range (k + 1)).map fun i => (posP r T y d x i : Int)
theorem walkP_zero (r : List Nat) (T : List Int) (y d x : Nat) : walkP r T y d x 0 = [(x : Int)] := rfl
theorem walkP_succ (r : List Nat) (T : List Int) (y d x k : Nat) : walkP r T y d x (k + 1) = walkP r T y d x k ++ [(posP r T y d x (k + 1) : Int)] := by
  unfold walkP
  rw [List.range_succ, List.map_append]; rfl
theorem walkP_len (r : List Nat) (T : List Int) (y d x k : Nat) : (walkP r T y d x k).length = k + 1 := by simp [walkP]
theorem walkP_last (r : List Nat) (T : List Int) (y d x k : Nat) : (walkP r T y d x k).getD k 0 = (posP r T y d x k : Int) := by
  simp [walkP, List.getD]
theorem posP_ok {r : List Nat} (hr : OkR r) {x y d : Nat} (hx : x < 20) (hy : y < 20) (h : getT (distT r) x y = ((d + 1 : Nat) : Int)) : ∀ k, k ≤ d → posP r (distT r) y d x k < 20 ∧ getT (distT r) (posP r (distT r) y d x k) y = ((d - k + 1 : Nat) : Int)
  | 0, _ => ⟨hx, h⟩
  | k + 1, hk => by
    obtain ⟨h1, h2⟩ := posP_ok hr hx hy h k (by omega)
    obtain ⟨v, hv, h3, h4⟩ := dist_next hr h1 hy (d := d - k - 1) (by rw [h2]; congr 1; omega)
    have hi : isN r (distT r) y (d - k) (posP r (distT r) y d x k) v = true := by
      rw [isN, h3, h4, show d - k - 1 + 1 = d - k by omega]; simp
    obtain ⟨h5, h6, _⟩ := nxt_ok hv hi
    refine ⟨h6, ?_⟩
    simp only [isN, Bool.and_eq_true, decide_eq_true_eq] at h5
    have := h5.2
    rw [show d - (k + 1) + 1 = d - k by omega]
    exact this
/-- The next vertex is the first one with an edge and a distance that is one less. -/
theorem posP_step {r : List Nat} (hr : OkR r) {x y d : Nat} (hx : x < 20) (hy : y < 20) (h : getT (distT r) x y = ((d + 1 : Nat) : Int)) {k : Nat} (hk : k < d) :
    isN r (distT r) y (d - k) (posP r (distT r) y d x k) (posP r (distT r) y d x (k + 1)) = true ∧ posP r (distT r) y d x (k + 1) < 20 ∧ ∀ j, j < posP r (distT r) y d x (k + 1) → isN r (distT r) y (d - k) (posP r (distT r) y d x k) j = false := by
  obtain ⟨h1, h2⟩ := posP_ok hr hx hy h k (by omega)
  obtain ⟨v, hv, h3, h4⟩ := dist_next hr h1 hy (d := d - k - 1) (by rw [h2]; congr 1; omega)
  have hi : isN r (distT r) y (d - k) (posP r (distT r) y d x k) v = true := by
    rw [isN, h3, h4, show d - k - 1 + 1 = d - k by omega]; simp
  exact nxt_ok hv hi
/-- The answer: the path and whether there is one. -/
def pathL (r : List Nat) (x y : Nat) : List Int := walkP r (distT r) y ((getT (distT r) x y).toNat - 1) x ((getT (distT r) x y).toNat - 1) ++ [(y : Int)]
def PthB (es : List Ent) (x y : Int) : Bool := edgB es && (inB x 0 19 && (inB y 0 19 && decide (getT (distT (relOf es)) x.toNat y.toNat ≠ 0)))
def PthF (es : List Ent) (x y : Int) : List Int := if PthB es x y = true then pathL (relOf es) x.toNat y.toNat else []
theorem dist_le {r : List Nat} (hr : OkR r) {x y : Nat} (hx : x < 20) (hy : y < 20) : 0 ≤ getT (distT r) x y ∧ getT (distT r) x y ≤ 400 := by
  rcases dist_form hr hx hy with h | ⟨d, hd, h⟩
  · rw [h]; omega
  · rw [h]; omega
end Go.Proofs.YtifjenleoagefaaGreat
