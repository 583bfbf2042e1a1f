/- HELPER, no statement of the seat: what both sides of CheckClosure come to, as lists; no program. -/
import Derived.Test.YtifjenleoagefaaGreatCtl
namespace Go.Proofs.YtifjenleoagefaaGreat
open Go.RowKit Go.Sort
set_option linter.unusedSimpArgs false
set_option linter.unusedVariables false

/-! ### A table out of rows -/
def rngE (e : Ent) : Bool := inB (gi e.1 0) 0 19 && (inB (gi e.1 1) 0 19 && decide (1 ≤ gi e.1 2))
def tabE (T : List Int) (e : Ent) : Option (List Int) :=
  if (rngE e && decide (getT T (gi e.1 0).toNat (gi e.1 1).toNat = 0)) = true then some (setT T (gi e.1 0).toNat (gi e.1 1).toNat (gi e.1 2)) else none
def tabL (T : List Int) (l : List Ent) : Option (List Int) := l.foldl (fun o e => o.bind fun T => tabE T e) (some T)
def tabOk (ds : List Ent) : Bool := setB ds && (decide (ds.length = 0) || decide (wid ds = 3))
def TabF (ds : List Ent) : Option (List Int) := if tabOk ds = true then tabL zeroT ds else none
theorem tabL_snoc (T : List Int) (l : List Ent) (e : Ent) : tabL T (l ++ [e]) = (tabL T l).bind fun T => tabE T e := by simp [tabL]
theorem tabL_take (T : List Int) {l : List Ent} {k : Nat} (h : k < l.length) : tabL T (l.take (k + 1)) = (tabL T (l.take k)).bind fun T => tabE T l[k] := by
  rw [List.take_succ_eq_append_getElem h, tabL_snoc]
theorem foldN : ∀ l : List Ent, l.foldl (fun o e => o.bind fun T => tabE T e) none = none
  | [] => rfl
  | e :: l => by simpa using foldN l
theorem tabL_bad {T : List Int} {l : List Ent} {k : Nat} (h : tabL T (l.take k) = none) : tabL T l = none := by
  have e : tabL T l = (l.drop k).foldl (fun o e => o.bind fun T => tabE T e) (tabL T (l.take k)) := by
    unfold tabL
    rw [← List.foldl_append, List.take_append_drop]
  rw [e, h, foldN]
/-- What a table holds after some rows. -/
structure TabI (l : List Ent) (T : List Int) : Prop where
  len : T.length = 400
  has : ∀ x y : Nat, x < 20 → y < 20 → getT T x y ≠ 0 → ∃ e ∈ l, gi e.1 0 = x ∧ gi e.1 1 = y ∧ gi e.1 2 = getT T x y
  all : ∀ e ∈ l, rngE e = true ∧ getT T (gi e.1 0).toNat (gi e.1 1).toNat = gi e.1 2
  nn : ∀ x y : Nat, x < 20 → y < 20 → 0 ≤ getT T x y
theorem TabI.zero : TabI [] zeroT := ⟨zeroT_len, fun x y _ _ h => absurd (zeroT_get x y) h, (fun e he => nomatch he), fun x y _ _ => by rw [zeroT_get]; omega⟩
theorem rngE_nat {e : Ent} (h : rngE e = true) : ∃ X Y : Nat, gi e.1 0 = X ∧ gi e.1 1 = Y ∧ X < 20 ∧ Y < 20 ∧ 1 ≤ gi e.1 2 := by
  simp only [rngE, inB, Bool.and_eq_true, decide_eq_true_eq] at h
  exact ⟨(gi e.1 0).toNat, (gi e.1 1).toNat, by omega, by omega, by omega, by omega, h.2.2⟩
theorem TabI.step {l : List Ent} {T T' : List Int} (h : TabI l T) {e : Ent} (hs : tabE T e = some T') : TabI (l ++ [e]) T' := by
  unfold tabE at hs
  split at hs
  · rename_i hc
    injection hs with hs
    rw [Bool.and_eq_true, decide_eq_true_eq] at hc
    obtain ⟨hr, h0⟩ := hc
    obtain ⟨X, Y, e0, e1, hX, hY, hd⟩ := rngE_nat hr
    rw [e0, e1] at hs h0
    simp only [Int.toNat_natCast] at hs h0
    subst hs
    refine ⟨by simp [setT, h.len], fun x y hx hy hne => ?_, fun f hf => ?_, fun x y hx hy => ?_⟩
    · rw [getT_set h.len hx hy hX hY] at hne ⊢
      by_cases hc : x = X ∧ y = Y
      · obtain ⟨rfl, rfl⟩ := hc
        exact ⟨e, by simp, e0, e1, by simp⟩
      · rw [if_neg hc] at hne ⊢
        obtain ⟨f, hf, h2⟩ := h.has x y hx hy hne
        exact ⟨f, by simp [hf], h2⟩
    · rcases List.mem_append.1 hf with hf | hf
      · obtain ⟨h1, h2⟩ := h.all f hf
        obtain ⟨U, V, f0, f1, hU, hV, hd2⟩ := rngE_nat h1
        refine ⟨h1, ?_⟩
        rw [f0, f1] at h2 ⊢
        simp only [Int.toNat_natCast] at h2 ⊢
        rw [getT_set h.len hU hV hX hY, if_neg, h2]
        rintro ⟨rfl, rfl⟩
        omega
      · rw [List.mem_singleton] at hf
        subst hf
        refine ⟨hr, ?_⟩
        rw [e0, e1]
        simp only [Int.toNat_natCast]
        rw [getT_set h.len hX hY hX hY, if_pos ⟨rfl, rfl⟩]
    · rw [getT_set h.len hx hy hX hY]
      split
      · omega
      · exact h.nn x y hx hy
  · cases hs
theorem tabL_inv : ∀ (l p : List Ent) (T T' : List Int), TabI p T → tabL T l = some T' → TabI (p ++ l) T'
  | [], p, T, T', h, hs => by
    injection hs with hs
    subst hs
    simpa using h
  | e :: l, p, T, T', h, hs => by
    have e1 : tabL T (e :: l) = l.foldl (fun o e => o.bind fun T => tabE T e) (tabE T e) := rfl
    rw [e1] at hs
    cases ht : tabE T e with
    | none => rw [ht, foldN] at hs; cases hs
    | some U =>
      rw [ht] at hs
      have := tabL_inv l (p ++ [e]) U T' (h.step ht) hs
      simpa using this
theorem tabL_len {l : List Ent} {T : List Int} (h : tabL zeroT l = some T) : T.length = 400 := (tabL_inv l [] zeroT T TabI.zero h).len
theorem one_of_set {ds : List Ent} (h : setB ds = true) : zsB ds = true ∧ Ones ds := by
  simp only [setB, Bool.and_eq_true] at h
  refine ⟨h.1, fun e he => ?_⟩
  obtain ⟨k, hk, rfl⟩ := List.getElem_of_mem he
  have := allTo_iff.1 h.2 k hk
  rw [nth_get hk] at this
  simpa using this
theorem row3 {xs : List Int} (h : xs.length = 3) : xs = [gi xs 0, gi xs 1, gi xs 2] := by
  match xs, h with
  | [a, b, c], _ => rfl
theorem wid_of {ds : List Ent} (h : tabOk ds = true) : setB ds = true ∧ ∀ e ∈ ds, e.1.length = 3 := by
  simp only [tabOk, Bool.and_eq_true, Bool.or_eq_true, decide_eq_true_eq] at h
  refine ⟨h.1, fun e he => ?_⟩
  rcases h.2 with h2 | h2
  · rw [List.length_eq_zero_iff] at h2; subst h2; cases he
  · rw [zsB_wid (one_of_set h.1).1 e he]; exact h2
/-- A table that is read holds the rows. -/
theorem TabF_some {ds : List Ent} {T : List Int} (h : TabF ds = some T) : entT T = ds ∧ (∀ x y : Nat, x < 20 → y < 20 → 0 ≤ getT T x y) ∧ T.length = 400 := by
  unfold TabF at h
  split at h
  · rename_i hok
    obtain ⟨hset, h3⟩ := wid_of hok
    obtain ⟨hz, ho⟩ := one_of_set hset
    have hi := tabL_inv ds [] zeroT T TabI.zero h
    rw [List.nil_append] at hi
    refine ⟨ones_ext (entT_asc T) (zsB_asc hz) (entT_ones T) ho (fun r => ?_), hi.nn, hi.len⟩
    rw [mem_entT]
    constructor
    · rintro ⟨x, y, hx, hy, hp, hr⟩
      obtain ⟨e, he, h0, h1, h2⟩ := hi.has x y hx hy (by omega)
      have e3 := row3 (h3 e he)
      rw [h0, h1, h2] at e3
      have hr' : r = [(x : Int), (y : Int), getT T x y] := congrArg Prod.fst hr
      rw [hr', ← e3]
      have := ho e he
      rw [show (e.1, (1 : Int)) = e from Prod.ext rfl this.symm]
      exact he
    · intro he
      obtain ⟨h1, h2⟩ := hi.all _ he
      obtain ⟨X, Y, e0, e1, hX, hY, hd⟩ := rngE_nat h1
      have e3 := row3 (h3 _ he)
      simp only at e0 e1 hd h2 e3
      rw [e0, e1] at h2 e3
      simp only [Int.toNat_natCast] at h2
      refine ⟨X, Y, hX, hY, by omega, ?_⟩
      rw [h2, ← e3]
  · cases h
theorem asc_nodup {l : List Ent} (h : Asc lessB l) : l.Nodup := by
  unfold Asc at h
  rw [List.nodup_iff_pairwise_ne]
  exact h.imp (fun {a b} h e => by rw [e, rowTot.irrefl] at h; cases h)
/-- The rows of a table can be read. -/
theorem tabL_ent (U : List Int) : ∀ (l p : List Ent) (T : List Int), TabI p T → (∀ e ∈ p ++ l, e ∈ entT U) → (p ++ l).Nodup → tabL T l ≠ none
  | [], _, T, _, _, _ => by intro h; cases h
  | e :: l, p, T, hi, hm, hn => by
    obtain ⟨x, y, hx, hy, hp, rfl⟩ := mem_entT.1 (hm e (by simp))
    have h0 : getT T x y = 0 := by
      apply Decidable.byContradiction
      intro hne
      obtain ⟨f, hf, f0, f1, f2⟩ := hi.has x y hx hy hne
      obtain ⟨x', y', _, _, _, rfl⟩ := mem_entT.1 (hm f (by simp [hf]))
      have e1 : (x' : Int) = x := f0
      have e2 : (y' : Int) = y := f1
      have e3 : x' = x := by omega
      have e4 : y' = y := by omega
      subst e3; subst e4
      rw [List.nodup_append] at hn
      exact hn.2.2 _ hf _ (by simp) rfl
    have hr : rngE ([(x : Int), (y : Int), getT U x y], (1 : Int)) = true := by
      simp only [rngE, inB, Bool.and_eq_true, decide_eq_true_eq, gi]
      simp
      omega
    have hs : tabE T ([(x : Int), (y : Int), getT U x y], (1 : Int)) = some (setT T x y (getT U x y)) := by
      unfold tabE
      rw [if_pos]
      · rfl
      · rw [hr]
        simp [gi, h0]
    have e1 : tabL T (([(x : Int), (y : Int), getT U x y], (1 : Int)) :: l) = tabL (setT T x y (getT U x y)) l := by
      show l.foldl _ (tabE T _) = _
      rw [hs]; rfl
    rw [e1]
    exact tabL_ent U l (p ++ [([(x : Int), (y : Int), getT U x y], (1 : Int))]) _ (hi.step hs) (by simpa using hm) (by simpa using hn)
theorem ent_set {r : List Nat} (hr : OkR r) : setB (entT (distT r)) = true := by
  rw [setB, ent_zs hr, Bool.true_and]
  refine allTo_iff.2 (fun k hk => ?_)
  rw [nth_get hk]
  simpa using entT_ones _ _ (List.getElem_mem hk)
theorem TabF_ent {r : List Nat} (hr : OkR r) : TabF (entT (distT r)) ≠ none := by
  have hok : tabOk (entT (distT r)) = true := by
    rw [tabOk, ent_set hr, Bool.true_and]
    cases h : entT (distT r) with
    | nil => simp
    | cons e l =>
      obtain ⟨x, y, hx, hy, h1, rfl⟩ := mem_entT.1 (show e ∈ entT (distT r) by rw [h]; simp)
      simp [wid, nth]
  rw [TabF, if_pos hok]
  exact tabL_ent (distT r) _ [] zeroT TabI.zero (by simp) (by simpa using asc_nodup (entT_asc _))
theorem CckF_none {es ds : List Ent} (h : TabF ds = none) : CckF es ds = false := by
  cases he : edgB es
  · simp [CckF, he]
  · rw [CckF, he, Bool.true_and, decide_eq_false_iff_not]
    intro hd
    exact TabF_ent (relOf_ok he) (hd ▸ h)
theorem CckF_some {es ds : List Ent} {T : List Int} (he : edgB es = true) (h : TabF ds = some T) : CckF es ds = true ↔ cerP (relOf es) T := by
  obtain ⟨h1, h2, h3⟩ := TabF_some h
  rw [CckF, he, Bool.true_and, decide_eq_true_eq, cer_iff (relOf_ok he) h2, h1]
/-! ### The program's conditions -/
def reaB (r : List Nat) (T : List Int) (x y : Nat) : Bool := if getT T x y = 1 then hasR r x y else (List.range 20).any fun w => decide (getT T x w = getT T x y - 1) && hasR r w y
def conB (r : List Nat) (T : List Int) (x y : Nat) : Bool := (vtx (r.getD y 0)).all fun z => decide (getT T x z ≠ 0) && decide (getT T x z ≤ getT T x y + 1)
def cellB (r : List Nat) (T : List Int) (x y : Nat) : Bool := !(hasR r x y && decide (getT T x y ≠ 1)) && !(decide (0 < getT T x y) && !(reaB r T x y && conB r T x y))
theorem reaB_iff (r : List Nat) (T : List Int) (x y : Nat) : reaB r T x y = true ↔ reaP r T x y := by
  unfold reaB reaP
  by_cases h : getT T x y = 1
  · rw [if_pos h]
    exact ⟨fun h2 => .inl ⟨h, h2⟩, fun h2 => h2.elim (fun h3 => h3.2) (fun h3 => absurd h h3.1)⟩
  · rw [if_neg h, List.any_eq_true]
    constructor
    · rintro ⟨w, hw, h2⟩
      rw [Bool.and_eq_true, decide_eq_true_eq] at h2
      exact .inr ⟨h, w, List.mem_range.1 hw, h2⟩
    · rintro (h2 | ⟨_, w, hw, h2⟩)
      · exact absurd h2.1 h
      · exact ⟨w, List.mem_range.2 hw, by rw [Bool.and_eq_true, decide_eq_true_eq]; exact h2⟩
theorem conB_iff {r : List Nat} (hr : OkR r) (T : List Int) (x y : Nat) : conB r T x y = true ↔ conP r T x y := by
  unfold conB conP
  rw [List.all_eq_true]
  constructor
  · intro h z hz
    have := h z (mem_vtx.2 ⟨(has_lt hr hz).2, hz⟩)
    simpa using this
  · intro h z hz
    have := h z (mem_vtx.1 hz).2
    simpa using this
theorem cellB_iff {r : List Nat} (hr : OkR r) (T : List Int) (x y : Nat) : cellB r T x y = true ↔ (hasR r x y = true → getT T x y = 1) ∧ (0 < getT T x y → reaP r T x y ∧ conP r T x y) := by
  rw [← reaB_iff, ← conB_iff hr]
  unfold cellB
  cases hasR r x y <;> cases reaB r T x y <;> cases conB r T x y <;> simp <;> omega
theorem cells_iff {r : List Nat} (hr : OkR r) (T : List Int) : (allTo (fun x => allTo (fun y => cellB r T x y) 20) 20) = true ↔ cerP r T := by
  rw [allTo_iff]
  constructor
  · intro h x y hx hy
    exact (cellB_iff hr T x y).1 (allTo_iff.1 (h x hx) y hy)
  · intro h x hx
    exact allTo_iff.2 (fun y hy => (cellB_iff hr T x y).2 (h x y hx hy))
theorem CckF_cells {es ds : List Ent} {T : List Int} (he : edgB es = true) (h : TabF ds = some T) : CckF es ds = allTo (fun x => allTo (fun y => cellB (relOf es) T x y) 20) 20 := by
  rw [Bool.eq_iff_iff, CckF_some he h, cells_iff (relOf_ok he)]
/-! ### The model's conditions -/
def supB (es ds : List Ent) (xs : List Int) : Bool := if gi xs 2 = 1 then decide (0 < wOf es (xs.take 2)) else (List.range 20).any fun w => decide (0 < wOf ds [gi xs 0, (w : Int), gi xs 2 - 1]) && decide (0 < wOf es [(w : Int), gi xs 1])
def adjB (ds : List Ent) (i : Nat) : Bool := decide (0 < i) && decide ((nth ds (i - 1)).1.take 2 = (nth ds i).1.take 2)
def rowOkB (es ds : List Ent) (i : Nat) : Bool := decide ((nth ds i).1.length = 3) && (rngE (nth ds i) && (!adjB ds i && supB es ds (nth ds i).1))
def edgOkB (es ds : List Ent) (i k : Nat) : Bool := !(decide (gi (nth es k).1 0 = gi (nth ds i).1 1) && (decide (dinL ds (gi (nth ds i).1 0) (gi (nth es k).1 1) = 0) || decide (gi (nth ds i).1 2 + 1 < dinL ds (gi (nth ds i).1 0) (gi (nth es k).1 1))))
def cckS (es ds : List Ent) : Bool := edgB es && (setB ds && (allTo (fun i => rowOkB es ds i && allTo (edgOkB es ds i) es.length) ds.length && allTo (fun k => decide (dinL ds (gi (nth es k).1 0) (gi (nth es k).1 1) = 1)) es.length))
theorem take2 {a b c : Int} : [a, b, c].take 2 = [a, b] := rfl
theorem wOf_edge {es : List Ent} (h : edgB es = true) (u v : Nat) : 0 < wOf es [(u : Int), (v : Int)] ↔ hasR (relOf es) u v = true := by
  have hp := prs_relOf h
  have h1 := has_prs (relOf_ok h) u v
  rw [hp] at h1
  have ho : Ones es := by rw [← hp]; exact prs_ones _
  rw [ones_wOf ho, ← h1]
  constructor
  · intro h2
    apply Decidable.byContradiction
    intro hn
    rw [if_neg (by exact hn)] at h2; omega
  · intro h2
    rw [if_pos (by exact h2)]; omega
theorem wOf_ent {T : List Int} {x : Nat} (hx : x < 20) {w : Nat} (hw : w < 20) {d : Int} (hd : 0 < d) : 0 < wOf (entT T) [(x : Int), (w : Int), d] ↔ getT T x w = d := by
  rw [ones_wOf (entT_ones T)]
  have h1 : (([(x : Int), (w : Int), d], (1 : Int)) ∈ entT T) ↔ getT T x w = d := by
    rw [mem_entT]
    constructor
    · rintro ⟨x', w', _, _, _, e⟩
      simp only [Prod.mk.injEq, List.cons.injEq, and_true] at e
      obtain ⟨e1, e2, e3⟩ := e
      have e4 : x = x' := by omega
      have e5 : w = w' := by omega
      subst e4; subst e5
      exact e3.symm
    · rintro rfl
      exact ⟨x, w, hx, hw, hd, rfl⟩
  by_cases hm : (([(x : Int), (w : Int), d], (1 : Int)) ∈ entT T)
  · rw [if_pos hm]; exact ⟨fun _ => h1.1 hm, fun _ => by omega⟩
  · rw [if_neg hm]; exact ⟨fun h => absurd h (by omega), fun h => absurd (h1.2 h) hm⟩
theorem sup_iff {es : List Ent} (h : edgB es = true) {T : List Int} (hT : ∀ x y : Nat, x < 20 → y < 20 → 0 ≤ getT T x y) {x y : Nat} (hx : x < 20) (hy : y < 20) (hp : 0 < getT T x y) : supB es (entT T) [(x : Int), (y : Int), getT T x y] = true ↔ reaP (relOf es) T x y := by
  have es0 : supB es (entT T) [(x : Int), (y : Int), getT T x y] = (if getT T x y = 1 then decide (0 < wOf es [(x : Int), (y : Int)]) else (List.range 20).any fun (w : Nat) => decide (0 < wOf (entT T) [(x : Int), (w : Int), getT T x y - 1]) && decide (0 < wOf es [(w : Int), (y : Int)])) := rfl
  rw [es0]
  clear es0
  unfold reaP
  by_cases h1 : getT T x y = 1
  · rw [if_pos h1, decide_eq_true_eq, wOf_edge h]
    exact ⟨fun h2 => .inl ⟨h1, h2⟩, fun h2 => h2.elim (fun h3 => h3.2) (fun h3 => absurd h1 h3.1)⟩
  · rw [if_neg h1, List.any_eq_true]
    constructor
    · rintro ⟨w, hw, h2⟩
      have hw := List.mem_range.1 hw
      rw [Bool.and_eq_true, decide_eq_true_eq, decide_eq_true_eq, wOf_ent hx hw (by omega), wOf_edge h] at h2
      exact .inr ⟨h1, w, hw, h2⟩
    · rintro (h2 | ⟨_, w, hw, h2⟩)
      · exact absurd h2.1 h1
      · exact ⟨w, List.mem_range.2 hw, by rw [Bool.and_eq_true, decide_eq_true_eq, decide_eq_true_eq, wOf_ent hx hw (by omega), wOf_edge h]; exact h2⟩
theorem edge_nth {es : List Ent} (h : edgB es = true) {k : Nat} (hk : k < es.length) : ∃ a b : Nat, a < 20 ∧ b < 20 ∧ (nth es k).1 = [(a : Int), (b : Int)] ∧ hasR (relOf es) a b = true := by
  obtain ⟨h1, h2, h3⟩ := edgB_parts h
  rw [nth_get hk]
  have hm := List.getElem_mem hk
  obtain ⟨a, b, ha, hb, e⟩ := edgeE_row (h3 _ hm)
  refine ⟨a, b, ha, hb, e, (relOf_has h a b).2 ?_⟩
  rw [show pr a b = es[k] from Prod.ext e.symm (h2 _ hm).symm]
  exact hm
theorem edge_at {es : List Ent} (h : edgB es = true) {a b : Nat} (hab : hasR (relOf es) a b = true) : ∃ k, k < es.length ∧ (nth es k).1 = [(a : Int), (b : Int)] := by
  obtain ⟨k, hk, e⟩ := List.getElem_of_mem ((relOf_has h a b).1 hab)
  exact ⟨k, hk, by rw [nth_get hk, e]; rfl⟩
theorem nth_ent {T : List Int} {i : Nat} (hi : i < (entT T).length) : ∃ x y : Nat, x < 20 ∧ y < 20 ∧ 0 < getT T x y ∧ (nth (entT T) i).1 = [(x : Int), (y : Int), getT T x y] := by
  rw [nth_get hi]
  obtain ⟨x, y, hx, hy, hp, e⟩ := mem_entT.1 (List.getElem_mem hi)
  exact ⟨x, y, hx, hy, hp, by rw [e]⟩
/-- Where the rows are those of a table, the model's conditions are the certificate's. -/
theorem cck_ent {es : List Ent} (h : edgB es = true) {T : List Int} (hT : ∀ x y : Nat, x < 20 → y < 20 → 0 ≤ getT T x y)
    (hadj : ∀ i, i < (entT T).length → adjB (entT T) i = false) :
    (allTo (fun i => rowOkB es (entT T) i && allTo (edgOkB es (entT T) i) es.length) (entT T).length && allTo (fun k => decide (dinL (entT T) (gi (nth es k).1 0) (gi (nth es k).1 1) = 1)) es.length) = true ↔ cerP (relOf es) T := by
  rw [Bool.and_eq_true, allTo_iff, allTo_iff]
  have hrow : ∀ i, i < (entT T).length → ∀ x y : Nat, x < 20 → y < 20 → 0 < getT T x y → (nth (entT T) i).1 = [(x : Int), (y : Int), getT T x y] → ((rowOkB es (entT T) i && allTo (edgOkB es (entT T) i) es.length) = true ↔ reaP (relOf es) T x y ∧ conP (relOf es) T x y) := fun i hi x y hx hy hp e => by
    have hr : rngE (nth (entT T) i) = true := by
      simp only [rngE, inB, Bool.and_eq_true, decide_eq_true_eq, gi, e]
      simp
      omega
    rw [Bool.and_eq_true, allTo_iff, ← sup_iff h hT hx hy hp]
    have e1 : rowOkB es (entT T) i = supB es (entT T) [(x : Int), (y : Int), getT T x y] := by
      rw [rowOkB, hr, hadj i hi, e]; rfl
    rw [e1]
    refine and_congr_right (fun _ => ?_)
    constructor
    · intro h2 z hz
      obtain ⟨k, hk, ek⟩ := edge_at h hz
      have h3 := h2 k hk
      have hzl := (has_lt (relOf_ok h) hz).2
      simp only [edgOkB, ek, e, gi, List.getD_cons_zero, List.getD_cons_succ, decide_true, Bool.true_and, dinL_ent hT hx hzl] at h3
      simp at h3
      exact ⟨h3.1, by omega⟩
    · intro h2 k hk
      obtain ⟨a, b, ha, hb, ek, hab⟩ := edge_nth h hk
      simp only [edgOkB, ek, e, gi, List.getD_cons_zero, List.getD_cons_succ, dinL_ent hT hx hb]
      by_cases hc : a = y
      · subst hc
        have := h2 b hab
        simp
        omega
      · have : ¬ ((a : Int) = (y : Int)) := by omega
        simp [this]
  constructor
  · rintro ⟨h1, h2⟩ x y hx hy
    refine ⟨fun hxy => ?_, fun hp => ?_⟩
    · obtain ⟨k, hk, ek⟩ := edge_at h hxy
      have := h2 k hk
      simp only [ek, gi, List.getD_cons_zero, List.getD_cons_succ, dinL_ent hT hx hy, decide_eq_true_eq] at this
      exact this
    · obtain ⟨i, hi, ei⟩ := List.getElem_of_mem (mem_entT.2 ⟨x, y, hx, hy, hp, rfl⟩)
      exact (hrow i hi x y hx hy hp (by rw [nth_get hi, ei])).1 (h1 i hi)
  · intro hc
    constructor
    · intro i hi
      obtain ⟨x, y, hx, hy, hp, e⟩ := nth_ent hi
      exact (hrow i hi x y hx hy hp e).2 ((hc x y hx hy).2 hp)
    · intro k hk
      obtain ⟨a, b, ha, hb, ek, hab⟩ := edge_nth h hk
      simp only [ek, gi, List.getD_cons_zero, List.getD_cons_succ, dinL_ent hT ha hb, decide_eq_true_eq]
      exact (hc a b ha hb).1 hab
theorem less3_iff (a b c d e f : Int) : lessB [a, b, c] [d, e, f] = true ↔ a < d ∨ a = d ∧ (b < e ∨ b = e ∧ c < f) := by
  simp only [lessB, cmpL, cmpI]
  by_cases h1 : a < d
  · simp [h1]
  · by_cases h2 : d < a
    · have : a ≠ d := by omega
      simp [h1, h2, this]
    · obtain rfl : a = d := by omega
      by_cases h3 : b < e
      · simp [h3]
      · by_cases h4 : e < b
        · have : b ≠ e := by omega
          simp [h3, h4, this]
        · obtain rfl : b = e := by omega
          by_cases h5 : c < f
          · simp [h5]
          · by_cases h6 : f < c
            · simp [h5, h6]
            · simp [h5, h6]
theorem ent_adj (T : List Int) : ∀ i, i < (entT T).length → adjB (entT T) i = false := fun i hi => by
  unfold adjB
  rw [Bool.and_eq_false_iff]
  rcases Nat.eq_zero_or_pos i with h | h
  · subst h; exact .inl rfl
  · refine .inr ?_
    rw [decide_eq_false_iff_not]
    intro he
    have hi1 : i - 1 < (entT T).length := by omega
    obtain ⟨x, y, hx, hy, hp, e⟩ := nth_ent hi
    obtain ⟨u, v, hu, hv, hq, e2⟩ := nth_ent hi1
    rw [e, e2, take2, take2] at he
    simp only [List.cons.injEq, and_true] at he
    obtain ⟨h1, h2⟩ := he
    have h1' : u = x := by omega
    have h2' : v = y := by omega
    subst h1'; subst h2'
    have hnd := asc_nodup (entT_asc T)
    rw [nth_get hi] at e
    rw [nth_get hi1] at e2
    have o1 := entT_ones T _ (List.getElem_mem hi)
    have o2 := entT_ones T _ (List.getElem_mem hi1)
    have : (entT T)[i - 1] = (entT T)[i] := Prod.ext (e2.trans e.symm) (o2.trans o1.symm)
    exact (List.pairwise_iff_getElem.1 (List.nodup_iff_pairwise_ne.1 hnd)) (i - 1) i hi1 hi (by omega) this
/-- Rows in range that do not begin alike one after the other are those of a table. -/
theorem TabF_rows {ds : List Ent} (hs : setB ds = true) (h : ∀ i, i < ds.length → (nth ds i).1.length = 3 ∧ rngE (nth ds i) = true ∧ adjB ds i = false) : TabF ds ≠ none := by
  obtain ⟨hz, ho⟩ := one_of_set hs
  have ha := zsB_asc hz
  have hok : tabOk ds = true := by
    rw [tabOk, hs, Bool.true_and]
    rcases Nat.eq_zero_or_pos ds.length with h0 | h0
    · simp [h0]
    · have := (h 0 h0).1
      simp [wid, this]
  have hkey : ∀ i j, i < j → (hj : j < ds.length) → gi (nth ds i).1 0 < gi (nth ds j).1 0 ∨ gi (nth ds i).1 0 = gi (nth ds j).1 0 ∧ gi (nth ds i).1 1 < gi (nth ds j).1 1 := fun i j => by
    induction j with
    | zero => intro hij; omega
    | succ j ih =>
      intro hij hj
      have hstep : gi (nth ds j).1 0 < gi (nth ds (j + 1)).1 0 ∨ gi (nth ds j).1 0 = gi (nth ds (j + 1)).1 0 ∧ gi (nth ds j).1 1 < gi (nth ds (j + 1)).1 1 := by
        obtain ⟨a1, a2, a3⟩ := h j (by omega)
        obtain ⟨b1, b2, b3⟩ := h (j + 1) hj
        have hl : lessB (nth ds j).1 (nth ds (j + 1)).1 = true := by
          rw [nth_get hj, nth_get (show j < ds.length by omega)]
          exact (List.pairwise_iff_getElem.1 ha) j (j + 1) (by omega) hj (by omega)
        have hne : ¬ ((nth ds j).1.take 2 = (nth ds (j + 1)).1.take 2) := by
          intro he
          simp [adjB, he] at b3
        rw [row3 a1, row3 b1] at hl hne
        rw [take2, take2] at hne
        rw [less3_iff] at hl
        simp only [List.cons.injEq, and_true] at hne
        omega
      rcases Nat.lt_or_ge i j with hh | hh
      · have := ih hh (by omega)
        omega
      · have : i = j := by omega
        subst this; exact hstep
  rw [TabF, if_pos hok]
  have key : ∀ k, k ≤ ds.length → ∃ T, tabL zeroT (ds.take k) = some T := fun k => by
    induction k with
    | zero => intro _; exact ⟨zeroT, rfl⟩
    | succ k ih =>
      intro hk
      obtain ⟨T, hT⟩ := ih (by omega)
      have hi := tabL_inv _ [] zeroT T TabI.zero hT
      rw [List.nil_append] at hi
      have hkl : k < ds.length := by omega
      rw [tabL_take zeroT hkl, hT]
      obtain ⟨a1, a2, a3⟩ := h k hkl
      rw [nth_get hkl] at a1 a2
      obtain ⟨X, Y, e0, e1, hX, hY, hd⟩ := rngE_nat a2
      have h0 : getT T X Y = 0 := by
        apply Decidable.byContradiction
        intro hne
        obtain ⟨f, hf, f0, f1, f2⟩ := hi.has X Y hX hY hne
        obtain ⟨j, hj, rfl⟩ := List.getElem_of_mem hf
        rw [List.length_take] at hj
        rw [List.getElem_take] at f0 f1
        have := hkey j k (by omega) hkl
        rw [nth_get hkl, nth_get (show j < ds.length by omega)] at this
        omega
      refine ⟨setT T X Y (gi ds[k].1 2), ?_⟩
      simp only [Option.bind_some, tabE, a2, e0, e1, Int.toNat_natCast, h0, decide_true, Bool.and_self, if_true]
  obtain ⟨T, hT⟩ := key ds.length (Nat.le_refl _)
  rw [List.take_length] at hT
  rw [hT]
  intro hh; cases hh
theorem cckS_eq (es ds : List Ent) : cckS es ds = CckF es ds := by
  cases he : edgB es
  · simp [cckS, CckF, he]
  have hr := relOf_ok he
  have e1 : cckS es ds = (setB ds && (allTo (fun i => rowOkB es ds i && allTo (edgOkB es ds i) es.length) ds.length && allTo (fun k => decide (dinL ds (gi (nth es k).1 0) (gi (nth es k).1 1) = 1)) es.length)) := by rw [cckS, he, Bool.true_and]
  rw [e1, Bool.eq_iff_iff]
  constructor
  · intro h
    rw [Bool.and_eq_true] at h
    obtain ⟨hs, h2⟩ := h
    have hrows : ∀ i, i < ds.length → (nth ds i).1.length = 3 ∧ rngE (nth ds i) = true ∧ adjB ds i = false := fun i hi => by
      have h3 := allTo_iff.1 (Bool.and_eq_true_iff.1 h2).1 i hi
      simp only [rowOkB, Bool.and_eq_true, decide_eq_true_eq, Bool.not_eq_true'] at h3
      exact ⟨h3.1.1, h3.1.2.1, h3.1.2.2.1⟩
    obtain ⟨T, hT⟩ := Option.ne_none_iff_exists'.1 (TabF_rows hs hrows)
    rw [CckF_some he hT]
    obtain ⟨t1, t2, t3⟩ := TabF_some hT
    subst t1
    exact (cck_ent he t2 (ent_adj T)).1 h2
  · intro h
    have hd : ds = entT (distT (relOf es)) := by simpa [CckF, he] using h
    subst hd
    rw [ent_set hr, Bool.true_and]
    exact (cck_ent he (fun x y hx hy => (dist_le hr hx hy).1) (ent_adj _)).2 (cer_dist hr)
end Go.Proofs.YtifjenleoagefaaGreat
