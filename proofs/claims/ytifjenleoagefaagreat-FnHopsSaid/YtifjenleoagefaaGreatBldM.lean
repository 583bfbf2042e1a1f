/- HELPER, no statement of the seat: lists of elements whose rows are anyone's, in a row of the call's own; sums that are collected; no program. -/
import Derived.Test.YtifjenleoagefaaGreatAddZ
import Derived.Lib.SliceRun
import Derived.Lib.LazyBuf
namespace Go.Proofs.YtifjenleoagefaaGreat
open Go.RowKit Go.Sort
set_option linter.unusedSimpArgs false
set_option linter.unusedVariables false
set_option linter.unusedSectionVars false

theorem Blk.one {w : World} {g : Nat} {t : TypeId} {u : Value} (h : Blk w g t #[u]) : w.cell? ⟨g, 0, none⟩ = some u := by simpa using h.cell 0
theorem ownsRow_far {w : World} {base : Nat} {E : TypeId} {sz : Nat} {A : Option Addr} {c n : Nat} {vs : List Value} (h : w.ownsRow base E sz (.slice A n c) n vs) {p : Addr} (hp : p.block < base) (u : Value) : (w.setCell p u).ownsRow base E sz (.slice A n c) n vs :=
  ownsRow_loc h (fun k hk => Below.heap_setCell _ _ _ _ (fun e => by
    have := (World.ownsRow.lt h k (by rw [ownBlock_slice]; exact hk)).1
    omega))
theorem ownsRow_below {w w' : World} {base : Nat} {E : TypeId} {sz : Nat} {A : Option Addr} {c n : Nat} {vs : List Value} (h : w.ownsRow base E sz (.slice A n c) n vs) (hb : Below w.heap.size w w') : w'.ownsRow base E sz (.slice A n c) n vs :=
  ownsRow_loc h (fun k hk => hb.block k (World.ownsRow.lt h k (by rw [ownBlock_slice]; exact hk)).2)
theorem row_lt {w : World} {base : Nat} {E : TypeId} {sz : Nat} {A : Option Addr} {c n : Nat} {vs : List Value} (h : w.ownsRow base E sz (.slice A n c) n vs) : ∀ k, blk A = some k → base ≤ k ∧ k < w.heap.size :=
  fun k hk => World.ownsRow.lt h k (by rw [ownBlock_slice]; exact hk)

theorem flat_set2 {css : List (List Value)} (he : ∀ cs ∈ css, cs.length = 2) (j : Nat) (h : j < css.length) (u v : Value) : (css.flatten.set (j * 2) u).set (j * 2 + 1) v = (css.set j [u, v]).flatten := by
  have e0 := flat_set u he j h 0 (by decide)
  rw [Nat.add_zero] at e0
  rw [e0]
  have he' : ∀ cs ∈ css.set j ((css[j]).set 0 u), cs.length = 2 := by
    intro cs hc
    rcases List.mem_or_eq_of_mem_set hc with hc | rfl
    · exact he cs hc
    · rw [List.length_set]; exact he _ (List.getElem_mem h)
  rw [flat_set v he' j (by simpa using h) 1 (by decide)]
  have hl := he _ (List.getElem_mem h)
  simp only [List.getElem_set_self, List.set_set]
  generalize css[j] = q at hl
  match q, hl with
  | [a, b], _ => rfl
theorem flat_set4 {css : List (List Value)} (he : ∀ cs ∈ css, cs.length = 4) (j : Nat) (h : j < css.length) (u v x y : Value) : ((((css.flatten.set (j * 4) u).set (j * 4 + 1) v).set (j * 4 + 2) x).set (j * 4 + 3) y) = (css.set j [u, v, x, y]).flatten := by
  have go : ∀ (ds : List (List Value)) (hd : ∀ cs ∈ ds, cs.length = 4) (hj : j < ds.length) (i : Nat) (hi : i < 4) (z : Value), ds.flatten.set (j * 4 + i) z = (ds.set j ((ds[j]).set i z)).flatten ∧ (∀ cs ∈ ds.set j ((ds[j]).set i z), cs.length = 4) := by
    intro ds hd hj i hi z
    refine ⟨flat_set z hd j hj i hi, ?_⟩
    intro cs hc
    rcases List.mem_or_eq_of_mem_set hc with hc | rfl
    · exact hd cs hc
    · rw [List.length_set]; exact hd _ (List.getElem_mem hj)
  obtain ⟨e0, h0⟩ := go css he h 0 (by decide) u
  rw [Nat.add_zero] at e0
  obtain ⟨e1, h1⟩ := go _ h0 (by simpa using h) 1 (by decide) v
  obtain ⟨e2, h2⟩ := go _ h1 (by simpa using h) 2 (by decide) x
  obtain ⟨e3, h3⟩ := go _ h2 (by simpa using h) 3 (by decide) y
  rw [e0, e1, e2, e3]
  have hl := he _ (List.getElem_mem h)
  simp only [List.getElem_set_self, List.set_set]
  generalize css[j] = q at hl
  match q, hl with
  | [a, b, c, d], _ => rfl

/-! ### Elements that are read -/
/-- css: the cells of elements which, in the world w, read as xs. -/
structure RdL {α : Type} (R : Rd α) (w : World) (css : List (List Value)) (xs : List α) : Prop where
  len : css.length = xs.length
  elt : ∀ j (h1 : j < css.length) (h2 : j < xs.length), R w css[j] xs[j]
section
variable {α : Type} {R : Rd α} {sz : Nat} {w w' : World} {css : List (List Value)} {xs : List α} {cs : List Value} {x : α}
theorem RdL.nil : RdL R w [] [] := ⟨rfl, fun j h => absurd h (by simp)⟩
theorem RdL.elen (ok : ROk R sz) (h : RdL R w css xs) : ∀ cs ∈ css, cs.length = sz := fun cs hc => by
  obtain ⟨j, hj, rfl⟩ := List.getElem_of_mem hc
  exact ok.len (h.elt j hj (by rw [← h.len]; exact hj))
theorem RdL.below (ok : ROk R sz) (h : RdL R w css xs) (hb : Below w.heap.size w w') : RdL R w' css xs := ⟨h.len, fun j h1 h2 => ok.below (h.elt j h1 h2) hb⟩
theorem RdL.snoc (h : RdL R w css xs) (hx : R w cs x) : RdL R w (css ++ [cs]) (xs ++ [x]) := by
  refine ⟨by simp [h.len], fun j h1 h2 => ?_⟩
  by_cases e : j < css.length
  · rw [List.getElem_append_left e, List.getElem_append_left (by rw [← h.len]; exact e)]
    exact h.elt j e (by rw [← h.len]; exact e)
  · have e1 : j = css.length := by simp at h1; omega
    subst e1
    have e2 : css.length = xs.length := h.len
    have g1 : (css ++ [cs])[css.length] = cs := by simp
    have g2 : (xs ++ [x])[css.length] = x := by simp [e2]
    rw [g1, g2]
    exact hx
theorem RdL.set_ (h : RdL R w css xs) (j : Nat) (hx : R w cs x) : RdL R w (css.set j cs) (xs.set j x) := by
  refine ⟨by simp [h.len], fun i h1 h2 => ?_⟩
  by_cases e : j = i
  · subst e; simpa using hx
  · rw [List.getElem_set_ne e, List.getElem_set_ne e]
    exact h.elt i (by simpa using h1) (by simpa using h2)
theorem RdL.take_ (h : RdL R w css xs) (k : Nat) : RdL R w (css.take k) (xs.take k) := by
  refine ⟨by simp [h.len], fun i h1 h2 => ?_⟩
  rw [List.getElem_take, List.getElem_take]
  exact h.elt i (by simp at h1; omega) (by simp at h2; omega)
theorem RdL.pick (h : RdL R w css xs) (dx : α) (sel : List Nat) (hs : ∀ j ∈ sel, j < xs.length) : RdL R w (sel.map fun j => css.getD j []) (sel.map fun j => xs.getD j dx) := by
  refine ⟨by simp, fun i h1 h2 => ?_⟩
  have hi : i < sel.length := by simpa using h1
  simp only [List.getElem_map]
  have hj := hs _ (List.getElem_mem hi)
  rw [getD_lt _ (by rw [h.len]; exact hj), getD_lt _ hj]
  exact h.elt _ (by rw [h.len]; exact hj) hj
/-- A row of the call's own, with such elements, is a list. -/
theorem RdL.at_ (ok : ROk R sz) (h : RdL R w css xs) {base : Nat} {E : TypeId} {A : Option Addr} {c n : Nat} (hn : n = xs.length) (hr : w.ownsRow base E sz (.slice A n c) n css.flatten) : SlAt R sz w A xs := fun hp => by
  subst hn
  rcases ownsRow_form hr with ⟨_, _, h0⟩ | ⟨g, rfl, _, hlt, _⟩
  · omega
  · refine ⟨g, 0, rfl, hlt, fun j hj => ?_⟩
    have h1 : j < css.length := by rw [h.len]; exact hj
    refine ⟨css[j], h.elen ok _ (List.getElem_mem h1), fun i hi => ?_, h.elt j h1 hj⟩
    have := World.ownsRow.cellAt hr (j * sz + i) (by
      have : (j + 1) * sz ≤ xs.length * sz := Nat.mul_le_mul_right _ (by omega)
      rw [Nat.add_mul] at this; omega)
    rw [Nat.zero_add, this, flat_get (h.elen ok) j h1 i hi]
end
theorem EntR.one {w : World} {cs : List Value} {e : Ent} (h : EntR w cs e) : ∀ u ∈ cs, u.oneCell' = true := by
  obtain ⟨A, c, rfl, -, -⟩ := h.form
  intro u hu
  simp at hu
  rcases hu with rfl | rfl <;> rfl

/-! ### Sums that are collected -/
section
variable {κ : Type} [DecidableEq κ] {lt : κ → κ → Bool}
theorem addM_length (l : List (κ × Int)) (x : κ × Int) : (addM l x).length ≤ l.length + 1 := by
  rcases snoc_cases l with rfl | ⟨m, y, rfl⟩
  · rw [addM_nil]; simp
  · rw [addM_snoc]; split <;> simp
theorem sumM_length (xs : List (κ × Int)) : ∀ l : List (κ × Int), (sumM l xs).length ≤ l.length + xs.length := by
  induction xs with
  | nil => intro l; simp [sumM]
  | cons x xs ih =>
    intro l
    have h1 := ih (addM l x)
    have h2 := addM_length l x
    show (sumM (addM l x) xs).length ≤ _
    rw [List.length_cons]
    omega
theorem sumM_take {l xs : List (κ × Int)} {k : Nat} (h : k < xs.length) : sumM l (xs.take (k + 1)) = addM (sumM l (xs.take k)) xs[k] := by
  rw [List.take_succ_eq_append_getElem h, sumM, List.foldl_append]
  rfl
/-- Weights within a bound. -/
def wIn (l : List (κ × Int)) (b : Int) : Prop := ∀ e ∈ l, -b ≤ e.2 ∧ e.2 ≤ b
theorem wIn.mono {l : List (κ × Int)} {b b' : Int} (h : wIn l b) (hb : b ≤ b') : wIn l b' := fun e he => by have := h e he; omega
theorem wIn.get {l : List (κ × Int)} {b : Int} (h : wIn l b) {k : Nat} (hk : k < l.length) : -b ≤ l[k].2 ∧ l[k].2 ≤ b := h _ (List.getElem_mem hk)
theorem addM_in {l : List (κ × Int)} {x : κ × Int} {b d : Int} (h : wIn l b) (hb : 0 ≤ b) (hd0 : 0 ≤ d) (hd : -d ≤ x.2 ∧ x.2 ≤ d) : wIn (addM l x) (b + d) := by
  rcases snoc_cases l with rfl | ⟨m, y, rfl⟩
  · intro e he
    rw [addM_nil] at he
    simp at he
    subst he
    omega
  · rw [addM_snoc]
    split
    · intro e he
      rcases List.mem_append.1 he with he | he
      · have := h e (by simp [he]); omega
      · simp at he
        subst he
        have := h y (by simp)
        simp only
        omega
    · intro e he
      rcases List.mem_append.1 he with he | he
      · have := h e he; omega
      · simp at he
        subst he
        omega
theorem addM_all {p : κ → Prop} {l : List (κ × Int)} {x : κ × Int} (h : ∀ e ∈ l, p e.1) (hx : p x.1) : ∀ e ∈ addM l x, p e.1 := fun e he => by
  rcases addM_key he with h1 | ⟨z, hz, h1⟩
  · rw [h1]; exact hx
  · rw [h1]; exact h z hz
theorem sumM_in {d : Int} (hd0 : 0 ≤ d) : ∀ (xs l : List (κ × Int)) (b : Int), wIn l b → 0 ≤ b → wIn xs d → wIn (sumM l xs) (b + xs.length * d)
  | [], l, b, h, _, _ => by
    have : b + (([] : List (κ × Int)).length : Int) * d = b := by simp
    rw [this]; exact h
  | x :: xs, l, b, h, hb, hx => by
    have h1 := addM_in h hb hd0 (hx x (by simp))
    have h2 := sumM_in hd0 xs (addM l x) (b + d) h1 (by omega) (fun e he => hx e (by simp [he]))
    have e : b + d + (xs.length : Int) * d = b + ((x :: xs).length : Int) * d := by
      rw [List.length_cons]; push_cast; rw [Int.add_mul]; omega
    rw [e] at h2
    exact h2
theorem sumM_all {p : κ → Prop} : ∀ (xs l : List (κ × Int)), (∀ e ∈ l, p e.1) → (∀ e ∈ xs, p e.1) → ∀ e ∈ sumM l xs, p e.1
  | [], _, h, _ => h
  | x :: xs, l, h, hx => sumM_all xs (addM l x) (addM_all h (hx x (by simp))) (fun e he => hx e (by simp [he]))
theorem asc_up (ht : TotLt lt) {l : List (κ × Int)} (h : Asc lt l) : Up lt l := List.Pairwise.imp (fun h => ht.asymm h) h
theorem up_drop {l : List (κ × Int)} (h : Up lt l) (k : Nat) : Up lt (l.drop k) := List.Pairwise.sublist (List.drop_sublist k l) h
theorem up_cons {x : κ × Int} {l : List (κ × Int)} (h : Up lt (x :: l)) : (∀ y ∈ l, lt y.1 x.1 = false) ∧ Up lt l := List.pairwise_cons.1 h
theorem ge_trans (ht : TotLt lt) {a b c : κ} (h1 : lt b a = false) (h2 : lt c b = false) : lt c a = false := by
  cases hc : lt c a with
  | false => rfl
  | true =>
    cases hb : lt a b with
    | true => have := ht.trans _ _ _ hc hb; rw [this] at h2; cases h2
    | false => have := ht.tri _ _ h1 hb; subst this; rw [hc] at h2; cases h2
/-- Nothing of xs lies below anything of l. -/
def Over (lt : κ → κ → Bool) (l xs : List (κ × Int)) : Prop := ∀ x ∈ xs, ∀ y ∈ l, lt x.1 y.1 = false
theorem over_nil (xs : List (κ × Int)) : Over lt [] xs := fun _ _ _ h => by cases h
theorem over_add (ht : TotLt lt) {l xs : List (κ × Int)} {x : κ × Int} (h : Over lt l xs) (hx : ∀ y ∈ xs, lt y.1 x.1 = false) : Over lt (addM l x) xs := fun y hy z hz => by
  rcases addM_key hz with e | ⟨q, hq, e⟩
  · rw [e]; exact hx y hy
  · rw [e]; exact h y hy q hq
theorem over_sum (ht : TotLt lt) {xs : List (κ × Int)} : ∀ (ys l : List (κ × Int)), Over lt l xs → (∀ x ∈ xs, ∀ y ∈ ys, lt x.1 y.1 = false) → Over lt (sumM l ys) xs
  | [], _, h, _ => h
  | y :: ys, l, h, hx => over_sum ht ys (addM l y) (over_add ht h (fun z hz => hx z hz y (by simp))) (fun x hx' z hz => hx x hx' z (by simp [hz]))
end

/-! ### slices.DeleteFunc, as it goes -/
section
variable {α : Type}
/-- The places below j that are kept. -/
def selTo (p : Nat → Bool) (j : Nat) : List Nat := (List.range j).filter p
theorem selTo_step (p : Nat → Bool) (j : Nat) : selTo p (j + 1) = selTo p j ++ if p j = true then [j] else [] := by
  unfold selTo
  rw [List.range_succ, List.filter_append]
  congr 1
  by_cases h : p j = true <;> simp [h]
theorem selTo_len (p : Nat → Bool) (j : Nat) : (selTo p j).length ≤ j := by
  have := List.length_filter_le p (List.range j)
  simpa [selTo] using this
theorem selTo_lt {p : Nat → Bool} {j k : Nat} (h : k ∈ selTo p j) : k < j := by
  have := (List.mem_filter.1 h).1
  simpa using this
theorem selTo_map {l : List α} (q : α → Bool) (d : α) : ∀ j, j ≤ l.length → (selTo (fun i => q (l.getD i d)) j).map (fun i => l.getD i d) = (l.take j).filter q := by
  intro j
  induction j with
  | zero => intro _; rfl
  | succ j ih =>
    intro hj
    have hj' : j < l.length := by omega
    rw [selTo_step, List.map_append, ih (by omega), List.take_succ_eq_append_getElem hj', List.filter_append]
    congr 1
    rw [getD_lt _ hj']
    by_cases h : q l[j] = true <;> simp [h, hj']
theorem selTo_all {p : Nat → Bool} {j : Nat} (h : ∀ k, k < j → p k = true) : selTo p j = List.range j := List.filter_eq_self.2 (fun k hk => h k (by simpa using hk))
theorem range_getD (l : List α) (d : α) {j : Nat} (h : j ≤ l.length) : (List.range j).map (fun i => l.getD i d) = l.take j := by
  apply List.ext_getElem
  · simp; omega
  · intro i h1 h2
    have : i < l.length := by simp at h2; omega
    simp [this]
/-- Behind the places below j: D holds the kept ones, then what was there. -/
structure DelI (css : List (List Value)) (p : Nat → Bool) (j : Nat) (D : List (List Value)) : Prop where
  len : D.length = css.length
  lt : (selTo p j).length < j
  head : D.take (selTo p j).length = (selTo p j).map fun i => css.getD i []
  tail : D.drop j = css.drop j
theorem DelI.start {css : List (List Value)} {p : Nat → Bool} {k : Nat} (hk : k < css.length) (h : ∀ i, i < k → p i = true) (hp : p k = false) : DelI css p (k + 1) css := by
  have e : selTo p (k + 1) = List.range k := by rw [selTo_step, selTo_all h, hp]; simp
  refine ⟨rfl, by rw [e]; simp, ?_, rfl⟩
  rw [e, range_getD _ _ (by omega)]
  simp
theorem DelI.skip {css D : List (List Value)} {p : Nat → Bool} {j : Nat} (h : DelI css p j D) (hp : p j = false) : DelI css p (j + 1) D := by
  have e : selTo p (j + 1) = selTo p j := by rw [selTo_step, hp]; simp
  refine ⟨h.len, by rw [e]; have := h.lt; omega, by rw [e]; exact h.head, ?_⟩
  rw [← List.drop_drop, h.tail, List.drop_drop]
theorem DelI.keep {css D : List (List Value)} {p : Nat → Bool} {j : Nat} (h : DelI css p j D) (hj : j < css.length) (hp : p j = true) : DelI css p (j + 1) (D.set (selTo p j).length (css.getD j [])) := by
  have e : selTo p (j + 1) = selTo p j ++ [j] := by rw [selTo_step, hp]; simp
  have hl := h.lt
  have hD := h.len
  refine ⟨by simp [hD], by rw [e]; simp; omega, ?_, ?_⟩
  · rw [e, List.length_append, List.length_singleton, List.map_append, ← h.head, List.take_succ_eq_append_getElem (by simp; omega), List.getElem_set_self, List.take_set, List.set_eq_of_length_le (by simp; omega)]
    rfl
  · rw [List.drop_set_of_lt (by omega), ← List.drop_drop, h.tail, List.drop_drop]
theorem DelI.at_ {css D : List (List Value)} {p : Nat → Bool} {j : Nat} (h : DelI css p j D) (hj : j < css.length) : D.getD j [] = css.getD j [] := by
  have h1 : (D.drop j)[0]? = (css.drop j)[0]? := by rw [h.tail]
  rw [List.getElem?_drop, List.getElem?_drop] at h1
  simp only [Nat.add_zero] at h1
  rw [List.getD_eq_getElem?_getD, List.getD_eq_getElem?_getD, h1]
theorem DelI.elen {css D : List (List Value)} {p : Nat → Bool} {j sz : Nat} (he : ∀ cs ∈ css, cs.length = sz) (hD : ∀ cs ∈ D, cs.length = sz) (hj : j < css.length) (i : Nat) : ∀ cs ∈ D.set i (css.getD j []), cs.length = sz := fun cs hc => by
  rcases List.mem_or_eq_of_mem_set hc with hc | rfl
  · exact hD cs hc
  · rw [getD_lt _ hj]; exact he _ (List.getElem_mem hj)
end

/-! ### The builtin clear, at elements of several cells -/
theorem zeroCells_one (z : Array Value) (h : ∀ u ∈ z.toList, u.oneCell' = true) (n : Nat) : ∀ u ∈ (Builtin.zeroCells z n).toList, u.oneCell' = true := by
  intro u hu
  simp only [Builtin.zeroCells, Array.toList_map, List.mem_map] at hu
  obtain ⟨i, hi, rfl⟩ := hu
  by_cases h0 : z.size = 0
  · simp [h0] at hi
  · have hm : i % z.size < z.size := Nat.mod_lt _ (by omega)
    rw [getElem!_pos z _ hm]
    exact h _ (by simp)
theorem run_clear_k {P : Program} (w : World) (t e ty : TypeId) (z : Value) (sz : Nat) (ht : P.underlying t = some (.slice e)) (hv : ∀ w, (zeroValue e).run P w = .ok z w) (hz : z.cells.size = sz) (h1 : ∀ u ∈ z.cells.toList, u.oneCell' = true) (b o n c : Nat) (hn : 0 < n)
    (hc : ∀ j, j < n * sz → (w.cell? ⟨b, o + j, none⟩).isSome = true) (hf : ∀ j, j < n * sz → w.frozen? ⟨b, o + j, none⟩ = false) :
    (Builtin.clear_ #[t] ty #[.slice (some ⟨b, o, none⟩) n c]).run P w = .ok (.tuple #[]) (w.setCells b o (Builtin.zeroCells z.cells n).toList) := by
  have hl : (Builtin.zeroCells z.cells n).toList.length = n * sz := by simp [Builtin.zeroCells, hz]
  have hst := run_storeCells_cells (P := P) b o (Builtin.zeroCells z.cells n).toList 0 w (by rw [hl]; simpa using hc) (by rw [hl]; simpa using hf) (zeroCells_one _ h1 n)
  simp only [Nat.add_zero] at hst
  obtain ⟨m, rfl⟩ : ∃ m, n = m + 1 := ⟨n - 1, by omega⟩
  simp [Builtin.clear_, run_underlying ht, hv, hst]
end Go.Proofs.YtifjenleoagefaaGreat
