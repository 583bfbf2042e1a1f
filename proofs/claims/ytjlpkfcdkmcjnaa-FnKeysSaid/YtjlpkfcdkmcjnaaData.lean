/- HELPER, no statement of the seat: data in memory: read ('Rd'), and owned, with the blocks that it lies in ('Ow'). -/
import Derived.Test.YtjlpkfcdkmcjnaaRegion
import Derived.Laws.AppendOwn
import Derived.Laws.OwnMore
import Derived.OpenShut
import Derived.Carry
import Derived.Deep.Slices
namespace Go.Proofs.Ytjlpkfcdkmcjnaa
open Go.RowKit
set_option linter.unusedSimpArgs false
set_option linter.unusedVariables false

abbrev Fp := Nat → Prop
/-- Only blocks of S, and new ones, have turned. -/
structure GrownS (w w' : World) (S : Fp) : Prop where
  os : w'.os = w.os
  tape : w'.tape = w.tape
  output : w'.output = w.output
  size : w.heap.size ≤ w'.heap.size
  block : ∀ k, k < w.heap.size → ¬ S k → w'.heap[k]? = w.heap[k]?
section
variable {a w w' w'' : World} {S S' : Fp}
theorem GrownS.refl (w : World) (S : Fp) : GrownS w w S := ⟨rfl, rfl, rfl, Nat.le_refl _, fun _ _ _ => rfl⟩
theorem GrownS.trans (h : GrownS w w' S) (k : GrownS w' w'' S) : GrownS w w'' S :=
  ⟨k.os.trans h.os, k.tape.trans h.tape, k.output.trans h.output, Nat.le_trans h.size k.size, fun i hi hn => (k.block i (Nat.lt_of_lt_of_le hi h.size) hn).trans (h.block i hi hn)⟩
theorem GrownS.mono (h : GrownS w w' S) (hs : ∀ k, S k → S' k) : GrownS w w' S' := ⟨h.os, h.tape, h.output, h.size, fun k hk hn => h.block k hk (fun e => hn (hs k e))⟩
theorem GrownS.ofBelow (h : Below w.heap.size w w') : GrownS w w' S := ⟨h.os, h.tape, h.output, h.size, fun k hk _ => h.block k hk⟩
theorem GrownS.ofGrown {row : Option Nat} (h : w.grownBy w' row) (hr : ∀ k, row = some k → S k) : GrownS w w' S := ⟨h.os, h.tape, h.output, h.size, fun k hk hn => h.block k hk (fun e => hn (hr k e.symm))⟩
theorem GrownS.below (g : GrownS w w' S) (h : Below a.heap.size a w) (hs : ∀ k, S k → a.heap.size ≤ k) : Below a.heap.size a w' :=
  ⟨g.os.trans h.os, g.tape.trans h.tape, g.output.trans h.output, Nat.le_trans h.size g.size, fun k hk => (g.block k (Nat.lt_of_lt_of_le hk h.size) (fun e => by have := hs k e; omega)).trans (h.block k hk)⟩
theorem GrownS.set_ (g : GrownS a w S) {p : Addr} (hp : S p.block) (u : Value) : GrownS a (w.setCell p u) S :=
  g.trans ⟨rfl, rfl, rfl, by simp [World.setCell], fun k hk hn => Below.heap_setCell _ _ _ _ (fun e => hn (e ▸ hp))⟩
end

abbrev Rd (α : Type) := World → List Value → α → Prop
abbrev Ow (α : Type) := World → Fp → List Value → α → Prop

structure ROk {α : Type} (R : Rd α) (sz : Nat) : Prop where
  len : ∀ {w cs x}, R w cs x → cs.length = sz
  below : ∀ {w w' cs x}, R w cs x → Below w.heap.size w w' → R w' cs x
structure OOk {α : Type} (O : Ow α) (R : Rd α) (sz : Nat) : Prop where
  len : ∀ {w S cs x}, O w S cs x → cs.length = sz
  lt : ∀ {w S cs x}, O w S cs x → ∀ k, S k → k < w.heap.size
  loc : ∀ {w w' S cs x}, O w S cs x → (∀ k, S k → w'.heap[k]? = w.heap[k]?) → O w' S cs x
  mono : ∀ {w S S' cs x}, O w S cs x → (∀ k, S k → S' k) → (∀ k, S' k → k < w.heap.size) → O w S' cs x
  rd : ∀ {w S cs x}, O w S cs x → R w cs x
  one : ∀ {w S cs x}, O w S cs x → ∀ u ∈ cs, u.oneCell' = true

theorem lt_of_heap {w w' : World} {k : Nat} (h : w'.heap[k]? = w.heap[k]?) (hk : k < w.heap.size) : k < w'.heap.size := by
  rcases Nat.lt_or_ge k w'.heap.size with hlt | hge
  · exact hlt
  · rw [Array.getElem?_eq_none hge, Array.getElem?_eq_getElem hk] at h; cases h
theorem OOk.below {α : Type} {O : Ow α} {R : Rd α} {sz : Nat} (ok : OOk O R sz) {w w' : World} {S : Fp} {cs : List Value} {x : α} (h : O w S cs x) (hb : Below w.heap.size w w') : O w' S cs x :=
  ok.loc h (fun k hk => hb.block k (ok.lt h k hk))
theorem OOk.kept {α : Type} {O : Ow α} {R : Rd α} {sz : Nat} (ok : OOk O R sz) {w w' : World} {S T : Fp} {cs : List Value} {x : α} (h : O w S cs x) (hb : GrownS w w' T) (hd : ∀ k, S k → ¬ T k) : O w' S cs x :=
  ok.loc h (fun k hk => hb.block k (ok.lt h k hk) (hd k hk))

/-! ### Numbers and truth values -/
def IntR : Rd Int := fun _ cs x => cs = [.int .i64 x]
def IntO : Ow Int := fun w S cs x => cs = [.int .i64 x] ∧ ∀ k, S k → k < w.heap.size
def BoolR : Rd Bool := fun _ cs x => cs = [.bool x]
def BoolO : Ow Bool := fun w S cs x => cs = [.bool x] ∧ ∀ k, S k → k < w.heap.size
theorem intR : ROk IntR 1 := ⟨fun h => by rw [h]; rfl, fun h _ => h⟩
theorem boolR : ROk BoolR 1 := ⟨fun h => by rw [h]; rfl, fun h _ => h⟩
theorem intO : OOk IntO IntR 1 := ⟨fun h => by rw [h.1]; rfl, fun h => h.2, fun h e => ⟨h.1, fun k hk => lt_of_heap (e k hk) (h.2 k hk)⟩, fun h _ l => ⟨h.1, l⟩, fun h => h.1, fun h u hu => by rw [h.1] at hu; simp at hu; rw [hu]; rfl⟩
theorem boolO : OOk BoolO BoolR 1 := ⟨fun h => by rw [h.1]; rfl, fun h => h.2, fun h e => ⟨h.1, fun k hk => lt_of_heap (e k hk) (h.2 k hk)⟩, fun h _ l => ⟨h.1, l⟩, fun h => h.1, fun h u hu => by rw [h.1] at hu; simp at hu; rw [hu]; rfl⟩

/-! ### Fields side by side -/
def PairR {α β : Type} (R1 : Rd α) (R2 : Rd β) : Rd (α × β) := fun w cs x => ∃ c1 c2, cs = c1 ++ c2 ∧ R1 w c1 x.1 ∧ R2 w c2 x.2
def PairO {α β : Type} (O1 : Ow α) (O2 : Ow β) : Ow (α × β) := fun w S cs x => (∀ k, S k → k < w.heap.size) ∧ ∃ c1 c2 S1 S2, cs = c1 ++ c2 ∧ (∀ k, S1 k → S k) ∧ (∀ k, S2 k → S k) ∧ (∀ k, S1 k → ¬ S2 k) ∧ O1 w S1 c1 x.1 ∧ O2 w S2 c2 x.2
theorem pairR {α β : Type} {R1 : Rd α} {R2 : Rd β} {s1 s2 : Nat} (h1 : ROk R1 s1) (h2 : ROk R2 s2) : ROk (PairR R1 R2) (s1 + s2) :=
  ⟨fun ⟨c1, c2, e, r1, r2⟩ => by rw [e, List.length_append, h1.len r1, h2.len r2], fun ⟨c1, c2, e, r1, r2⟩ hb => ⟨c1, c2, e, h1.below r1 hb, h2.below r2 hb⟩⟩
theorem pairO {α β : Type} {O1 : Ow α} {O2 : Ow β} {R1 : Rd α} {R2 : Rd β} {s1 s2 : Nat} (h1 : OOk O1 R1 s1) (h2 : OOk O2 R2 s2) : OOk (PairO O1 O2) (PairR R1 R2) (s1 + s2) where
  len := fun ⟨_, c1, c2, S1, S2, e, _, _, _, r1, r2⟩ => by rw [e, List.length_append, h1.len r1, h2.len r2]
  lt := fun h => h.1
  loc := fun ⟨l, c1, c2, S1, S2, e, i1, i2, d, r1, r2⟩ q => ⟨fun k hk => lt_of_heap (q k hk) (l k hk), c1, c2, S1, S2, e, i1, i2, d, h1.loc r1 (fun k hk => q k (i1 k hk)), h2.loc r2 (fun k hk => q k (i2 k hk))⟩
  mono := fun ⟨l, c1, c2, S1, S2, e, i1, i2, d, r1, r2⟩ s l' => ⟨l', c1, c2, S1, S2, e, fun k hk => s k (i1 k hk), fun k hk => s k (i2 k hk), d, r1, r2⟩
  rd := fun ⟨_, c1, c2, S1, S2, e, _, _, _, r1, r2⟩ => ⟨c1, c2, e, h1.rd r1, h2.rd r2⟩
  one := fun ⟨_, c1, c2, S1, S2, e, _, _, _, r1, r2⟩ u hu => by
    rw [e] at hu
    rcases List.mem_append.1 hu with hu | hu
    · exact h1.one r1 u hu
    · exact h2.one r2 u hu

/-! ### Slices -/
/-- The slice at A reads as xs. -/
def SlAt {α : Type} (R : Rd α) (sz : Nat) (w : World) (A : Option Addr) (xs : List α) : Prop :=
  0 < xs.length → ∃ b off, A = some ⟨b, off, none⟩ ∧ b < w.heap.size ∧ ∀ j (hj : j < xs.length), ∃ cs : List Value, cs.length = sz ∧ (∀ i, i < sz → w.cell? ⟨b, off + j * sz + i, none⟩ = cs[i]?) ∧ R w cs xs[j]
def SlR {α : Type} (R : Rd α) (sz : Nat) : Rd (List α) := fun w cs xs => ∃ A c, cs = [.slice A xs.length c] ∧ xs.length ≤ maxLen ∧ SlAt R sz w A xs
theorem SlAt.below {α : Type} {R : Rd α} {sz : Nat} (ok : ROk R sz) {w w' : World} {A : Option Addr} {xs : List α} (h : SlAt R sz w A xs) (hb : Below w.heap.size w w') : SlAt R sz w' A xs := fun hn => by
  obtain ⟨b, off, e, hlt, hc⟩ := h hn
  refine ⟨b, off, e, Nat.lt_of_lt_of_le hlt hb.size, fun j hj => ?_⟩
  obtain ⟨cs, hl, hcell, hr⟩ := hc j hj
  exact ⟨cs, hl, fun i hi => (hb.cell (p := ⟨b, off + j * sz + i, none⟩) hlt).trans (hcell i hi), ok.below hr hb⟩
theorem SlAt.nil {α : Type} {R : Rd α} {sz : Nat} {w : World} {A : Option Addr} : SlAt R sz w A [] := fun h => absurd h (by simp)
theorem slR {α : Type} {R : Rd α} {sz : Nat} (ok : ROk R sz) : ROk (SlR R sz) 1 :=
  ⟨fun ⟨_, _, e, _⟩ => by rw [e]; rfl, fun ⟨A, c, e, l, h⟩ hb => ⟨A, c, e, l, h.below ok hb⟩⟩

def blk (A : Option Addr) : Option Nat := A.map (·.block)
theorem ownBlock_slice (A : Option Addr) (n c : Nat) : (Value.slice A n c).ownBlock = blk A := by cases A <;> rfl

/-- The slice at A is the head of a row of its own, which reads as xs; css: its cells, element for element; F: the blocks of each element; S: all its blocks. -/
structure SlF {α : Type} (O : Ow α) (sz : Nat) (E : TypeId) (w : World) (S : Fp) (A : Option Addr) (c : Nat) (xs : List α) (css : List (List Value)) (F : Nat → Fp) : Prop where
  lt : ∀ k, S k → k < w.heap.size
  top : ∀ k, blk A = some k → S k
  row : w.ownsRow 0 E sz (.slice A xs.length c) xs.length css.flatten
  clen : css.length = xs.length
  elen : ∀ cs ∈ css, cs.length = sz
  sub : ∀ j k, F j k → S k ∧ blk A ≠ some k
  apart : ∀ i j k, F i k → F j k → i = j
  elt : ∀ j (h1 : j < css.length) (h2 : j < xs.length), O w (F j) css[j] xs[j]
def SlOw {α : Type} (O : Ow α) (sz : Nat) (E : TypeId) (w : World) (S : Fp) (A : Option Addr) (c : Nat) (xs : List α) : Prop := ∃ css F, SlF O sz E w S A c xs css F
def SlO {α : Type} (O : Ow α) (sz : Nat) (E : TypeId) : Ow (List α) := fun w S cs xs => ∃ A c, cs = [.slice A xs.length c] ∧ SlOw O sz E w S A c xs

theorem flat_get {sz : Nat} : ∀ {css : List (List Value)}, (∀ cs ∈ css, cs.length = sz) → ∀ j (h : j < css.length) i, i < sz → css.flatten[j * sz + i]? = (css[j])[i]?
  | [], _, j, h, _, _ => absurd h (by simp)
  | cs :: css, he, 0, h, i, hi => by
    have : cs.length = sz := he cs (by simp)
    simp [List.getElem?_append, this, hi]
  | cs :: css, he, j + 1, h, i, hi => by
    have h0 : cs.length = sz := he cs (by simp)
    have := flat_get (css := css) (fun c hc => he c (by simp [hc])) j (by simpa using h) i hi
    have e : (j + 1) * sz + i = cs.length + (j * sz + i) := by rw [h0, Nat.add_mul]; omega
    rw [e, List.flatten_cons, List.getElem?_append_right (by omega)]
    simpa using this
theorem flat_len {sz : Nat} : ∀ {css : List (List Value)}, (∀ cs ∈ css, cs.length = sz) → css.flatten.length = css.length * sz
  | [], _ => by simp
  | cs :: css, he => by
    rw [List.flatten_cons, List.length_append, flat_len (fun c hc => he c (by simp [hc])), he cs (by simp), List.length_cons, Nat.add_mul]
    omega
theorem flat_set {sz : Nat} (u : Value) : ∀ {css : List (List Value)}, (∀ cs ∈ css, cs.length = sz) → ∀ j (h : j < css.length) i, i < sz → css.flatten.set (j * sz + i) u = (css.set j ((css[j]).set i u)).flatten
  | [], _, j, h, _, _ => absurd h (by simp)
  | cs :: css, he, 0, h, i, hi => by
    have : cs.length = sz := he cs (by simp)
    simp [List.set_append, this, hi]
  | cs :: css, he, j + 1, h, i, hi => by
    have h0 : cs.length = sz := he cs (by simp)
    have := flat_set u (css := css) (fun c hc => he c (by simp [hc])) j (by simpa using h) i hi
    have e : (j + 1) * sz + i = cs.length + (j * sz + i) := by rw [h0, Nat.add_mul]; omega
    rw [e, List.flatten_cons, List.set_append_right _ _ (by omega)]
    simpa using this

section
variable {α : Type} {O : Ow α} {R : Rd α} {sz : Nat} {E : TypeId} {w w' : World} {S S' : Fp} {A : Option Addr} {c : Nat} {xs : List α} {css : List (List Value)} {F : Nat → Fp}
theorem ownsRow_base0 {base : Nat} {v : Value} {n : Nat} {vs : List Value} (h : w.ownsRow base E sz v n vs) : w.ownsRow 0 E sz v n vs := by
  refine ⟨h.1, ?_⟩
  rcases h.2 with h2 | ⟨g, cap, cur, e, hbg, r⟩
  · exact .inl h2
  · exact .inr ⟨g, cap, cur, e, Nat.zero_le _, r⟩
theorem ownsRow_base {base : Nat} {n : Nat} {vs : List Value} (h : w.ownsRow 0 E sz (.slice A n c) n vs) (hb : ∀ k, blk A = some k → base ≤ k) : w.ownsRow base E sz (.slice A n c) n vs := by
  refine ⟨h.1, ?_⟩
  rcases h.2 with h2 | ⟨g, cap, cur, e, hbg, r⟩
  · exact .inl h2
  · refine .inr ⟨g, cap, cur, e, ?_, r⟩
    injection e with e1 e2 e3
    subst e1
    exact hb g rfl
theorem ownsRow_loc {base n : Nat} {vs : List Value} (h : w.ownsRow base E sz (.slice A n c) n vs) (hq : ∀ k, blk A = some k → w'.heap[k]? = w.heap[k]?) : w'.ownsRow base E sz (.slice A n c) n vs := by
  refine ⟨h.1, ?_⟩
  rcases h.2 with h2 | ⟨g, cap, cur, e, hbg, hg, r⟩
  · exact .inl h2
  · refine .inr ⟨g, cap, cur, e, hbg, ?_, r⟩
    injection e with e1 e2 e3
    subst e1
    rw [hq g rfl]
    exact hg
theorem ownsRow_form {base n : Nat} {vs : List Value} (h : w.ownsRow base E sz (.slice A n c) n vs) : (A = none ∧ c = 0 ∧ n = 0) ∨ ∃ g, A = some ⟨g, 0, none⟩ ∧ base ≤ g ∧ g < w.heap.size ∧ n ≤ c ∧ c ≤ maxLen := by
  rcases h.2 with ⟨e, hn⟩ | ⟨g, cap, cur, e, hb, hg, hc, hm, _⟩
  · injection e with e1 e2 e3; exact .inl ⟨e1, e3, hn⟩
  · injection e with e1 e2 e3
    subst e3
    exact .inr ⟨g, e1, hb, (Array.getElem?_eq_some_iff.1 hg).1, hc, hm⟩
theorem SlF.form (h : SlF O sz E w S A c xs css F) : (A = none ∧ c = 0 ∧ xs = []) ∨ ∃ g, A = some ⟨g, 0, none⟩ ∧ S g ∧ g < w.heap.size ∧ xs.length ≤ c ∧ c ≤ maxLen := by
  rcases ownsRow_form h.row with ⟨h1, h2, h3⟩ | ⟨g, h1, _, h2, h3, h4⟩
  · exact .inl ⟨h1, h2, List.eq_nil_of_length_eq_zero h3⟩
  · exact .inr ⟨g, h1, h.top g (by rw [h1]; rfl), h2, h3, h4⟩
theorem SlF.cell {g : Nat} (h : SlF O sz E w S (some ⟨g, 0, none⟩) c xs css F) (j : Nat) (h1 : j < css.length) (i : Nat) (hi : i < sz) : w.cell? ⟨g, j * sz + i, none⟩ = (css[j])[i]? := by
  have h0 := h.clen
  have hr : w.ownsRow 0 E sz (.slice (some ⟨g, 0, none⟩) xs.length c) xs.length css.flatten := h.row
  have := World.ownsRow.cellAt hr (j * sz + i) (by
    have : (j + 1) * sz ≤ xs.length * sz := Nat.mul_le_mul_right _ (by omega)
    rw [Nat.add_mul] at this; omega)
  rw [this, flat_get h.elen j h1 i hi]
theorem SlF.frozen {g : Nat} (h : SlF O sz E w S (some ⟨g, 0, none⟩) c xs css F) (i : Nat) : w.frozen? ⟨g, i, none⟩ = false := World.ownsRow.frozenAt h.row i
theorem SlF.nil (hl : ∀ k, S k → k < w.heap.size) : SlF O sz E w S none 0 [] [] (fun _ _ => False) :=
  ⟨hl, fun k hk => (by cases hk), World.ownsRow_nil _ _ _ _, rfl, by simp, fun _ _ h => h.elim, fun _ _ _ h => h.elim, fun j h => absurd h (by simp)⟩
theorem SlF.loc (ok : OOk O R sz) (h : SlF O sz E w S A c xs css F) (hq : ∀ k, S k → w'.heap[k]? = w.heap[k]?) : SlF O sz E w' S A c xs css F :=
  ⟨fun k hk => lt_of_heap (hq k hk) (h.lt k hk), h.top, ownsRow_loc h.row (fun k hk => hq k (h.top k hk)), h.clen, h.elen, h.sub, h.apart, fun j h1 h2 => ok.loc (h.elt j h1 h2) (fun k hk => hq k (h.sub j k hk).1)⟩
theorem SlF.mono (h : SlF O sz E w S A c xs css F) (hs : ∀ k, S k → S' k) (hl : ∀ k, S' k → k < w.heap.size) : SlF O sz E w S' A c xs css F :=
  ⟨hl, fun k hk => hs k (h.top k hk), h.row, h.clen, h.elen, fun j k hk => ⟨hs k (h.sub j k hk).1, (h.sub j k hk).2⟩, h.apart, h.elt⟩
theorem SlF.at_ (ok : OOk O R sz) (h : SlF O sz E w S A c xs css F) : SlAt R sz w A xs := fun hn => by
  rcases h.form with ⟨_, _, rfl⟩ | ⟨g, rfl, _, hlt, _⟩
  · simp at hn
  · refine ⟨g, 0, rfl, hlt, fun j hj => ?_⟩
    have h1 : j < css.length := by rw [h.clen]; exact hj
    exact ⟨css[j], h.elen _ (List.getElem_mem h1), fun i hi => by rw [Nat.zero_add, h.cell j h1 i hi], ok.rd (h.elt j h1 hj)⟩
/-- What an element leads to has turned. -/
theorem SlF.inner (ok : OOk O R sz) (h : SlF O sz E w S A c xs css F) {j : Nat} (hj : j < xs.length) (hg : GrownS w w' (F j)) {x' : α} (h1 : j < css.length) (hx : O w' (F j) css[j] x') : SlF O sz E w' S A c (xs.set j x') css F := by
  have hs : ∀ k, S k → k < w'.heap.size := fun k hk => Nat.lt_of_lt_of_le (h.lt k hk) hg.size
  refine ⟨hs, h.top, ?_, by rw [List.length_set, h.clen], h.elen, h.sub, h.apart, fun i g1 g2 => ?_⟩
  · rw [List.length_set]
    exact ownsRow_loc h.row (fun k hk => hg.block k (h.lt k (h.top k hk)) (fun e => (h.sub j k e).2 hk))
  · by_cases e : j = i
    · subst e; simpa using hx
    · rw [List.getElem_set_ne e]
      exact ok.kept (h.elt i g1 (by simpa using g2)) hg (fun k hk hk' => e (h.apart j i k hk' hk))
/-- A cell of an element has been stored. -/
theorem SlF.store (ok : OOk O R sz) {g : Nat} (h : SlF O sz E w S (some ⟨g, 0, none⟩) c xs css F) {j i : Nat} (hj : j < xs.length) (h1 : j < css.length) (hi : i < sz) (u : Value) {x' : α} (hx : O w (F j) ((css[j]).set i u) x') :
    SlF O sz E (w.setCell ⟨g, j * sz + i, none⟩ u) S (some ⟨g, 0, none⟩) c (xs.set j x') (css.set j ((css[j]).set i u)) F := by
  have far : ∀ k, k ≠ g → (w.setCell ⟨g, j * sz + i, none⟩ u).heap[k]? = w.heap[k]? := fun k hk => Below.heap_setCell _ _ _ _ hk
  have hsz : (w.setCell ⟨g, j * sz + i, none⟩ u).heap.size = w.heap.size := by simp [World.setCell]
  have hne : ∀ m k, F m k → k ≠ g := fun m k hk e => (h.sub m k hk).2 (by rw [e]; rfl)
  refine ⟨fun k hk => by rw [hsz]; exact h.lt k hk, h.top, ?_, by simp [h.clen], ?_, h.sub, h.apart, fun m g1 g2 => ?_⟩
  · have := (World.ownsRow.stored h.row (j * sz + i) u).1
    rw [flat_set u h.elen j h1 i hi] at this
    rw [List.length_set]
    exact this
  · intro cs hcs
    rcases List.mem_or_eq_of_mem_set hcs with hcs | rfl
    · exact h.elen cs hcs
    · rw [List.length_set]; exact h.elen _ (List.getElem_mem h1)
  · by_cases e : j = m
    · subst e
      simp only [List.getElem_set_self]
      exact ok.loc hx (fun k hk => far k (hne _ k hk))
    · rw [List.getElem_set_ne e, List.getElem_set_ne e]
      exact ok.loc (h.elt m (by simpa using g1) (by simpa using g2)) (fun k hk => far k (hne _ k hk))
/-- One more element, in a block that holds what was there. -/
theorem SlF.push (ok : OOk O R sz) (h : SlF O sz E w S A c xs css F) {A' : Option Addr} {c' : Nat} {T : Fp} {cs : List Value} {x : α} {U : Fp} (hx : O w T cs x) (hd : ∀ k, T k → ¬ S k)
    (hrow : w'.ownsRow 0 E sz (.slice A' (xs.length + 1) c') (xs.length + 1) (css.flatten ++ cs)) (hg : ∀ k, k < w.heap.size → blk A ≠ some k → w'.heap[k]? = w.heap[k]?) (hA : ∀ k, blk A' = some k → blk A = some k ∨ w.heap.size ≤ k)
    (hU : ∀ k, S k ∨ T k ∨ blk A' = some k → U k) (hUl : ∀ k, U k → k < w'.heap.size) :
    SlF O sz E w' U A' c' (xs ++ [x]) (css ++ [cs]) (fun j => if j = xs.length then T else F j) := by
  have hcl := h.clen
  have nA : ∀ m k, F m k → blk A' ≠ some k := fun m k hk e => by
    rcases hA k e with h' | h'
    · exact (h.sub m k hk).2 h'
    · have := h.lt k (h.sub m k hk).1; omega
  have nT : ∀ k, T k → blk A' ≠ some k := fun k hk e => by
    rcases hA k e with h' | h'
    · exact hd k hk (h.top k h')
    · have := ok.lt hx k hk; omega
  refine ⟨hUl, fun k hk => hU k (.inr (.inr hk)), ?_, by simp [hcl], ?_, ?_, ?_, ?_⟩
  · have e1 : (xs ++ [x]).length = xs.length + 1 := by simp
    have e2 : (css ++ [cs]).flatten = css.flatten ++ cs := by simp
    rw [e1, e2]
    exact hrow
  · intro d hd'
    rcases List.mem_append.1 hd' with hd' | hd'
    · exact h.elen d hd'
    · simp at hd'; subst hd'; exact ok.len hx
  · intro j k hk
    by_cases e : j = xs.length
    · rw [if_pos e] at hk; exact ⟨hU k (.inr (.inl hk)), nT k hk⟩
    · rw [if_neg e] at hk; exact ⟨hU k (.inl (h.sub j k hk).1), nA j k hk⟩
  · intro i j k hi hj
    by_cases ei : i = xs.length <;> by_cases ej : j = xs.length
    · omega
    · rw [if_pos ei] at hi; rw [if_neg ej] at hj; exact absurd (h.sub j k hj).1 (hd k hi)
    · rw [if_neg ei] at hi; rw [if_pos ej] at hj; exact absurd (h.sub i k hi).1 (hd k hj)
    · rw [if_neg ei] at hi; rw [if_neg ej] at hj; exact h.apart i j k hi hj
  · intro j h1 h2
    by_cases e : j = xs.length
    · subst e
      rw [if_pos rfl]
      have : (css ++ [cs])[xs.length]'h1 = cs := by simp [← hcl]
      rw [this]
      simp only [List.getElem_concat_length]
      exact ok.loc hx (fun k hk => hg k (ok.lt hx k hk) (fun e => hd k hk (h.top k e)))
    · have g1 : j < css.length := by simp at h1; omega
      have g2 : j < xs.length := by omega
      rw [if_neg e, List.getElem_append_left g1, List.getElem_append_left g2]
      exact ok.loc (h.elt j g1 g2) (fun k hk => hg k (h.lt k (h.sub j k hk).1) (h.sub j k hk).2)
end

theorem slO {α : Type} {O : Ow α} {R : Rd α} {sz : Nat} {E : TypeId} (ok : OOk O R sz) : OOk (SlO O sz E) (SlR R sz) 1 where
  len := fun ⟨_, _, e, _⟩ => by rw [e]; rfl
  lt := fun ⟨_, _, _, _, _, h⟩ => h.lt
  loc := fun ⟨A, c, e, css, F, h⟩ q => ⟨A, c, e, css, F, h.loc ok q⟩
  mono := fun ⟨A, c, e, css, F, h⟩ s l => ⟨A, c, e, css, F, h.mono s l⟩
  rd := fun ⟨A, c, e, css, F, h⟩ => ⟨A, c, e, (by
    rcases h.form with ⟨_, _, rfl⟩ | ⟨g, _, _, _, h1, h2⟩
    · simp [maxLen]
    · omega), h.at_ ok⟩
  one := fun ⟨A, c, e, _⟩ u hu => by rw [e] at hu; simp at hu; rw [hu]; rfl
section
variable {α : Type} {O : Ow α} {R : Rd α} {sz : Nat} {E : TypeId} {w w' : World} {S S' : Fp} {A : Option Addr} {c : Nat} {xs : List α}
theorem SlOw.at_ (ok : OOk O R sz) (h : SlOw O sz E w S A c xs) : SlAt R sz w A xs := by obtain ⟨_, _, h⟩ := h; exact h.at_ ok
theorem SlOw.lt (h : SlOw O sz E w S A c xs) : ∀ k, S k → k < w.heap.size := by obtain ⟨_, _, h⟩ := h; exact h.lt
theorem SlOw.loc (ok : OOk O R sz) (h : SlOw O sz E w S A c xs) (hq : ∀ k, S k → w'.heap[k]? = w.heap[k]?) : SlOw O sz E w' S A c xs := by obtain ⟨css, F, h⟩ := h; exact ⟨css, F, h.loc ok hq⟩
theorem SlOw.below (ok : OOk O R sz) (h : SlOw O sz E w S A c xs) (hb : Below w.heap.size w w') : SlOw O sz E w' S A c xs := h.loc ok (fun k hk => hb.block k (h.lt k hk))
theorem SlOw.kept (ok : OOk O R sz) {T : Fp} (h : SlOw O sz E w S A c xs) (hb : GrownS w w' T) (hd : ∀ k, S k → ¬ T k) : SlOw O sz E w' S A c xs := h.loc ok (fun k hk => hb.block k (h.lt k hk) (hd k hk))
theorem SlOw.mono (h : SlOw O sz E w S A c xs) (hs : ∀ k, S k → S' k) (hl : ∀ k, S' k → k < w.heap.size) : SlOw O sz E w S' A c xs := by obtain ⟨css, F, h⟩ := h; exact ⟨css, F, h.mono hs hl⟩
theorem SlOw.nil (hl : ∀ k, S k → k < w.heap.size) : SlOw O sz E w S none 0 [] := ⟨_, _, SlF.nil hl⟩
theorem SlAt.kept (ok : ∀ {w w' : World} {cs : List Value} {x : α}, R w cs x → (∀ k, k < w.heap.size → ¬ S k → w'.heap[k]? = w.heap[k]?) → R w' cs x) (h : SlAt R sz w A xs) (hg : GrownS w w' S) (hn : ∀ k, blk A = some k → ¬ S k) : SlAt R sz w' A xs := fun hp => by
  obtain ⟨b, off, e, hlt, hc⟩ := h hp
  refine ⟨b, off, e, Nat.lt_of_lt_of_le hlt hg.size, fun j hj => ?_⟩
  obtain ⟨cs, hl, hcell, hr⟩ := hc j hj
  refine ⟨cs, hl, fun i hi => ?_, ok hr hg.block⟩
  rw [← hcell i hi]
  exact World.cell?_of_block (a := ⟨b, off + j * sz + i, none⟩) (hg.block b hlt (hn b (by rw [e]; rfl)))
end

/-! ### What came in -/
section
variable {H : Type} {enc : TypeId × Value → H} {P : Program} {W : World}
/-- Whatever of the type t came in reads so. -/
def Opens {α : Type} (enc : TypeId × Value → H) (P : Program) (W : World) (t : TypeId) (R : Rd α) (sz : Nat) : Prop :=
  P.cellsOf t = sz ∧ ∀ n cs x, cs.length = sz → DataW.trod enc P W 0 (fun _ => true) true n t cs = some x → ∃ v, R W cs v
theorem opens_int {t : TypeId} (ht : P.underlying t = some (.int .i64)) (hc : P.cellsOf t = 1) : Opens enc P W t IntR 1 :=
  ⟨hc, fun n cs x hl h => by obtain ⟨v, e, -, -⟩ := DataW.trod_int ht h; exact ⟨v, e⟩⟩
theorem cells_spot {w : World} {b off : Nat} {s : Option Nat} {u : Value} (h : w.cell? ⟨b, off, s⟩ = some u) : s = none := World.cell?_spot h
theorem opens_slice {α : Type} {R : Rd α} {sz : Nat} {t e : TypeId} (ht : P.underlying t = some (.slice e)) (hc : P.cellsOf t = 1) (hsz : 0 < sz) (he : Opens enc P W e R sz) : Opens enc P W t (SlR R sz) 1 := by
  refine ⟨hc, fun n cs x hl h => ?_⟩
  rcases Go.Deep.open_slice ht h with ⟨rfl, _⟩ | ⟨a, len, cap, m, k, D, Pl, rfl, hb, hlc, hm, hmm, rfl, hx⟩
  · exact ⟨[], none, 0, rfl, by simp, SlAt.nil⟩
  · have hlm : len ≤ m := by rw [hmm]; simp; exact hlc
    have each : ∀ i : Fin len, ∃ q : α × List Value, q.2.length = sz ∧ (∀ o, o < sz → W.cell? ((a.add (i.1 * sz)).add o) = q.2[o]?) ∧ R W q.2 q.1 := fun i => by
      obtain ⟨cs', h1, h2⟩ := hx i.1 (by omega)
      rw [he.1] at h1
      obtain ⟨_, hlen, hcell⟩ := World.cells?_some h1
      obtain ⟨v, hv⟩ := he.2 _ _ _ hlen h2
      exact ⟨(v, cs'), hlen, fun o ho => hcell o ho, hv⟩
    let q := fun i : Fin len => Classical.choose (each i)
    have hq := fun i : Fin len => Classical.choose_spec (each i)
    refine ⟨(List.finRange len).map (fun i => (q i).1), some a, cap, by simp, by simp; omega, fun hp => ?_⟩
    have hp' : 0 < len := by simpa using hp
    obtain ⟨b, off, spot⟩ := a
    obtain ⟨hl0, hc0, _⟩ := hq ⟨0, hp'⟩
    have h0 := hc0 0 hsz
    rw [List.getElem?_eq_getElem (by omega)] at h0
    have hs0 : spot = none := by
      have := World.cell?_spot h0
      simpa [Addr.add] using this
    subst hs0
    have ha : ∀ i o, ((⟨b, off, none⟩ : Addr).add i).add o = ⟨b, off + i + o, none⟩ := fun i o => by
      unfold Addr.add
      by_cases hi : i = 0 <;> by_cases ho : o = 0 <;> simp [hi, ho, Nat.add_assoc]
    refine ⟨b, off, rfl, ?_, fun j hj => ?_⟩
    · rw [ha] at h0
      exact block_lt_of_cell h0
    · have hj' : j < len := by simpa using hj
      obtain ⟨g1, g2, g3⟩ := hq ⟨j, hj'⟩
      refine ⟨(q ⟨j, hj'⟩).2, g1, fun i hi => ?_, ?_⟩
      · rw [← g2 i hi, ha]
      · simpa using g3
theorem opens_last {α : Type} {R : Rd α} {sz : Nat} {t : TypeId} (h : Opens enc P W t R sz) {n : Nat} {cs : List Value} {x : DataW H × List MemPlace} (o : Nat) (hl : cs.length = o + sz)
    (ht : DataW.trod enc P W 0 (fun _ => true) true n t ((cs.drop o).take (P.cellsOf t)) = some x) : ∃ v, R W (cs.drop o) v := by
  rw [h.1, List.take_of_length_le (by simp; omega)] at ht
  exact h.2 _ _ _ (by simp; omega) ht
theorem opens_cons {α β : Type} {R : Rd α} {R2 : Rd β} {sz s2 : Nat} {t : TypeId} (h : Opens enc P W t R sz) {n : Nat} {cs : List Value} {x : DataW H × List MemPlace} (o : Nat) (hl : cs.length = o + (sz + s2))
    (ht : DataW.trod enc P W 0 (fun _ => true) true n t ((cs.drop o).take (P.cellsOf t)) = some x) (h2 : ∃ v, R2 W (cs.drop (o + sz)) v) : ∃ v, PairR R R2 W (cs.drop o) v := by
  rw [h.1] at ht
  obtain ⟨v, hv⟩ := h.2 _ _ _ (by simp; omega) ht
  obtain ⟨u, hu⟩ := h2
  refine ⟨(v, u), (cs.drop o).take sz, cs.drop (o + sz), ?_, hv, hu⟩
  rw [← List.drop_drop, List.take_append_drop]
theorem opens_struct2 {α β : Type} {R0 : Rd α} {R1 : Rd β} {s0 s1 : Nat} {t : TypeId} {f0 f1 : Field} (ht : P.underlying t = some (.struct #[f0, f1])) (hc : P.cellsOf t = s0 + s1) (o0 : f0.offset = 0) (o1 : f1.offset = s0)
    (h0 : Opens enc P W f0.type R0 s0) (h1 : Opens enc P W f1.type R1 s1) : Opens enc P W t (PairR R0 R1) (s0 + s1) := by
  refine ⟨hc, fun n cs x hl h => ?_⟩
  obtain ⟨ys, k, hk, hxy, _, hxl, hf⟩ := DataW.trod_struct ht h
  have g0 := hf 0 f0 rfl
  rw [List.getElem?_eq_getElem (by rw [hxl]; simp)] at g0
  have g1 := hf 1 f1 rfl
  rw [List.getElem?_eq_getElem (by rw [hxl]; simp)] at g1
  rw [o0] at g0
  rw [o1] at g1
  exact opens_cons h0 0 (by simpa using hl) (by simpa using g0) (by rw [Nat.zero_add]; exact opens_last h1 s0 hl g1)
theorem opens_struct3 {α β γ : Type} {R0 : Rd α} {R1 : Rd β} {R2 : Rd γ} {s0 s1 s2 : Nat} {t : TypeId} {f0 f1 f2 : Field} (ht : P.underlying t = some (.struct #[f0, f1, f2])) (hc : P.cellsOf t = s0 + (s1 + s2)) (o0 : f0.offset = 0) (o1 : f1.offset = s0) (o2 : f2.offset = s0 + s1)
    (h0 : Opens enc P W f0.type R0 s0) (h1 : Opens enc P W f1.type R1 s1) (h2 : Opens enc P W f2.type R2 s2) : Opens enc P W t (PairR R0 (PairR R1 R2)) (s0 + (s1 + s2)) := by
  refine ⟨hc, fun n cs x hl h => ?_⟩
  obtain ⟨ys, k, hk, hxy, _, hxl, hf⟩ := DataW.trod_struct ht h
  have g0 := hf 0 f0 rfl
  rw [List.getElem?_eq_getElem (by rw [hxl]; simp)] at g0
  have g1 := hf 1 f1 rfl
  rw [List.getElem?_eq_getElem (by rw [hxl]; simp)] at g1
  have g2 := hf 2 f2 rfl
  rw [List.getElem?_eq_getElem (by rw [hxl]; simp)] at g2
  rw [o0] at g0
  rw [o1] at g1
  rw [o2] at g2
  exact opens_cons h0 0 (by simpa using hl) (by simpa using g0) (by rw [Nat.zero_add]; exact opens_cons h1 s0 hl g1 (opens_last h2 (s0 + s1) (by omega) g2))
end

/-! ### Filling a row that was made -/
def storeAll (w : World) (g : Nat) : Nat → List Value → World
  | _, [] => w
  | o, c :: cs => storeAll (w.setCell ⟨g, o, none⟩ c) g (o + 1) cs
def setAll (cur : Array Value) : Nat → List Value → Array Value
  | _, [] => cur
  | o, c :: cs => setAll (cur.setIfInBounds o c) (o + 1) cs
theorem setAll_size : ∀ (cs : List Value) (o : Nat) (cur : Array Value), (setAll cur o cs).size = cur.size
  | [], _, _ => rfl
  | c :: cs, o, cur => by rw [setAll, setAll_size cs]; simp
theorem setAll_list : ∀ (cs : List Value) (o : Nat) (cur : Array Value), o + cs.length ≤ cur.size → (setAll cur o cs).toList.take (o + cs.length) = cur.toList.take o ++ cs
  | [], o, cur, _ => by simp [setAll]
  | c :: cs, o, cur, h => by
    have h' : o + (cs.length + 1) ≤ cur.size := by simpa using h
    have ih := setAll_list cs (o + 1) (cur.setIfInBounds o c) (by simp; omega)
    rw [setAll, List.length_cons, show o + (cs.length + 1) = o + 1 + cs.length by omega, ih]
    have ho : o < cur.toList.length := by simp; omega
    rw [Array.toList_setIfInBounds, List.take_succ_eq_append_getElem (by simpa using ho), List.append_assoc]
    simp only [List.take_set, List.getElem_set_self, List.cons_append, List.nil_append]
    rw [List.set_eq_of_length_le (by simp; omega)]
theorem storeAll_heap {E : TypeId} {g : Nat} : ∀ (cs : List Value) (o : Nat) (w : World) (cur : Array Value), w.heap[g]? = some (.cells cur E (0, 0)) → (storeAll w g o cs).heap[g]? = some (.cells (setAll cur o cs) E (0, 0))
  | [], _, _, _, h => h
  | c :: cs, o, w, cur, h => storeAll_heap cs (o + 1) _ _ (heap_setCell_same w g o cur E c h)
theorem storeAll_far {g : Nat} : ∀ (cs : List Value) (o : Nat) (w : World) (k : Nat), k ≠ g → (storeAll w g o cs).heap[k]? = w.heap[k]?
  | [], _, _, _, _ => rfl
  | c :: cs, o, w, k, h => (storeAll_far cs (o + 1) _ k h).trans (Below.heap_setCell _ _ _ _ h)
theorem storeAll_size {g : Nat} : ∀ (cs : List Value) (o : Nat) (w : World), (storeAll w g o cs).heap.size = w.heap.size
  | [], _, _ => rfl
  | c :: cs, o, w => (storeAll_size cs (o + 1) _).trans (by simp [World.setCell])
theorem storeAll_grown {g : Nat} {S : Fp} {a : World} (hg : S g) : ∀ (cs : List Value) (o : Nat) (w : World), GrownS a w S → GrownS a (storeAll w g o cs) S
  | [], _, _, h => h
  | c :: cs, o, w, h => storeAll_grown hg cs (o + 1) _ (h.set_ (p := ⟨g, o, none⟩) hg c)
theorem ownsRow_fill {w : World} {E : TypeId} {sz base g k n : Nat} {vs : List Value} (h : w.ownsRow base E sz (.slice (some ⟨g, 0, none⟩) k n) k vs) (hk : k < n) {cs : List Value} (hc : cs.length = sz) :
    (storeAll w g (k * sz) cs).ownsRow base E sz (.slice (some ⟨g, 0, none⟩) (k + 1) n) (k + 1) (vs ++ cs) := by
  rcases h.2 with ⟨h', _⟩ | ⟨g', cap, cur, h', hb, hg, hnc, hcm, hcs, htake⟩
  · simp at h'
  · simp only [Value.slice.injEq, Option.some.injEq, Addr.mk.injEq, and_true, true_and] at h'
    obtain ⟨rfl, rfl⟩ := h'
    have hle : (k + 1) * sz ≤ n * sz := Nat.mul_le_mul_right _ (by omega)
    rw [Nat.add_mul, Nat.one_mul] at hle
    refine ⟨by rw [List.length_append, h.1, hc, Nat.add_mul]; omega, .inr ⟨g, n, setAll cur (k * sz) cs, rfl, hb, storeAll_heap cs _ w cur hg, by omega, hcm, by rw [setAll_size]; exact hcs, ?_⟩⟩
    have := setAll_list cs (k * sz) cur (by omega)
    rw [htake, hc] at this
    rw [Nat.add_mul, Nat.one_mul]
    exact this
/-- The cell that is to be stored is there. -/
theorem ownsRow_room {w : World} {E : TypeId} {sz base g k n : Nat} {vs : List Value} (h : w.ownsRow base E sz (.slice (some ⟨g, 0, none⟩) k n) k vs) (o : Nat) (ho : o < n * sz) : ∃ u, w.cell? ⟨g, o, none⟩ = some u := by
  rcases h.2 with ⟨h', _⟩ | ⟨g', cap, cur, h', hb, hg, hnc, hcm, hcs, htake⟩
  · simp at h'
  · simp only [Value.slice.injEq, Option.some.injEq, Addr.mk.injEq, and_true, true_and] at h'
    obtain ⟨rfl, rfl⟩ := h'
    rw [cell_of_row w g o cur E (0, 0) hg]
    exact ⟨cur[o]'(by omega), by simp [show o < cur.size by omega]⟩
/-- The next element of a row that is being filled. -/
theorem SlF.fill {α : Type} {O : Ow α} {R : Rd α} {sz : Nat} {E : TypeId} {w w' : World} {S T U : Fp} {g n : Nat} {xs : List α} {css : List (List Value)} {F : Nat → Fp} (ok : OOk O R sz) (h : SlF O sz E w S (some ⟨g, 0, none⟩) n xs css F) (hn : xs.length < n)
    {cs : List Value} {x : α} (hx : O w T cs x) (hd : ∀ k, T k → ¬ S k) (e : w' = storeAll w g (xs.length * sz) cs) (hU : ∀ k, S k ∨ T k → U k) (hUl : ∀ k, U k → k < w.heap.size) :
    SlF O sz E w' U (some ⟨g, 0, none⟩) n (xs ++ [x]) (css ++ [cs]) (fun j => if j = xs.length then T else F j) := by
  subst e
  refine h.push ok hx hd (ownsRow_fill h.row hn (ok.len hx)) (fun k _ hk => storeAll_far _ _ _ _ (fun e => hk (by rw [e]; rfl))) (fun k hk => .inl hk) (fun k hk => ?_) (fun k hk => by rw [storeAll_size]; exact hUl k hk)
  rcases hk with hk | hk | hk
  · exact hU k (.inl hk)
  · exact hU k (.inr hk)
  · exact hU k (.inl (h.top k hk))
/-- A row that was made, with nothing in it yet. -/
theorem SlF.made {α : Type} (O : Ow α) (sz : Nat) (E : TypeId) (w : World) (cur : Array Value) (n : Nat) (hm : n ≤ maxLen) (hs : cur.size = n * sz) {S : Fp} (hS : S w.heap.size) (hl : ∀ k, S k → k < w.heap.size + 1) :
    SlF O sz E (w.alloc (.cells cur E)) S (some ⟨w.heap.size, 0, none⟩) n ([] : List α) [] (fun _ _ => False) :=
  ⟨fun k hk => by simpa using hl k hk, fun k hk => by simp [blk] at hk; rw [← hk]; exact hS, World.ownsRow_made (base := 0) w cur n (Nat.zero_le _) hm hs, rfl, by simp, fun _ _ h => h.elim, fun _ _ _ h => h.elim, fun j h => absurd h (by simp)⟩
end Go.Proofs.Ytjlpkfcdkmcjnaa
