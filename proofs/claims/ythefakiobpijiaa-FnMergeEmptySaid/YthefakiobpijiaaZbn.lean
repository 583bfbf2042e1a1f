/- HELPER, no statement of the seat: several texts in one file. -/
import Derived.Test.YthefakiobpijiaaZba
import Derived.Test.YthefakiobpijiaaZbs
/- HELPER, no statement of the seat: copies of lists of entries: both sides. -/
namespace Go.Proofs.Ythefakiobpijiaa
open Go.RowKit Go.Sort
set_option linter.unusedSimpArgs false
set_option linter.unusedVariables false

/-- v is a row of its own that reads as xs; v is an entry of such a row. -/
def RowV (base : Nat) (xs : List Int) (v : Value) (w : World) : Prop := ∃ A c, v = .slice A xs.length c ∧ IntsOwn w base A c xs
def EntV (base : Nat) (xs : List Int) (x : Int) (v : Value) (w : World) : Prop := ∃ A c, v = .agg #[.slice A xs.length c, .int .i64 x] ∧ IntsOwn w base A c xs
theorem stable_rowV (base : Nat) (xs : List Int) : Stable (RowV base xs) := fun _ _ _ hb ⟨A, c, e, h⟩ => ⟨A, c, e, h.below hb⟩
theorem stable_entV (base : Nat) (xs : List Int) (x : Int) : Stable (EntV base xs x) := fun _ _ _ hb ⟨A, c, e, h⟩ => ⟨A, c, e, h.below hb⟩
theorem IntsOwn.far {w : World} {base : Nat} {A : Option Addr} {c : Nat} {xs : List Int} (h : IntsOwn w base A c xs) {p : Addr} (hp : p.block < base) (u : Value) : IntsOwn (w.setCell p u) base A c xs := by
  refine ownsRow_loc h (fun k hk => Below.heap_setCell _ _ _ _ ?_)
  rcases ownsRow_form h with ⟨e, _⟩ | ⟨g, e, hg, _⟩
  · rw [e] at hk; cases hk
  · rw [e] at hk
    simp [blk] at hk
    omega

/-- One more entry: what append gives. -/
theorem SlF.pushE {w w0 w1 w2 : World} {A : Option Addr} {c : Nat} {es : List Ent} {css : List (List Value)} {F : Nat → Fp} {v' : Value} {RA : Option Addr} {rc : Nat} {xs : List Int} {x : Int}
    (h : SlF EntO 2 260 w0 (news w w0) A c es css F) (hb0 : Below w.heap.size w w0) (hb1 : Below w0.heap.size w0 w1) (ho : IntsOwn w1 w0.heap.size RA rc xs)
    (hrow : w2.ownsRow w.heap.size 260 2 v' (es.length + 1) (css.flatten ++ [.slice RA xs.length rc, .int .i64 x]))
    (hg : (w1.alloc (.cells #[.slice RA xs.length rc, .int .i64 x] 260)).grownBy w2 (blk A)) (hl : ∀ k, v'.ownBlock = some k → blk A = some k ∨ w1.heap.size + 1 ≤ k) :
    ∃ A' c', v' = .slice A' (es.length + 1) c' ∧ EntsOw w2 (news w w2) A' c' (es ++ [(xs, x)]) ∧ Below w.heap.size w w2 := by
  obtain ⟨A', c', rfl⟩ := own_slice hrow
  rw [ownBlock_slice] at hl
  have hs0 := hb0.size
  have hs1 := hb1.size
  have hs2 := hg.size
  simp at hs2
  have h1 : SlF EntO 2 260 w1 (news w w0) A c es css F := h.loc entO (fun k hk => hb1.block k hk.2)
  have hB1 : Below w.heap.size w (w1.alloc (.cells #[.slice RA xs.length rc, .int .i64 x] 260)) := bal (btr hb0 hb1) _
  have hA0 : ∀ k, blk A = some k → w.heap.size ≤ k ∧ k < w0.heap.size := fun k hk => h.top k hk
  have hel : EntO w1 (news w0 w1) [.slice RA xs.length rc, .int .i64 x] (xs, x) := EntO.mk (fun k hk => hk.2) (fun k hk => by
    rcases ownsRow_form ho with ⟨e, _⟩ | ⟨g, e, hg1, hg2, _⟩
    · rw [e] at hk; cases hk
    · rw [e] at hk; simp [blk] at hk; subst hk; exact ⟨hg1, hg2⟩) (ho.mono (Nat.zero_le _))
  have hb2 : ∀ k, k < w1.heap.size → blk A ≠ some k → w2.heap[k]? = w1.heap[k]? := fun k hk hn => (hg.block k (by simp; omega) (fun e => hn e.symm)).trans (Below.heap_alloc _ _ _ hk)
  refine ⟨A', c', rfl, ⟨_, _, h1.push entO hel (fun k h1 h2 => by have := h1.1; have := h2.2; omega) (ownsRow_base0 hrow) hb2 (fun k hk => ?_) (fun k hk => ?_) (fun k hk => hk.2)⟩, ?_⟩
  · rcases hl k hk with h | h
    · exact .inl h
    · right; omega
  · rcases hk with hk | hk | hk
    · exact ⟨hk.1, by have := hk.2; omega⟩
    · exact ⟨by have := hk.1; omega, by have := hk.2; omega⟩
    · have h2 := World.ownsRow.lt hrow k (by rw [ownBlock_slice]; exact hk)
      exact h2
  · exact hB1.grown hg hB1.size (fun k hk => (hA0 k hk).1)
theorem ent_srcs {w1 : World} {RA : Option Addr} {n rc : Nat} {x : Int} {E : TypeId} : ∀ a, some (⟨w1.heap.size, 0, none⟩ : Addr) = some a → ∀ j u, [Value.slice RA n rc, .int .i64 x][j]? = some u → (w1.alloc (.cells #[.slice RA n rc, .int .i64 x] E)).cell? (a.add j) = some u := by
  intro a e j u hu
  injection e with e
  subst e
  match j, hu with
  | 0, hu => simp at hu; subst hu; simp [Addr.add]
  | 1, hu => simp at hu; subst hu; simp [Addr.add]
theorem ent_ones {RA : Option Addr} {n rc : Nat} {x : Int} : ∀ u ∈ [Value.slice RA n rc, .int .i64 x], u.oneCell' = true := by
  intro u hu
  simp at hu
  rcases hu with rfl | rfl <;> rfl

/-! ### Negation -/
def negTo (es : List Ent) (k : Nat) : List Ent := negL (es.take k) ++ es.drop k
theorem negTo_length {es : List Ent} {k : Nat} : (negTo es k).length = es.length := by simp [negTo, negL]; omega
theorem negTo_get {es : List Ent} {k : Nat} (h : k < es.length) : (negTo es k)[k]'(by rw [negTo_length]; exact h) = es[k] := by
  have hl : (negL (es.take k)).length = k := by simp [negL]; omega
  have : (negTo es k)[k]? = some es[k] := by
    rw [negTo, List.getElem?_append_right (by omega), hl]
    simp [h]
  rw [List.getElem?_eq_getElem (by rw [negTo_length]; exact h)] at this
  injection this
theorem negTo_step {es : List Ent} {k : Nat} (h : k < es.length) : (negTo es k).set k (es[k].1, -es[k].2) = negTo es (k + 1) := by
  have hl : (negL (es.take k)).length = k := by simp [negL]; omega
  unfold negTo
  rw [List.set_append_right _ _ (by omega), hl, Nat.sub_self, List.drop_eq_getElem_cons h, List.set_cons_zero, List.take_succ_eq_append_getElem h]
  simp only [negL, List.map_append, List.map_cons, List.map_nil, List.append_assoc, List.cons_append, List.nil_append]
theorem negTo_end {es : List Ent} : negTo es es.length = negL es := by simp [negTo]

/-! ### The program's copies -/
/-- A Z-set, or the empty one. -/
def chkF (es : List Ent) : List Ent := if zsB es = true then es else []
end Go.Proofs.Ythefakiobpijiaa

/- HELPER, no statement of the seat: negation, and the distinct rows: both sides. -/
namespace Go.Proofs.Ythefakiobpijiaa
open Go.RowKit Go.Sort
set_option linter.unusedSimpArgs false
set_option linter.unusedVariables false

theorem NegF_len (es : List Ent) : (NegF es).length ≤ 400 := by
  unfold NegF
  split
  · rename_i h; simpa [negL] using zsB_len h
  · simp
theorem NegF_row (es : List Ent) : rowsIn (NegF es) 6 := by
  unfold NegF
  split
  · rename_i h
    intro e he
    obtain ⟨x, hx, rfl⟩ := List.mem_map.1 he
    exact zsB_row h x hx
  · intro e he; cases he
/-! ### The distinct rows -/
theorem DisF_len (es : List Ent) : (DisF es).length ≤ 400 := by
  unfold DisF
  split
  · rename_i h
    have h1 := zsB_len h
    have : (disL es).length ≤ es.length := by simp only [disL, List.length_map]; exact List.length_filter_le _ _
    omega
  · simp
theorem DisF_row (es : List Ent) : rowsIn (DisF es) 6 := by
  unfold DisF
  split
  · rename_i h
    intro e he
    obtain ⟨x, hx, rfl⟩ := List.mem_map.1 he
    exact zsB_row h x (List.mem_filter.1 hx).1
  · intro e he; cases he
theorem disL_len (es : List Ent) (k : Nat) : (disL (es.take k)).length ≤ k := by
  have : (disL (es.take k)).length ≤ (es.take k).length := by simp only [disL, List.length_map]; exact List.length_filter_le _ _
  simp at this
  omega
end Go.Proofs.Ythefakiobpijiaa
