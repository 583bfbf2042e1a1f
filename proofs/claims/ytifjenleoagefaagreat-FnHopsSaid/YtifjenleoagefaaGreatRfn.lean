/- HELPER, no statement of the seat: ranges over functions: what a round keeps (all blocks of cells but the loop's own boxes and the rows that they hold), so that an iterator's own blocks survive the rounds. -/
import Derived.Test.YtifjenleoagefaaGreatZba
import Derived.RangeFuncNested
import Derived.RangeFuncBound
import Derived.RangeFuncCalls
import Derived.RangeFuncLeaves
import Derived.Shelf.Abstract
import Derived.Shelf.RegionOpen
import Derived.OwnWalkIn
import Derived.TacticsInMore
import Derived.LoopNIn
import Derived.LoopIn
namespace Go.Proofs.YtifjenleoagefaaGreat
open Go.RowKit
set_option linter.unusedSimpArgs false
set_option linter.unusedVariables false

theorem Blk.boxed {w : World} {B : Nat} {t : TypeId} {v : Value} (h : Blk w B t #[v]) : Boxed w B t v := h
theorem keepsFrom_grown {W W' : World} {S : Fp} {B : Nat} (h : GrownS W W' S) (hS : ∀ k o, S k → W.heap[k]? = some o → o.isCells = true) : KeepsFrom B W W' :=
  ⟨h.size, fun k o _ hk ho => by
    have hlt := (Array.getElem?_eq_some_iff.1 hk).1
    refine (h.block k hlt (fun hs => ?_)).trans hk
    rw [hS k o hs hk] at ho; cases ho⟩
theorem below_grown {W W' : World} {S : Fp} {n : Nat} (h : GrownS W W' S) (hn : n ≤ W.heap.size) (hS : ∀ k, S k → n ≤ k) : Below n W W' :=
  ⟨h.os, h.tape, h.output, h.size, fun k hk => h.block k (by omega) (fun hs => by have := hS k hs; omega)⟩
theorem row_cells {w : World} {base : Nat} {E : TypeId} {sz : Nat} {A : Option Addr} {n c : Nat} {vs : List Value} (h : w.ownsRow base E sz (.slice A n c) n vs) : ∀ k o, blk A = some k → w.heap[k]? = some o → o.isCells = true := by
  intro k o hk ho
  obtain ⟨_, ⟨e1, _⟩ | ⟨g', cap, cur, e1, _, hg, _⟩⟩ := h
  · injection e1 with e1 _ _
    subst e1
    cases hk
  · injection e1 with e1 _ _
    subst e1
    have : g' = k := by simpa [blk] using hk
    subst this
    rw [hg] at ho
    injection ho with ho
    subst ho
    rfl
theorem blk_cells {w : World} {B : Nat} {t : TypeId} {cs : Array Value} (h : Blk w B t cs) : ∀ o, w.heap[B]? = some o → o.isCells = true := by
  intro o ho
  unfold Blk at h
  rw [h] at ho
  injection ho with ho
  subst ho
  rfl
theorem abides_below {β : Type} {B : Nat} {J : β → World → Prop} (h : AbidesFrom B J) {s : β} {W W' : World} (hs : J s W) (hb : Below W.heap.size W W') : J s W' :=
  h s W W' none hs ⟨hb.os, hb.tape, hb.output, hb.size, fun k hk _ => hb.block k hk⟩ (fun r e => by cases e)

/-- Block k is the row of the slice in box B. -/
def RowOf (W : World) (B k : Nat) : Prop := ∃ n c T, W.heap[B]? = some (.cells #[.slice (some ⟨k, 0, none⟩) n c] T (0, 0))
/-- A loop's own blocks: its boxes, and the rows that they hold. -/
def OwB (Bs : List Nat) (W : World) (k : Nat) : Prop := ∃ B ∈ Bs, k = B ∨ RowOf W B k
def GoodO (Bs : List Nat) (n₀ : Nat) (W : World) : Prop := (∀ B ∈ Bs, n₀ ≤ B ∧ B < W.heap.size) ∧ ∀ k, OwB Bs W k → n₀ ≤ k ∧ k < W.heap.size
/-- What a round keeps. -/
def KpO (Bs : List Nat) (n₀ : Nat) (W1 W' : World) : Prop :=
  Below n₀ W1 W' ∧ (GoodO Bs n₀ W1 → (∀ k o, W1.heap[k]? = some o → o.isCells = true → ¬ OwB Bs W1 k → W'.heap[k]? = some o) ∧ (∀ k, OwB Bs W' k → k < W1.heap.size → OwB Bs W1 k) ∧ GoodO Bs n₀ W')
theorem kpO_t {Bs : List Nat} {n₀ : Nat} {A B C : World} (h : KpO Bs n₀ A B) (k : KpO Bs n₀ B C) : KpO Bs n₀ A C := by
  refine ⟨h.1.trans k.1, fun hg => ?_⟩
  obtain ⟨h1, h2, h3⟩ := h.2 hg
  obtain ⟨k1, k2, k3⟩ := k.2 h3
  refine ⟨fun j o hj ho hn => ?_, fun j hj hlt => h2 j (k2 j hj (Nat.lt_of_lt_of_le hlt h.1.size)) hlt, k3⟩
  have hlt := (Array.getElem?_eq_some_iff.1 hj).1
  exact k1 j o (h1 j o hj ho hn) ho (fun hb => hn (h2 j hb hlt))
theorem rowOf_same {W W' : World} {B k : Nat} (h : W'.heap[B]? = W.heap[B]?) : RowOf W' B k ↔ RowOf W B k := by unfold RowOf; rw [h]
theorem owB_same {Bs : List Nat} {W W' : World} (h : ∀ B ∈ Bs, W'.heap[B]? = W.heap[B]?) (k : Nat) : OwB Bs W' k ↔ OwB Bs W k := by
  constructor
  · rintro ⟨B, hB, rfl | hr⟩
    · exact ⟨k, hB, .inl rfl⟩
    · exact ⟨B, hB, .inr ((rowOf_same (h B hB)).1 hr)⟩
  · rintro ⟨B, hB, rfl | hr⟩
    · exact ⟨k, hB, .inl rfl⟩
    · exact ⟨B, hB, .inr ((rowOf_same (h B hB)).2 hr)⟩
theorem GoodO.below {Bs : List Nat} {n₀ : Nat} {W W' : World} (h : GoodO Bs n₀ W) (hb : Below W.heap.size W W') : GoodO Bs n₀ W' := by
  have hs : ∀ B ∈ Bs, W'.heap[B]? = W.heap[B]? := fun B hB => hb.block B (h.1 B hB).2
  refine ⟨fun B hB => ⟨(h.1 B hB).1, Nat.lt_of_lt_of_le (h.1 B hB).2 hb.size⟩, fun k hk => ?_⟩
  have := h.2 k ((owB_same hs k).1 hk)
  exact ⟨this.1, Nat.lt_of_lt_of_le this.2 hb.size⟩
theorem kpO_b {Bs : List Nat} {n₀ : Nat} {w : World} (hn : n₀ ≤ w.heap.size) (hBs : ∀ B ∈ Bs, B < w.heap.size) (W : World) (l : Nat) (o o' : Obj) (hl : w.heap.size ≤ l) (h : W.heap[l]? = some o) (hc : o.isCells = false) (hw : o.isWalk = false) : KpO Bs n₀ W (W.putObj l o') := by
  have hs : ∀ B ∈ Bs, (W.putObj l o').heap[B]? = W.heap[B]? := fun B hB => World.putObj_heap_other (fun e => by have := hBs B hB; omega)
  have hsz : (W.putObj l o').heap.size = W.heap.size := by simp
  refine ⟨belowK_b (w := w) hn W l o o' hl h hc hw, fun hg => ⟨fun k u hk hu hno => ?_, fun k hk _ => (owB_same hs k).1 hk, ⟨fun B hB => by rw [hsz]; exact hg.1 B hB, fun k hk => by rw [hsz]; exact hg.2 k ((owB_same hs k).1 hk)⟩⟩⟩
  refine (World.putObj_heap_other (fun e => ?_)).trans hk
  subst e
  rw [h] at hk
  injection hk with hk
  subst hk
  rw [hc] at hu; cases hu
/-- What made memory alone keeps all. -/
theorem kpO_below {Bs : List Nat} {n₀ : Nat} {W W' : World} (hn : n₀ ≤ W.heap.size) (hb : Below W.heap.size W W') : KpO Bs n₀ W W' := by
  refine ⟨hb.mono hn, fun hg => ?_⟩
  have hs : ∀ B ∈ Bs, W'.heap[B]? = W.heap[B]? := fun B hB => hb.block B (hg.1 B hB).2
  exact ⟨fun k o hk _ _ => (hb.block k (Array.getElem?_eq_some_iff.1 hk).1).trans hk, fun k hk _ => (owB_same hs k).1 hk, hg.below hb⟩
/-- A block of cells of the iterator's own stays through a round. -/
theorem KpO.blk {Bs : List Nat} {n₀ : Nat} {W W' : World} {g : Nat} {t : TypeId} {cs : Array Value} (h : KpO Bs n₀ W W') (hg : GoodO Bs n₀ W) (hb : Blk W g t cs) (hn : ¬ OwB Bs W g) : Blk W' g t cs ∧ GoodO Bs n₀ W' ∧ ¬ OwB Bs W' g :=
  ⟨(h.2 hg).1 g _ hb rfl hn, (h.2 hg).2.2, fun ho => hn ((h.2 hg).2.1 g ho hb.lt)⟩
theorem owB_fresh {Bs : List Nat} {n₀ : Nat} {W W' : World} (hg : GoodO Bs n₀ W) (hb : Below W.heap.size W W') {g : Nat} (hge : W.heap.size ≤ g) : ¬ OwB Bs W' g := fun ho => by
  have hs : ∀ B ∈ Bs, W'.heap[B]? = W.heap[B]? := fun B hB => hb.block B (hg.1 B hB).2
  have := (hg.2 g ((owB_same hs g).1 ho)).2
  omega
/-- A store into the loop's own blocks. -/
theorem kpO_grown {Bs : List Nat} {n₀ : Nat} {W W' : World} {S : Fp} (h : GrownS W W' S) (hn : n₀ ≤ W.heap.size) (hS : ∀ k, S k → n₀ ≤ k ∧ (GoodO Bs n₀ W → OwB Bs W k)) (hrow : ∀ k, OwB Bs W' k → k < W.heap.size → OwB Bs W k) (hgood : GoodO Bs n₀ W → GoodO Bs n₀ W') : KpO Bs n₀ W W' :=
  ⟨below_grown h hn (fun k hk => (hS k hk).1), fun hg => ⟨fun k o hk _ hno => (h.block k (Array.getElem?_eq_some_iff.1 hk).1 (fun hs => hno ((hS k hs).2 hg))).trans hk, hrow, hgood hg⟩⟩
end Go.Proofs.YtifjenleoagefaaGreat
