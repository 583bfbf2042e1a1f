/- HELPER, no statement of the seat: several texts in one file. -/
import Derived.Test.YthefakiobpijiaaTimeBase
import Derived.Test.YthefakiobpijiaaZba
import Derived.Test.YthefakiobpijiaaFrj
import Derived.Test.YthefakiobpijiaaFrt
import Derived.Test.YthefakiobpijiaaGrf
import Derived.RangeFuncNested
import Derived.RangeFuncBound
import Derived.RangeFuncCalls
import Derived.RangeFuncLeaves
import Derived.Shelf.Abstract
import Derived.Shelf.RegionOpen
import Derived.OwnWalkIn
import Derived.TacticsInMore
import Derived.LoopNIn
import Derived.LoopIn
/- HELPER, no statement of the seat: the program's order of times, by cmp.Or and cmp.Compare. -/
namespace Go.Proofs.Ythefakiobpijiaa
namespace Tcm
open Go.RowKit
set_option linter.unusedSimpArgs false
set_option linter.unusedVariables false

/-- The first that is not zero. -/
def orV (a b : Int) : Int := if a = 0 then b else a
theorem orV_eq {a b : Int} : (if a = 0 then b else a) = orV a b := rfl
def cmpT (x y u v : Int) : Int := orV (cmpI x u) (cmpI y v)
/-- v is a new slice of these two numbers. -/
def PairV (base : Nat) (a b : Int) (v : Value) (w : World) : Prop := ∃ g, v = .slice (some ⟨g, 0, none⟩) 2 2 ∧ base ≤ g ∧ Blk w g 3 #[.int .i64 a, .int .i64 b]
theorem stable_pairV (base : Nat) (a b : Int) : Stable (PairV base a b) := fun _ _ _ hb ⟨g, e, h, k⟩ => ⟨g, e, h, k.below hb⟩
theorem cmpInt_below (a b : Int) (w : World) : Calls Try.prog 222 #[.int .i64 a, .int .i64 b] w fun e w' => e = .returned (.int .i64 (cmpI a b)) ∧ Below w.heap.size w w' :=
  (cmpInt_any a b w).mono fun e w' ⟨he, hw⟩ => ⟨he, hw ▸ Below.refl _ _⟩
set_option maxHeartbeats 400000 in
theorem cmpOr_any (g : Nat) (a b : Int) (w : World) (hk : Blk w g 3 #[.int .i64 a, .int .i64 b]) : Calls Try.prog 242 #[.slice (some ⟨g, 0, none⟩) 2 2] w fun e w' => e = .returned (.int .i64 (orV a b)) ∧ w = w' := by
  have c0 := hk.cell 0
  have c1 := hk.cell 1
  simp at c0 c1
  clear hk
  go_enter Try.func242, Try.ntmps242
  go_wp2
  go_loopw [5, 8] (fun _ i wr => ∃ k : Nat, k ≤ 2 ∧ i = .int .i64 k ∧ (1 ≤ k → a = 0) ∧ (2 ≤ k → b = 0) ∧ w = wr) (fun _ i _ => 2 - (intOf i).toNat)
  case atStart => exact ⟨0, by omega, rfl, by omega, by omega, rfl⟩
  case round =>
    obtain ⟨k, hk, rfl, h1, h2, rfl⟩ := hrel
    have HA := Lib.hid h1
    have HB := Lib.hid h2
    clear h1 h2
    obtain rfl | rfl | rfl : k = 0 ∨ k = 1 ∨ k = 2 := by omega
    · by_cases ha : a = 0
      · have hne : (a != 0) = false := by simp [ha]
        have H0 := Lib.hid ha
        clear ha
        go_wp2
        go_roundw
        case rel => exact ⟨1, by omega, by go_num, fun _ => H0.out, by omega, by trivial⟩
        case measure => simp [intOf]
      · have hne : (a != 0) = true := by simp [ha]
        have H0 : Hid (orV a b = a) := by simp [Hid, orV, ha]
        clear ha
        go_wp2
        go_ret
        exact ⟨ret_int H0.out.symm, rfl⟩
    · by_cases hb : b = 0
      · have hne : (b != 0) = false := by simp [hb]
        have H0 := Lib.hid hb
        clear hb
        go_wp2
        go_roundw
        case rel => exact ⟨2, by omega, by go_num, fun _ => HA.out (by omega), fun _ => H0.out, by trivial⟩
        case measure => simp [intOf]
      · have hne : (b != 0) = true := by simp [hb]
        have H0 : Hid (orV a b = b) := by simp [Hid, orV, HA.out (by omega)]
        clear hb
        go_wp2
        go_ret
        exact ⟨ret_int H0.out.symm, rfl⟩
    · have H0 : Hid (orV a b = 0) := by simp [Hid, orV, HA.out (by omega), HB.out (by omega)]
      go_wp2
      go_ret
      exact ⟨ret_int H0.out.symm, rfl⟩
set_option maxHeartbeats 1600000 in
theorem timeCompare_i (x y u v : Int) (w : World) : Calls Try.prog 240 #[.agg #[.int .i64 x, .int .i64 y], .agg #[.int .i64 u, .int .i64 v]] w fun e w' => e = .returned (.int .i64 (cmpT x y u v)) ∧ Below w.heap.size w w' := by
  go_enter Try.func240, Try.ntmps240
  go_wp2_with fail
  refine abs_world (fun wB => Below w.heap.size w wB ∧ Blk wB w.heap.size 117 #[.int .i64 x, .int .i64 y] ∧ Blk wB (w.heap.size + 1) 117 #[.int .i64 u, .int .i64 v])
    ⟨bal (bal (Below.refl _ _) _) _, (Blk.newAt rfl).alloc _, Blk.newAt (by simp)⟩ (fun wB hx' => ?_)
  obtain ⟨hB, h0, h1⟩ := hx'
  refine wp_region_facts [[], [0], [], [2], [0, 1, 2, 3], [], [5], [], [7], [5, 6, 7, 8], [0, 1, 2, 3, 4, 5, 6, 7, 8, 9]]
    [fun v' _ => v' = .pointer (some ⟨w.heap.size, 0, none⟩), fun v' _ => v' = .int .i64 x, fun v' _ => v' = .pointer (some ⟨w.heap.size + 1, 0, none⟩), fun v' _ => v' = .int .i64 u, fun v' _ => v' = .int .i64 (cmpI x u), fun v' _ => v' = .pointer (some ⟨w.heap.size, 1, none⟩), fun v' _ => v' = .int .i64 y, fun v' _ => v' = .pointer (some ⟨w.heap.size + 1, 1, none⟩), fun v' _ => v' = .int .i64 v, fun v' _ => v' = .int .i64 (cmpI y v), PairV wB.heap.size (cmpI x u) (cmpI y v)]
    (by kernel_rfl) (by kernel_rfl) rfl ⟨stable_pure _, stable_pure _, stable_pure _, stable_pure _, stable_pure _, stable_pure _, stable_pure _, stable_pure _, stable_pure _, stable_pure _, stable_pairV _ _ _, trivial⟩ ?_
  refine wf_step (fun wf hb hf => ?_) (fun t0 => ?_)
  · go_wp2
    exact ⟨rfl, .pointer (some ⟨w.heap.size, 0, none⟩), by simp [Act.put], Below.refl _ _, rfl⟩
  refine wf_step (fun wf hb hf => ?_) (fun t1 => ?_)
  · obtain ⟨rfl, -⟩ := hf
    have c0 := (h0.below hb).cell 0
    simp at c0
    go_wp2
    exact ⟨rfl, .int .i64 x, by simp [Act.put], Below.refl _ _, rfl⟩
  refine wf_step (fun wf hb hf => ?_) (fun t2 => ?_)
  · go_wp2
    exact ⟨rfl, .pointer (some ⟨w.heap.size + 1, 0, none⟩), by simp [Act.put], Below.refl _ _, rfl⟩
  refine wf_step (fun wf hb hf => ?_) (fun t3 => ?_)
  · obtain ⟨rfl, -⟩ := hf
    have c0 := (h1.below hb).cell 0
    simp at c0
    go_wp2
    exact ⟨rfl, .int .i64 u, by simp [Act.put], Below.refl _ _, rfl⟩
  refine wf_step (fun wf hb hf => ?_) (fun t4 => ?_)
  · obtain ⟨rfl, rfl, rfl, rfl, -⟩ := hf
    go_wp2_with (go_at_call 222; refine (cmpInt_below _ _ _).mono ?_; rintro e w2 ⟨rfl, hb2⟩)
    exact ⟨rfl, .int .i64 (cmpI x u), by simp [Act.put], hb2, rfl⟩
  refine wf_step (fun wf hb hf => ?_) (fun t5 => ?_)
  · go_wp2
    exact ⟨rfl, .pointer (some ⟨w.heap.size, 1, none⟩), by simp [Act.put], Below.refl _ _, rfl⟩
  refine wf_step (fun wf hb hf => ?_) (fun t6 => ?_)
  · obtain ⟨rfl, -⟩ := hf
    have c0 := (h0.below hb).cell 1
    simp at c0
    go_wp2
    exact ⟨rfl, .int .i64 y, by simp [Act.put], Below.refl _ _, rfl⟩
  refine wf_step (fun wf hb hf => ?_) (fun t7 => ?_)
  · go_wp2
    exact ⟨rfl, .pointer (some ⟨w.heap.size + 1, 1, none⟩), by simp [Act.put], Below.refl _ _, rfl⟩
  refine wf_step (fun wf hb hf => ?_) (fun t8 => ?_)
  · obtain ⟨rfl, -⟩ := hf
    have c0 := (h1.below hb).cell 1
    simp at c0
    go_wp2
    exact ⟨rfl, .int .i64 v, by simp [Act.put], Below.refl _ _, rfl⟩
  refine wf_step (fun wf hb hf => ?_) (fun t9 => ?_)
  · obtain ⟨rfl, rfl, rfl, rfl, -⟩ := hf
    go_wp2_with (go_at_call 222; refine (cmpInt_below _ _ _).mono ?_; rintro e w2 ⟨rfl, hb2⟩)
    exact ⟨rfl, .int .i64 (cmpI y v), by simp [Act.put], hb2, rfl⟩
  refine wf_step (fun wf hb hf => ?_) (fun t10 => ?_)
  · obtain ⟨rfl, rfl, rfl, rfl, rfl, rfl, rfl, rfl, rfl, rfl, -⟩ := hf
    go_wp2
    exact ⟨rfl, .slice (some ⟨wf.heap.size, 0, none⟩) 2 2, by simp [Act.put], bal (Below.refl _ _) _, _, rfl, hb.size, Blk.newAt rfl⟩
  refine wf_done (fun wC hb hf => ?_)
  obtain ⟨rfl, rfl, rfl, rfl, rfl, rfl, rfl, rfl, rfl, rfl, ⟨g, rfl, hg, kg⟩, -⟩ := hf
  show wpList _ _ _ [_, _] _ _
  refine wpList_frame (by simp [Act.put]; rfl) ?_
  have HB := Lib.hid (btr hB hb)
  clear h0 h1 hB hb
  go_wp2_with (go_at_call 242; refine (cmpOr_any _ _ _ _ kg).mono ?_; rintro e w2 ⟨rfl, rfl⟩)
  go_ret
  exact ⟨rfl, HB.out⟩
theorem cmpT_lt (x y u v : Int) : decide (cmpT x y u v < 0) = bfB x y u v := by
  unfold cmpT orV bfB cmpI
  by_cases h1 : x < u <;> by_cases h2 : u < x <;> by_cases h3 : y < v <;> by_cases h4 : v < y <;> simp [h1, h2, h3, h4] <;> omega

end Tcm
end Go.Proofs.Ythefakiobpijiaa

/- HELPER, no statement of the seat: the program's insertion of a time into an antichain (antichain.insert). -/
namespace Go.Proofs.Ythefakiobpijiaa
open Go.RowKit Go.Sort
set_option linter.unusedSimpArgs false
set_option linter.unusedVariables false

theorem keepF_len (t : Tm) (xs : List Tm) : (keepF t xs).length ≤ xs.length := List.length_filter_le _ _
end Go.Proofs.Ythefakiobpijiaa

/- HELPER, no statement of the seat: ranges over functions: what a round keeps (all blocks of cells but the loop's own boxes and the rows that they hold), so that an iterator's own blocks survive the rounds. -/
namespace Go.Proofs.Ythefakiobpijiaa
open Go.RowKit
set_option linter.unusedSimpArgs false
set_option linter.unusedVariables false

theorem Blk.boxed {w : World} {B : Nat} {t : TypeId} {v : Value} (h : Blk w B t #[v]) : Boxed w B t v := h
theorem keepsFrom_grown {W W' : World} {S : Fp} {B : Nat} (h : GrownS W W' S) (hS : ∀ k o, S k → W.heap[k]? = some o → o.isCells = true) : KeepsFrom B W W' :=
  ⟨h.size, fun k o _ hk ho => by
    have hlt := (Array.getElem?_eq_some_iff.1 hk).1
    refine (h.block k hlt (fun hs => ?_)).trans hk
    rw [hS k o hs hk] at ho; cases ho⟩
theorem below_grown {W W' : World} {S : Fp} {n : Nat} (h : GrownS W W' S) (hn : n ≤ W.heap.size) (hS : ∀ k, S k → n ≤ k) : Below n W W' :=
  ⟨h.os, h.tape, h.output, h.size, fun k hk => h.block k (by omega) (fun hs => by have := hS k hs; omega)⟩
theorem row_cells {w : World} {base : Nat} {E : TypeId} {sz : Nat} {A : Option Addr} {n c : Nat} {vs : List Value} (h : w.ownsRow base E sz (.slice A n c) n vs) : ∀ k o, blk A = some k → w.heap[k]? = some o → o.isCells = true := by
  intro k o hk ho
  obtain ⟨_, ⟨e1, _⟩ | ⟨g', cap, cur, e1, _, hg, _⟩⟩ := h
  · injection e1 with e1 _ _
    subst e1
    cases hk
  · injection e1 with e1 _ _
    subst e1
    have : g' = k := by simpa [blk] using hk
    subst this
    rw [hg] at ho
    injection ho with ho
    subst ho
    rfl
theorem blk_cells {w : World} {B : Nat} {t : TypeId} {cs : Array Value} (h : Blk w B t cs) : ∀ o, w.heap[B]? = some o → o.isCells = true := by
  intro o ho
  unfold Blk at h
  rw [h] at ho
  injection ho with ho
  subst ho
  rfl
theorem abides_below {β : Type} {B : Nat} {J : β → World → Prop} (h : AbidesFrom B J) {s : β} {W W' : World} (hs : J s W) (hb : Below W.heap.size W W') : J s W' :=
  h s W W' none hs ⟨hb.os, hb.tape, hb.output, hb.size, fun k hk _ => hb.block k hk⟩ (fun r e => by cases e)

/-- Block k is the row of the slice in box B. -/
def RowOf (W : World) (B k : Nat) : Prop := ∃ n c T, W.heap[B]? = some (.cells #[.slice (some ⟨k, 0, none⟩) n c] T (0, 0))
/-- A loop's own blocks: its boxes, and the rows that they hold. -/
def OwB (Bs : List Nat) (W : World) (k : Nat) : Prop := ∃ B ∈ Bs, k = B ∨ RowOf W B k
def GoodO (Bs : List Nat) (n₀ : Nat) (W : World) : Prop := (∀ B ∈ Bs, n₀ ≤ B ∧ B < W.heap.size) ∧ ∀ k, OwB Bs W k → n₀ ≤ k ∧ k < W.heap.size
/-- What a round keeps. -/
def KpO (Bs : List Nat) (n₀ : Nat) (W1 W' : World) : Prop :=
  Below n₀ W1 W' ∧ (GoodO Bs n₀ W1 → (∀ k o, W1.heap[k]? = some o → o.isCells = true → ¬ OwB Bs W1 k → W'.heap[k]? = some o) ∧ (∀ k, OwB Bs W' k → k < W1.heap.size → OwB Bs W1 k) ∧ GoodO Bs n₀ W')
theorem kpO_t {Bs : List Nat} {n₀ : Nat} {A B C : World} (h : KpO Bs n₀ A B) (k : KpO Bs n₀ B C) : KpO Bs n₀ A C := by
  refine ⟨h.1.trans k.1, fun hg => ?_⟩
  obtain ⟨h1, h2, h3⟩ := h.2 hg
  obtain ⟨k1, k2, k3⟩ := k.2 h3
  refine ⟨fun j o hj ho hn => ?_, fun j hj hlt => h2 j (k2 j hj (Nat.lt_of_lt_of_le hlt h.1.size)) hlt, k3⟩
  have hlt := (Array.getElem?_eq_some_iff.1 hj).1
  exact k1 j o (h1 j o hj ho hn) ho (fun hb => hn (h2 j hb hlt))
theorem rowOf_same {W W' : World} {B k : Nat} (h : W'.heap[B]? = W.heap[B]?) : RowOf W' B k ↔ RowOf W B k := by unfold RowOf; rw [h]
theorem owB_same {Bs : List Nat} {W W' : World} (h : ∀ B ∈ Bs, W'.heap[B]? = W.heap[B]?) (k : Nat) : OwB Bs W' k ↔ OwB Bs W k := by
  constructor
  · rintro ⟨B, hB, rfl | hr⟩
    · exact ⟨k, hB, .inl rfl⟩
    · exact ⟨B, hB, .inr ((rowOf_same (h B hB)).1 hr)⟩
  · rintro ⟨B, hB, rfl | hr⟩
    · exact ⟨k, hB, .inl rfl⟩
    · exact ⟨B, hB, .inr ((rowOf_same (h B hB)).2 hr)⟩
theorem GoodO.below {Bs : List Nat} {n₀ : Nat} {W W' : World} (h : GoodO Bs n₀ W) (hb : Below W.heap.size W W') : GoodO Bs n₀ W' := by
  have hs : ∀ B ∈ Bs, W'.heap[B]? = W.heap[B]? := fun B hB => hb.block B (h.1 B hB).2
  refine ⟨fun B hB => ⟨(h.1 B hB).1, Nat.lt_of_lt_of_le (h.1 B hB).2 hb.size⟩, fun k hk => ?_⟩
  have := h.2 k ((owB_same hs k).1 hk)
  exact ⟨this.1, Nat.lt_of_lt_of_le this.2 hb.size⟩
theorem kpO_b {Bs : List Nat} {n₀ : Nat} {w : World} (hn : n₀ ≤ w.heap.size) (hBs : ∀ B ∈ Bs, B < w.heap.size) (W : World) (l : Nat) (o o' : Obj) (hl : w.heap.size ≤ l) (h : W.heap[l]? = some o) (hc : o.isCells = false) (hw : o.isWalk = false) : KpO Bs n₀ W (W.putObj l o') := by
  have hs : ∀ B ∈ Bs, (W.putObj l o').heap[B]? = W.heap[B]? := fun B hB => World.putObj_heap_other (fun e => by have := hBs B hB; omega)
  have hsz : (W.putObj l o').heap.size = W.heap.size := by simp
  refine ⟨belowK_b (w := w) hn W l o o' hl h hc hw, fun hg => ⟨fun k u hk hu hno => ?_, fun k hk _ => (owB_same hs k).1 hk, ⟨fun B hB => by rw [hsz]; exact hg.1 B hB, fun k hk => by rw [hsz]; exact hg.2 k ((owB_same hs k).1 hk)⟩⟩⟩
  refine (World.putObj_heap_other (fun e => ?_)).trans hk
  subst e
  rw [h] at hk
  injection hk with hk
  subst hk
  rw [hc] at hu; cases hu
/-- What made memory alone keeps all. -/
theorem kpO_below {Bs : List Nat} {n₀ : Nat} {W W' : World} (hn : n₀ ≤ W.heap.size) (hb : Below W.heap.size W W') : KpO Bs n₀ W W' := by
  refine ⟨hb.mono hn, fun hg => ?_⟩
  have hs : ∀ B ∈ Bs, W'.heap[B]? = W.heap[B]? := fun B hB => hb.block B (hg.1 B hB).2
  exact ⟨fun k o hk _ _ => (hb.block k (Array.getElem?_eq_some_iff.1 hk).1).trans hk, fun k hk _ => (owB_same hs k).1 hk, hg.below hb⟩
/-- A block of cells of the iterator's own stays through a round. -/
theorem KpO.blk {Bs : List Nat} {n₀ : Nat} {W W' : World} {g : Nat} {t : TypeId} {cs : Array Value} (h : KpO Bs n₀ W W') (hg : GoodO Bs n₀ W) (hb : Blk W g t cs) (hn : ¬ OwB Bs W g) : Blk W' g t cs ∧ GoodO Bs n₀ W' ∧ ¬ OwB Bs W' g :=
  ⟨(h.2 hg).1 g _ hb rfl hn, (h.2 hg).2.2, fun ho => hn ((h.2 hg).2.1 g ho hb.lt)⟩
theorem owB_fresh {Bs : List Nat} {n₀ : Nat} {W W' : World} (hg : GoodO Bs n₀ W) (hb : Below W.heap.size W W') {g : Nat} (hge : W.heap.size ≤ g) : ¬ OwB Bs W' g := fun ho => by
  have hs : ∀ B ∈ Bs, W'.heap[B]? = W.heap[B]? := fun B hB => hb.block B (hg.1 B hB).2
  have := (hg.2 g ((owB_same hs g).1 ho)).2
  omega
/-- A store into the loop's own blocks. -/
theorem kpO_grown {Bs : List Nat} {n₀ : Nat} {W W' : World} {S : Fp} (h : GrownS W W' S) (hn : n₀ ≤ W.heap.size) (hS : ∀ k, S k → n₀ ≤ k ∧ (GoodO Bs n₀ W → OwB Bs W k)) (hrow : ∀ k, OwB Bs W' k → k < W.heap.size → OwB Bs W k) (hgood : GoodO Bs n₀ W → GoodO Bs n₀ W') : KpO Bs n₀ W W' :=
  ⟨below_grown h hn (fun k hk => (hS k hk).1), fun hg => ⟨fun k o hk _ hno => (h.block k (Array.getElem?_eq_some_iff.1 hk).1 (fun hs => hno ((hS k hs).2 hg))).trans hk, hrow, hgood hg⟩⟩
end Go.Proofs.Ythefakiobpijiaa

/- HELPER, no statement of the seat: the minimal times of what an iterator yields (minimalOf). -/
namespace Go.Proofs.Ythefakiobpijiaa
open Go.RowKit Go.Sort Go.Shelf
set_option linter.unusedSimpArgs false
set_option linter.unusedVariables false
attribute [local go_sem] Oper.semAt_some

abbrev encT (t : Tm) : Array Value := #[.agg #[.int .i64 t.1, .int .i64 t.2]]
theorem minT_snoc (l : List Tm) (t : Tm) : minT (l ++ [t]) = insT (minT l) t := by simp [minT]
end Go.Proofs.Ythefakiobpijiaa

/- HELPER, no statement of the seat: the iterators of times: slices.Values; the joins of two antichains. -/
namespace Go.Proofs.Ythefakiobpijiaa
open Go.RowKit Go.Sort Go.Shelf
set_option linter.unusedSimpArgs false
set_option linter.unusedVariables false
attribute [local go_sem] Oper.semAt_some

/-- The joins of the pairs, in their order. -/
def joinT (a b : Tm) : Tm := (max a.1 b.1, max a.2 b.2)
def joinsT (f g : List Tm) : List Tm := f.flatMap fun a => g.map (joinT a)
theorem joinsT_len (f g : List Tm) : (joinsT f g).length = f.length * g.length := by
  induction f with
  | nil => simp [joinsT]
  | cons a f ih =>
    have : joinsT (a :: f) g = g.map (joinT a) ++ joinsT f g := by simp [joinsT]
    rw [this, List.length_append, ih, List.length_map, List.length_cons, Nat.add_mul, Nat.one_mul, Nat.add_comm]
def joinsTo (f g : List Tm) (i k : Nat) : List Tm := joinsT (f.take i) g ++ ((g.take k).map (joinT (tg f i)))
theorem joinsTo_step (f g : List Tm) (i k : Nat) (hk : k < g.length) : joinsTo f g i (k + 1) = joinsTo f g i k ++ [joinT (tg f i) g[k]] := by
  unfold joinsTo
  rw [List.take_succ_eq_append_getElem hk, List.map_append, List.append_assoc]
  rfl
theorem joinsTo_next (f g : List Tm) (i : Nat) (hi : i < f.length) : joinsTo f g i g.length = joinsTo f g (i + 1) 0 := by
  unfold joinsTo
  rw [List.take_succ_eq_append_getElem hi, List.take_length, tg_lt hi]
  simp only [joinsT, List.flatMap_append, List.take_zero, List.map_nil, List.append_nil, List.flatMap_cons, List.flatMap_nil]
theorem joinsTo_end (f g : List Tm) : joinsTo f g f.length 0 = joinsT f g := by simp [joinsTo]
theorem joinsTo_len (f g : List Tm) (i k : Nat) (hi : i < f.length) (hk : k < g.length) : (joinsTo f g i k).length < (joinsT f g).length := by
  unfold joinsTo
  rw [List.length_append, joinsT_len, joinsT_len, List.length_map, List.length_take, List.length_take, Nat.min_eq_left (by omega), Nat.min_eq_left (by omega)]
  have h1 : (i + 1) * g.length ≤ f.length * g.length := Nat.mul_le_mul_right _ (by omega)
  rw [Nat.add_mul, Nat.one_mul] at h1
  omega
end Go.Proofs.Ythefakiobpijiaa
