/- HELPER, no statement of the seat: several texts in one file. -/
import Derived.Test.YtifjenleoagefaaGreatRfn
/- HELPER, no statement of the seat: a range over an iterator that writes boxes of its own between two rounds. -/
namespace Go.Proofs.YtifjenleoagefaaGreat
open Go.RowKit Go.Sort Go.Shelf
set_option linter.unusedSimpArgs false
set_option linter.unusedVariables false

/-- What stays where blocks are made, and blocks from lo on and below hi are changed. -/
def StaysIn {β : Type} (lo hi : Nat) (J : β → World → Prop) : Prop := ∀ s W W' row, J s W → W.grownBy W' row → (∀ r, row = some r → lo ≤ r ∧ r < hi) → J s W'
theorem StaysIn.put {β : Type} {lo hi : Nat} {J : β → World → Prop} (h : StaysIn lo hi J) {s : β} {W : World} {l : Nat} (o : Obj) (hs : J s W) (h1 : lo ≤ l) (h2 : l < hi) : J s (W.putObj l o) :=
  h s W _ (some l) hs (grownBy_putObj' W l o) (fun r e => by injection e with e; omega)
theorem StaysIn.alloc {β : Type} {lo hi : Nat} {J : β → World → Prop} (h : StaysIn lo hi J) {s : β} {W : World} (o : Obj) (hs : J s W) : J s (W.alloc o) :=
  h s W _ none hs (World.grownBy_alloc W o none) (fun r e => by cases e)
/-- The contract of an iterator that is called in w: the m blocks from w.heap.size on are its own. -/
def SeqOwn {α : Type} (m n : Nat) (P : Program) (gf : Nat) (lb : Array Value) (encs : α → Array Value) (Kp : World → World → Prop) (S : List α → Prop) (N : Nat) (w : World) : Prop :=
  ∀ (l : Nat) (J : List α → World → Prop), StaysIn w.heap.size (w.heap.size + m) J →
    (∀ pre x W1, J pre W1 → pre.length < N → w.heap.size + m ≤ W1.heap.size → YieldAt Fence.wide (n - 1) P l (encs x) W1 fun e W' => e = .returned (.bool true) ∧ J (pre ++ [x]) W' ∧ Kp W1 W') →
    J [] w → CallsIn Fence.wide n P gf (#[.func (.yield l) #[] #[]] ++ lb) w fun e W' => (∃ v, e = .returned v) ∧ ∃ xs, S xs ∧ J xs W'
theorem range_gives {α : Type} {n m N gf : Nat} {P : Program} {g : Operand} {ps : Array Tmp} {assign body : Code} {Q : Exit → Act → World → Prop} {a : Act} {w : World} {lb : Array Value} {encs : α → Array Value} {Kp : World → World → Prop} {S : List α → Prop}
    (h1 : 1 ≤ n) (hg : a.eval g = .func (.func gf) #[] lb) (eg : ∀ args w, (callFunc gf args).run P w = .ok (.enter gf args) w)
    (hseq : ∀ W1, Below w.heap.size w W1 → W1.heap.size = w.heap.size + 2 → SeqOwn m (n - 1) P gf lb encs Kp S N W1)
    (hKt : ∀ {A B C : World}, Kp A B → Kp B C → Kp A C) (hKb : ∀ (W : World) (l : Nat) (o o' : Obj), w.heap.size ≤ l → W.heap[l]? = some o → o.isCells = false → o.isWalk = false → Kp W (W.putObj l o'))
    (hps : ∀ x, (encs x).size = ps.size) (I : List α → World → Prop) (hI : StaysIn w.heap.size (w.heap.size + 2 + m) I) (h0 : I [] w)
    (Ax : α → Act → World → Prop) (hAx : ∀ x a', StaysIn w.heap.size (w.heap.size + 2) (fun (_ : Unit) W => Ax x a' W))
    (hassign : ∀ (l : Nat) (pre : List α) (x : α) (W : World) (K : Act → World → Prop), I pre W → w.heap.size + 2 + m ≤ W.heap.size → (∀ a' W', KeepsFrom w.heap.size W W' → Kp W W' → I pre W' → Ax x a' W' → K a' W') →
      assign.wpIn (Fence.wide.inRound l) (n - 1 - 1) P (Exit.then K (fun _ _ _ => False)) { tmps := (ps.zip (encs x)).foldl (fun t (p, v) => t.setIfInBounds p v) a.tmps, defers := [] } W)
    (hbody : ∀ (l : Nat) (pre : List α) (x : α) (a' : Act) (W : World), w.heap.size ≤ l → l < w.heap.size + 2 → I pre W → Ax x a' W → pre.length < N → w.heap.size + 2 + m ≤ W.heap.size →
      body.wpIn (Fence.wide.inRound l) (n - 1 - 1) P (fun e _ W' => e = .normal ∧ KeepsFrom w.heap.size W W' ∧ Kp W W' ∧ I (pre ++ [x]) W') a' W)
    (hdone : ∀ (xs : List α) (W : World), S xs → I xs W → W.heap[w.heap.size]? = some (.deferred (some [])) → Q .normal { a with defers := { target := .collected w.heap.size, args := #[] } :: a.defers } W) :
    (Code.rangeFunc g ps assign body).wpIn Fence.wide n P Q a w := by
  refine wpIn_rangeFunc (fun fn hfn => ?_)
  let L0 : Loop := { state := .ready, pending := none, fn, tmps := a.tmps, params := ps, assign, body, defers := w.heap.size }
  let J : List α → World → Prop := fun pre W => I pre W ∧ W.heap[w.heap.size + 1]? = some (.loop L0) ∧ W.heap[w.heap.size]? = some (.deferred (some []))
  obtain ⟨W1, hW1⟩ : ∃ W1, (w.alloc (.deferred (some []))).alloc (.loop L0) = W1 := ⟨_, rfl⟩
  have hsz : W1.heap.size = w.heap.size + 2 := by rw [← hW1]; simp
  have hb1 : Below w.heap.size w W1 := by rw [← hW1]; exact bal (bal (Below.refl _ _) _) _
  have hloop : W1.heap[w.heap.size + 1]? = some (.loop L0) := by
    have := World.alloc_heap_new (w.alloc (.deferred (some []))) (.loop L0)
    rw [World.size_alloc] at this
    rw [← hW1]; exact this
  have hdef : W1.heap[w.heap.size]? = some (.deferred (some [])) := by
    rw [← hW1]; exact (Below.heap_alloc _ _ _ (by simp)).trans (World.alloc_heap_new w _)
  have hJ0 : J [] W1 := ⟨by rw [← hW1]; exact hI.alloc _ (hI.alloc _ h0), hloop, hdef⟩
  have hJs : StaysIn W1.heap.size (W1.heap.size + m) J := fun s A B row hs hgr hr =>
    ⟨hI s A B row hs.1 hgr (fun r e => by have := hr r e; omega),
      (hgr.block _ (Array.getElem?_eq_some_iff.1 hs.2.1).1 (fun e => by have := hr _ e.symm; omega)).trans hs.2.1,
      (hgr.block _ (Array.getElem?_eq_some_iff.1 hs.2.2).1 (fun e => by have := hr _ e.symm; omega)).trans hs.2.2⟩
  refine ⟨w.heap.size + 1, [{ target := .collected w.heap.size, args := #[] }], W1, { target := .fn (.func gf) lb, args := #[.func (.yield (w.heap.size + 1)) #[] #[]] }, W1, gf, #[.func (.yield (w.heap.size + 1)) #[] #[]] ++ lb, W1,
    by rw [← hW1]; exact run_enterLoop_outer _ _ _ _ _, by simp only [resolve, hg]; simp [go_sem], fun f' hf' => trivial, by simp [invoke, go_sem, eg], fun _ => h1, ?_⟩
  refine (hseq W1 hb1 hsz (w.heap.size + 1) J hJs ?_ hJ0).mono ?_
  · rintro pre x W ⟨hi, hl, hd⟩ hlen hroom
    refine ⟨fn, _, assign, body, run_yield hl (hps x), roundIn_of_wpIn hfn (hassign _ pre x W _ hi (by omega) (fun a' Wa ka kpa hia hax => ?_))⟩
    have hla := ka.same _ _ (by omega) hl rfl
    have hda := ka.same _ _ (Nat.le_refl _) hd rfl
    have hlta := (Array.getElem?_eq_some_iff.1 hla).1
    refine ⟨_, run_beginRound hla rfl, ?_⟩
    have hl2 : (Wa.putObj (w.heap.size + 1) (.loop { L0 with state := .busy })).heap[w.heap.size + 1]? = some (.loop { L0 with state := .busy }) := World.putObj_heap_same hlta
    have hd2 : (Wa.putObj (w.heap.size + 1) (.loop { L0 with state := .busy })).heap[w.heap.size]? = some (.deferred (some [])) := (World.putObj_heap_other (by omega)).trans hda
    have hk2 : Kp Wa (Wa.putObj (w.heap.size + 1) (.loop { L0 with state := .busy })) := hKb _ _ _ _ (by omega) hla rfl rfl
    refine Code.wpIn_mono (fun e a3 W3 hq => ?_) (hbody _ pre x a' _ (by omega) (by omega) (hI.put _ hia (by omega) (by omega)) ((hAx x a').put (s := ()) _ hax (by omega) (by omega)) hlen (by have := ka.size; simp; omega))
    obtain ⟨rfl, k3, kp3, hi3⟩ := hq
    have hl3 := k3.same _ _ (by omega) hl2 rfl
    have hd3 := k3.same _ _ (Nat.le_refl _) hd2 rfl
    refine ⟨_, _, run_endRound none hl3, rfl, ⟨hI.put _ hi3 (by omega) (by omega), World.putObj_heap_same (Array.getElem?_eq_some_iff.1 hl3).1, (World.putObj_heap_other (by omega)).trans hd3⟩, hKt kpa (hKt hk2 (hKt kp3 (hKb _ _ _ _ (by omega) hl3 rfl rfl)))⟩
  · rintro e W2 ⟨⟨v, rfl⟩, xs, hS, hi, hl, hd⟩
    exact ⟨none, _, run_endLoop hl (by simp [L0]), hdone xs _ hS (hI.put _ hi (by omega) (by omega)) ((World.putObj_heap_other (by omega)).trans hd)⟩
end Go.Proofs.YtifjenleoagefaaGreat

/- HELPER, no statement of the seat: range_gives, where the body is told of its loop's record (a range inside it wants that). -/
namespace Go.Proofs.YtifjenleoagefaaGreat
open Go.RowKit Go.Sort Go.Shelf
set_option linter.unusedSimpArgs false
set_option linter.unusedVariables false

theorem range_givesH {α : Type} {n m N gf : Nat} {P : Program} {g : Operand} {ps : Array Tmp} {assign body : Code} {Q : Exit → Act → World → Prop} {a : Act} {w : World} {lb : Array Value} {encs : α → Array Value} {Kp : World → World → Prop} {S : List α → Prop}
    (h1 : 1 ≤ n) (hg : a.eval g = .func (.func gf) #[] lb) (eg : ∀ args w, (callFunc gf args).run P w = .ok (.enter gf args) w)
    (hseq : ∀ W1, Below w.heap.size w W1 → W1.heap.size = w.heap.size + 2 → SeqOwn m (n - 1) P gf lb encs Kp S N W1)
    (hKt : ∀ {A B C : World}, Kp A B → Kp B C → Kp A C) (hKb : ∀ (W : World) (l : Nat) (o o' : Obj), w.heap.size ≤ l → W.heap[l]? = some o → o.isCells = false → o.isWalk = false → Kp W (W.putObj l o'))
    (hps : ∀ x, (encs x).size = ps.size) (I : List α → World → Prop) (hI : StaysIn w.heap.size (w.heap.size + 2 + m) I) (h0 : I [] w)
    (Ax : α → Act → World → Prop) (hAx : ∀ x a', StaysIn w.heap.size (w.heap.size + 2) (fun (_ : Unit) W => Ax x a' W))
    (hassign : ∀ (l : Nat) (pre : List α) (x : α) (W : World) (K : Act → World → Prop), I pre W → w.heap.size + 2 + m ≤ W.heap.size → (∀ a' W', KeepsFrom w.heap.size W W' → Kp W W' → I pre W' → Ax x a' W' → K a' W') →
      assign.wpIn (Fence.wide.inRound l) (n - 1 - 1) P (Exit.then K (fun _ _ _ => False)) { tmps := (ps.zip (encs x)).foldl (fun t (p, v) => t.setIfInBounds p v) a.tmps, defers := [] } W)
    (hbody : ∀ (l : Nat) (pre : List α) (x : α) (a' : Act) (W : World), w.heap.size ≤ l → l < w.heap.size + 2 → I pre W → Ax x a' W → pre.length < N → w.heap.size + 2 + m ≤ W.heap.size → (∃ r, W.heap[l]? = some (.loop r)) →
      body.wpIn (Fence.wide.inRound l) (n - 1 - 1) P (fun e _ W' => e = .normal ∧ KeepsFrom w.heap.size W W' ∧ Kp W W' ∧ I (pre ++ [x]) W') a' W)
    (hdone : ∀ (xs : List α) (W : World), S xs → I xs W → W.heap[w.heap.size]? = some (.deferred (some [])) → Q .normal { a with defers := { target := .collected w.heap.size, args := #[] } :: a.defers } W) :
    (Code.rangeFunc g ps assign body).wpIn Fence.wide n P Q a w := by
  refine wpIn_rangeFunc (fun fn hfn => ?_)
  let L0 : Loop := { state := .ready, pending := none, fn, tmps := a.tmps, params := ps, assign, body, defers := w.heap.size }
  let J : List α → World → Prop := fun pre W => I pre W ∧ W.heap[w.heap.size + 1]? = some (.loop L0) ∧ W.heap[w.heap.size]? = some (.deferred (some []))
  obtain ⟨W1, hW1⟩ : ∃ W1, (w.alloc (.deferred (some []))).alloc (.loop L0) = W1 := ⟨_, rfl⟩
  have hsz : W1.heap.size = w.heap.size + 2 := by rw [← hW1]; simp
  have hb1 : Below w.heap.size w W1 := by rw [← hW1]; exact bal (bal (Below.refl _ _) _) _
  have hloop : W1.heap[w.heap.size + 1]? = some (.loop L0) := by
    have := World.alloc_heap_new (w.alloc (.deferred (some []))) (.loop L0)
    rw [World.size_alloc] at this
    rw [← hW1]; exact this
  have hdef : W1.heap[w.heap.size]? = some (.deferred (some [])) := by
    rw [← hW1]; exact (Below.heap_alloc _ _ _ (by simp)).trans (World.alloc_heap_new w _)
  have hJ0 : J [] W1 := ⟨by rw [← hW1]; exact hI.alloc _ (hI.alloc _ h0), hloop, hdef⟩
  have hJs : StaysIn W1.heap.size (W1.heap.size + m) J := fun s A B row hs hgr hr =>
    ⟨hI s A B row hs.1 hgr (fun r e => by have := hr r e; omega),
      (hgr.block _ (Array.getElem?_eq_some_iff.1 hs.2.1).1 (fun e => by have := hr _ e.symm; omega)).trans hs.2.1,
      (hgr.block _ (Array.getElem?_eq_some_iff.1 hs.2.2).1 (fun e => by have := hr _ e.symm; omega)).trans hs.2.2⟩
  refine ⟨w.heap.size + 1, [{ target := .collected w.heap.size, args := #[] }], W1, { target := .fn (.func gf) lb, args := #[.func (.yield (w.heap.size + 1)) #[] #[]] }, W1, gf, #[.func (.yield (w.heap.size + 1)) #[] #[]] ++ lb, W1,
    by rw [← hW1]; exact run_enterLoop_outer _ _ _ _ _, by simp only [resolve, hg]; simp [go_sem], fun f' hf' => trivial, by simp [invoke, go_sem, eg], fun _ => h1, ?_⟩
  refine (hseq W1 hb1 hsz (w.heap.size + 1) J hJs ?_ hJ0).mono ?_
  · rintro pre x W ⟨hi, hl, hd⟩ hlen hroom
    refine ⟨fn, _, assign, body, run_yield hl (hps x), roundIn_of_wpIn hfn (hassign _ pre x W _ hi (by omega) (fun a' Wa ka kpa hia hax => ?_))⟩
    have hla := ka.same _ _ (by omega) hl rfl
    have hda := ka.same _ _ (Nat.le_refl _) hd rfl
    have hlta := (Array.getElem?_eq_some_iff.1 hla).1
    refine ⟨_, run_beginRound hla rfl, ?_⟩
    have hl2 : (Wa.putObj (w.heap.size + 1) (.loop { L0 with state := .busy })).heap[w.heap.size + 1]? = some (.loop { L0 with state := .busy }) := World.putObj_heap_same hlta
    have hd2 : (Wa.putObj (w.heap.size + 1) (.loop { L0 with state := .busy })).heap[w.heap.size]? = some (.deferred (some [])) := (World.putObj_heap_other (by omega)).trans hda
    have hk2 : Kp Wa (Wa.putObj (w.heap.size + 1) (.loop { L0 with state := .busy })) := hKb _ _ _ _ (by omega) hla rfl rfl
    refine Code.wpIn_mono (fun e a3 W3 hq => ?_) (hbody _ pre x a' _ (by omega) (by omega) (hI.put _ hia (by omega) (by omega)) ((hAx x a').put (s := ()) _ hax (by omega) (by omega)) hlen (by have := ka.size; simp; omega) ⟨_, hl2⟩)
    obtain ⟨rfl, k3, kp3, hi3⟩ := hq
    have hl3 := k3.same _ _ (by omega) hl2 rfl
    have hd3 := k3.same _ _ (Nat.le_refl _) hd2 rfl
    refine ⟨_, _, run_endRound none hl3, rfl, ⟨hI.put _ hi3 (by omega) (by omega), World.putObj_heap_same (Array.getElem?_eq_some_iff.1 hl3).1, (World.putObj_heap_other (by omega)).trans hd3⟩, hKt kpa (hKt hk2 (hKt kp3 (hKb _ _ _ _ (by omega) hl3 rfl rfl)))⟩
  · rintro e W2 ⟨⟨v, rfl⟩, xs, hS, hi, hl, hd⟩
    exact ⟨none, _, run_endLoop hl (by simp [L0]), hdone xs _ hS (hI.put _ hi (by omega) (by omega)) ((World.putObj_heap_other (by omega)).trans hd)⟩
end Go.Proofs.YtifjenleoagefaaGreat
