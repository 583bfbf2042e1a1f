/- HELPER, no statement of the seat: the marks that ranges over functions leave among a function's deferred calls. -/
import Derived.Test.YtifjenleoagefaaGreatRfn
namespace Go.Proofs.YtifjenleoagefaaGreat
open Go.RowKit Go.Sort Go.Shelf
set_option linter.unusedSimpArgs false
set_option linter.unusedVariables false

def markL (ds : List Nat) : List Deferred := ds.map fun D => { target := .collected D, args := #[] }
/-- The marks' blocks, between base and top. -/
def MarksAt (ds : List Nat) (base : Nat) (W : World) : Prop := ds.Nodup ∧ ∀ D ∈ ds, base ≤ D ∧ W.heap[D]? = some (.deferred (some []))
theorem MarksAt.nil (base : Nat) (W : World) : MarksAt [] base W := ⟨List.nodup_nil, fun D h => by cases h⟩
theorem MarksAt.lt {ds : List Nat} {base : Nat} {W : World} (h : MarksAt ds base W) : ∀ D ∈ ds, D < W.heap.size := fun D hD => (Array.getElem?_eq_some_iff.1 (h.2 D hD).2).1
theorem MarksAt.below {ds : List Nat} {base : Nat} {W W' : World} (h : MarksAt ds base W) (hb : Below W.heap.size W W') : MarksAt ds base W' :=
  ⟨h.1, fun D hD => ⟨(h.2 D hD).1, (hb.block D (h.lt D hD)).trans (h.2 D hD).2⟩⟩
theorem MarksAt.cell {ds : List Nat} {base : Nat} {W : World} (h : MarksAt ds base W) {g : Nat} {t : TypeId} {cs : Array Value} (hg : Blk W g t cs) (i : Nat) (v : Value) : MarksAt ds base (W.setCell ⟨g, i, none⟩ v) :=
  ⟨h.1, fun D hD => ⟨(h.2 D hD).1, (Below.heap_setCell W _ v D (fun e => by
    have h2 := (h.2 D hD).2
    simp at e
    subst e
    rw [show W.heap[D]? = _ from hg] at h2
    cases h2)).trans (h.2 D hD).2⟩⟩
theorem MarksAt.kept {ds : List Nat} {base : Nat} {W W' : World} {S : Fp} (h : MarksAt ds base W) (hg : GrownS W W' S) (hS : ∀ k, S k → ∃ o, W.heap[k]? = some o ∧ o.isCells = true) : MarksAt ds base W' :=
  ⟨h.1, fun D hD => ⟨(h.2 D hD).1, (hg.block D (h.lt D hD) (fun hs => by
    obtain ⟨o, ho, hc⟩ := hS D hs
    rw [(h.2 D hD).2] at ho
    cases ho
    cases hc)).trans (h.2 D hD).2⟩⟩
theorem marks_own {β : Type} {ds : List Nat} {base B : Nat} (hB : ∀ D ∈ ds, D < B) : OwnFrom B (fun (_ : β) W => MarksAt ds base W) := by
  rintro s X Y row h hg hr
  refine ⟨h.1, fun D hD => ⟨(h.2 D hD).1, (hg.block D (h.lt D hD) (fun e => ?_)).trans (h.2 D hD).2⟩⟩
  have := (hr D e.symm).1
  have := hB D hD
  omega
theorem MarksAt.cons {ds : List Nat} {base D : Nat} {W : World} (h : MarksAt ds base W) (hD : W.heap[D]? = some (.deferred (some []))) (hb : base ≤ D) (hn : ∀ x ∈ ds, x < D) : MarksAt (D :: ds) base W :=
  ⟨List.nodup_cons.2 ⟨fun hm => by have := hn D hm; omega, h.1⟩, fun x hx => by
    rcases List.mem_cons.1 hx with rfl | hx
    · exact ⟨hb, hD⟩
    · exact h.2 x hx⟩
/-- What is as it was when the marks have gone. -/
structure MarkOff (base : Nat) (w w' : World) : Prop where
  os : w'.os = w.os
  tape : w'.tape = w.tape
  output : w'.output = w.output
  size : w'.heap.size = w.heap.size
  low : ∀ k, k < base → w'.heap[k]? = w.heap[k]?
  cells : ∀ (k : Nat) (o : Obj), w.heap[k]? = some o → o.isCells = true → w'.heap[k]? = some o
theorem MarkOff.refl (base : Nat) (w : World) : MarkOff base w w := ⟨rfl, rfl, rfl, rfl, fun _ _ => rfl, fun _ _ h _ => h⟩
theorem MarkOff.trans {base : Nat} {a b c : World} (h : MarkOff base a b) (k : MarkOff base b c) : MarkOff base a c :=
  ⟨k.os.trans h.os, k.tape.trans h.tape, k.output.trans h.output, k.size.trans h.size, fun i hi => (k.low i hi).trans (h.low i hi), fun i o hi ho => k.cells i o (h.cells i o hi ho) ho⟩
theorem MarkOff.put {base D : Nat} {w : World} {ds : List Deferred} (hD : w.heap[D]? = some (.deferred (some ds))) (hb : base ≤ D) : MarkOff base w (w.putObj D (.deferred none)) :=
  ⟨rfl, rfl, rfl, by simp, fun k hk => World.putObj_heap_other (by omega), fun k o hk ho => (World.putObj_heap_other (fun e => by
    subst e
    rw [hD] at hk
    cases hk
    cases ho)).trans hk⟩
theorem MarkOff.blk {base : Nat} {w w' : World} (h : MarkOff base w w') {g : Nat} {t : TypeId} {cs : Array Value} (hg : Blk w g t cs) : Blk w' g t cs := h.cells g _ hg rfl
theorem MarkOff.below {a w w' : World} (h : MarkOff a.heap.size w w') (hb : Below a.heap.size a w) : Below a.heap.size a w' :=
  ⟨h.os.trans hb.os, h.tape.trans hb.tape, h.output.trans hb.output, by rw [h.size]; exact hb.size, fun k hk => (h.low k hk).trans (hb.block k hk)⟩
theorem leaves_marks {F : Fence} {n : Nat} {P : Program} {fn : Func} {tmps : Array Value} {R : Ending → World → Prop} {base : Nat} : ∀ (ds : List Nat) (w : World), MarksAt ds base w →
    (∀ w', MarkOff base w w' → LeavesIn F n P fn tmps R [] .returning w') → LeavesInM F n P fn tmps R (markL ds) .returning w
  | [], w, _, h => h w (MarkOff.refl _ _)
  | D :: ds, w, hm, h => by
    have hD := hm.2 D (by simp)
    refine ⟨by simp, .inl ⟨D, _, rfl, run_takeDeferred hD.2, ?_⟩⟩
    refine leaves_marks ds _ ⟨(List.nodup_cons.1 hm.1).2, fun x hx => ⟨(hm.2 x (by simp [hx])).1, ?_⟩⟩ (fun w' hw => h w' ((MarkOff.put hD.2 hD.1).trans hw))
    exact (World.putObj_heap_other (fun e => (List.nodup_cons.1 hm.1).1 (by rw [← e]; exact hx))).trans (hm.2 x (by simp [hx])).2
end Go.Proofs.YtifjenleoagefaaGreat
