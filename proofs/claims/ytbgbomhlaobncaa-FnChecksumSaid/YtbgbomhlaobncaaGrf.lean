/- HELPER, no statement of the seat: drawn regions with guarded operations, and facts that are written out. -/
import Derived.Test.YtbgbomhlaobncaaZba
namespace Go.Proofs.Ytbgbomhlaobncaa
open Go.RowKit
set_option linter.unusedSimpArgs false
set_option linter.unusedVariables false

/-! ### Guarded operations: a structure keeps what is asked of one from being unfolded (the elaborator would work its guard out, which takes a minute). -/
section
variable {P : Program} {ops : Array Oper} {w0 : World}
structure WfOp (P : Program) (ops : Array Oper) (o : Oper) (a : Act) (d : Value → World → Prop) (w : World) : Prop where
  out : wpList P ops (OpPost o a d w) [o] a w
/-- The facts are given as a list that is written out (the kernel compares it with what they are): to take them out of 'holds' one by one doubles the time with each operation. -/
theorem allOf_map {F : List (World → Prop)} {w : World} {p : List Nat} (h : holds F w p) : ∀ sub : List Nat, (sub.all fun j => p.contains j) = true → allOf w (sub.map fun j => F.getD j (fun _ => True)) := by
  have hp : ∀ j ∈ p, (F.getD j (fun _ => True)) w := by
    induction p with
    | nil => intro j hj; cases hj
    | cons i p ih =>
      intro j hj
      rcases List.mem_cons.1 hj with rfl | hj
      · exact h.1
      · exact ih h.2 j hj
  intro sub
  induction sub with
  | nil => intro _; trivial
  | cons j sub ih =>
    intro hs
    simp only [List.all_cons, Bool.and_eq_true] at hs
    exact ⟨hp j (by simpa using hs.1), ih hs.2⟩
theorem wf_stepK {R : Act → World → Prop} {p : List Nat} {pre : List (List Nat)} {d : Value → World → Prop} {Ds : List (Value → World → Prop)} {o : Oper} {l : List Oper} {F : List (World → Prop)} {a : Act}
    (sub : List Nat) (Fp : List (World → Prop)) (hs : (sub.all fun j => p.contains j) = true) (hF : (sub.map fun j => F.getD j (fun _ => True)) = Fp)
    (h1 : ∀ w, Below w0.heap.size w0 w → allOf w Fp → WfOp P ops o a d w) (h2 : ∀ v, wpFacts P ops w0 R (pre.zip Ds) l (F ++ [d v]) (a.put o.dst v)) :
    wpFacts P ops w0 R ((p :: pre).zip (d :: Ds)) (o :: l) F a := ⟨fun w hb hf => (h1 w hb (hF ▸ allOf_map hf sub hs)).out, h2⟩
theorem wf_doneK {R : Act → World → Prop} {l : List Oper} {F : List (World → Prop)} {a : Act} (sub : List Nat) (Fp : List (World → Prop)) (hs : (sub.all fun j => decide (j < F.length)) = true) (hF : (sub.map fun j => F.getD j (fun _ => True)) = Fp)
    (h : ∀ w, Below w0.heap.size w0 w → allOf w Fp → R a w) : wpFacts P ops w0 R (([] : List (List Nat)).zip ([] : List (Value → World → Prop))) l F a := by
  refine wf_done (fun w hb hf => h w hb ?_)
  rw [← hF]
  have hp : ∀ (F : List (World → Prop)), allOf w F → ∀ j, j < F.length → (F.getD j (fun _ => True)) w := by
    intro F
    induction F with
    | nil => intro _ j hj; cases hj
    | cons f F ih =>
      intro h j hj
      cases j with
      | zero => exact h.1
      | succ j => exact ih h.2 j (by simpa using hj)
  clear hF h
  induction sub with
  | nil => trivial
  | cons j sub ih =>
    simp only [List.all_cons, Bool.and_eq_true] at hs
    exact ⟨hp F hf j (by simpa using hs.1), ih hs.2⟩
theorem WfOp.yes {o : Oper} {a : Act} {d : Value → World → Prop} {w : World} (h : Region.wanted o (yielded ops a.tmps) = true) (k : wpList P ops (OpPost o a d w) [{o with guard := none}] a w) : WfOp P ops o a d w := by
  refine ⟨?_⟩
  unfold wpList at k ⊢
  rw [if_pos h]
  have h' : Region.wanted {o with guard := none} (yielded ops a.tmps) = true := rfl
  rw [if_pos h'] at k
  exact k
theorem WfOp.no {o : Oper} {a : Act} {d : Value → World → Prop} {w : World} (h : Region.wanted o (yielded ops a.tmps) = false) (hd : d undef w) : WfOp P ops o a d w := by
  refine ⟨?_⟩
  unfold wpList
  rw [if_neg (by rw [h]; simp)]
  exact ⟨rfl, undef, rfl, Below.refl _ _, hd⟩
end
end Go.Proofs.Ytbgbomhlaobncaa
