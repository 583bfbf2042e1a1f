/- HELPER, no statement of the seat: the program's ClosureRounds. -/
import Derived.Test.YtifjenleoagefaaLz
import Derived.Test.YtifjenleoagefaaCgl
import Derived.Test.YtifjenleoagefaaEdg
import Derived.Test.YtifjenleoagefaaRgr
namespace Go.Proofs.Ytifjenleoagefaa
open Go.RowKit Go.Sort Go.Shelf
set_option linter.unusedSimpArgs false
set_option linter.unusedVariables false
attribute [local go_sem] Oper.semAt_some

theorem zl_srcs3 {w : World} {A : Option Addr} {n c : Nat} {g : Nat} (hg : w.cell? ⟨g, 0, none⟩ = #[Value.slice A n c][0]?) : ∀ j u, [Value.slice A n c][j]? = some u → w.cell? ((⟨g, 0, none⟩ : Addr).add j) = some u := by
  intro j u hu
  match j, hu with
  | 0, hu => simp at hu; subst hu; simpa [Addr.add] using hg
theorem zl_ones3 {A : Option Addr} {n c : Nat} : ∀ u ∈ [Value.slice A n c], u.oneCell' = true := by
  intro u hu
  simp at hu
  subst hu
  rfl
/-- Pairs of a call's own, in blocks that hold cells. -/
def PrV (base : Nat) (z : Zs) (v : Value) (w : World) : Prop := ∃ A c T, v = .slice A z.length c ∧ EntsOw w T A c z ∧ ∀ k, T k → base ≤ k ∧ ∃ o, w.heap[k]? = some o ∧ o.isCells = true
theorem stable_prV (base : Nat) (z : Zs) : Stable (PrV base z) := fun _ _ _ hb ⟨A, c, T, e, h, ht⟩ => ⟨A, c, T, e, h.below entO hb, fun k hk => ⟨(ht k hk).1, by obtain ⟨o, h1, h2⟩ := (ht k hk).2; exact ⟨o, (hb.block k (SlOw.lt h k hk)).trans h1, h2⟩⟩⟩
/-- A list of one: such pairs. -/
def BxV (base : Nat) (z : Zs) (v : Value) (w : World) : Prop := ∃ b A c T, v = .slice (some ⟨b, 0, none⟩) 1 1 ∧ base ≤ b ∧ Blk w b 27 #[.slice A z.length c] ∧ EntsOw w T A c z ∧ ∀ k, T k → base ≤ k ∧ ∃ o, w.heap[k]? = some o ∧ o.isCells = true
theorem stable_bxV (base : Nat) (z : Zs) : Stable (BxV base z) := fun _ _ _ hb ⟨b, A, c, T, e, hl, hB, h, ht⟩ => ⟨b, A, c, T, e, hl, hB.below hb, h.below entO hb, fun k hk => ⟨(ht k hk).1, by obtain ⟨o, h1, h2⟩ := (ht k hk).2; exact ⟨o, (hb.block k (SlOw.lt h k hk)).trans h1, h2⟩⟩⟩
theorem below_stays {w W W' : World} {row : Option Nat} {lo : Nat} (h : Below w.heap.size w W) (hg : W.grownBy W' row) (hr : ∀ r, row = some r → lo ≤ r) (hlo : w.heap.size ≤ lo) : Below w.heap.size w W' :=
  ⟨hg.os.trans h.os, hg.tape.trans h.tape, hg.output.trans h.output, Nat.le_trans h.size hg.size, fun k hk => (hg.block k (Nat.lt_of_lt_of_le hk h.size) (fun e => by have := hr k e.symm; omega)).trans (h.block k hk)⟩
def rdL (pre : List Rnd) : List Zs := pre.map fun x => prs x.1.2
theorem rdL_end {ys : List Rnd} {r : List Nat} (h : ys.map Subtype.val = numR 1 (rds r)) : rdL ys = (rds r).map prs := by
  have h2 := congrArg (List.map (·.2)) h
  rw [numR_snd, List.map_map] at h2
  rw [← h2, List.map_map]; rfl
end Go.Proofs.Ytifjenleoagefaa
