/- HELPER, no statement of the seat: the program's Hops. -/
import Derived.Test.YtdaikdenpabfgaaHoi
import Derived.Test.YtdaikdenpabfgaaNrm
namespace Go.Proofs.Ytdaikdenpabfgaa
open Go.RowKit Go.Sort Go.Shelf
set_option linter.unusedSimpArgs false
set_option linter.unusedVariables false
attribute [local go_sem] Oper.semAt_some

set_option maxRecDepth 100000 in
set_option maxHeartbeats 6400000 in
theorem Hops_i (A : Option Addr) (c : Nat) (es : List Ent) (n : Int) (w : World) (hx : EntsAt w A es) (hn : es.length ≤ 4194304) (hr : rowsIn es 4194304) :
    Calls Try.prog 28 #[.slice A es.length c, .int .i64 n] w fun e w' => ∃ A' c', e = .returned (.slice A' (HopsF es n).length c') ∧ EntsOw w' (news w w') A' c' (HopsF es n) ∧ Below w.heap.size w w' := by
  have hbn : Below w.heap.size w (w.alloc (.cells #[.int .i64 n] 3)) := bal (Below.refl _ _) _
  have hv := ValidEdges_i A c es _ (hx.below entR hbn) hn hr
  cases h1 : edgB es
  · have HT : Hid (HopsF es n = []) := by simp [Hid, HopsF, h1]
    rw [h1] at hv
    clear h1
    refine (callsIn_wide (n := 12)).1 ?_
    refine callsIn_of_wp_marks Try.func28 rfl trivial ?_ rfl
    simp only [Try.ntmps28, List.size_toArray, List.length_cons, List.length_nil, Nat.reduceAdd, Nat.reduceSub, Array.replicate_succ, Array.replicate_zero, List.push_toArray, List.append_toArray, List.nil_append, List.cons_append]
    gi_wp2_with (first | (refine ⟨trivial, ?_⟩; gi_at_call 55; refine (callsIn_wide.2 hv).mono ?_; rintro e w1 ⟨rfl, b1⟩; have HB := Lib.hid (btr hbn b1); clear b1) | refine ⟨trivial, ?_⟩)
    refine leaves_marks [] _ (MarksAt.nil w.heap.size _) (fun w' hw' => ?_)
    rw [HT.out]
    exact ⟨_, results_tmp rfl _ _ _, none, 0, rfl, ⟨_, _, SlF.nil (fun k hk => hk.2)⟩, hw'.below HB.out⟩
  cases hin : inB n 0 19
  · have HT : Hid (HopsF es n = []) := by
      have h2 : ¬ (0 ≤ n ∧ n ≤ 19) := fun h => by simp [inB] at hin; omega
      simp [Hid, HopsF, h2]
    have hiv := fun W => isVertex_w n W
    rw [hin] at hiv
    rw [h1] at hv
    clear h1 hin
    refine (callsIn_wide (n := 12)).1 ?_
    refine callsIn_of_wp_marks Try.func28 rfl trivial ?_ rfl
    simp only [Try.ntmps28, List.size_toArray, List.length_cons, List.length_nil, Nat.reduceAdd, Nat.reduceSub, Array.replicate_succ, Array.replicate_zero, List.push_toArray, List.append_toArray, List.nil_append, List.cons_append]
    gi_wp2_with (first | (refine ⟨trivial, ?_⟩; gi_at_call 55; refine (callsIn_wide.2 hv).mono ?_; rintro e w1 ⟨rfl, b1⟩; have c1 : Blk w1 w.heap.size 3 #[.int .i64 n] := Blk.below (Blk.newAt rfl) b1; have z1 := c1.cell 0; simp at z1; have HB := Lib.hid (btr hbn b1); clear b1) | (refine ⟨trivial, ?_⟩; gi_at_call 64; refine (callsIn_wide.2 (hiv _)).mono ?_; rintro e wv ⟨rfl, rfl⟩))
    refine leaves_marks [] _ (MarksAt.nil w.heap.size _) (fun w' hw' => ?_)
    rw [HT.out]
    exact ⟨_, results_tmp rfl _ _ _, none, 0, rfl, ⟨_, _, SlF.nil (fun k hk => hk.2)⟩, hw'.below HB.out⟩
  have hro := relOf_ok h1
  have hn19 : 0 ≤ n ∧ n ≤ 19 := by simp [inB] at hin; omega
  obtain ⟨s, rfl⟩ : ∃ s : Nat, n = s := ⟨n.toNat, by omega⟩
  have HT : HopsF es (s : Int) = AddL [] (hopN s 1 (rds (relOf es))) := by simp [HopsF, h1, hn19]
  rw [HT]
  refine hops_core A c es s w hx hn hr h1 (by omega) (fun A2 c2 W h => ?_)
  have hl := hopN_len hro s
  have := Normalize_i A2 c2 _ W h (by omega) (fun e he => by have := (hopN_two s _ _ e he).1; omega)
  rw [hop_norm hro s] at this
  exact this
end Go.Proofs.Ytdaikdenpabfgaa
