/- HELPER, no statement of the seat: equal nodes; IsLinear of both sides. -/
import Derived.Test.YtffgonddephkkaaNodeB
namespace Go.Proofs.Ytffgonddephkkaa
open Go.RowKit Go.Sort
set_option linter.unusedSimpArgs false
set_option linter.unusedVariables false

theorem eqPred_same (c k v : Int) (w : World) : Calls Try.prog 85 #[.agg #[.int .i64 c, .int .i64 k, .int .i64 v], .agg #[.int .i64 c, .int .i64 k, .int .i64 v]] w fun e w' => e = .returned (.bool true) ∧ Below w.heap.size w w' := by
  have h0 : (c != c) = false := by simp
  have h1 : (k != k) = false := by simp
  have h2 : (v != v) = false := by simp
  go_enter Try.func85, Try.ntmps85
  go_wp2
  go_ret
  exact ⟨rfl, bal (bal (Below.refl _ _) _) _⟩
set_option maxHeartbeats 3200000 in
theorem eqNode_same (RA RB : Option Addr) (rc rd : Nat) (k a b y : Int) (cl : List Int) (p q r g l : Int) (w : World) (hx : IntsAt w RA cl) (hy : IntsAt w RB cl) (hn : cl.length ≤ 4194304) :
    Calls Try.prog 56 #[.agg #[.int .i64 k, .int .i64 a, .int .i64 b, .int .i64 y, .slice RA cl.length rc, .int .i64 p, .int .i64 q, .int .i64 r, .int .i64 g, .int .i64 l], .agg #[.int .i64 k, .int .i64 a, .int .i64 b, .int .i64 y, .slice RB cl.length rd, .int .i64 p, .int .i64 q, .int .i64 r, .int .i64 g, .int .i64 l]] w fun e w' => e = .returned (.bool true) ∧ Below w.heap.size w w' := by
  have e0 : (k != k) = false := by simp
  have e1 : (a != a) = false := by simp
  have e2 : (b != b) = false := by simp
  have e3 : (y != y) = false := by simp
  have e5 : (p != p) = false := by simp
  have e6 : (q != q) = false := by simp
  have e7 : (r != r) = false := by simp
  have e8 : (g != g) = false := by simp
  have e9 : (l != l) = false := by simp
  have t0 : decide (cl = cl) = true := by simp
  go_enter Try.func56, Try.ntmps56
  go_wp2_with fail
  refine absN (fun W => Below w.heap.size w W ∧ Blk W w.heap.size 97 #[.int .i64 k, .int .i64 a, .int .i64 b, .int .i64 y, .slice RA cl.length rc, .int .i64 p, .int .i64 q, .int .i64 r, .int .i64 g, .int .i64 l] ∧ Blk W (w.heap.size + 1) 97 #[.int .i64 k, .int .i64 a, .int .i64 b, .int .i64 y, .slice RB cl.length rd, .int .i64 p, .int .i64 q, .int .i64 r, .int .i64 g, .int .i64 l]) ⟨bal (bal (Below.refl _ _) _) _, (Blk.newAt rfl).alloc _, Blk.newAt (by simp)⟩ ?_
  rintro W ⟨hB, k0, k1⟩
  refine (eqIntS_any _ _ _ _ cl cl _ (hx.below hB) (hy.below hB) (by omega) (by omega)).mono ?_
  rintro e w1 ⟨rfl, hb⟩
  have c0 := k0.below hb
  have c1 := k1.below hb
  have B1 := btr hB hb
  have a5 := c0.cell 5
  have d5 := c1.cell 5
  have a6 := c0.cell 6
  have d6 := c1.cell 6
  have a7 := c0.cell 7
  have d7 := c1.cell 7
  simp at a5 a6 a7 d5 d6 d7
  have K0 := Lib.hid c0
  have K1 := Lib.hid c1
  clear k0 k1 c0 c1 hB hb
  go_wp2_with fail
  refine (eqPred_same _ _ _ _).mono ?_
  rintro e w2 ⟨rfl, b2⟩
  have j0 := K0.out.below b2
  have j1 := K1.out.below b2
  have B2 := btr B1 b2
  clear a5 a6 a7 d5 d6 d7
  have a8 := j0.cell 8
  have d8 := j1.cell 8
  have a9 := j0.cell 9
  have d9 := j1.cell 9
  simp at a8 a9 d8 d9
  clear j0 j1 K0 K1 b2
  go_wp2_with fail
  go_ret
  exact ⟨rfl, B2⟩
set_option maxRecDepth 100000 in
set_option maxHeartbeats 3200000 in
theorem eqNodeS_same (A B : Option Addr) (c d : Nat) (xs : List Nd) (w : World) (hx : NodesAt w A xs) (hy : NodesAt w B xs) (hn : xs.length ≤ 4194304) (hr : ncIn xs 4194304) :
    Calls Try.prog 24 #[.slice A xs.length c, .slice B xs.length d] w fun e w' => e = .returned (.bool true) ∧ Below w.heap.size w w' := by
  have hb : ((xs.length : Int) != (xs.length : Int)) = false := by simp
  go_enter Try.func24, Try.ntmps24
  go_wp2
  go_loopw [5] (fun i wr => ∃ k : Nat, k ≤ xs.length ∧ i = .int .i64 k ∧ Below w.heap.size w wr) (fun i _ => xs.length - (intOf i).toNat)
  case atStart => exact ⟨0, by omega, rfl, Below.refl _ _⟩
  case round =>
    obtain ⟨k, hk, rfl, hbel⟩ := hrel
    by_cases hlt : k < xs.length
    · obtain ⟨b, off, RA, rc, rfl, hbl, hc, -, hrow⟩ := hx.get k hlt
      obtain ⟨b2, off2, RB, rd, rfl, hbl2, hd, -, hrow2⟩ := hy.get k hlt
      simp only [ndC] at hc hd
      have q0 := cgrow ((hbel.cell (p := ⟨b, off + k * 10, none⟩) hbl).trans (hc 0 (by omega)))
      have s0 := cgrow ((hbel.cell (p := ⟨b2, off2 + k * 10, none⟩) hbl2).trans (hd 0 (by omega)))
      have q1 := cgrow ((hbel.cell (p := ⟨b, off + k * 10 + 1, none⟩) hbl).trans (hc 1 (by omega)))
      have s1 := cgrow ((hbel.cell (p := ⟨b2, off2 + k * 10 + 1, none⟩) hbl2).trans (hd 1 (by omega)))
      have q2 := cgrow ((hbel.cell (p := ⟨b, off + k * 10 + 2, none⟩) hbl).trans (hc 2 (by omega)))
      have s2 := cgrow ((hbel.cell (p := ⟨b2, off2 + k * 10 + 2, none⟩) hbl2).trans (hd 2 (by omega)))
      have q3 := cgrow ((hbel.cell (p := ⟨b, off + k * 10 + 3, none⟩) hbl).trans (hc 3 (by omega)))
      have s3 := cgrow ((hbel.cell (p := ⟨b2, off2 + k * 10 + 3, none⟩) hbl2).trans (hd 3 (by omega)))
      have q4 := cgrow ((hbel.cell (p := ⟨b, off + k * 10 + 4, none⟩) hbl).trans (hc 4 (by omega)))
      have s4 := cgrow ((hbel.cell (p := ⟨b2, off2 + k * 10 + 4, none⟩) hbl2).trans (hd 4 (by omega)))
      have q5 := cgrow ((hbel.cell (p := ⟨b, off + k * 10 + 5, none⟩) hbl).trans (hc 5 (by omega)))
      have s5 := cgrow ((hbel.cell (p := ⟨b2, off2 + k * 10 + 5, none⟩) hbl2).trans (hd 5 (by omega)))
      have q6 := cgrow ((hbel.cell (p := ⟨b, off + k * 10 + 6, none⟩) hbl).trans (hc 6 (by omega)))
      have s6 := cgrow ((hbel.cell (p := ⟨b2, off2 + k * 10 + 6, none⟩) hbl2).trans (hd 6 (by omega)))
      have q7 := cgrow ((hbel.cell (p := ⟨b, off + k * 10 + 7, none⟩) hbl).trans (hc 7 (by omega)))
      have s7 := cgrow ((hbel.cell (p := ⟨b2, off2 + k * 10 + 7, none⟩) hbl2).trans (hd 7 (by omega)))
      have q8 := cgrow ((hbel.cell (p := ⟨b, off + k * 10 + 8, none⟩) hbl).trans (hc 8 (by omega)))
      have s8 := cgrow ((hbel.cell (p := ⟨b2, off2 + k * 10 + 8, none⟩) hbl2).trans (hd 8 (by omega)))
      have q9 := cgrow ((hbel.cell (p := ⟨b, off + k * 10 + 9, none⟩) hbl).trans (hc 9 (by omega)))
      have s9 := cgrow ((hbel.cell (p := ⟨b2, off2 + k * 10 + 9, none⟩) hbl2).trans (hd 9 (by omega)))

      have hl1 := hr.get hlt
      have hcon := fun W' (hW : Below wr.heap.size wr W') => eqNode_same RA RB rc rd xs[k].kind xs[k].a xs[k].b xs[k].key xs[k].cols xs[k].pc xs[k].pk xs[k].pv xs[k].agg xs[k].col W' ((hrow.below hbel).below hW) ((hrow2.below hbel).below hW) hl1
      clear hc hd
      go_wp2_with fail
      refine wp_region_quiet_below (by kernel_rfl) (by kernel_rfl) ?_
      repeat (go_big_quiet_step (exact Calls.regrown_of (hcon _ (below_regrown _ _ _))))
      refine wpQuiet_nil ?_
      intro w3 hw3
      obtain ⟨⟨dq, osq⟩, rfl⟩ := hw3
      have hbq := below_regrown wr dq osq
      generalize grow (redrawn wr dq) osq = w4 at hbq
      clear q0 s0 q1 s1 q2 s2 q3 s3 q4 s4 q5 s5 q6 s6 q7 s7 q8 s8 q9 s9 hcon
      go_wp2
      go_roundw
      case rel => exact ⟨k + 1, by omega, by go_num, btr hbel hbq⟩
      case measure => simp [intOf]; omega
    · obtain rfl : k = xs.length := by omega
      go_wp2
      go_ret
      exact ⟨rfl, hbel⟩

/-! ### IsLinear -/
def linB (ns : List Nd) : Bool := ns.all fun n => inB n.kind 1 5
def linTo (ns : List Nd) (k : Nat) : Prop := ∀ n ∈ ns.take k, inB n.kind 1 5 = true
theorem linTo_step {ns : List Nd} {k : Nat} (h1 : k < ns.length) (h : linTo ns k) (e : inB ns[k].kind 1 5 = true) : linTo ns (k + 1) := by
  unfold linTo
  rw [List.take_succ_eq_append_getElem h1]
  intro x hx
  rcases List.mem_append.1 hx with hx | hx
  · exact h x hx
  · simp at hx; subst hx; exact e
theorem lin_bad {ns : List Nd} {k : Nat} (h1 : k < ns.length) (e : inB ns[k].kind 1 5 = false) : linB ns = false := by
  unfold linB
  rw [List.all_eq_false]
  exact ⟨ns[k], List.getElem_mem h1, by simp [e]⟩
theorem lin_end {ns : List Nd} (h : linTo ns ns.length) : linB ns = true := by
  unfold linTo at h
  rw [List.take_length] at h
  unfold linB
  rw [List.all_eq_true]
  exact h
end Go.Proofs.Ytffgonddephkkaa
