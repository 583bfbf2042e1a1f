/- HELPER, no statement of the seat: relations: out of edges, and whether one is empty. -/
import Derived.Test.YtifjenleoagefaaRa
import Derived.Test.YtifjenleoagefaaGrf
import Derived.ChangeKeysEq
import Derived.Laws.StructEq
namespace Go.Proofs.Ytifjenleoagefaa
open Go.RowKit Go.Sort
set_option linter.unusedSimpArgs false
set_option linter.unusedVariables false

def relTo (es : List Ent) (k : Nat) : List Nat := (es.take k).foldl (fun r e => setR r (gi e.1 0).toNat (gi e.1 1).toNat) zeroR
theorem relTo_step {es : List Ent} {k : Nat} (h : k < es.length) {x y : Nat} (he : es[k].1 = [(x : Int), (y : Int)]) : relTo es (k + 1) = setR (relTo es k) x y := by
  unfold relTo
  rw [List.take_succ_eq_append_getElem h, List.foldl_append, List.foldl_cons, List.foldl_nil, he]
  rfl
theorem relTo_ok {es : List Ent} (h : edgB es = true) (k : Nat) : OkR (relTo es k) := (fold_rel (es.take k) zeroR zeroR_ok (fun e he => (edgB_parts h).2.2 e (List.mem_of_mem_take he))).1
theorem relTo_end (es : List Ent) : relTo es es.length = relOf es := by simp [relTo, relOf]
theorem relC_zero : relC zeroR = #[.int .u32 0, .int .u32 0, .int .u32 0, .int .u32 0, .int .u32 0, .int .u32 0, .int .u32 0, .int .u32 0, .int .u32 0, .int .u32 0, .int .u32 0, .int .u32 0, .int .u32 0, .int .u32 0, .int .u32 0, .int .u32 0, .int .u32 0, .int .u32 0, .int .u32 0, .int .u32 0] := rfl
set_option maxRecDepth 100000 in
set_option maxHeartbeats 3200000 in
theorem relationOf_i (A : Option Addr) (c : Nat) (es : List Ent) (w : World) (hx : EntsAt w A es) (he : edgB es = true) :
    Calls Try.prog 42 #[.slice A es.length c] w fun e w' => e = .returned (.agg (relC (relOf es))) ∧ Below w.heap.size w w' := by
  have hn : es.length ≤ 400 := zsB_len (edgB_parts he).1
  have hro := relOf_ok he
  have HE := Lib.hid he
  clear he
  go_enter Try.func42, Try.ntmps42
  go_wp2
  go_loopw [8] (fun i wr => ∃ k : Nat, k ≤ es.length ∧ i = .int .i64 k ∧ Blk wr (w.heap.size + 1) 61 (relC (relTo es k)) ∧ (∃ z : Array Value, Blk wr w.heap.size 61 z ∧ z.size = 20) ∧ Below w.heap.size w wr) (fun i _ => es.length - (intOf i).toNat)
  case atStart => exact ⟨0, by omega, rfl, Blk.newAt (by simp), ⟨_, (Blk.newAt rfl).alloc _, rfl⟩, bal (bal (Below.refl _ _) _) _⟩
  case round =>
    obtain ⟨k, hk, rfl, hB, ⟨z, hz, hzs⟩, hbel⟩ := hrel
    by_cases hlt : k < es.length
    · obtain ⟨b, off, RA, rc, rfl, hbl, hc0, hc1, hml, hrow⟩ := hx.get k hlt
      have q0 := (hbel.cell (p := ⟨b, off + k * 2, none⟩) hbl).trans hc0
      have q1 := (hbel.cell (p := ⟨b, off + k * 2 + 1, none⟩) hbl).trans hc1
      obtain ⟨x, y, hx20, hy20, hexy⟩ := edgeE_row ((edgB_parts HE.out).2.2 es[k] (List.getElem_mem hlt))
      have hl2 : es[k].1.length = 2 := by rw [hexy]; rfl
      obtain ⟨rb, ro, rfl, hrb, hcc⟩ := hrow (by omega)
      have p0 := (hbel.cell (p := ⟨rb, ro, none⟩) hrb).trans (by have := hcc 0 (by omega); simpa using this)
      have p1 := (hbel.cell (p := ⟨rb, ro + 1, none⟩) hrb).trans (by have := hcc 1 (by omega); simpa using this)
      simp only [hexy] at p0 p1
      simp at p0 p1
      have hok := relTo_ok HE.out k
      have hrx : (relC (relTo es k))[x]? = some (.int .u32 (((relTo es k).getD x 0 : Nat) : Int)) := relC_at (by rw [hok.len]; exact hx20)
      have hbits : bits .or .u32 (((relTo es k).getD x 0 : Nat) : Int) ((bitOf y : Nat) : Int) = (((relTo es k).getD x 0 ||| bitOf y : Nat) : Int) := u32_or_nat _ _ (by have := hok.at x; omega) (by have := bitOf_lt hy20; omega)
      have hset : Hid ((relC (relTo es k)).setIfInBounds x (.int .u32 (((relTo es k).getD x 0 ||| bitOf y : Nat) : Int)) = relC (relTo es (k + 1))) := by rw [Hid, relC_set, relTo_step hlt hexy]; rfl
      generalize (relTo es k).getD x 0 = rx at *
      have kE : Blk (wr.alloc (.cells #[.slice (some ⟨rb, ro, none⟩) es[k].1.length rc, .int .i64 es[k].2] 40)) wr.heap.size 40 #[.slice (some ⟨rb, ro, none⟩) es[k].1.length rc, .int .i64 es[k].2] := Blk.newAt rfl
      have kR : Blk (wr.alloc (.cells #[.slice (some ⟨rb, ro, none⟩) es[k].1.length rc, .int .i64 es[k].2] 40)) (w.heap.size + 1) 61 (relC (relTo es k)) := hB.alloc _
      have kZ : Blk (wr.alloc (.cells #[.slice (some ⟨rb, ro, none⟩) es[k].1.length rc, .int .i64 es[k].2] 40)) w.heap.size 61 z := hz.alloc _
      have hbe : Below w.heap.size w (wr.alloc (.cells #[.slice (some ⟨rb, ro, none⟩) es[k].1.length rc, .int .i64 es[k].2] 40)) := bal hbel _
      have p0 : (wr.alloc (.cells #[.slice (some ⟨rb, ro, none⟩) es[k].1.length rc, .int .i64 es[k].2] 40)).cell? ⟨rb, ro, none⟩ = some (.int .i64 (x : Int)) := ((bal (Below.refl _ _) _ : Below wr.heap.size wr _).cell (p := ⟨rb, ro, none⟩) (Nat.lt_of_lt_of_le hrb hbel.size)).trans p0
      have p1 : (wr.alloc (.cells #[.slice (some ⟨rb, ro, none⟩) es[k].1.length rc, .int .i64 es[k].2] 40)).cell? ⟨rb, ro + 1, none⟩ = some (.int .i64 (y : Int)) := ((bal (Below.refl _ _) _ : Below wr.heap.size wr _).cell (p := ⟨rb, ro + 1, none⟩) (Nat.lt_of_lt_of_le hrb hbel.size)).trans p1
      have hl0 : 0 < es[k].1.length := by omega
      have hl1 : 1 < es[k].1.length := by omega
      have HL2 := Lib.hid hl2
      have HEX := Lib.hid hexy
      clear hcc hB hz hc0 hc1 hbel hrow hl2 hexy
      go_wp2_with fail
      refine wp_region_facts [[], [0], [0, 1], [0, 1, 2], List.range 4, List.range 5, [], [6], [6, 7], [6, 7, 8], [6, 7, 8, 9], List.range 11, List.range 4]
        [fun v' _ => v' = .pointer (some ⟨wr.heap.size, 0, none⟩), fun v' _ => v' = .slice (some ⟨rb, ro, none⟩) es[k].1.length rc, fun v' _ => v' = .pointer (some ⟨rb, ro, none⟩), fun v' _ => v' = .int .i64 ((x : Nat)), fun v' _ => v' = .pointer (some ⟨w.heap.size + 1, x, none⟩), fun v' _ => v' = .int .u32 ((rx : Nat) : Int), fun v' _ => v' = .pointer (some ⟨wr.heap.size, 0, none⟩), fun v' _ => v' = .slice (some ⟨rb, ro, none⟩) es[k].1.length rc, fun v' _ => v' = .pointer (some ⟨rb, ro + 1, none⟩), fun v' _ => v' = .int .i64 ((y : Nat)), fun v' _ => v' = .int .u32 ((bitOf y : Nat) : Int), fun v' _ => v' = .int .u32 ((rx ||| bitOf y : Nat) : Int), fun v' _ => v' = .pointer (some ⟨w.heap.size + 1, x, none⟩)]
        (by kernel_rfl) (by kernel_rfl) rfl ⟨stable_pure _, stable_pure _, stable_pure _, stable_pure _, stable_pure _, stable_pure _, stable_pure _, stable_pure _, stable_pure _, stable_pure _, stable_pure _, stable_pure _, stable_pure _, trivial⟩ ?_
      refine wf_stepK [] [] (by kernel_rfl) (by kernel_rfl) (fun wf hb hf => ?_) (fun t0 => ?_)
      · refine ⟨?_⟩
        go_wp2
        exact ⟨rfl, .pointer (some ⟨wr.heap.size, 0, none⟩), by kernel_rfl, Below.refl _ _, rfl⟩
      refine wf_stepK [0] [fun _ => t0 = .pointer (some ⟨wr.heap.size, 0, none⟩)] (by kernel_rfl) (by kernel_rfl) (fun wf hb hf => ?_) (fun t1 => ?_)
      · obtain ⟨rfl, -⟩ := hf
        refine ⟨?_⟩
        have p0 := (kE.below hb).cell 0
        simp at p0
        go_wp2
        exact ⟨rfl, .slice (some ⟨rb, ro, none⟩) es[k].1.length rc, by kernel_rfl, Below.refl _ _, rfl⟩
      refine wf_stepK [1] [fun _ => t1 = .slice (some ⟨rb, ro, none⟩) es[k].1.length rc] (by kernel_rfl) (by kernel_rfl) (fun wf hb hf => ?_) (fun t2 => ?_)
      · obtain ⟨rfl, -⟩ := hf
        refine ⟨?_⟩
        go_wp2
        exact ⟨rfl, .pointer (some ⟨rb, ro, none⟩), by kernel_rfl, Below.refl _ _, rfl⟩
      refine wf_stepK [2] [fun _ => t2 = .pointer (some ⟨rb, ro, none⟩)] (by kernel_rfl) (by kernel_rfl) (fun wf hb hf => ?_) (fun t3 => ?_)
      · obtain ⟨rfl, -⟩ := hf
        refine ⟨?_⟩
        have p0 := (hb.cell (p := ⟨rb, ro, none⟩) (Nat.lt_of_lt_of_le hrb hbe.size)).trans p0
        go_wp2
        exact ⟨rfl, .int .i64 ((x : Nat)), by kernel_rfl, Below.refl _ _, rfl⟩
      refine wf_stepK [3] [fun _ => t3 = .int .i64 ((x : Nat))] (by kernel_rfl) (by kernel_rfl) (fun wf hb hf => ?_) (fun t4 => ?_)
      · obtain ⟨rfl, -⟩ := hf
        refine ⟨?_⟩
        go_wp2
        exact ⟨rfl, .pointer (some ⟨w.heap.size + 1, x, none⟩), by kernel_rfl, Below.refl _ _, rfl⟩
      refine wf_stepK [4] [fun _ => t4 = .pointer (some ⟨w.heap.size + 1, x, none⟩)] (by kernel_rfl) (by kernel_rfl) (fun wf hb hf => ?_) (fun t5 => ?_)
      · obtain ⟨rfl, -⟩ := hf
        refine ⟨?_⟩
        have p0 := ((kR.below hb).cell x).trans hrx
        go_wp2
        exact ⟨rfl, .int .u32 ((rx : Nat) : Int), by kernel_rfl, Below.refl _ _, rfl⟩
      refine wf_stepK [] [] (by kernel_rfl) (by kernel_rfl) (fun wf hb hf => ?_) (fun t6 => ?_)
      · refine ⟨?_⟩
        go_wp2
        exact ⟨rfl, .pointer (some ⟨wr.heap.size, 0, none⟩), by kernel_rfl, Below.refl _ _, rfl⟩
      refine wf_stepK [6] [fun _ => t6 = .pointer (some ⟨wr.heap.size, 0, none⟩)] (by kernel_rfl) (by kernel_rfl) (fun wf hb hf => ?_) (fun t7 => ?_)
      · obtain ⟨rfl, -⟩ := hf
        refine ⟨?_⟩
        have p0 := (kE.below hb).cell 0
        simp at p0
        go_wp2
        exact ⟨rfl, .slice (some ⟨rb, ro, none⟩) es[k].1.length rc, by kernel_rfl, Below.refl _ _, rfl⟩
      refine wf_stepK [7] [fun _ => t7 = .slice (some ⟨rb, ro, none⟩) es[k].1.length rc] (by kernel_rfl) (by kernel_rfl) (fun wf hb hf => ?_) (fun t8 => ?_)
      · obtain ⟨rfl, -⟩ := hf
        refine ⟨?_⟩
        go_wp2
        exact ⟨rfl, .pointer (some ⟨rb, ro + 1, none⟩), by kernel_rfl, Below.refl _ _, rfl⟩
      refine wf_stepK [8] [fun _ => t8 = .pointer (some ⟨rb, ro + 1, none⟩)] (by kernel_rfl) (by kernel_rfl) (fun wf hb hf => ?_) (fun t9 => ?_)
      · obtain ⟨rfl, -⟩ := hf
        refine ⟨?_⟩
        have p0 := (hb.cell (p := ⟨rb, ro + 1, none⟩) (Nat.lt_of_lt_of_le hrb hbe.size)).trans p1
        go_wp2
        exact ⟨rfl, .int .i64 ((y : Nat)), by kernel_rfl, Below.refl _ _, rfl⟩
      refine wf_stepK [9] [fun _ => t9 = .int .i64 ((y : Nat))] (by kernel_rfl) (by kernel_rfl) (fun wf hb hf => ?_) (fun t10 => ?_)
      · obtain ⟨rfl, -⟩ := hf
        refine ⟨?_⟩
        go_wp2_with (go_at_call 80; refine (setOfVertex_w y hy20 _).mono ?_; rintro e w2 ⟨rfl, rfl⟩)
        exact ⟨rfl, _, by kernel_rfl, Below.refl _ _, rfl⟩
      refine wf_stepK [5, 10] [fun _ => t5 = .int .u32 ((rx : Nat) : Int), fun _ => t10 = .int .u32 ((bitOf y : Nat) : Int)] (by kernel_rfl) (by kernel_rfl) (fun wf hb hf => ?_) (fun t11 => ?_)
      · obtain ⟨rfl, rfl, -⟩ := hf
        refine ⟨?_⟩
        go_wp2
        exact ⟨rfl, .int .u32 ((rx ||| bitOf y : Nat) : Int), by kernel_rfl, Below.refl _ _, rfl⟩
      refine wf_stepK [3] [fun _ => t3 = .int .i64 ((x : Nat))] (by kernel_rfl) (by kernel_rfl) (fun wf hb hf => ?_) (fun t12 => ?_)
      · obtain ⟨rfl, -⟩ := hf
        refine ⟨?_⟩
        go_wp2
        exact ⟨rfl, .pointer (some ⟨w.heap.size + 1, x, none⟩), by kernel_rfl, Below.refl _ _, rfl⟩
      refine wf_doneK [11, 12] [fun _ => t11 = .int .u32 ((rx ||| bitOf y : Nat) : Int), fun _ => t12 = .pointer (some ⟨w.heap.size + 1, x, none⟩)] (by kernel_rfl) (by kernel_rfl) (fun w5 b5 hf => ?_)
      obtain ⟨rfl, rfl, -⟩ := hf
      show wpList _ _ _ [_] _ _
      refine wpList_frame (by simp [Act.put]; rfl) ?_
      have hsz5 := b5.size
      have f5 := (kR.below b5).frozen x
      have c5 := ((kR.below b5).cell x).trans hrx
      have k5 := kR.below b5
      have z5 := kZ.below b5
      have hb5 := btr hbe b5
      have K5 := Lib.hid k5
      have Z5 := Lib.hid z5
      have H5 := Lib.hid hb5
      have hlw : w.heap.size + 1 < w5.heap.size := k5.lt
      clear k5 z5 hb5 hbe b5 kE kR kZ p0 p1 q0 q1 hx hok hbits hrx
      go_wp2
      go_roundw
      case rel => exact ⟨k + 1, by omega, by go_num, by rw [← hset.out]; exact K5.out.set_ _ _, ⟨z, Z5.out.far (by simp) _, hzs⟩, bset H5.out (by simp) _⟩
      case measure => simp [intOf]; omega
    · obtain rfl : k = es.length := by omega
      have H3 := Lib.hid hbel
      rw [relTo_end] at hB
      have HR := Lib.hid (hz.row (relC (relOf es)))
      clear hbel
      go_wp2_with (first | refine wpList_load_row rfl 61 _ rfl (w.heap.size + 1) rfl 61 (relC (relOf es)) (0, 0) _ hB underR rfl (sizeR hro) ?_ | refine wpList_store_row rfl 61 _ _ rfl w.heap.size (relC (relOf es)) rfl rfl 61 z hz (sizeR hro) (by rw [hzs, relC_size, hro.len]) (relC_one _) ?_)
      refine bodyPost_ret (results_cell_row rfl _ _ w.heap.size 61 (relC (relOf es)) (0, 0) _ rfl HR.out underR rfl (sizeR hro)) rfl ?_
      exact ⟨rfl, brow H3.out (Nat.le_refl _) _⟩
theorem eqR_items {r s : List Nat} (hr : r.length = 20) (hs : s.length = 20) (w : World) : ∀ is : List Nat, (∀ i ∈ is, i < 20) →
    (Op.eqItems 9999 59 1 (relC r) (relC s) is).run Try.prog w = .ok (is.all fun i => r.getD i 0 == s.getD i 0) w
  | [], _ => by simp [Op.eqItems]
  | i :: is, h => by
    have hi : i < 20 := h i (by simp)
    have ih := eqR_items hr hs w is (fun j hj => h j (by simp [hj]))
    have hp : ∀ q : List Nat, q.length = 20 → (part 59 (relC q) i).run Try.prog w = .ok (.int .u32 ((q.getD i 0 : Nat) : Int)) w := fun q hq => by
      have ha : (isAgg 59).run Try.prog w = .ok false w := by
        unfold isAgg
        rw [Sem.run_bind, run_underlying underV w]
        rfl
      unfold part
      rw [Sem.run_bind, ha, Result.andThen_ok]
      simp [relC_at (show i < q.length by omega)]
    simp only [Op.eqItems, Sem.run_bind, Nat.mul_one, hp r hr, hp s hs, Result.andThen_ok]
    rw [run_equalIn_int w 9998 _ .u32 .u32 _ _ underV, Result.andThen_ok]
    have e : (((r.getD i 0 : Nat) : Int) == ((s.getD i 0 : Nat) : Int)) = (r.getD i 0 == s.getD i 0) := by
      rw [Bool.eq_iff_iff]; simp; omega
    rw [e, List.all_cons]
    cases r.getD i 0 == s.getD i 0
    · simp
    · simpa using ih
theorem run_eqR {r s : List Nat} (hr : r.length = 20) (hs : s.length = 20) (w : World) : (Op.equalIn 10000 61 (.agg (relC r)) (.agg (relC s))).run Try.prog w = .ok (decide (r = s)) w := by
  obtain ⟨i, hi⟩ : ∃ i, Try.prog.info? 59 = some i := by
    cases hq : Try.prog.info? 59 with
    | none => have := infoV; rw [hq] at this; cases this
    | some i => exact ⟨i, rfl⟩
  have hc : Try.prog.cellsOf 59 = 1 := by kernel_rfl
  rw [run_equalIn_array w 9999 _ _ underR hi, hc, eqR_items hr hs w (List.range 20) (fun i hi => List.mem_range.1 hi)]
  refine congrArg (fun b => Result.ok b w) ?_
  rw [Bool.eq_iff_iff, List.all_eq_true, decide_eq_true_eq]
  constructor
  · intro h
    apply List.ext_getElem (by omega)
    intro i h1 h2
    have := h i (List.mem_range.2 (by omega))
    rw [gd_lt h1, gd_lt h2] at this
    simpa using this
  · rintro rfl i _
    simp
set_option maxRecDepth 100000 in
set_option maxHeartbeats 1600000 in
theorem isEmpty_w (r : List Nat) (w : World) (hr : OkR r) :
    Calls Try.prog 88 #[.agg (relC r)] w fun e w' => e = .returned (.bool (decide (r = zeroR))) ∧ Below w.heap.size w w' := by
  have hblt : (Try.prog.built 61 []).getD #[] = relC zeroR := by kernel_rfl
  have heq : ∀ W, (Op.equalIn 10000 61 (.agg (relC r)) (.agg (relC zeroR))).run Try.prog W = .ok (decide (r = zeroR)) W := fun W => run_eqR hr.len zeroR_ok.len W
  have hg : ∀ W x y, (eqGuard .eql 61 x y (.agg (relC r)) (.agg (relC zeroR))).run Try.prog W = .ok () W := fun W x y => run_eqGuard_agg W _ _ _ _ _ _ (by kernel_rfl)
  go_enter Try.func88, Try.ntmps88
  go_wp2_with (refine wpList_load_row rfl 61 _ rfl w.heap.size rfl 61 (relC r) (0, 0) _ (show Blk _ w.heap.size 61 (relC r) from Blk.newAt rfl) underR rfl (sizeR hr) ?_; refine wpList_build rfl 61 _ rfl (by kernel_rfl) ?_; refine wpList_frame (b := { tmps := #[.agg (relC r), .pointer (some ⟨w.heap.size, 0, none⟩), .bool false, .agg (relC r), .agg (relC zeroR), undef], defers := [] }) (by kernel_rfl) ?_)
  go_ret
  exact ⟨rfl, bal (Below.refl _ _) _⟩
end Go.Proofs.Ytifjenleoagefaa
