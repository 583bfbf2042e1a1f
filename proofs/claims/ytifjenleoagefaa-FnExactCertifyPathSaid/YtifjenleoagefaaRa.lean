/- HELPER, no statement of the seat: relations in memory: boxes of twenty numbers; their unions, differences. -/
import Derived.Test.YtifjenleoagefaaRm
import Derived.Laws.Rows
import Derived.Laws.BitsAllLaws
import Derived.CallsIn
import Derived.TacticsIn
namespace Go.Proofs.Ytifjenleoagefaa
open Go.RowKit Go.Sort
set_option linter.unusedSimpArgs false
set_option linter.unusedVariables false

theorem wpIn_load_row {F : Fence} {n : Nat} {P : Program} {o : Oper} {a : Act} {w : World} {K : Act → World → Prop} {Q : Exit → Act → World → Prop} (ty : TypeId) (x : Operand) (ho : o.op = .load ty x)
    (g : Nat) (hx : a.eval x = .pointer (some ⟨g, 0, none⟩)) (t : TypeId) (cs : Array Value) (fr : Nat × Nat) (d : TypeDesc) (hg : w.heap[g]? = some (.cells cs t fr))
    (hu : P.underlying ty = some d) (hd : (match d with | .struct _ | .array _ _ => true | _ => false) = true) (hi : (P.info? ty).map (·.size) = some cs.size)
    (h : K (a.put o.dst (.agg cs)) w) : o.wpIn F n P a w K Q := by
  unfold Oper.wpIn
  refine ⟨fun f hf => by simp [Oper.about, ho] at hf, ?_⟩
  rw [Oper.semAt_eq _ _ _ (fun c hc => by rw [ho] at hc; cases hc)]
  unfold execOp
  simp only [ho, hx, Instr.loadAt, Instr.sureAddr, Sem.run_bind, Sem.run_pure, Result.andThen_ok, run_loadVar_row w g t ty cs fr d hg hu hd hi]
  exact h
theorem wpIn_store_row {F : Fence} {n : Nat} {P : Program} {o : Oper} {a : Act} {w : World} {K : Act → World → Prop} {Q : Exit → Act → World → Prop} (ty : TypeId) (x y : Operand) (ho : o.op = .store ty x y)
    (g : Nat) (cells : Array Value) (hx : a.eval x = .pointer (some ⟨g, 0, none⟩)) (hy : a.eval y = .agg cells)
    (t : TypeId) (old : Array Value) (hg : w.heap[g]? = some (.cells old t (0, 0))) (hi : (P.info? ty).map (·.size) = some cells.size)
    (hold : old.size = cells.size) (h1 : cells.all (·.oneCell') = true)
    (h : K (a.put o.dst undef) (w.setRow g cells)) : o.wpIn F n P a w K Q := by
  unfold Oper.wpIn
  refine ⟨fun f hf => by simp [Oper.about, ho] at hf, ?_⟩
  rw [Oper.semAt_eq _ _ _ (fun c hc => by rw [ho] at hc; cases hc)]
  unfold execOp
  simp only [ho, hx, hy, Instr.storeAt, Instr.sureAddr, Sem.run_bind, Sem.run_pure, Result.andThen_ok, run_storeVar_row w g t ty old cells hg hi hold h1]
  exact h
theorem wpListIn_load_row {F : Fence} {n : Nat} {P : Program} {ops : Array Oper} {rest : List Oper} {o : Oper} {a : Act} {w : World} {Q : Exit → Act → World → Prop} (hgd : o.guard = none) (ty : TypeId) (x : Operand) (ho : o.op = .load ty x)
    (g : Nat) (hx : a.eval x = .pointer (some ⟨g, 0, none⟩)) (t : TypeId) (cs : Array Value) (fr : Nat × Nat) (d : TypeDesc) (hg : w.heap[g]? = some (.cells cs t fr))
    (hu : P.underlying ty = some d) (hd : (match d with | .struct _ | .array _ _ => true | _ => false) = true) (hi : (P.info? ty).map (·.size) = some cs.size)
    (h : wpListIn F n P ops Q rest (a.put o.dst (.agg cs)) w) : wpListIn F n P ops Q (o :: rest) a w :=
  wpListIn_plain hgd fun _ hK => wpIn_load_row ty x ho g hx t cs fr d hg hu hd hi (hK _ _ h)
theorem wpListIn_store_row {F : Fence} {n : Nat} {P : Program} {ops : Array Oper} {rest : List Oper} {o : Oper} {a : Act} {w : World} {Q : Exit → Act → World → Prop} (hgd : o.guard = none) (ty : TypeId) (x y : Operand) (ho : o.op = .store ty x y)
    (g : Nat) (cells : Array Value) (hx : a.eval x = .pointer (some ⟨g, 0, none⟩)) (hy : a.eval y = .agg cells)
    (t : TypeId) (old : Array Value) (hg : w.heap[g]? = some (.cells old t (0, 0))) (hi : (P.info? ty).map (·.size) = some cells.size)
    (hold : old.size = cells.size) (h1 : cells.all (·.oneCell') = true)
    (h : wpListIn F n P ops Q rest (a.put o.dst undef) (w.setRow g cells)) : wpListIn F n P ops Q (o :: rest) a w :=
  wpListIn_plain hgd fun _ hK => wpIn_store_row ty x y ho g cells hx hy t old hg hi hold h1 (hK _ _ h)

/-! The value of a relation. -/
def relC (r : List Nat) : Array Value := (r.map fun (a : Nat) => Value.int .u32 (a : Int)).toArray
theorem relC_size (r : List Nat) : (relC r).size = r.length := by simp [relC]
theorem relC_at {r : List Nat} {k : Nat} (h : k < r.length) : (relC r)[k]? = some (.int .u32 (r.getD k 0 : Nat)) := by
  rw [gd_lt h]; simp [relC, h]
theorem relC_set (r : List Nat) (k a : Nat) : (relC r).setIfInBounds k (.int .u32 (a : Int)) = relC (r.set k a) := by
  simp [relC, List.map_set]
theorem relC_one (r : List Nat) : (relC r).all (·.oneCell') = true := by
  simp [relC, List.all_map, Value.oneCell']
theorem underR : Try.prog.underlying 61 = some (.array 20 59) := Try.underlying61
theorem underV : Try.prog.underlying 59 = some (.int .u32) := Try.underlying59
theorem infoV : (Try.prog.info? 59).map (·.size) = some 1 := by kernel_rfl
theorem infoRel : (Try.prog.info? 61).map (·.size) = some 20 := by kernel_rfl
theorem run_indexR (cs : Array Value) (k : Nat) (v : Value) (hk : k < 20) (hv : cs[k]? = some v) (w : World) : (Instr.index 61 (.agg cs) (.int .i64 k)).run Try.prog w = .ok v w := by
  have hs : (sizeOf 59).run Try.prog w = .ok 1 w := by
    cases hq : Try.prog.info? 59 with
    | none => have := infoV; rw [hq] at this; cases this
    | some i =>
      have := infoV
      rw [hq] at this
      simp at this
      simp [sizeOf, typeInfo, hq, this]
  have ha : (isAgg 59).run Try.prog w = .ok false w := by
    unfold isAgg
    rw [Sem.run_bind, run_underlying underV w]
    rfl
  have hlt : (0 : Int) ≤ (k : Int) ∧ (k : Int) < ((20 : Nat) : Int) := by omega
  unfold Instr.index
  simp only [go_sem]
  rw [Sem.run_bind, Sem.run_pure, Result.andThen_ok, Sem.run_bind, run_underlying underR w, Result.andThen_ok]
  simp only []
  rw [if_pos hlt, Sem.run_bind, hs, Result.andThen_ok, Sem.run_bind, ha, Result.andThen_ok]
  simp [hv]
/-- The number with this bit alone. -/
def bitOf (y : Nat) : Nat := 2 ^ y
theorem bitOf_lt {y : Nat} (h : y < 20) : bitOf y < 1048576 := (Nat.pow_lt_pow_right (by decide) h : 2 ^ y < 2 ^ 20)
theorem setOfVertex_w (y : Nat) (hy : y < 20) (w : World) : Calls Try.prog 80 #[.int .i64 y] w fun e w' => e = .returned (.int .u32 ((bitOf y : Nat) : Int)) ∧ w = w' := by
  have h : (2 : Int) ^ y % 4294967296 = ((2 ^ y : Nat) : Int) := by
    have h1 : (2 : Nat) ^ y < 2 ^ 32 := Nat.pow_lt_pow_right (by decide) (by omega)
    have h2 : ((2 : Int) ^ y) = ((2 ^ y : Nat) : Int) := by simp
    rw [h2]
    exact Int.emod_eq_of_lt (Int.natCast_nonneg _) (Int.lt_of_lt_of_le (Int.ofNat_lt.2 h1) (by decide))
  go_enter Try.func80, Try.ntmps80
  go_wp2
  go_ret
  exact ⟨congrArg (fun x => Ending.returned (.int .u32 x)) h, rfl⟩

/-! Loops over the vertices. -/
def zipTo (f : Nat → Nat → Nat) (r s : List Nat) (k : Nat) : List Nat := (List.zipWith f r s).take k ++ r.drop k
theorem zipTo_len {f : Nat → Nat → Nat} {r s : List Nat} (hr : r.length = 20) (hs : s.length = 20) {k : Nat} (hk : k ≤ 20) : (zipTo f r s k).length = 20 := by simp [zipTo, hr, hs]; omega
theorem zipTo_at {f : Nat → Nat → Nat} {r s : List Nat} (hr : r.length = 20) (hs : s.length = 20) {k : Nat} (hk : k < 20) : (zipTo f r s k).getD k 0 = r.getD k 0 := by
  have hl : (zipTo f r s k).length = 20 := zipTo_len hr hs (by omega)
  rw [gd_lt (by omega), gd_lt (by omega)]
  unfold zipTo
  rw [List.getElem_append_right (by simp [hr, hs]; omega)]
  simp [hr, hs, Nat.min_eq_left (show k ≤ 20 by omega)]
theorem zipTo_set {f : Nat → Nat → Nat} {r s : List Nat} (hr : r.length = 20) (hs : s.length = 20) {k : Nat} (hk : k < 20) : (zipTo f r s k).set k (f (r.getD k 0) (s.getD k 0)) = zipTo f r s (k + 1) := by
  rw [gd_lt (by omega), gd_lt (by omega)]
  unfold zipTo
  have hz : (List.zipWith f r s).length = 20 := by simp [hr, hs]
  rw [List.set_append_right _ _ (by simp [hr, hs]; omega), List.take_succ_eq_append_getElem (by omega), List.append_assoc]
  congr 1
  have hd : r.drop k = r[k] :: r.drop (k + 1) := List.drop_eq_getElem_cons (by omega)
  have h0 : k - (List.take k (List.zipWith f r s)).length = 0 := by rw [List.length_take, hz]; omega
  rw [h0, hd, List.set_cons_zero, List.getElem_zipWith]
  rfl
theorem zipTo_end {f : Nat → Nat → Nat} {r s : List Nat} (hr : r.length = 20) (hs : s.length = 20) : zipTo f r s 20 = List.zipWith f r s := by
  unfold zipTo
  rw [List.take_of_length_le (by simp [hr, hs]), List.drop_eq_nil_of_le (by omega), List.append_nil]
theorem Blk.row {w : World} {g : Nat} {t : TypeId} {cs : Array Value} (h : Blk w g t cs) (c : Array Value) : Blk (w.setRow g c) g t c := setRow_heap w g cs c t (0, 0) h
theorem Blk.rowFar {w : World} {g k : Nat} {t : TypeId} {cs : Array Value} (h : Blk w g t cs) (hk : g ≠ k) (c : Array Value) : Blk (w.setRow k c) g t cs := (setRow_other w k g c hk).trans h
theorem brow {a w : World} (h : Below a.heap.size a w) {g : Nat} (hg : a.heap.size ≤ g) (c : Array Value) : Below a.heap.size a (w.setRow g c) :=
  ⟨h.os, h.tape, h.output, by rw [setRow_size]; exact h.size, fun k hk => (setRow_other w g k c (by omega)).trans (h.block k hk)⟩
theorem sizeR {r : List Nat} (h : OkR r) : (Try.prog.info? 61).map (·.size) = some (relC r).size := by rw [relC_size, h.len]; exact infoRel

set_option maxHeartbeats 1600000 in
theorem union_w (r s : List Nat) (w : World) (hr : OkR r) (hs : OkR s) : Calls Try.prog 89 #[.agg (relC r), .agg (relC s)] w fun e w' => e = .returned (.agg (relC (orR r s))) ∧ Below w.heap.size w w' := by
  have hend : Hid (zipTo (fun a b => a ||| b) r s 20 = orR r s) := zipTo_end hr.len hs.len
  go_enter Try.func89, Try.ntmps89
  go_wp2_with (refine wpList_load_row rfl 61 _ rfl (w.heap.size + 1) rfl 61 (relC s) (0, 0) _ (show Blk _ (w.heap.size + 1) 61 (relC s) from (Blk.newAt (by simp)).alloc _) underR rfl (sizeR hs) ?_)
  go_loopw [5, 6, 8] (fun _ _ i wr => ∃ k : Nat, k ≤ 20 ∧ i = .int .i64 k ∧ Blk wr w.heap.size 61 (relC (zipTo (fun a b => a ||| b) r s k)) ∧ (∃ z : Array Value, Blk wr (w.heap.size + 2) 61 z ∧ z.size = 20) ∧ Below w.heap.size w wr) (fun _ _ i _ => 20 - (intOf i).toNat)
  case atStart => exact ⟨0, by omega, rfl, ((Blk.newAt rfl).alloc _).alloc _, ⟨_, Blk.newAt (by simp), rfl⟩, bal (bal (bal (Below.refl _ _) _) _) _⟩
  case round =>
    obtain ⟨k, hk, rfl, hB, ⟨z, hz, hzs⟩, hbel⟩ := hrel
    by_cases hlt : k < 20
    · have hl := zipTo_len (f := fun a b => a ||| b) hr.len hs.len hk
      have hix : ∀ W, (Instr.index 61 (.agg (relC s)) (.int .i64 (k : Int))).run Try.prog W = .ok (.int .u32 ((s.getD k 0 : Nat) : Int)) W := fun W => run_indexR _ k _ hlt (relC_at (by rw [hs.len]; exact hlt)) W
      have q := (hB.cell k).trans (relC_at (by omega))
      rw [zipTo_at hr.len hs.len hlt] at q
      have qf := hB.frozen k
      have hbits : bits .or .u32 ((r.getD k 0 : Nat) : Int) ((s.getD k 0 : Nat) : Int) = (((fun a b => a ||| b) (r.getD k 0) (s.getD k 0) : Nat) : Int) := u32_or_nat _ _ (by have := hr.at k; omega) (by have := hs.at k; omega)
      have hset : Hid ((relC (zipTo (fun a b => a ||| b) r s k)).setIfInBounds k (.int .u32 (((fun a b => a ||| b) (r.getD k 0) (s.getD k 0) : Nat) : Int)) = relC (zipTo (fun a b => a ||| b) r s (k + 1))) := by rw [Hid, relC_set, ← zipTo_set hr.len hs.len hlt]
      have hlt' : (k : Int) < 20 := by omega
      have H1 := Lib.hid hB
      have H2 := Lib.hid hz
      have H3 := Lib.hid hbel
      generalize r.getD k 0 = x at *
      generalize s.getD k 0 = y at *
      clear hB hz hbel hr hs hl
      go_wp2
      go_roundw
      case rel => exact ⟨k + 1, by omega, by go_num, by rw [← hset.out]; exact H1.out.set_ _ _, ⟨z, H2.out.far (by simp) _, hzs⟩, bset H3.out (by simp) _⟩
      case measure => simp [intOf]; omega
    · obtain rfl : k = 20 := by omega
      have H3 := Lib.hid hbel
      rw [hend.out] at hB
      have ho : OkR (orR r s) := orR_ok hr hs
      have hres := hz.row (relC (orR r s))
      have HR := Lib.hid hres
      clear hbel hres
      go_wp2_with (first | refine wpList_load_row rfl 61 _ rfl w.heap.size rfl 61 (relC (orR r s)) (0, 0) _ hB underR rfl (sizeR ho) ?_ | refine wpList_store_row rfl 61 _ _ rfl (w.heap.size + 2) (relC (orR r s)) rfl rfl 61 z hz (sizeR ho) (by rw [hzs, relC_size, ho.len]) (relC_one _) ?_)
      refine bodyPost_ret (results_cell_row rfl _ _ (w.heap.size + 2) 61 (relC (orR r s)) (0, 0) _ rfl HR.out underR rfl (sizeR ho)) rfl ?_
      exact ⟨rfl, brow H3.out (by omega) _⟩

set_option maxHeartbeats 1600000 in
theorem without_w (r s : List Nat) (w : World) (hr : OkR r) (hs : OkR s) : Calls Try.prog 91 #[.agg (relC r), .agg (relC s)] w fun e w' => e = .returned (.agg (relC (nandR r s))) ∧ Below w.heap.size w w' := by
  have hend : Hid (zipTo (fun a b => a &&& (4294967295 - b)) r s 20 = nandR r s) := zipTo_end hr.len hs.len
  go_enter Try.func91, Try.ntmps91
  go_wp2_with (refine wpList_load_row rfl 61 _ rfl (w.heap.size + 1) rfl 61 (relC s) (0, 0) _ (show Blk _ (w.heap.size + 1) 61 (relC s) from (Blk.newAt (by simp)).alloc _) underR rfl (sizeR hs) ?_)
  go_loopw [5, 6, 8] (fun _ _ i wr => ∃ k : Nat, k ≤ 20 ∧ i = .int .i64 k ∧ Blk wr w.heap.size 61 (relC (zipTo (fun a b => a &&& (4294967295 - b)) r s k)) ∧ (∃ z : Array Value, Blk wr (w.heap.size + 2) 61 z ∧ z.size = 20) ∧ Below w.heap.size w wr) (fun _ _ i _ => 20 - (intOf i).toNat)
  case atStart => exact ⟨0, by omega, rfl, ((Blk.newAt rfl).alloc _).alloc _, ⟨_, Blk.newAt (by simp), rfl⟩, bal (bal (bal (Below.refl _ _) _) _) _⟩
  case round =>
    obtain ⟨k, hk, rfl, hB, ⟨z, hz, hzs⟩, hbel⟩ := hrel
    by_cases hlt : k < 20
    · have hl := zipTo_len (f := fun a b => a &&& (4294967295 - b)) hr.len hs.len hk
      have hix : ∀ W, (Instr.index 61 (.agg (relC s)) (.int .i64 (k : Int))).run Try.prog W = .ok (.int .u32 ((s.getD k 0 : Nat) : Int)) W := fun W => run_indexR _ k _ hlt (relC_at (by rw [hs.len]; exact hlt)) W
      have q := (hB.cell k).trans (relC_at (by omega))
      rw [zipTo_at hr.len hs.len hlt] at q
      have qf := hB.frozen k
      have hbits : bits .andNot .u32 ((r.getD k 0 : Nat) : Int) ((s.getD k 0 : Nat) : Int) = (((fun a b => a &&& (4294967295 - b)) (r.getD k 0) (s.getD k 0) : Nat) : Int) := u32_andNot_nat _ _ (by have := hr.at k; omega) (by have := hs.at k; omega)
      have hset : Hid ((relC (zipTo (fun a b => a &&& (4294967295 - b)) r s k)).setIfInBounds k (.int .u32 (((fun a b => a &&& (4294967295 - b)) (r.getD k 0) (s.getD k 0) : Nat) : Int)) = relC (zipTo (fun a b => a &&& (4294967295 - b)) r s (k + 1))) := by rw [Hid, relC_set, ← zipTo_set hr.len hs.len hlt]
      have hlt' : (k : Int) < 20 := by omega
      have H1 := Lib.hid hB
      have H2 := Lib.hid hz
      have H3 := Lib.hid hbel
      generalize r.getD k 0 = x at *
      generalize s.getD k 0 = y at *
      clear hB hz hbel hr hs hl
      go_wp2
      go_roundw
      case rel => exact ⟨k + 1, by omega, by go_num, by rw [← hset.out]; exact H1.out.set_ _ _, ⟨z, H2.out.far (by simp) _, hzs⟩, bset H3.out (by simp) _⟩
      case measure => simp [intOf]; omega
    · obtain rfl : k = 20 := by omega
      have H3 := Lib.hid hbel
      rw [hend.out] at hB
      have ho : OkR (nandR r s) := nandR_ok hr hs
      have hres := hz.row (relC (nandR r s))
      have HR := Lib.hid hres
      clear hbel hres
      go_wp2_with (first | refine wpList_load_row rfl 61 _ rfl w.heap.size rfl 61 (relC (nandR r s)) (0, 0) _ hB underR rfl (sizeR ho) ?_ | refine wpList_store_row rfl 61 _ _ rfl (w.heap.size + 2) (relC (nandR r s)) rfl rfl 61 z hz (sizeR ho) (by rw [hzs, relC_size, ho.len]) (relC_one _) ?_)
      refine bodyPost_ret (results_cell_row rfl _ _ (w.heap.size + 2) 61 (relC (nandR r s)) (0, 0) _ rfl HR.out underR rfl (sizeR ho)) rfl ?_
      exact ⟨rfl, brow H3.out (by omega) _⟩

end Go.Proofs.Ytifjenleoagefaa
