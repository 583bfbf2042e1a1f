/- HELPER, no statement of the seat: several texts in one file. -/
import Derived.Test.YtifjenleoagefaaGreatCga
import Derived.Laws.Rows
import Derived.Laws.BitsAllLaws
import Derived.CallsIn
import Derived.TacticsIn
import Derived.Test.YtifjenleoagefaaGreatGrf
import Derived.ChangeKeysEq
import Derived.Laws.StructEq
/- HELPER, no statement of the seat: relations in memory: boxes of twenty numbers; their unions, differences. -/
namespace Go.Proofs.YtifjenleoagefaaGreat
open Go.RowKit Go.Sort
set_option linter.unusedSimpArgs false
set_option linter.unusedVariables false

theorem wpIn_load_row {F : Fence} {n : Nat} {P : Program} {o : Oper} {a : Act} {w : World} {K : Act → World → Prop} {Q : Exit → Act → World → Prop} (ty : TypeId) (x : Operand) (ho : o.op = .load ty x)
    (g : Nat) (hx : a.eval x = .pointer (some ⟨g, 0, none⟩)) (t : TypeId) (cs : Array Value) (fr : Nat × Nat) (d : TypeDesc) (hg : w.heap[g]? = some (.cells cs t fr))
    (hu : P.underlying ty = some d) (hd : (match d with | .struct _ | .array _ _ => true | _ => false) = true) (hi : (P.info? ty).map (·.size) = some cs.size)
    (h : K (a.put o.dst (.agg cs)) w) : o.wpIn F n P a w K Q := by
  unfold Oper.wpIn
  refine ⟨fun f hf => by simp [Oper.about, ho] at hf, ?_⟩
  rw [Oper.semAt_eq _ _ _ (fun c hc => by rw [ho] at hc; cases hc)]
  unfold execOp
  simp only [ho, hx, Instr.loadAt, Instr.sureAddr, Sem.run_bind, Sem.run_pure, Result.andThen_ok, run_loadVar_row w g t ty cs fr d hg hu hd hi]
  exact h
theorem wpIn_store_row {F : Fence} {n : Nat} {P : Program} {o : Oper} {a : Act} {w : World} {K : Act → World → Prop} {Q : Exit → Act → World → Prop} (ty : TypeId) (x y : Operand) (ho : o.op = .store ty x y)
    (g : Nat) (cells : Array Value) (hx : a.eval x = .pointer (some ⟨g, 0, none⟩)) (hy : a.eval y = .agg cells)
    (t : TypeId) (old : Array Value) (hg : w.heap[g]? = some (.cells old t (0, 0))) (hi : (P.info? ty).map (·.size) = some cells.size)
    (hold : old.size = cells.size) (h1 : cells.all (·.oneCell') = true)
    (h : K (a.put o.dst undef) (w.setRow g cells)) : o.wpIn F n P a w K Q := by
  unfold Oper.wpIn
  refine ⟨fun f hf => by simp [Oper.about, ho] at hf, ?_⟩
  rw [Oper.semAt_eq _ _ _ (fun c hc => by rw [ho] at hc; cases hc)]
  unfold execOp
  simp only [ho, hx, hy, Instr.storeAt, Instr.sureAddr, Sem.run_bind, Sem.run_pure, Result.andThen_ok, run_storeVar_row w g t ty old cells hg hi hold h1]
  exact h
theorem wpListIn_load_row {F : Fence} {n : Nat} {P : Program} {ops : Array Oper} {rest : List Oper} {o : Oper} {a : Act} {w : World} {Q : Exit → Act → World → Prop} (hgd : o.guard = none) (ty : TypeId) (x : Operand) (ho : o.op = .load ty x)
    (g : Nat) (hx : a.eval x = .pointer (some ⟨g, 0, none⟩)) (t : TypeId) (cs : Array Value) (fr : Nat × Nat) (d : TypeDesc) (hg : w.heap[g]? = some (.cells cs t fr))
    (hu : P.underlying ty = some d) (hd : (match d with | .struct _ | .array _ _ => true | _ => false) = true) (hi : (P.info? ty).map (·.size) = some cs.size)
    (h : wpListIn F n P ops Q rest (a.put o.dst (.agg cs)) w) : wpListIn F n P ops Q (o :: rest) a w :=
  wpListIn_plain hgd fun _ hK => wpIn_load_row ty x ho g hx t cs fr d hg hu hd hi (hK _ _ h)
theorem wpListIn_store_row {F : Fence} {n : Nat} {P : Program} {ops : Array Oper} {rest : List Oper} {o : Oper} {a : Act} {w : World} {Q : Exit → Act → World → Prop} (hgd : o.guard = none) (ty : TypeId) (x y : Operand) (ho : o.op = .store ty x y)
    (g : Nat) (cells : Array Value) (hx : a.eval x = .pointer (some ⟨g, 0, none⟩)) (hy : a.eval y = .agg cells)
    (t : TypeId) (old : Array Value) (hg : w.heap[g]? = some (.cells old t (0, 0))) (hi : (P.info? ty).map (·.size) = some cells.size)
    (hold : old.size = cells.size) (h1 : cells.all (·.oneCell') = true)
    (h : wpListIn F n P ops Q rest (a.put o.dst undef) (w.setRow g cells)) : wpListIn F n P ops Q (o :: rest) a w :=
  wpListIn_plain hgd fun _ hK => wpIn_store_row ty x y ho g cells hx hy t old hg hi hold h1 (hK _ _ h)

/-! The value of a relation. -/
def relC (r : List Nat) : Array Value := (r.map fun (a : Nat) => Value.int .u32 (a : Int)).toArray
theorem relC_size (r : List Nat) : (relC r).size = r.length := by simp [relC]
theorem relC_at {r : List Nat} {k : Nat} (h : k < r.length) : (relC r)[k]? = some (.int .u32 (r.getD k 0 : Nat)) := by
  rw [gd_lt h]; simp [relC, h]
theorem relC_set (r : List Nat) (k a : Nat) : (relC r).setIfInBounds k (.int .u32 (a : Int)) = relC (r.set k a) := by
  simp [relC, List.map_set]
theorem relC_one (r : List Nat) : (relC r).all (·.oneCell') = true := by
  simp [relC, List.all_map, Value.oneCell']
theorem underR : Tryz.prog.underlying 49 = some (.array 20 47) := Tryz.underlying49
theorem underV : Tryz.prog.underlying 47 = some (.int .u32) := Tryz.underlying47
theorem infoV : (Tryz.prog.info? 47).map (·.size) = some 1 := by kernel_rfl
theorem infoRel : (Tryz.prog.info? 49).map (·.size) = some 20 := by kernel_rfl
theorem run_indexR (cs : Array Value) (k : Nat) (v : Value) (hk : k < 20) (hv : cs[k]? = some v) (w : World) : (Instr.index 49 (.agg cs) (.int .i64 k)).run Tryz.prog w = .ok v w := by
  have hs : (sizeOf 47).run Tryz.prog w = .ok 1 w := by
    cases hq : Tryz.prog.info? 47 with
    | none => have := infoV; rw [hq] at this; cases this
    | some i =>
      have := infoV
      rw [hq] at this
      simp at this
      simp [sizeOf, typeInfo, hq, this]
  have ha : (isAgg 47).run Tryz.prog w = .ok false w := by
    unfold isAgg
    rw [Sem.run_bind, run_underlying underV w]
    rfl
  have hlt : (0 : Int) ≤ (k : Int) ∧ (k : Int) < ((20 : Nat) : Int) := by omega
  unfold Instr.index
  simp only [go_sem]
  rw [Sem.run_bind, Sem.run_pure, Result.andThen_ok, Sem.run_bind, run_underlying underR w, Result.andThen_ok]
  simp only []
  rw [if_pos hlt, Sem.run_bind, hs, Result.andThen_ok, Sem.run_bind, ha, Result.andThen_ok]
  simp [hv]
/-- The number with this bit alone. -/
def bitOf (y : Nat) : Nat := 2 ^ y
theorem bitOf_lt {y : Nat} (h : y < 20) : bitOf y < 1048576 := (Nat.pow_lt_pow_right (by decide) h : 2 ^ y < 2 ^ 20)
theorem setOfVertex_w (y : Nat) (hy : y < 20) (w : World) : Calls Tryz.prog 51 #[.int .i64 y] w fun e w' => e = .returned (.int .u32 ((bitOf y : Nat) : Int)) ∧ w = w' := by
  have h : (2 : Int) ^ y % 4294967296 = ((2 ^ y : Nat) : Int) := by
    have h1 : (2 : Nat) ^ y < 2 ^ 32 := Nat.pow_lt_pow_right (by decide) (by omega)
    have h2 : ((2 : Int) ^ y) = ((2 ^ y : Nat) : Int) := by simp
    rw [h2]
    exact Int.emod_eq_of_lt (Int.natCast_nonneg _) (Int.lt_of_lt_of_le (Int.ofNat_lt.2 h1) (by decide))
  go_enter Tryz.func51, Tryz.ntmps51
  go_wp2
  go_ret
  exact ⟨congrArg (fun x => Ending.returned (.int .u32 x)) h, rfl⟩

/-! Loops over the vertices. -/
def zipTo (f : Nat → Nat → Nat) (r s : List Nat) (k : Nat) : List Nat := (List.zipWith f r s).take k ++ r.drop k
theorem zipTo_len {f : Nat → Nat → Nat} {r s : List Nat} (hr : r.length = 20) (hs : s.length = 20) {k : Nat} (hk : k ≤ 20) : (zipTo f r s k).length = 20 := by simp [zipTo, hr, hs]; omega
theorem zipTo_at {f : Nat → Nat → Nat} {r s : List Nat} (hr : r.length = 20) (hs : s.length = 20) {k : Nat} (hk : k < 20) : (zipTo f r s k).getD k 0 = r.getD k 0 := by
  have hl : (zipTo f r s k).length = 20 := zipTo_len hr hs (by omega)
  rw [gd_lt (by omega), gd_lt (by omega)]
  unfold zipTo
  rw [List.getElem_append_right (by simp [hr, hs]; omega)]
  simp [hr, hs, Nat.min_eq_left (show k ≤ 20 by omega)]
theorem zipTo_set {f : Nat → Nat → Nat} {r s : List Nat} (hr : r.length = 20) (hs : s.length = 20) {k : Nat} (hk : k < 20) : (zipTo f r s k).set k (f (r.getD k 0) (s.getD k 0)) = zipTo f r s (k + 1) := by
  rw [gd_lt (by omega), gd_lt (by omega)]
  unfold zipTo
  have hz : (List.zipWith f r s).length = 20 := by simp [hr, hs]
  rw [List.set_append_right _ _ (by simp [hr, hs]; omega), List.take_succ_eq_append_getElem (by omega), List.append_assoc]
  congr 1
  have hd : r.drop k = r[k] :: r.drop (k + 1) := List.drop_eq_getElem_cons (by omega)
  have h0 : k - (List.take k (List.zipWith f r s)).length = 0 := by rw [List.length_take, hz]; omega
  rw [h0, hd, List.set_cons_zero, List.getElem_zipWith]
  rfl
theorem zipTo_end {f : Nat → Nat → Nat} {r s : List Nat} (hr : r.length = 20) (hs : s.length = 20) : zipTo f r s 20 = List.zipWith f r s := by
  unfold zipTo
  rw [List.take_of_length_le (by simp [hr, hs]), List.drop_eq_nil_of_le (by omega), List.append_nil]
theorem Blk.row {w : World} {g : Nat} {t : TypeId} {cs : Array Value} (h : Blk w g t cs) (c : Array Value) : Blk (w.setRow g c) g t c := setRow_heap w g cs c t (0, 0) h
theorem Blk.rowFar {w : World} {g k : Nat} {t : TypeId} {cs : Array Value} (h : Blk w g t cs) (hk : g ≠ k) (c : Array Value) : Blk (w.setRow k c) g t cs := (setRow_other w k g c hk).trans h
theorem brow {a w : World} (h : Below a.heap.size a w) {g : Nat} (hg : a.heap.size ≤ g) (c : Array Value) : Below a.heap.size a (w.setRow g c) :=
  ⟨h.os, h.tape, h.output, by rw [setRow_size]; exact h.size, fun k hk => (setRow_other w g k c (by omega)).trans (h.block k hk)⟩
theorem sizeR {r : List Nat} (h : OkR r) : (Tryz.prog.info? 49).map (·.size) = some (relC r).size := by rw [relC_size, h.len]; exact infoRel

set_option maxHeartbeats 1600000 in
theorem union_w (r s : List Nat) (w : World) (hr : OkR r) (hs : OkR s) : Calls Tryz.prog 54 #[.agg (relC r), .agg (relC s)] w fun e w' => e = .returned (.agg (relC (orR r s))) ∧ Below w.heap.size w w' := by
  have hend : Hid (zipTo (fun a b => a ||| b) r s 20 = orR r s) := zipTo_end hr.len hs.len
  go_enter Tryz.func54, Tryz.ntmps54
  go_wp2_with (refine wpList_load_row rfl 49 _ rfl (w.heap.size + 1) rfl 49 (relC s) (0, 0) _ (show Blk _ (w.heap.size + 1) 49 (relC s) from (Blk.newAt (by simp)).alloc _) underR rfl (sizeR hs) ?_)
  go_loopw [5, 6, 8] (fun _ _ i wr => ∃ k : Nat, k ≤ 20 ∧ i = .int .i64 k ∧ Blk wr w.heap.size 49 (relC (zipTo (fun a b => a ||| b) r s k)) ∧ (∃ z : Array Value, Blk wr (w.heap.size + 2) 49 z ∧ z.size = 20) ∧ Below w.heap.size w wr) (fun _ _ i _ => 20 - (intOf i).toNat)
  case atStart => exact ⟨0, by omega, rfl, ((Blk.newAt rfl).alloc _).alloc _, ⟨_, Blk.newAt (by simp), rfl⟩, bal (bal (bal (Below.refl _ _) _) _) _⟩
  case round =>
    obtain ⟨k, hk, rfl, hB, ⟨z, hz, hzs⟩, hbel⟩ := hrel
    by_cases hlt : k < 20
    · have hl := zipTo_len (f := fun a b => a ||| b) hr.len hs.len hk
      have hix : ∀ W, (Instr.index 49 (.agg (relC s)) (.int .i64 (k : Int))).run Tryz.prog W = .ok (.int .u32 ((s.getD k 0 : Nat) : Int)) W := fun W => run_indexR _ k _ hlt (relC_at (by rw [hs.len]; exact hlt)) W
      have q := (hB.cell k).trans (relC_at (by omega))
      rw [zipTo_at hr.len hs.len hlt] at q
      have qf := hB.frozen k
      have hbits : bits .or .u32 ((r.getD k 0 : Nat) : Int) ((s.getD k 0 : Nat) : Int) = (((fun a b => a ||| b) (r.getD k 0) (s.getD k 0) : Nat) : Int) := u32_or_nat _ _ (by have := hr.at k; omega) (by have := hs.at k; omega)
      have hset : Hid ((relC (zipTo (fun a b => a ||| b) r s k)).setIfInBounds k (.int .u32 (((fun a b => a ||| b) (r.getD k 0) (s.getD k 0) : Nat) : Int)) = relC (zipTo (fun a b => a ||| b) r s (k + 1))) := by rw [Hid, relC_set, ← zipTo_set hr.len hs.len hlt]
      have hlt' : (k : Int) < 20 := by omega
      have H1 := Lib.hid hB
      have H2 := Lib.hid hz
      have H3 := Lib.hid hbel
      generalize r.getD k 0 = x at *
      generalize s.getD k 0 = y at *
      clear hB hz hbel hr hs hl
      go_wp2
      go_roundw
      case rel => exact ⟨k + 1, by omega, by go_num, by rw [← hset.out]; exact H1.out.set_ _ _, ⟨z, H2.out.far (by simp) _, hzs⟩, bset H3.out (by simp) _⟩
      case measure => simp [intOf]; omega
    · obtain rfl : k = 20 := by omega
      have H3 := Lib.hid hbel
      rw [hend.out] at hB
      have ho : OkR (orR r s) := orR_ok hr hs
      have hres := hz.row (relC (orR r s))
      have HR := Lib.hid hres
      clear hbel hres
      go_wp2_with (first | refine wpList_load_row rfl 49 _ rfl w.heap.size rfl 49 (relC (orR r s)) (0, 0) _ hB underR rfl (sizeR ho) ?_ | refine wpList_store_row rfl 49 _ _ rfl (w.heap.size + 2) (relC (orR r s)) rfl rfl 49 z hz (sizeR ho) (by rw [hzs, relC_size, ho.len]) (relC_one _) ?_)
      refine bodyPost_ret (results_cell_row rfl _ _ (w.heap.size + 2) 49 (relC (orR r s)) (0, 0) _ rfl HR.out underR rfl (sizeR ho)) rfl ?_
      exact ⟨rfl, brow H3.out (by omega) _⟩

set_option maxHeartbeats 1600000 in
theorem without_w (r s : List Nat) (w : World) (hr : OkR r) (hs : OkR s) : Calls Tryz.prog 56 #[.agg (relC r), .agg (relC s)] w fun e w' => e = .returned (.agg (relC (nandR r s))) ∧ Below w.heap.size w w' := by
  have hend : Hid (zipTo (fun a b => a &&& (4294967295 - b)) r s 20 = nandR r s) := zipTo_end hr.len hs.len
  go_enter Tryz.func56, Tryz.ntmps56
  go_wp2_with (refine wpList_load_row rfl 49 _ rfl (w.heap.size + 1) rfl 49 (relC s) (0, 0) _ (show Blk _ (w.heap.size + 1) 49 (relC s) from (Blk.newAt (by simp)).alloc _) underR rfl (sizeR hs) ?_)
  go_loopw [5, 6, 8] (fun _ _ i wr => ∃ k : Nat, k ≤ 20 ∧ i = .int .i64 k ∧ Blk wr w.heap.size 49 (relC (zipTo (fun a b => a &&& (4294967295 - b)) r s k)) ∧ (∃ z : Array Value, Blk wr (w.heap.size + 2) 49 z ∧ z.size = 20) ∧ Below w.heap.size w wr) (fun _ _ i _ => 20 - (intOf i).toNat)
  case atStart => exact ⟨0, by omega, rfl, ((Blk.newAt rfl).alloc _).alloc _, ⟨_, Blk.newAt (by simp), rfl⟩, bal (bal (bal (Below.refl _ _) _) _) _⟩
  case round =>
    obtain ⟨k, hk, rfl, hB, ⟨z, hz, hzs⟩, hbel⟩ := hrel
    by_cases hlt : k < 20
    · have hl := zipTo_len (f := fun a b => a &&& (4294967295 - b)) hr.len hs.len hk
      have hix : ∀ W, (Instr.index 49 (.agg (relC s)) (.int .i64 (k : Int))).run Tryz.prog W = .ok (.int .u32 ((s.getD k 0 : Nat) : Int)) W := fun W => run_indexR _ k _ hlt (relC_at (by rw [hs.len]; exact hlt)) W
      have q := (hB.cell k).trans (relC_at (by omega))
      rw [zipTo_at hr.len hs.len hlt] at q
      have qf := hB.frozen k
      have hbits : bits .andNot .u32 ((r.getD k 0 : Nat) : Int) ((s.getD k 0 : Nat) : Int) = (((fun a b => a &&& (4294967295 - b)) (r.getD k 0) (s.getD k 0) : Nat) : Int) := u32_andNot_nat _ _ (by have := hr.at k; omega) (by have := hs.at k; omega)
      have hset : Hid ((relC (zipTo (fun a b => a &&& (4294967295 - b)) r s k)).setIfInBounds k (.int .u32 (((fun a b => a &&& (4294967295 - b)) (r.getD k 0) (s.getD k 0) : Nat) : Int)) = relC (zipTo (fun a b => a &&& (4294967295 - b)) r s (k + 1))) := by rw [Hid, relC_set, ← zipTo_set hr.len hs.len hlt]
      have hlt' : (k : Int) < 20 := by omega
      have H1 := Lib.hid hB
      have H2 := Lib.hid hz
      have H3 := Lib.hid hbel
      generalize r.getD k 0 = x at *
      generalize s.getD k 0 = y at *
      clear hB hz hbel hr hs hl
      go_wp2
      go_roundw
      case rel => exact ⟨k + 1, by omega, by go_num, by rw [← hset.out]; exact H1.out.set_ _ _, ⟨z, H2.out.far (by simp) _, hzs⟩, bset H3.out (by simp) _⟩
      case measure => simp [intOf]; omega
    · obtain rfl : k = 20 := by omega
      have H3 := Lib.hid hbel
      rw [hend.out] at hB
      have ho : OkR (nandR r s) := nandR_ok hr hs
      have hres := hz.row (relC (nandR r s))
      have HR := Lib.hid hres
      clear hbel hres
      go_wp2_with (first | refine wpList_load_row rfl 49 _ rfl w.heap.size rfl 49 (relC (nandR r s)) (0, 0) _ hB underR rfl (sizeR ho) ?_ | refine wpList_store_row rfl 49 _ _ rfl (w.heap.size + 2) (relC (nandR r s)) rfl rfl 49 z hz (sizeR ho) (by rw [hzs, relC_size, ho.len]) (relC_one _) ?_)
      refine bodyPost_ret (results_cell_row rfl _ _ (w.heap.size + 2) 49 (relC (nandR r s)) (0, 0) _ rfl HR.out underR rfl (sizeR ho)) rfl ?_
      exact ⟨rfl, brow H3.out (by omega) _⟩

end Go.Proofs.YtifjenleoagefaaGreat

/- HELPER, no statement of the seat: relations: out of edges, and whether one is empty. -/
namespace Go.Proofs.YtifjenleoagefaaGreat
open Go.RowKit Go.Sort
set_option linter.unusedSimpArgs false
set_option linter.unusedVariables false

def relTo (es : List Ent) (k : Nat) : List Nat := (es.take k).foldl (fun r e => setR r (gi e.1 0).toNat (gi e.1 1).toNat) zeroR
theorem relTo_step {es : List Ent} {k : Nat} (h : k < es.length) {x y : Nat} (he : es[k].1 = [(x : Int), (y : Int)]) : relTo es (k + 1) = setR (relTo es k) x y := by
  unfold relTo
  rw [List.take_succ_eq_append_getElem h, List.foldl_append, List.foldl_cons, List.foldl_nil, he]
  rfl
theorem relTo_ok {es : List Ent} (h : edgB es = true) (k : Nat) : OkR (relTo es k) := (fold_rel (es.take k) zeroR zeroR_ok (fun e he => (edgB_parts h).2.2 e (List.mem_of_mem_take he))).1
theorem relTo_end (es : List Ent) : relTo es es.length = relOf es := by simp [relTo, relOf]
theorem relC_zero : relC zeroR = #[.int .u32 0, .int .u32 0, .int .u32 0, .int .u32 0, .int .u32 0, .int .u32 0, .int .u32 0, .int .u32 0, .int .u32 0, .int .u32 0, .int .u32 0, .int .u32 0, .int .u32 0, .int .u32 0, .int .u32 0, .int .u32 0, .int .u32 0, .int .u32 0, .int .u32 0, .int .u32 0] := rfl
set_option maxRecDepth 100000 in
set_option maxHeartbeats 3200000 in
theorem relationOf_i (A : Option Addr) (c : Nat) (es : List Ent) (w : World) (hx : EntsAt w A es) (he : edgB es = true) :
    Calls Tryz.prog 23 #[.slice A es.length c] w fun e w' => e = .returned (.agg (relC (relOf es))) ∧ Below w.heap.size w w' := by
  have hn : es.length ≤ 400 := zsB_len (edgB_parts he).1
  have hro := relOf_ok he
  have HE := Lib.hid he
  clear he
  go_enter Tryz.func23, Tryz.ntmps23
  go_wp2
  go_loopw [8] (fun i wr => ∃ k : Nat, k ≤ es.length ∧ i = .int .i64 k ∧ Blk wr (w.heap.size + 1) 49 (relC (relTo es k)) ∧ (∃ z : Array Value, Blk wr w.heap.size 49 z ∧ z.size = 20) ∧ Below w.heap.size w wr) (fun i _ => es.length - (intOf i).toNat)
  case atStart => exact ⟨0, by omega, rfl, Blk.newAt (by simp), ⟨_, (Blk.newAt rfl).alloc _, rfl⟩, bal (bal (Below.refl _ _) _) _⟩
  case round =>
    obtain ⟨k, hk, rfl, hB, ⟨z, hz, hzs⟩, hbel⟩ := hrel
    by_cases hlt : k < es.length
    · obtain ⟨b, off, RA, rc, rfl, hbl, hc0, hc1, hml, hrow⟩ := hx.get k hlt
      have q0 := (hbel.cell (p := ⟨b, off + k * 2, none⟩) hbl).trans hc0
      have q1 := (hbel.cell (p := ⟨b, off + k * 2 + 1, none⟩) hbl).trans hc1
      obtain ⟨x, y, hx20, hy20, hexy⟩ := edgeE_row ((edgB_parts HE.out).2.2 es[k] (List.getElem_mem hlt))
      have hl2 : es[k].1.length = 2 := by rw [hexy]; rfl
      obtain ⟨rb, ro, rfl, hrb, hcc⟩ := hrow (by omega)
      have p0 := (hbel.cell (p := ⟨rb, ro, none⟩) hrb).trans (by have := hcc 0 (by omega); simpa using this)
      have p1 := (hbel.cell (p := ⟨rb, ro + 1, none⟩) hrb).trans (by have := hcc 1 (by omega); simpa using this)
      simp only [hexy] at p0 p1
      simp at p0 p1
      have hok := relTo_ok HE.out k
      have hrx : (relC (relTo es k))[x]? = some (.int .u32 (((relTo es k).getD x 0 : Nat) : Int)) := relC_at (by rw [hok.len]; exact hx20)
      have hbits : bits .or .u32 (((relTo es k).getD x 0 : Nat) : Int) ((bitOf y : Nat) : Int) = (((relTo es k).getD x 0 ||| bitOf y : Nat) : Int) := u32_or_nat _ _ (by have := hok.at x; omega) (by have := bitOf_lt hy20; omega)
      have hset : Hid ((relC (relTo es k)).setIfInBounds x (.int .u32 (((relTo es k).getD x 0 ||| bitOf y : Nat) : Int)) = relC (relTo es (k + 1))) := by rw [Hid, relC_set, relTo_step hlt hexy]; rfl
      generalize (relTo es k).getD x 0 = rx at *
      have kE : Blk (wr.alloc (.cells #[.slice (some ⟨rb, ro, none⟩) es[k].1.length rc, .int .i64 es[k].2] 33)) wr.heap.size 33 #[.slice (some ⟨rb, ro, none⟩) es[k].1.length rc, .int .i64 es[k].2] := Blk.newAt rfl
      have kR : Blk (wr.alloc (.cells #[.slice (some ⟨rb, ro, none⟩) es[k].1.length rc, .int .i64 es[k].2] 33)) (w.heap.size + 1) 49 (relC (relTo es k)) := hB.alloc _
      have kZ : Blk (wr.alloc (.cells #[.slice (some ⟨rb, ro, none⟩) es[k].1.length rc, .int .i64 es[k].2] 33)) w.heap.size 49 z := hz.alloc _
      have hbe : Below w.heap.size w (wr.alloc (.cells #[.slice (some ⟨rb, ro, none⟩) es[k].1.length rc, .int .i64 es[k].2] 33)) := bal hbel _
      have p0 : (wr.alloc (.cells #[.slice (some ⟨rb, ro, none⟩) es[k].1.length rc, .int .i64 es[k].2] 33)).cell? ⟨rb, ro, none⟩ = some (.int .i64 (x : Int)) := ((bal (Below.refl _ _) _ : Below wr.heap.size wr _).cell (p := ⟨rb, ro, none⟩) (Nat.lt_of_lt_of_le hrb hbel.size)).trans p0
      have p1 : (wr.alloc (.cells #[.slice (some ⟨rb, ro, none⟩) es[k].1.length rc, .int .i64 es[k].2] 33)).cell? ⟨rb, ro + 1, none⟩ = some (.int .i64 (y : Int)) := ((bal (Below.refl _ _) _ : Below wr.heap.size wr _).cell (p := ⟨rb, ro + 1, none⟩) (Nat.lt_of_lt_of_le hrb hbel.size)).trans p1
      have hl0 : 0 < es[k].1.length := by omega
      have hl1 : 1 < es[k].1.length := by omega
      have HL2 := Lib.hid hl2
      have HEX := Lib.hid hexy
      clear hcc hB hz hc0 hc1 hbel hrow hl2 hexy
      go_wp2_with fail
      refine wp_region_facts [[], [0], [0, 1], [0, 1, 2], List.range 4, List.range 5, [], [6], [6, 7], [6, 7, 8], [6, 7, 8, 9], List.range 11, List.range 4]
        [fun v' _ => v' = .pointer (some ⟨wr.heap.size, 0, none⟩), fun v' _ => v' = .slice (some ⟨rb, ro, none⟩) es[k].1.length rc, fun v' _ => v' = .pointer (some ⟨rb, ro, none⟩), fun v' _ => v' = .int .i64 ((x : Nat)), fun v' _ => v' = .pointer (some ⟨w.heap.size + 1, x, none⟩), fun v' _ => v' = .int .u32 ((rx : Nat) : Int), fun v' _ => v' = .pointer (some ⟨wr.heap.size, 0, none⟩), fun v' _ => v' = .slice (some ⟨rb, ro, none⟩) es[k].1.length rc, fun v' _ => v' = .pointer (some ⟨rb, ro + 1, none⟩), fun v' _ => v' = .int .i64 ((y : Nat)), fun v' _ => v' = .int .u32 ((bitOf y : Nat) : Int), fun v' _ => v' = .int .u32 ((rx ||| bitOf y : Nat) : Int), fun v' _ => v' = .pointer (some ⟨w.heap.size + 1, x, none⟩)]
        (by kernel_rfl) (by kernel_rfl) rfl ⟨stable_pure _, stable_pure _, stable_pure _, stable_pure _, stable_pure _, stable_pure _, stable_pure _, stable_pure _, stable_pure _, stable_pure _, stable_pure _, stable_pure _, stable_pure _, trivial⟩ ?_
      refine wf_stepK [] [] (by kernel_rfl) (by kernel_rfl) (fun wf hb hf => ?_) (fun t0 => ?_)
      · refine ⟨?_⟩
        go_wp2
        exact ⟨rfl, .pointer (some ⟨wr.heap.size, 0, none⟩), by kernel_rfl, Below.refl _ _, rfl⟩
      refine wf_stepK [0] [fun _ => t0 = .pointer (some ⟨wr.heap.size, 0, none⟩)] (by kernel_rfl) (by kernel_rfl) (fun wf hb hf => ?_) (fun t1 => ?_)
      · obtain ⟨rfl, -⟩ := hf
        refine ⟨?_⟩
        have p0 := (kE.below hb).cell 0
        simp at p0
        go_wp2
        exact ⟨rfl, .slice (some ⟨rb, ro, none⟩) es[k].1.length rc, by kernel_rfl, Below.refl _ _, rfl⟩
      refine wf_stepK [1] [fun _ => t1 = .slice (some ⟨rb, ro, none⟩) es[k].1.length rc] (by kernel_rfl) (by kernel_rfl) (fun wf hb hf => ?_) (fun t2 => ?_)
      · obtain ⟨rfl, -⟩ := hf
        refine ⟨?_⟩
        go_wp2
        exact ⟨rfl, .pointer (some ⟨rb, ro, none⟩), by kernel_rfl, Below.refl _ _, rfl⟩
      refine wf_stepK [2] [fun _ => t2 = .pointer (some ⟨rb, ro, none⟩)] (by kernel_rfl) (by kernel_rfl) (fun wf hb hf => ?_) (fun t3 => ?_)
      · obtain ⟨rfl, -⟩ := hf
        refine ⟨?_⟩
        have p0 := (hb.cell (p := ⟨rb, ro, none⟩) (Nat.lt_of_lt_of_le hrb hbe.size)).trans p0
        go_wp2
        exact ⟨rfl, .int .i64 ((x : Nat)), by kernel_rfl, Below.refl _ _, rfl⟩
      refine wf_stepK [3] [fun _ => t3 = .int .i64 ((x : Nat))] (by kernel_rfl) (by kernel_rfl) (fun wf hb hf => ?_) (fun t4 => ?_)
      · obtain ⟨rfl, -⟩ := hf
        refine ⟨?_⟩
        go_wp2
        exact ⟨rfl, .pointer (some ⟨w.heap.size + 1, x, none⟩), by kernel_rfl, Below.refl _ _, rfl⟩
      refine wf_stepK [4] [fun _ => t4 = .pointer (some ⟨w.heap.size + 1, x, none⟩)] (by kernel_rfl) (by kernel_rfl) (fun wf hb hf => ?_) (fun t5 => ?_)
      · obtain ⟨rfl, -⟩ := hf
        refine ⟨?_⟩
        have p0 := ((kR.below hb).cell x).trans hrx
        go_wp2
        exact ⟨rfl, .int .u32 ((rx : Nat) : Int), by kernel_rfl, Below.refl _ _, rfl⟩
      refine wf_stepK [] [] (by kernel_rfl) (by kernel_rfl) (fun wf hb hf => ?_) (fun t6 => ?_)
      · refine ⟨?_⟩
        go_wp2
        exact ⟨rfl, .pointer (some ⟨wr.heap.size, 0, none⟩), by kernel_rfl, Below.refl _ _, rfl⟩
      refine wf_stepK [6] [fun _ => t6 = .pointer (some ⟨wr.heap.size, 0, none⟩)] (by kernel_rfl) (by kernel_rfl) (fun wf hb hf => ?_) (fun t7 => ?_)
      · obtain ⟨rfl, -⟩ := hf
        refine ⟨?_⟩
        have p0 := (kE.below hb).cell 0
        simp at p0
        go_wp2
        exact ⟨rfl, .slice (some ⟨rb, ro, none⟩) es[k].1.length rc, by kernel_rfl, Below.refl _ _, rfl⟩
      refine wf_stepK [7] [fun _ => t7 = .slice (some ⟨rb, ro, none⟩) es[k].1.length rc] (by kernel_rfl) (by kernel_rfl) (fun wf hb hf => ?_) (fun t8 => ?_)
      · obtain ⟨rfl, -⟩ := hf
        refine ⟨?_⟩
        go_wp2
        exact ⟨rfl, .pointer (some ⟨rb, ro + 1, none⟩), by kernel_rfl, Below.refl _ _, rfl⟩
      refine wf_stepK [8] [fun _ => t8 = .pointer (some ⟨rb, ro + 1, none⟩)] (by kernel_rfl) (by kernel_rfl) (fun wf hb hf => ?_) (fun t9 => ?_)
      · obtain ⟨rfl, -⟩ := hf
        refine ⟨?_⟩
        have p0 := (hb.cell (p := ⟨rb, ro + 1, none⟩) (Nat.lt_of_lt_of_le hrb hbe.size)).trans p1
        go_wp2
        exact ⟨rfl, .int .i64 ((y : Nat)), by kernel_rfl, Below.refl _ _, rfl⟩
      refine wf_stepK [9] [fun _ => t9 = .int .i64 ((y : Nat))] (by kernel_rfl) (by kernel_rfl) (fun wf hb hf => ?_) (fun t10 => ?_)
      · obtain ⟨rfl, -⟩ := hf
        refine ⟨?_⟩
        go_wp2_with (go_at_call 51; refine (setOfVertex_w y hy20 _).mono ?_; rintro e w2 ⟨rfl, rfl⟩)
        exact ⟨rfl, _, by kernel_rfl, Below.refl _ _, rfl⟩
      refine wf_stepK [5, 10] [fun _ => t5 = .int .u32 ((rx : Nat) : Int), fun _ => t10 = .int .u32 ((bitOf y : Nat) : Int)] (by kernel_rfl) (by kernel_rfl) (fun wf hb hf => ?_) (fun t11 => ?_)
      · obtain ⟨rfl, rfl, -⟩ := hf
        refine ⟨?_⟩
        go_wp2
        exact ⟨rfl, .int .u32 ((rx ||| bitOf y : Nat) : Int), by kernel_rfl, Below.refl _ _, rfl⟩
      refine wf_stepK [3] [fun _ => t3 = .int .i64 ((x : Nat))] (by kernel_rfl) (by kernel_rfl) (fun wf hb hf => ?_) (fun t12 => ?_)
      · obtain ⟨rfl, -⟩ := hf
        refine ⟨?_⟩
        go_wp2
        exact ⟨rfl, .pointer (some ⟨w.heap.size + 1, x, none⟩), by kernel_rfl, Below.refl _ _, rfl⟩
      refine wf_doneK [11, 12] [fun _ => t11 = .int .u32 ((rx ||| bitOf y : Nat) : Int), fun _ => t12 = .pointer (some ⟨w.heap.size + 1, x, none⟩)] (by kernel_rfl) (by kernel_rfl) (fun w5 b5 hf => ?_)
      obtain ⟨rfl, rfl, -⟩ := hf
      show wpList _ _ _ [_] _ _
      refine wpList_frame (by simp [Act.put]; rfl) ?_
      have hsz5 := b5.size
      have f5 := (kR.below b5).frozen x
      have c5 := ((kR.below b5).cell x).trans hrx
      have k5 := kR.below b5
      have z5 := kZ.below b5
      have hb5 := btr hbe b5
      have K5 := Lib.hid k5
      have Z5 := Lib.hid z5
      have H5 := Lib.hid hb5
      have hlw : w.heap.size + 1 < w5.heap.size := k5.lt
      clear k5 z5 hb5 hbe b5 kE kR kZ p0 p1 q0 q1 hx hok hbits hrx
      go_wp2
      go_roundw
      case rel => exact ⟨k + 1, by omega, by go_num, by rw [← hset.out]; exact K5.out.set_ _ _, ⟨z, Z5.out.far (by simp) _, hzs⟩, bset H5.out (by simp) _⟩
      case measure => simp [intOf]; omega
    · obtain rfl : k = es.length := by omega
      have H3 := Lib.hid hbel
      rw [relTo_end] at hB
      have HR := Lib.hid (hz.row (relC (relOf es)))
      clear hbel
      go_wp2_with (first | refine wpList_load_row rfl 49 _ rfl (w.heap.size + 1) rfl 49 (relC (relOf es)) (0, 0) _ hB underR rfl (sizeR hro) ?_ | refine wpList_store_row rfl 49 _ _ rfl w.heap.size (relC (relOf es)) rfl rfl 49 z hz (sizeR hro) (by rw [hzs, relC_size, hro.len]) (relC_one _) ?_)
      refine bodyPost_ret (results_cell_row rfl _ _ w.heap.size 49 (relC (relOf es)) (0, 0) _ rfl HR.out underR rfl (sizeR hro)) rfl ?_
      exact ⟨rfl, brow H3.out (Nat.le_refl _) _⟩
theorem eqR_items {r s : List Nat} (hr : r.length = 20) (hs : s.length = 20) (w : World) : ∀ is : List Nat, (∀ i ∈ is, i < 20) →
    (Op.eqItems 9999 47 1 (relC r) (relC s) is).run Tryz.prog w = .ok (is.all fun i => r.getD i 0 == s.getD i 0) w
  | [], _ => by simp [Op.eqItems]
  | i :: is, h => by
    have hi : i < 20 := h i (by simp)
    have ih := eqR_items hr hs w is (fun j hj => h j (by simp [hj]))
    have hp : ∀ q : List Nat, q.length = 20 → (part 47 (relC q) i).run Tryz.prog w = .ok (.int .u32 ((q.getD i 0 : Nat) : Int)) w := fun q hq => by
      have ha : (isAgg 47).run Tryz.prog w = .ok false w := by
        unfold isAgg
        rw [Sem.run_bind, run_underlying underV w]
        rfl
      unfold part
      rw [Sem.run_bind, ha, Result.andThen_ok]
      simp [relC_at (show i < q.length by omega)]
    simp only [Op.eqItems, Sem.run_bind, Nat.mul_one, hp r hr, hp s hs, Result.andThen_ok]
    rw [run_equalIn_int w 9998 _ .u32 .u32 _ _ underV, Result.andThen_ok]
    have e : (((r.getD i 0 : Nat) : Int) == ((s.getD i 0 : Nat) : Int)) = (r.getD i 0 == s.getD i 0) := by
      rw [Bool.eq_iff_iff]; simp; omega
    rw [e, List.all_cons]
    cases r.getD i 0 == s.getD i 0
    · simp
    · simpa using ih
theorem run_eqR {r s : List Nat} (hr : r.length = 20) (hs : s.length = 20) (w : World) : (Op.equalIn 10000 49 (.agg (relC r)) (.agg (relC s))).run Tryz.prog w = .ok (decide (r = s)) w := by
  obtain ⟨i, hi⟩ : ∃ i, Tryz.prog.info? 47 = some i := by
    cases hq : Tryz.prog.info? 47 with
    | none => have := infoV; rw [hq] at this; cases this
    | some i => exact ⟨i, rfl⟩
  have hc : Tryz.prog.cellsOf 47 = 1 := by kernel_rfl
  rw [run_equalIn_array w 9999 _ _ underR hi, hc, eqR_items hr hs w (List.range 20) (fun i hi => List.mem_range.1 hi)]
  refine congrArg (fun b => Result.ok b w) ?_
  rw [Bool.eq_iff_iff, List.all_eq_true, decide_eq_true_eq]
  constructor
  · intro h
    apply List.ext_getElem (by omega)
    intro i h1 h2
    have := h i (List.mem_range.2 (by omega))
    rw [gd_lt h1, gd_lt h2] at this
    simpa using this
  · rintro rfl i _
    simp
set_option maxRecDepth 100000 in
set_option maxHeartbeats 1600000 in
theorem isEmpty_w (r : List Nat) (w : World) (hr : OkR r) :
    Calls Tryz.prog 53 #[.agg (relC r)] w fun e w' => e = .returned (.bool (decide (r = zeroR))) ∧ Below w.heap.size w w' := by
  have hblt : (Tryz.prog.built 49 []).getD #[] = relC zeroR := by kernel_rfl
  have heq : ∀ W, (Op.equalIn 10000 49 (.agg (relC r)) (.agg (relC zeroR))).run Tryz.prog W = .ok (decide (r = zeroR)) W := fun W => run_eqR hr.len zeroR_ok.len W
  have hg : ∀ W x y, (eqGuard .eql 49 x y (.agg (relC r)) (.agg (relC zeroR))).run Tryz.prog W = .ok () W := fun W x y => run_eqGuard_agg W _ _ _ _ _ _ (by kernel_rfl)
  go_enter Tryz.func53, Tryz.ntmps53
  go_wp2_with (refine wpList_load_row rfl 49 _ rfl w.heap.size rfl 49 (relC r) (0, 0) _ (show Blk _ w.heap.size 49 (relC r) from Blk.newAt rfl) underR rfl (sizeR hr) ?_; refine wpList_build rfl 49 _ rfl (by kernel_rfl) ?_; refine wpList_frame (b := { tmps := #[.agg (relC r), .pointer (some ⟨w.heap.size, 0, none⟩), .bool false, .agg (relC r), .agg (relC zeroR), undef], defers := [] }) (by kernel_rfl) ?_)
  go_ret
  exact ⟨rfl, bal (Below.refl _ _) _⟩
end Go.Proofs.YtifjenleoagefaaGreat
