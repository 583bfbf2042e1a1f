/- HELPER, no statement of the seat: several texts in one file. -/
import Derived.Test.YtifjenleoagefaaGreatCgc
import Derived.Test.YtifjenleoagefaaGreatCgl
import Derived.Test.YtifjenleoagefaaGreatRs
import Derived.Maps.AppendAt
import Derived.Test.YtifjenleoagefaaGreatCgb
import Derived.Test.YtifjenleoagefaaGreatRdi
import Derived.Test.YtifjenleoagefaaGreatRf
import Derived.Test.YtifjenleoagefaaGreatRd
import Derived.Test.YtifjenleoagefaaGreatCgg
import Derived.Test.YtifjenleoagefaaGreatEdg
/- HELPER, no statement of the seat: the entries of a table of distances. -/
namespace Go.Proofs.YtifjenleoagefaaGreat
open Go.RowKit Go.Sort Go.Shelf
set_option linter.unusedSimpArgs false
set_option linter.unusedVariables false

theorem underD : Tryz.prog.underlying 65 = some (.array 20 3) := Tryz.underlying65
theorem run_indexD (cs : Array Value) (k : Nat) (v : Value) (hk : k < 20) (hv : cs[k]? = some v) (w : World) : (Instr.index 65 (.agg cs) (.int .i64 k)).run Tryz.prog w = .ok v w := by
  have hi : (Tryz.prog.info? 3).map (·.size) = some 1 := by kernel_rfl
  have hs : (sizeOf 3).run Tryz.prog w = .ok 1 w := by
    cases hq : Tryz.prog.info? 3 with
    | none => rw [hq] at hi; cases hi
    | some i =>
      rw [hq] at hi
      simp at hi
      simp [sizeOf, typeInfo, hq, hi]
  have ha : (isAgg 3).run Tryz.prog w = .ok false w := by
    unfold isAgg
    rw [Sem.run_bind, run_underlying Tryz.underlying3 w]
    rfl
  have hlt : (0 : Int) ≤ (k : Int) ∧ (k : Int) < ((20 : Nat) : Int) := by omega
  unfold Instr.index
  simp only [go_sem]
  rw [Sem.run_bind, Sem.run_pure, Result.andThen_ok, Sem.run_bind, run_underlying underD w, Result.andThen_ok]
  simp only []
  rw [if_pos hlt, Sem.run_bind, hs, Result.andThen_ok, Sem.run_bind, ha, Result.andThen_ok]
  simp [hv]
theorem run_loadVar_at {P : Program} (w : World) (g off : Nat) (ty : TypeId) (vs : List Value) (d : TypeDesc) (hc : ∀ j v, vs[j]? = some v → w.cell? ⟨g, off + j, none⟩ = some v)
    (hu : P.underlying ty = some d) (hd : (match d with | .struct _ | .array _ _ => true | _ => false) = true) (hi : (P.info? ty).map (·.size) = some vs.length) :
    (loadVar ty ⟨g, off, none⟩).run P w = .ok (.agg vs.toArray) w := by
  have hl : (loadCells ⟨g, off, none⟩ vs.length).run P w = .ok vs.toArray w :=
    run_loadCells_list (P := P) w ⟨g, off, none⟩ vs (fun j v hv => by
      have hadd : (⟨g, off, none⟩ : Addr).add j = ⟨g, off + j, none⟩ := by unfold Addr.add; split <;> simp_all
      rw [hadd]; exact hc j v hv)
  cases hq : P.info? ty with
  | none => simp [hq] at hi
  | some i =>
    have hs : i.size = vs.length := by simpa [hq] using hi
    have hagg : (isAgg ty).run P w = .ok true w := by
      unfold isAgg
      rw [Sem.run_bind, run_underlying hu w]
      cases d <;> simp_all
    simp [loadVar, Sem.run_bind, hagg, sizeOf, typeInfo, hq, hs, hl]
theorem wp_load_at {P : Program} {o : Oper} {a : Act} {w : World} {K : Act → World → Prop} {Q : Exit → Act → World → Prop} (ty : TypeId) (x : Operand) (ho : o.op = .load ty x)
    (g off : Nat) (hx : a.eval x = .pointer (some ⟨g, off, none⟩)) (vs : List Value) (d : TypeDesc) (hc : ∀ j v, vs[j]? = some v → w.cell? ⟨g, off + j, none⟩ = some v)
    (hu : P.underlying ty = some d) (hd : (match d with | .struct _ | .array _ _ => true | _ => false) = true) (hi : (P.info? ty).map (·.size) = some vs.length)
    (h : K (a.put o.dst (.agg vs.toArray)) w) : o.wp P a w K Q := by
  unfold Oper.wp execOp
  simp only [ho, hx, Instr.loadAt, Instr.sureAddr, Sem.run_bind, Sem.run_pure, Result.andThen_ok, run_loadVar_at w g off ty vs d hc hu hd hi]
  exact h
theorem wpList_load_at {P : Program} {ops : Array Oper} {rest : List Oper} {o : Oper} {a : Act} {w : World} {Q : Exit → Act → World → Prop} (hgd : o.guard = none) (ty : TypeId) (x : Operand) (ho : o.op = .load ty x)
    (g off : Nat) (hx : a.eval x = .pointer (some ⟨g, off, none⟩)) (vs : List Value) (d : TypeDesc) (hc : ∀ j v, vs[j]? = some v → w.cell? ⟨g, off + j, none⟩ = some v)
    (hu : P.underlying ty = some d) (hd : (match d with | .struct _ | .array _ _ => true | _ => false) = true) (hi : (P.info? ty).map (·.size) = some vs.length)
    (h : wpList P ops Q rest (a.put o.dst (.agg vs.toArray)) w) : wpList P ops Q (o :: rest) a w :=
  wpList_plain hgd fun _ hK => wp_load_at ty x ho g off hx vs d hc hu hd hi (hK _ _ h)
theorem infoD : (Tryz.prog.info? 65).map (·.size) = some 20 := by kernel_rfl
theorem ent_srcsD {w1 : World} {RA : Option Addr} {n rc : Nat} {x : Int} {E : TypeId} {g : Nat} (hg : w1.heap.size = g) : ∀ j u, [Value.slice RA n rc, .int .i64 x][j]? = some u → (w1.alloc (.cells #[.slice RA n rc, .int .i64 x] E)).cell? ((⟨g, 0, none⟩ : Addr).add j) = some u := by
  intro j u hu
  subst hg
  match j, hu with
  | 0, hu => simp at hu; subst hu; simp [Addr.add]
  | 1, hu => simp at hu; subst hu; simp [Addr.add]
def enRow (T : List Int) (x k : Nat) : List Ent := ((List.range k).filter fun y => decide (0 < getT T x y)).map fun (y : Nat) => ([(x : Int), (y : Int), getT T x y], (1 : Int))
def enTo (T : List Int) (x k : Nat) : List Ent := ((List.range x).flatMap fun (x : Nat) => enRow T x 20) ++ enRow T x k
theorem enRow_len (T : List Int) (x k : Nat) : (enRow T x k).length ≤ k := by
  rw [enRow, List.length_map]; exact Nat.le_trans (List.length_filter_le _ _) (by simp)
theorem enTo_len (T : List Int) {x k : Nat} (hx : x ≤ 20) (hk : k ≤ 20) : (enTo T x k).length ≤ 420 := by
  have h1 := flatR_len (fun (x : Nat) => enRow T x 20) 20 (fun x => enRow_len T x 20) (List.range x)
  have h2 := enRow_len T x k
  rw [List.length_range] at h1
  rw [enTo, List.length_append]
  have h3 : x * 20 ≤ 20 * 20 := Nat.mul_le_mul_right _ hx
  omega
theorem enRow_zero (T : List Int) (x : Nat) : enRow T x 0 = [] := rfl
theorem enTo_next (T : List Int) (x : Nat) : enTo T x 20 = enTo T (x + 1) 0 := by
  unfold enTo
  rw [enRow_zero, List.append_nil, List.range_succ, List.flatMap_append, List.flatMap_singleton]
theorem enTo_end (T : List Int) : enTo T 20 0 = entT T := by
  unfold enTo
  rw [enRow_zero, List.append_nil]; rfl
theorem enTo_step (T : List Int) (x k : Nat) : enTo T x (k + 1) = enTo T x k ++ if 0 < getT T x k then [([(x : Int), (k : Int), getT T x k], 1)] else [] := by
  have h1 : enRow T x (k + 1) = enRow T x k ++ if 0 < getT T x k then [([(x : Int), (k : Int), getT T x k], 1)] else [] := by
    unfold enRow
    rw [List.range_succ, List.filter_append, List.map_append]
    congr 1
    by_cases h : 0 < getT T x k <;> simp [h]
  unfold enTo
  rw [h1, List.append_assoc]
theorem ints_at {T : List Int} (hT : T.length = 400) {x y : Nat} (hx : x < 20) (hy : y < 20) : (ints T)[x * 20 + y]? = some (.int .i64 (getT T x y)) := by
  have h : 20 * x + y < T.length := by omega
  rw [show x * 20 + y = 20 * x + y by omega]
  simp [ints, getT, h]
def rowL (T : List Int) (x : Nat) : List Value := (List.range 20).map fun y => Value.int .i64 (getT T x y)
theorem rowL_len (T : List Int) (x : Nat) : (rowL T x).length = 20 := by rw [rowL, List.length_map, List.length_range]
theorem rowL_at (T : List Int) (x : Nat) {y : Nat} (hy : y < 20) : (rowL T x)[y]? = some (.int .i64 (getT T x y)) := by
  rw [rowL, List.getElem?_map, List.getElem?_range hy]; rfl
set_option maxRecDepth 100000 in
set_option maxHeartbeats 6400000 in
theorem entries_w (T : List Int) (w : World) (hT : T.length = 400) :
    Calls Tryz.prog 43 #[.agg (ints T)] w fun e w' => ∃ A' c', e = .returned (.slice A' (entT T).length c') ∧ EntsOw w' (news w w') A' c' (entT T) ∧ Below w.heap.size w w' := by
  obtain ⟨i0, hi, hz0, hz1, hz2⟩ := info_parts Tryz.infoEnt
  go_enter Tryz.func43, Tryz.ntmps43
  go_wp2_with fail
  refine abs_world (fun W => Blk W w.heap.size 67 (ints T) ∧ Below w.heap.size w W) ⟨Blk.newAt rfl, bal (Below.refl _ _) _⟩ ?_
  rintro W1 ⟨hB1, hbW⟩
  have HEND := Lib.hid (enTo_end T)
  have hs1 : w.heap.size < W1.heap.size := hB1.lt
  go_wp2
  go_loopw [3, 7] (fun v i wr => ∃ (x : Nat) (A : Option Addr) (c : Nat), x ≤ 20 ∧ i = .int .i64 (x : Nat) ∧ v = .slice A (enTo T x 0).length c ∧ EntsOw wr (news W1 wr) A c (enTo T x 0) ∧ Below W1.heap.size W1 wr) (fun _ i _ => 20 - (intOf i).toNat)
  case atStart => exact ⟨0, none, 0, by omega, rfl, rfl, ⟨_, _, SlF.nil (fun k hk => hk.2)⟩, Below.refl _ _⟩
  case round =>
    obtain ⟨x, A, c, hx, rfl, rfl, hO, hbel⟩ := hrel
    by_cases hlt : x < 20
    · have hltI : (x : Int) < 20 := by omega
      have hxs : (x : Int) < ((20 : Nat) : Int) := by omega
      have HO := Lib.hid hO
      have hB := hB1.below hbel
      have HN := Lib.hid (enTo_next T x)
      have hrow : ∀ j v, (rowL T x)[j]? = some v → wr.cell? ⟨w.heap.size, x * 20 + j, none⟩ = some v := fun j v hv => by
        have hj : j < 20 := by
          have h := (List.getElem?_eq_some_iff.1 hv).1
          rw [rowL_len] at h; exact h
        rw [rowL_at T x hj] at hv
        rw [← hv]
        exact (hB.cell (x * 20 + j)).trans (ints_at hT hlt hj)
      have hix : ∀ y : Nat, y < 20 → ∀ W, (Instr.index 65 (.agg (rowL T x).toArray) (.int .i64 (y : Int))).run Tryz.prog W = .ok (.int .i64 (getT T x y)) W := fun y hy W => run_indexD _ y _ hy (by rw [List.getElem?_toArray]; exact rowL_at T x hy) W
      have hinf : (Tryz.prog.info? 65).map (·.size) = some (rowL T x).length := by rw [rowL_len]; exact infoD
      have HIX := Lib.hid hix
      have HST := Lib.hid (fun k => enTo_step T x k)
      have hS := Lib.hid hbel
      clear hO hbel hix hB
      go_wp2_with (refine wpList_load_at rfl 65 _ rfl w.heap.size (x * 20) rfl (rowL T x) _ hrow underD rfl hinf ?_)
      clear hrow hinf
      obtain ⟨V, rfl⟩ : ∃ V : World, V = wr := ⟨_, rfl⟩
      go_loopw [3, 13] (fun v j wr => ∃ (k : Nat) (A : Option Addr) (c : Nat), k ≤ 20 ∧ j = .int .i64 (k : Nat) ∧ v = .slice A (enTo T x k).length c ∧ EntsOw wr (news W1 wr) A c (enTo T x k) ∧ Below W1.heap.size W1 wr) (fun _ j _ => 20 - (intOf j).toNat)
      case atStart => exact ⟨0, A, c, by omega, rfl, rfl, HO.out, hS.out⟩
      case round =>
        clear HO hS
        obtain ⟨k, A, c, hk, rfl, rfl, hO, hbel⟩ := hrel
        by_cases hkl : k < 20
        · have hkI : (k : Int) < 20 := by omega
          have hix := HIX.out k hkl
          have hst := HST.out k
          have hlen := enTo_len T (x := x) (k := k) (by omega) hk
          have hbase0 := hbel.size
          generalize hd : getT T x k = d at *
          have HD := Lib.hid hd
          clear hd
          by_cases h0 : 0 < d
          · rw [if_pos h0] at hst
            have HSTI := Lib.hid hst
            obtain ⟨css, F, hfl⟩ := hO
            generalize enTo T x k = M at *
            have hb1 : Below wr.heap.size wr (wr.alloc (.cells #[.int .i64 (x : Int), .int .i64 (k : Int), .int .i64 d] 3)) := bal (Below.refl _ _) _
            have ho : IntsOwn (wr.alloc (.cells #[.int .i64 (x : Int), .int .i64 (k : Int), .int .i64 d] 3)) wr.heap.size (some ⟨wr.heap.size, 0, none⟩) 3 [(x : Int), (k : Int), d] := World.ownsRow_lit (base := wr.heap.size) (size := 1) (e := 3) wr #[.int .i64 (x : Int), .int .i64 (k : Int), .int .i64 d] 3 (Nat.le_refl _) (by simp [maxLen]) (by simp)
            have hrow2 := (hfl.loc entO (fun q hq => hb1.block q hq.2)).row
            have hbase : ∀ q, blk A = some q → W1.heap.size ≤ q := fun q hq => (hfl.top q hq).1
            have hrow3 := (ownsRow_base hrow2 hbase).alloc (.cells #[.slice (some ⟨wr.heap.size, 0, none⟩) 3 3, .int .i64 1] 33)
            have HF := Lib.hid (And.intro hfl (And.intro hbel (And.intro hb1 ho)))
            clear hst hfl hb1 ho hrow2 hbase hbel
            go_wp2_with (at_builtin; refine wpList_append_own_at _ rfl _ _ 23 rfl W1.heap.size 33 i0 (.agg #[.slice none 0 0, .int .i64 0]) 2 32 Tryz.underlying23 hi hz0 hz1 hz2 rfl (by decide) (.slice A M.length c) _ _ rfl hrow3 ⟨wr.heap.size + 1, 0, none⟩ 1 1 [.slice (some ⟨wr.heap.size, 0, none⟩) 3 3, .int .i64 1] rfl rfl (ent_srcsD (by simp)) ent_ones (by unfold maxLen; omega) (by omega) (by simp; omega) ?_)
            intro v' w4 hrow' hgrow hnil hat
            rw [ownBlock_slice] at hgrow
            obtain ⟨hfl, hbel, hb1, ho⟩ := HF.out
            have hp2 := SlF.pushE (w2 := w4) hfl hbel hb1 ho hrow' hgrow (fun q hq => by
              rcases hat with h | h
              · rw [ownBlock_slice] at h; exact .inl (h ▸ hq)
              · right
                rw [h] at hq
                have h2 := Option.some.inj hq
                rw [World.size_alloc]
                omega)
            obtain ⟨A3, c3, rfl, ho3, hb3⟩ := hp2
            have hM1 : enTo T x (k + 1) = M ++ [([(x : Int), (k : Int), d], 1)] := HSTI.out
            have HO3 : Hid (EntsOw w4 (news W1 w4) A3 c3 (enTo T x (k + 1))) := by rw [Hid, hM1]; exact ho3
            have HL : Hid (M.length + 1 = (enTo T x (k + 1)).length) := by rw [Hid, hM1]; simp
            have HB3 := Lib.hid hb3
            clear hrow' hgrow hnil hat hfl hbel hb1 ho ho3 hb3 HF hrow3 hM1
            go_wp2
            go_roundw
            case rel => exact ⟨k + 1, A3, c3, by omega, by go_num, by rw [HL.out], HO3.out, HB3.out⟩
            case measure => simp [intOf]; omega
          · rw [if_neg h0, List.append_nil] at hst
            have HSTI := Lib.hid hst
            have HO := Lib.hid hO
            have HB3 := Lib.hid hbel
            clear hst hO hbel
            go_wp2
            go_roundw
            case rel => exact ⟨k + 1, A, c, by omega, by go_num, by rw [HSTI.out], by rw [HSTI.out]; exact HO.out, HB3.out⟩
            case measure => simp [intOf]; omega
        · obtain rfl : k = 20 := by omega
          have HNL : Hid ((enTo T x 20).length = (enTo T (x + 1) 0).length) := by rw [Hid, HN.out]
          rw [HN.out] at hO
          have HO := Lib.hid hO
          have HB3 := Lib.hid hbel
          clear hO hbel
          go_wp2
          go_roundw
          case rel => exact ⟨x + 1, A, c, by omega, by go_num, by rw [HNL.out], HO.out, HB3.out⟩
          case measure => simp [intOf]; omega
    · obtain rfl : x = 20 := by omega
      have hs2 := hbel.size
      have HNL : Hid ((enTo T 20 0).length = (entT T).length) := by rw [Hid, HEND.out]
      rw [HEND.out] at hO
      have HO := Lib.hid (hO.mono (S' := news w wr) (fun q hq => ⟨by have := hq.1; omega, hq.2⟩) (fun q hq => hq.2))
      have HB := Lib.hid (btr hbW hbel)
      clear hO hbel
      go_wp2
      go_ret
      exact ⟨A, c, by rw [← HNL.out]; rfl, HO.out, HB.out⟩
end Go.Proofs.YtifjenleoagefaaGreat

/- HELPER, no statement of the seat: the program's table of distances: a range over an iterator inside a range over an iterator. -/
namespace Go.Proofs.YtifjenleoagefaaGreat
open Go.RowKit Go.Sort Go.Shelf
set_option linter.unusedSimpArgs false
set_option linter.unusedVariables false
attribute [local go_sem] Oper.semAt_some

theorem goodN {B n₀ : Nat} {W : World} {t : TypeId} {cs : Array Value} (h : Blk W B t cs) (hs : cs.size ≠ 1) (hn : n₀ ≤ B) : GoodO [B] n₀ W ∧ ∀ k, OwB [B] W k → k = B := by
  have hr : ∀ k, ¬ RowOf W B k := by
    rintro k ⟨n, c, T, e⟩
    rw [show W.heap[B]? = _ from h] at e
    injection e with e
    injection e with e
    rw [e] at hs
    simp at hs
  have ho : ∀ k, OwB [B] W k → k = B := by
    rintro k ⟨B', hB', rfl | h'⟩
    · simpa using hB'
    · simp at hB'; subst hB'; exact absurd h' (hr k)
  refine ⟨⟨fun B' hB' => ?_, fun k hk => ?_⟩, ho⟩
  · simp at hB'; subst hB'; exact ⟨hn, h.lt⟩
  · rw [ho k hk]; exact ⟨hn, h.lt⟩
theorem kpO_cellN {W : World} {g x n₀ : Nat} {t : TypeId} {cs : Array Value} {v : Value} (h : Blk W g t cs) (hs : cs.size ≠ 1) (hn : n₀ ≤ g) : KpO [g] n₀ W (W.drew.setCell ⟨g, x, none⟩ v) ∧ ∀ B, KeepsFrom B W (W.drew.setCell ⟨g, x, none⟩ v) := by
  have hW' : Blk (W.drew.setCell ⟨g, x, none⟩ v) g t (cs.setIfInBounds x v) := h.drew.set_ x v
  obtain ⟨g1, o1⟩ := goodN (n₀ := n₀) h hs hn
  obtain ⟨g2, o2⟩ := goodN (n₀ := n₀) hW' (by simpa using hs) hn
  have hg := grown_cell W g x v
  refine ⟨kpO_grown hg (Nat.le_trans hn (Nat.le_of_lt h.lt)) (fun k hk => ⟨by rw [hk]; exact hn, fun _ => ⟨g, by simp, .inl hk⟩⟩) (fun k hk _ => ⟨g, by simp, .inl (o2 k hk)⟩) (fun _ => g2), fun B => keepsFrom_grown hg (fun k o hk ho => ?_)⟩
  subst hk
  exact blk_cells h o ho
/-- A block that is no cells' changes, from lo on. -/
theorem kpO_own {Bs : List Nat} {n₀ lo : Nat} {X Y : World} {row : Option Nat} (hg : X.grownBy Y row) (hr : ∀ r, row = some r → lo ≤ r ∧ ∃ o : Obj, X.heap[r]? = some o ∧ o.isCells = false) (hn : n₀ ≤ lo) (hX : n₀ ≤ X.heap.size) (hBs : ∀ B ∈ Bs, B < lo) : KpO Bs n₀ X Y := by
  have hs : GoodO Bs n₀ X → ∀ B ∈ Bs, Y.heap[B]? = X.heap[B]? := fun hgd B hB => hg.block B (hgd.1 B hB).2 (fun e => by have := (hr B e.symm).1; have := hBs B hB; omega)
  refine ⟨⟨hg.os, hg.tape, hg.output, hg.size, fun k hk => hg.block k (by omega) (fun e => by have := (hr k e.symm).1; omega)⟩, fun hgd => ⟨fun k o hk ho _ => ?_, fun k hk _ => (owB_same (hs hgd) k).1 hk, ⟨fun B hB => ⟨(hgd.1 B hB).1, Nat.lt_of_lt_of_le (hgd.1 B hB).2 hg.size⟩, fun k hk => ?_⟩⟩⟩
  · refine (hg.block k (Array.getElem?_eq_some_iff.1 hk).1 (fun e => ?_)).trans hk
    obtain ⟨_, o', h1, h2⟩ := hr k e.symm
    rw [hk] at h1; injection h1 with h1; subst h1
    rw [ho] at h2; cases h2
  · have := hgd.2 k ((owB_same (hs hgd) k).1 hk)
    exact ⟨this.1, Nat.lt_of_lt_of_le this.2 hg.size⟩
theorem ints_setT (T : List Int) (x y : Nat) (d : Int) : (ints T).setIfInBounds (x * 20 + y) (.int .i64 d) = ints (setT T x y d) := by
  rw [setT, show 20 * x + y = x * 20 + y by omega]
  simp [ints, List.map_set]
theorem ints_one2 (T : List Int) : (ints T).all (·.oneCell') = true := by simp [ints, List.all_map, Value.oneCell']
theorem underDT_ : Tryz.prog.underlying 67 = some (.array 20 65) := Tryz.underlying67
theorem infoDT_ : (Tryz.prog.info? 67).map (·.size) = some 400 := by kernel_rfl
theorem sizeDT_ {T : List Int} (h : T.length = 400) : (Tryz.prog.info? 67).map (·.size) = some (ints T).size := by rw [ints_size, h]; exact infoDT_
theorem zcT : Tryz.zeroCells67 = ints zeroT := by kernel_rfl
def TbI (w : World) (T : List Int) (W : World) : Prop := Blk W (w.heap.size + 1 + 1) 67 (ints T) ∧ Blk W (w.heap.size + 1) 67 (ints zeroT) ∧ Below w.heap.size w W
theorem TbI.grown {w W W' : World} {T : List Int} {row : Option Nat} {lo : Nat} (h : TbI w T W) (hg : W.grownBy W' row) (hr : ∀ r, row = some r → lo ≤ r) (hlo : w.heap.size + 1 + 1 < lo) : TbI w T W' :=
  ⟨(hg.block _ h.1.lt (fun e => by have := hr _ e.symm; omega)).trans h.1, (hg.block _ h.2.1.lt (fun e => by have := hr _ e.symm; omega)).trans h.2.1, below_stays h.2.2 hg hr (by omega)⟩
theorem TbI.below {w W W' : World} {T : List Int} (h : TbI w T W) (hb : Below W.heap.size W W') : TbI w T W' := ⟨h.1.below hb, h.2.1.below hb, btr h.2.2 hb⟩
def tblP (pre : List Rnd) : List Int := tblN zeroT (pre.map Subtype.val)
theorem tblP_snoc (pre : List Rnd) (x : Rnd) : tblP (pre ++ [x]) = roundTo (tblP pre) x.1.2 (x.1.1 : Int) 20 := by simp [tblP, tblN]
theorem roundTo_len (T : List Int) (l : List Nat) (d : Int) : ∀ k, (roundTo T l d k).length = T.length
  | 0 => rfl
  | k + 1 => by
    have hrow : ∀ (ys : List Nat) (T : List Int), (rowT T k d ys).length = T.length := fun ys => by
      induction ys with
      | nil => intro T; rfl
      | cons y ys ih => intro T; show (rowT (setT T k y d) k d ys).length = _; rw [ih]; simp [setT]
    rw [roundTo_succ, hrow, roundTo_len T l d k]
theorem rowT_len (T : List Int) (k : Nat) (d : Int) : ∀ ys : List Nat, (rowT T k d ys).length = T.length := fun ys => by
  induction ys generalizing T with
  | nil => rfl
  | cons y ys ih => show (rowT (setT T k y d) k d ys).length = _; rw [ih]; simp [setT]
theorem tblP_len (pre : List Rnd) : (tblP pre).length = 400 := by
  have : ∀ (L : List (Nat × List Nat)) (T : List Int), T.length = 400 → (tblN T L).length = 400 := fun L => by
    induction L with
    | nil => intro T h; exact h
    | cons p L ih => intro T h; exact ih _ (by rw [roundTo_len]; exact h)
  exact this _ _ zeroT_len
theorem rowT_snoc (T : List Int) (k : Nat) (d : Int) (l : List Nat) (y : Nat) : rowT T k d (l ++ [y]) = setT (rowT T k d l) k y d := by simp [rowT]
/-- What stands inside a round of the outer range. -/
def NsI (w W0 : World) (l g b : Nat) (d : Int) (T : List Int) (W : World) : Prop :=
  TbI w T W ∧ Blk W g 3 #[.int .i64 d] ∧ (∃ rec, W.heap[l]? = some (.loop rec)) ∧ KeepsFrom b W0 W ∧ KpO [w.heap.size + 1 + 1] w.heap.size W0 W ∧ W0.heap.size ≤ W.heap.size
theorem NsI.below {w W0 : World} {l g b : Nat} {d : Int} {T : List Int} {W W' : World} (h : NsI w W0 l g b d T W) (hb : Below W.heap.size W W') : NsI w W0 l g b d T W' := by
  obtain ⟨h1, h2, ⟨rec, h3⟩, h4, h5, h6⟩ := h
  refine ⟨h1.below hb, h2.below hb, ⟨rec, (hb.block l (Array.getElem?_eq_some_iff.1 h3).1).trans h3⟩, ⟨Nat.le_trans h4.size hb.size, fun k o hk h0 ho => ?_⟩, kpO_t h5 (kpO_below h1.2.2.size hb), Nat.le_trans h6 hb.size⟩
  have := h4.same k o hk h0 ho
  exact (hb.block k (Array.getElem?_eq_some_iff.1 this).1).trans this
theorem nsI_own {β : Type} {w W0 : World} {l g b lo BX : Nat} {d : Int} {t : TypeId} {cs : Array Value} (T : β → List Int) (hw : w.heap.size + 1 + 1 < lo) (hW0 : W0.heap.size ≤ lo) (hl : l < lo) (hB : W0.heap.size ≤ lo) : OwnFrom lo (fun s W => NsI w W0 l g b d (T s) W ∧ Blk W BX t cs) := by
  rintro s X Y row ⟨⟨h1, h2, ⟨rec, h3⟩, h4, h5, h6⟩, h7⟩ hg hr
  have hb : ∀ (g : Nat) (t : TypeId) (cs : Array Value), Blk X g t cs → Blk Y g t cs := fun g t cs h => ownBlk (β := Unit) g t (fun _ => cs) () X Y row h hg (fun r e => (hr r e).2)
  exact ⟨⟨⟨hb _ _ _ h1.1, hb _ _ _ h1.2.1, below_stays h1.2.2 hg (fun r e => (hr r e).1) (by omega)⟩, hb _ _ _ h2, ⟨rec, (hg.block l (Array.getElem?_eq_some_iff.1 h3).1 (fun e => by have := (hr l e.symm).1; omega)).trans h3⟩, ownFrom_keepsFrom (β := Unit) hW0 () X Y row h4 hg hr, kpO_t h5 (kpO_own hg hr (by omega) h1.2.2.size (fun B hB => by simp at hB; omega)), Nat.le_trans h6 hg.size⟩, hb _ _ _ h7⟩
set_option maxRecDepth 100000 in
set_option maxHeartbeats 6400000 in
theorem distances_w (r : List Nat) (w : World) (hr : OkR r) :
    Calls Tryz.prog 42 #[.agg (relC r)] w fun e w' => e = .returned (.agg (ints (distT r))) ∧ Below w.heap.size w w' := by
  refine (callsIn_wide (n := 12)).1 ?_
  refine callsIn_of_wp_marks Tryz.func42 rfl trivial ?_ rfl
  simp only [Tryz.ntmps42, List.size_toArray, List.length_cons, List.length_nil, Nat.reduceAdd, Nat.reduceSub, Array.replicate_succ, Array.replicate_zero, List.push_toArray, List.append_toArray, List.nil_append, List.cons_append]
  /-MAIN-/
  have h1 : Blk (((w.alloc (.cells (relC r) 49)).alloc (.cells (Tryz.zeroCells67) 67)).alloc (.cells (Tryz.zeroCells67) 67)) w.heap.size 49 (relC r) := ((Blk.newAt rfl).alloc _).alloc _
  have hB0 : Below w.heap.size w (((w.alloc (.cells (relC r) 49)).alloc (.cells (Tryz.zeroCells67) 67)).alloc (.cells (Tryz.zeroCells67) 67)) := bal (bal (bal (Below.refl _ _) _) _) _
  have HI0 : Hid (TbI w zeroT (((w.alloc (.cells (relC r) 49)).alloc (.cells (Tryz.zeroCells67) 67)).alloc (.cells (Tryz.zeroCells67) 67))) := by rw [zcT]; exact ⟨Blk.newAt (by simp), (Blk.newAt (by simp)).alloc _, by rw [← zcT]; exact hB0⟩
  clear hB0
  gi_wp2_with (first | refine wpListIn_load_row rfl 49 _ rfl w.heap.size rfl 49 (relC r) (0, 0) _ h1 underR rfl (sizeR hr) ?_ | (refine ⟨trivial, ?_⟩; gi_at_call 24; refine (callsIn_wide.2 (rounds_i r _ hr)).mono ?_; rintro e w2 ⟨rfl, hV, hb2⟩))
  have hV1 : Blk w2 (w.heap.size + 1 + 1 + 1) 49 (relC r) := by simpa using hV
  have hs2 : w.heap.size + 1 + 1 + 1 < w2.heap.size := hV1.lt
  have hI2 : TbI w zeroT w2 := HI0.out.below hb2
  obtain ⟨hG, hOw⟩ := goodN (n₀ := w.heap.size) hI2.1 (by rw [ints_size, zeroT_len]; decide) (by omega)
  clear hV hb2 h1 HI0
  have HI := Lib.hid hI2
  refine range_givesH (n := 12) (m := 2) (N := (rds r).length) (gf := 52) (lb := #[.pointer (some ⟨w.heap.size + 1 + 1 + 1, 0, none⟩)]) (encs := encR) (Kp := KpO [w.heap.size + 1 + 1] w.heap.size) (S := fun ys : List Rnd => ys.map Subtype.val = numR 1 (rds r))
    (by omega) rfl (fun _ _ => rfl)
    (fun W1 hb hsz => rounds_own (w.heap.size + 1 + 1 + 1) w.heap.size (12 - 1) r W1 [w.heap.size + 1 + 1] (hV1.below hb) hr (hG.below hb) (fun ho => by
      have := (owB_same (fun B hB => hb.block B (hG.1 B hB).2) _).1 ho
      have := hOw _ this; omega) (by omega))
    kpO_t (kpO_b (by omega) (by simp; omega)) (fun _ => rfl)
    (fun pre W => TbI w (tblP pre) W) (fun pre A B row hs hg hr => hs.grown (lo := w2.heap.size) hg (fun r e => (hr r e).1) (by omega)) hI2
    (fun x a' W => ∃ g, w2.heap.size + 2 ≤ g ∧ Blk W g 3 #[.int .i64 ((x.1.1 : Nat) : Int)] ∧ Blk W (g + 1) 49 (relC x.1.2) ∧ a' = { tmps := #[.agg (relC r), .pointer (some ⟨w.heap.size, 0, none⟩), .pointer (some ⟨w.heap.size + 1, 0, none⟩), .pointer (some ⟨w.heap.size + 1 + 1, 0, none⟩), .pointer (some ⟨g, 0, none⟩), .pointer (some ⟨g + 1, 0, none⟩), undef, undef, undef, .agg (relC r), .func (.func 52) #[] #[.pointer (some ⟨w.heap.size + 1 + 1 + 1, 0, none⟩)], .int .i64 ((x.1.1 : Nat) : Int), .agg (relC x.1.2), undef, undef, undef, undef, undef, undef, undef, undef, undef, undef, undef, undef, undef, undef, undef], defers := [] })
    (fun x a' _ A B row hs hg hr => by
      obtain ⟨g, h1, h2, h3, h4⟩ := hs
      exact ⟨g, h1, (hg.block g h2.lt (fun e => by have := hr g e.symm; omega)).trans h2, (hg.block (g + 1) h3.lt (fun e => by have := hr (g + 1) e.symm; omega)).trans h3, h4⟩)
    ?assign ?body ?done
  case assign =>
    rintro l pre x W K hI hsz hK
    have hx := x.2
    gi_wp2_with (refine wpListIn_store_row rfl 49 _ _ rfl (W.heap.size + 1) (relC x.1.2) rfl rfl 49 (relC zeroR) (show Blk _ (W.heap.size + 1) 49 (relC zeroR) from Blk.newAt (by simp)) (sizeR hx) (by rw [relC_size, relC_size, hx.len]; rfl) (relC_one _) ?_)
    have hb : Below W.heap.size W (((W.alloc (.cells #[.int .i64 ((x.1.1 : Nat) : Int)] 3)).alloc (.cells (relC zeroR) 49)).setRow (W.heap.size + 1) (relC x.1.2)) := brow (bal (bal (Below.refl _ _) _) _) (by omega) _
    exact hK _ _ (keepsFrom_grown (GrownS.ofBelow (S := fun _ => False) hb) (fun _ _ h => h.elim)) (kpO_below hI.2.2.size hb) (hI.below hb) ⟨W.heap.size, by omega, ((Blk.newAt rfl).alloc _).rowFar (by omega) _, (Blk.newAt (cs := relC zeroR) (by simp)).row _, rfl⟩
  case body =>
    rintro l pre x a' W hl hl2 hI ⟨g, hg, hX, hXq, rfl⟩ hlt hroom ⟨rec0, hrec⟩
    have hq := x.2
    have HSN := Lib.hid (tblP_snoc pre x)
    have HTL := Lib.hid (tblP_len pre)
    generalize tblP pre = T at *
    obtain ⟨⟨d, q⟩, hq0⟩ := x
    simp only at hq hX hXq HSN
    have HN0 : Hid (NsI w W l g w2.heap.size (d : Int) (roundTo T q (d : Int) 0) W) := ⟨hI, hX, ⟨rec0, hrec⟩, (KeepsOthers.refl _).from _, kpO_below hI.2.2.size (Below.refl _ _), Nat.le_refl _⟩
    have hgl := hX.lt
    clear hI hX hrec hlt
    gi_wp2_with (refine wpListIn_load_row rfl 49 _ rfl (g + 1) rfl 49 (relC q) (0, 0) _ hXq underR rfl (sizeR hq) ?_)
    /-LOOP-/
    have HNN : Hid (∀ k, roundTo T q (d : Int) (k + 1) = rowT (roundTo T q (d : Int) k) k (d : Int) (vtx (q.getD k 0))) := fun k => roundTo_succ T q (d : Int) k
    have HRL : Hid (∀ k, (roundTo T q (d : Int) k).length = 400) := fun k => (roundTo_len T q (d : Int) k).trans HTL.out
    clear hXq
    refine wpIn_loop (fun a' wr => ∃ (k : Nat) (u6 u7 u8 u15 u16 u17 u18 u19 u20 u21 u22 u23 u24 u25 u26 : Value), a' = { tmps := #[.agg (relC r), .pointer (some ⟨w.heap.size, 0, none⟩), .pointer (some ⟨w.heap.size + 1, 0, none⟩), .pointer (some ⟨w.heap.size + 1 + 1, 0, none⟩), .pointer (some ⟨g, 0, none⟩), .pointer (some ⟨g + 1, 0, none⟩), u6, u7, u8, .agg (relC r), .func (.func 52) #[] #[.pointer (some ⟨w.heap.size + 1 + 1 + 1, 0, none⟩)], .int .i64 ((d : Nat) : Int), .agg (relC q), .agg (relC q), .int .i64 ((k : Nat) : Int), u15, u16, u17, u18, u19, u20, u21, u22, u23, u24, u25, u26, undef], defers := [] } ∧ k ≤ 20 ∧ NsI w W l g w2.heap.size (d : Int) (roundTo T q (d : Int) k) wr) (fun a' _ => 20 - (intOf (a'.tmps.getD 14 undef)).toNat) ?_ ?_
    · exact ⟨0, _, _, _, _, _, _, _, _, _, _, _, _, _, _, _, rfl, by omega, HN0.out⟩
    · rintro _ wr ⟨k, u6, u7, u8, u15, u16, u17, u18, u19, u20, u21, u22, u23, u24, u25, u26, rfl, hk, hN⟩
      by_cases hlt : k < 20
      · have hix : ∀ W, (Instr.index 49 (.agg (relC q)) (.int .i64 (k : Int))).run Tryz.prog W = .ok (.int .u32 ((q.getD k 0 : Nat) : Int)) W := fun W => run_indexR _ k _ hlt (relC_at (by rw [hq.len]; exact hlt)) W
        have hlt' : (k : Int) < 20 := by omega
        have ha := hq.at k
        have HST := Lib.hid (HNN.out k)
        have HLEN := Lib.hid (HRL.out k)
        generalize q.getD k 0 = a at *
        generalize roundTo T q (d : Int) k = C at *
        have hsw : W.heap.size ≤ wr.heap.size := hN.2.2.2.2.2
        have hX : Blk (wr.alloc (.cells #[.int .i64 (k : Int)] 3)) wr.heap.size 3 #[.int .i64 (k : Int)] := Blk.newAt rfl
        have hN1 := hN.below (bal (Below.refl _ _) (.cells #[.int .i64 (k : Int)] 3))
        have HH := Lib.hid (And.intro hN1 hX)
        clear hN hN1 hX HN0
        gi_wp2_with (refine ⟨trivial, ?_⟩; gi_at_call 25; refine (CallsIn.inRound l (callsIn_wide.2 (vertices_i a _))).mono ?_; rintro e w3 ⟨rfl, hV, hb3⟩)
        obtain ⟨hN1, hX⟩ := HH.out
        have hV1 : Blk w3 (wr.heap.size + 1) 47 #[.int .u32 (a : Int)] := by simpa using hV
        have hN3 : NsI w W l g w2.heap.size (d : Int) (rowT C k (d : Int) ([] : List Nat)) w3 := hN1.below hb3
        have hX3 := hX.below hb3
        have hs3 := hb3.size
        simp at hs3
        obtain ⟨hG3, hOw3⟩ := goodN (n₀ := w.heap.size) hN3.1.1 (by rw [ints_size, rowT_len, HLEN.out]; decide) (by omega)
        have hno3 : ¬ OwB [w.heap.size + 1 + 1] w3 (wr.heap.size + 1) := fun ho => by have := hOw3 _ ho; omega
        obtain ⟨recI, hrecI⟩ := hN3.2.2.1
        have HI3 := Lib.hid (And.intro hN3 hX3)
        clear hX hN1 hV hN3 hX3 HH hb3 hOw3
        refine wpIn_rangeFunc_ownN (l₀ := l) rfl hrecI (by omega) (gf := 57) (lb := #[.pointer (some ⟨wr.heap.size + 1, 0, none⟩)]) rfl trivial (fun _ _ => rfl)
          (SeqStopsK.inRound l (vertices_stops (wr.heap.size + 1) a w.heap.size w3 [w.heap.size + 1 + 1] hV1 ha hG3 hno3 (12 - 1 - 1 - 1) (by omega))) kpO_t (kpO_b (by omega) (by simp; omega)) (Below.refl _ _) (fun _ => rfl)
          (fun pre W' => NsI w W l g w2.heap.size (d : Int) (rowT C k (d : Int) (pre.map Fin.val)) W' ∧ Blk W' wr.heap.size 3 #[.int .i64 (k : Int)]) (fun _ _ _ => False)
          (nsI_own (fun pre : List (Fin 20) => rowT C k (d : Int) (pre.map Fin.val)) (by omega) (by omega) (by omega) (by omega)) (fun _ _ _ _ _ hs _ _ => hs) HI3.out
          (fun y a' W => a' = { tmps := #[.agg (relC r), .pointer (some ⟨w.heap.size, 0, none⟩), .pointer (some ⟨w.heap.size + 1, 0, none⟩), .pointer (some ⟨w.heap.size + 1 + 1, 0, none⟩), .pointer (some ⟨g, 0, none⟩), .pointer (some ⟨g + 1, 0, none⟩), .pointer (some ⟨wr.heap.size, 0, none⟩), .int .u32 (a : Int), .int .i64 ((y.1 : Nat) : Int), .agg (relC r), .func (.func 52) #[] #[.pointer (some ⟨w.heap.size + 1 + 1 + 1, 0, none⟩)], .int .i64 ((d : Nat) : Int), .agg (relC q), .agg (relC q), .int .i64 (k : Int), .bool true, .int .i64 (k : Int), .int .u32 (a : Int), .int .u32 (a : Int), .func (.func 57) #[] #[.pointer (some ⟨wr.heap.size + 1, 0, none⟩)], .int .i64 ((y.1 : Nat) : Int), u21, u22, u23, u24, u25, u26, undef], defers := [] })
          (fun x a' W X Y row hs hg hr => hs)
          ?asg2 ?bdy2 ?don2 ?stp2
        case asg2 =>
          rintro l3 pre y W' K hI hK
          gi_wp2
          exact hK _ _ ((KeepsOthers.refl _).from _) (kpO_below hI.1.1.2.2.size (Below.refl _ _)) hI rfl
        case bdy2 =>
          rintro l3 pre y a' W' hl3 - hI rfl hlt3
          have hy20 : y.1 < 20 := y.2
          obtain ⟨hNs, hX⟩ := hI
          have hNs' := hNs
          obtain ⟨⟨hC, hZ, hB⟩, hG, hL, hKF, hKO, hsz⟩ := hNs
          have hlen : (rowT C k (d : Int) (pre.map Fin.val)).length = 400 := by rw [rowT_len]; exact HLEN.out
          have cX := hX.cell 0
          have cG := hG.cell 0
          simp at cX cG
          have hNEW : ∀ W2, W2 = W'.drew.setCell ⟨w.heap.size + 1 + 1, k * 20 + y.1, none⟩ (.int .i64 (d : Int)) → KeepsFrom w3.heap.size W' W2 ∧ KpO [w.heap.size + 1 + 1] w.heap.size W' W2 ∧ NsI w W l g w2.heap.size (d : Int) (rowT C k (d : Int) ((pre ++ [y]).map Fin.val)) W2 ∧ Blk W2 wr.heap.size 3 #[.int .i64 (k : Int)] := by
            rintro _ rfl
            have e : ints (rowT C k (d : Int) ((pre ++ [y]).map Fin.val)) = (ints (rowT C k (d : Int) (pre.map Fin.val))).setIfInBounds (k * 20 + y.1) (.int .i64 (d : Int)) := by
              rw [ints_setT, List.map_append, List.map_cons, List.map_nil, rowT_snoc]
            obtain ⟨hkp, hkf⟩ := kpO_cellN (x := k * 20 + y.1) (v := .int .i64 (d : Int)) hC (by rw [ints_size, hlen]; decide) (show w.heap.size ≤ w.heap.size + 1 + 1 by omega)
            have hgr := grown_cell W' (w.heap.size + 1 + 1) (k * 20 + y.1) (.int .i64 (d : Int))
            obtain ⟨rec, hrec⟩ := hL
            refine ⟨hkf _, hkp, ⟨⟨by rw [e]; exact hC.drew.set_ _ _, hZ.drew.far (by simp) _, bset hB.drew (by simp; omega) _⟩, hG.drew.far (by simp; omega) _, ⟨rec, (hgr.block l (Array.getElem?_eq_some_iff.1 hrec).1 (by omega)).trans hrec⟩, ⟨Nat.le_trans hKF.size (hkf 0).size, fun k o hk h0 ho => (hkf _).same k o hk (hKF.same k o hk h0 ho) ho⟩, kpO_t hKO hkp, Nat.le_trans hsz (hkf 0).size⟩, hX.drew.far (by simp; omega) _⟩
          obtain ⟨v0, hv0⟩ : ∃ v, (ints (rowT C k (d : Int) (pre.map Fin.val)))[k * 20 + y.1]? = some v := ⟨_, Array.getElem?_eq_getElem (by rw [ints_size, hlen]; omega)⟩
          have cC := (hC.cell (k * 20 + y.1)).trans hv0
          have HNEW := Lib.hid hNEW
          clear hNEW hv0
          have fC := hC.frozen (k * 20 + y.1)
          have HALL := Lib.hid (And.intro hNs' hX)
          clear hNs' hX hC hZ hB hG hL hKF hKO
          gi_wp2_with fail
          gi_region_with (fail)
          all_goals exact HNEW.out _ rfl
        case don2 =>
          rintro ys W2 rfl hI
          rw [vtxF_val, ← HST.out] at hI
          have HI2 := Lib.hid hI
          clear hI
          gi_wp2_with fail
          exact ⟨⟨k + 1, _, _, _, _, _, _, _, _, _, _, _, _, _, _, _, rfl, by omega, HI2.out.1⟩, by simp [intOf]; omega⟩
        case stp2 =>
          rintro c pre W' _ h
          exact h.elim
      · obtain rfl : k = 20 := by omega
        have HF := Lib.hid hN
        clear hN
        gi_wp2_with fail
        exact ⟨HF.out.2.2.2.1, HF.out.2.2.2.2.1, by rw [HSN.out]; exact HF.out.1⟩
  case done =>
    rintro ys W hS hI hD
    have hdt : tblP ys = distT r := by rw [tblP, hS]; rfl
    rw [hdt] at hI
    have hdl := distT_len hr
    have hC := hI.1
    have hZ := hI.2.1
    have HB := Lib.hid hI.2.2
    have HR := Lib.hid (hZ.row (ints (distT r)))
    have hM : Hid (MarksAt [w2.heap.size] w.heap.size W) := (MarksAt.nil _ _).cons hD (by omega) (fun x hx => by cases hx)
    clear hI hD hdt
    gi_wp2_with (first | refine wpListIn_load_row rfl 67 _ rfl (w.heap.size + 1 + 1) rfl 67 (ints (distT r)) (0, 0) _ hC underDT_ rfl (sizeDT_ hdl) ?_ | refine wpListIn_store_row rfl 67 _ _ rfl (w.heap.size + 1) (ints (distT r)) rfl rfl 67 (ints zeroT) hZ (sizeDT_ hdl) (by rw [ints_size, ints_size, hdl, zeroT_len]) (ints_one2 _) ?_)
    refine leaves_marks [w2.heap.size] _ (hM.out.kept (S := fun k => k = w.heap.size + 1) ⟨rfl, rfl, rfl, by rw [setRow_size]; exact Nat.le_refl _, fun k hk hn => setRow_other W _ _ _ hn⟩ (fun k hk => ⟨.cells (ints zeroT) 67 (0, 0), by rw [hk]; exact hZ, rfl⟩)) (fun w' hw' => ?_)
    exact ⟨_, results_cell_row rfl _ _ (w.heap.size + 1) 67 (ints (distT r)) (0, 0) _ rfl (hw'.blk HR.out) underDT_ rfl (sizeDT_ hdl), rfl, hw'.below (brow HB.out (by omega) _)⟩
end Go.Proofs.YtifjenleoagefaaGreat

/- HELPER, no statement of the seat: the program's certificate of a closure. -/
namespace Go.Proofs.YtifjenleoagefaaGreat
open Go.RowKit Go.Sort
set_option linter.unusedSimpArgs false
set_option linter.unusedVariables false
set_option maxHeartbeats 1600000 in
theorem CertifyClosure_i (A : Option Addr) (c : Nat) (es : List Ent) (w : World) (hx : EntsAt w A es) (hn : es.length ≤ 4194304) (hr : rowsIn es 4194304) :
    Calls Tryz.prog 15 #[.slice A es.length c] w fun e w' => ∃ A' c', e = .returned (.slice A' (CerF es).length c') ∧ EntsOw w' (news w w') A' c' (CerF es) ∧ Below w.heap.size w w' := by
  have hv := ValidEdges_i A c es w hx hn hr
  have HX := Lib.hid hx
  cases h1 : edgB es
  · have HT : Hid (CerF es = []) := by simp [Hid, CerF, h1]
    rw [h1] at hv
    clear h1
    go_enter Tryz.func15, Tryz.ntmps15
    go_wp2_with fail
    refine hv.mono ?_
    rintro e w1 ⟨rfl, b1⟩
    clear hv
    go_wp2_with fail
    go_ret
    rw [HT.out]
    exact ⟨none, 0, rfl, ⟨_, _, SlF.nil (fun k hk => hk.2)⟩, b1⟩
  · have hro := relOf_ok h1
    have hdl := distT_len hro
    have HT : Hid (CerF es = entT (distT (relOf es))) := by simp [Hid, CerF, h1]
    have HE := Lib.hid h1
    rw [h1] at hv
    clear h1
    go_enter Tryz.func15, Tryz.ntmps15
    go_wp2_with fail
    refine hv.mono ?_
    rintro e w1 ⟨rfl, b1⟩
    clear hv
    go_wp2_with fail
    refine (relationOf_i _ _ es _ (HX.out.below entR b1) HE.out).mono ?_
    rintro e w3 ⟨rfl, b3⟩
    have HB3 := Lib.hid (btr b1 b3)
    clear b1 b3
    go_wp2_with fail
    refine (distances_w _ _ hro).mono ?_
    rintro e w4 ⟨rfl, b4⟩
    have HB4 := Lib.hid (btr HB3.out b4)
    clear b4 HB3
    go_wp2_with fail
    refine (entries_w _ _ hdl).mono ?_
    rintro e w5 ⟨A', c', rfl, ho, b5⟩
    have HO := Lib.hid (ho.mono (S' := news w w5) (fun k hk => ⟨by have := hk.1; have := HB4.out.size; omega, hk.2⟩) (fun k hk => hk.2))
    have HB5 := Lib.hid (btr HB4.out b5)
    clear ho b5 HB4
    go_wp2_with fail
    go_ret
    rw [HT.out]
    exact ⟨A', c', rfl, HO.out, HB5.out⟩
end Go.Proofs.YtifjenleoagefaaGreat
