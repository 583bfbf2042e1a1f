/- HELPER, no statement of the seat: the entries of a table of distances. -/
import Derived.Test.YtifjenleoagefaaDsl
import Derived.Test.YtifjenleoagefaaRa
import Derived.Test.YtifjenleoagefaaRs
import Derived.Maps.AppendAt
namespace Go.Proofs.Ytifjenleoagefaa
open Go.RowKit Go.Sort Go.Shelf
set_option linter.unusedSimpArgs false
set_option linter.unusedVariables false

theorem underD : Try.prog.underlying 63 = some (.array 20 3) := Try.underlying63
theorem run_indexD (cs : Array Value) (k : Nat) (v : Value) (hk : k < 20) (hv : cs[k]? = some v) (w : World) : (Instr.index 63 (.agg cs) (.int .i64 k)).run Try.prog w = .ok v w := by
  have hi : (Try.prog.info? 3).map (·.size) = some 1 := by kernel_rfl
  have hs : (sizeOf 3).run Try.prog w = .ok 1 w := by
    cases hq : Try.prog.info? 3 with
    | none => rw [hq] at hi; cases hi
    | some i =>
      rw [hq] at hi
      simp at hi
      simp [sizeOf, typeInfo, hq, hi]
  have ha : (isAgg 3).run Try.prog w = .ok false w := by
    unfold isAgg
    rw [Sem.run_bind, run_underlying Try.underlying3 w]
    rfl
  have hlt : (0 : Int) ≤ (k : Int) ∧ (k : Int) < ((20 : Nat) : Int) := by omega
  unfold Instr.index
  simp only [go_sem]
  rw [Sem.run_bind, Sem.run_pure, Result.andThen_ok, Sem.run_bind, run_underlying underD w, Result.andThen_ok]
  simp only []
  rw [if_pos hlt, Sem.run_bind, hs, Result.andThen_ok, Sem.run_bind, ha, Result.andThen_ok]
  simp [hv]
theorem run_loadVar_at {P : Program} (w : World) (g off : Nat) (ty : TypeId) (vs : List Value) (d : TypeDesc) (hc : ∀ j v, vs[j]? = some v → w.cell? ⟨g, off + j, none⟩ = some v)
    (hu : P.underlying ty = some d) (hd : (match d with | .struct _ | .array _ _ => true | _ => false) = true) (hi : (P.info? ty).map (·.size) = some vs.length) :
    (loadVar ty ⟨g, off, none⟩).run P w = .ok (.agg vs.toArray) w := by
  have hl : (loadCells ⟨g, off, none⟩ vs.length).run P w = .ok vs.toArray w :=
    run_loadCells_list (P := P) w ⟨g, off, none⟩ vs (fun j v hv => by
      have hadd : (⟨g, off, none⟩ : Addr).add j = ⟨g, off + j, none⟩ := by unfold Addr.add; split <;> simp_all
      rw [hadd]; exact hc j v hv)
  cases hq : P.info? ty with
  | none => simp [hq] at hi
  | some i =>
    have hs : i.size = vs.length := by simpa [hq] using hi
    have hagg : (isAgg ty).run P w = .ok true w := by
      unfold isAgg
      rw [Sem.run_bind, run_underlying hu w]
      cases d <;> simp_all
    simp [loadVar, Sem.run_bind, hagg, sizeOf, typeInfo, hq, hs, hl]
theorem wp_load_at {P : Program} {o : Oper} {a : Act} {w : World} {K : Act → World → Prop} {Q : Exit → Act → World → Prop} (ty : TypeId) (x : Operand) (ho : o.op = .load ty x)
    (g off : Nat) (hx : a.eval x = .pointer (some ⟨g, off, none⟩)) (vs : List Value) (d : TypeDesc) (hc : ∀ j v, vs[j]? = some v → w.cell? ⟨g, off + j, none⟩ = some v)
    (hu : P.underlying ty = some d) (hd : (match d with | .struct _ | .array _ _ => true | _ => false) = true) (hi : (P.info? ty).map (·.size) = some vs.length)
    (h : K (a.put o.dst (.agg vs.toArray)) w) : o.wp P a w K Q := by
  unfold Oper.wp execOp
  simp only [ho, hx, Instr.loadAt, Instr.sureAddr, Sem.run_bind, Sem.run_pure, Result.andThen_ok, run_loadVar_at w g off ty vs d hc hu hd hi]
  exact h
theorem wpList_load_at {P : Program} {ops : Array Oper} {rest : List Oper} {o : Oper} {a : Act} {w : World} {Q : Exit → Act → World → Prop} (hgd : o.guard = none) (ty : TypeId) (x : Operand) (ho : o.op = .load ty x)
    (g off : Nat) (hx : a.eval x = .pointer (some ⟨g, off, none⟩)) (vs : List Value) (d : TypeDesc) (hc : ∀ j v, vs[j]? = some v → w.cell? ⟨g, off + j, none⟩ = some v)
    (hu : P.underlying ty = some d) (hd : (match d with | .struct _ | .array _ _ => true | _ => false) = true) (hi : (P.info? ty).map (·.size) = some vs.length)
    (h : wpList P ops Q rest (a.put o.dst (.agg vs.toArray)) w) : wpList P ops Q (o :: rest) a w :=
  wpList_plain hgd fun _ hK => wp_load_at ty x ho g off hx vs d hc hu hd hi (hK _ _ h)
theorem infoD : (Try.prog.info? 63).map (·.size) = some 20 := by kernel_rfl
theorem ent_srcsD {w1 : World} {RA : Option Addr} {n rc : Nat} {x : Int} {E : TypeId} {g : Nat} (hg : w1.heap.size = g) : ∀ j u, [Value.slice RA n rc, .int .i64 x][j]? = some u → (w1.alloc (.cells #[.slice RA n rc, .int .i64 x] E)).cell? ((⟨g, 0, none⟩ : Addr).add j) = some u := by
  intro j u hu
  subst hg
  match j, hu with
  | 0, hu => simp at hu; subst hu; simp [Addr.add]
  | 1, hu => simp at hu; subst hu; simp [Addr.add]
def enRow (T : List Int) (x k : Nat) : List Ent := ((List.range k).filter fun y => decide (0 < getT T x y)).map fun (y : Nat) => ([(x : Int), (y : Int), getT T x y], (1 : Int))
def enTo (T : List Int) (x k : Nat) : List Ent := ((List.range x).flatMap fun (x : Nat) => enRow T x 20) ++ enRow T x k
theorem enRow_len (T : List Int) (x k : Nat) : (enRow T x k).length ≤ k := by
  rw [enRow, List.length_map]; exact Nat.le_trans (List.length_filter_le _ _) (by simp)
theorem enTo_len (T : List Int) {x k : Nat} (hx : x ≤ 20) (hk : k ≤ 20) : (enTo T x k).length ≤ 420 := by
  have h1 := flatR_len (fun (x : Nat) => enRow T x 20) 20 (fun x => enRow_len T x 20) (List.range x)
  have h2 := enRow_len T x k
  rw [List.length_range] at h1
  rw [enTo, List.length_append]
  have h3 : x * 20 ≤ 20 * 20 := Nat.mul_le_mul_right _ hx
  omega
theorem enRow_zero (T : List Int) (x : Nat) : enRow T x 0 = [] := rfl
theorem enTo_next (T : List Int) (x : Nat) : enTo T x 20 = enTo T (x + 1) 0 := by
  unfold enTo
  rw [enRow_zero, List.append_nil, List.range_succ, List.flatMap_append, List.flatMap_singleton]
theorem enTo_end (T : List Int) : enTo T 20 0 = entT T := by
  unfold enTo
  rw [enRow_zero, List.append_nil]; rfl
theorem enTo_step (T : List Int) (x k : Nat) : enTo T x (k + 1) = enTo T x k ++ if 0 < getT T x k then [([(x : Int), (k : Int), getT T x k], 1)] else [] := by
  have h1 : enRow T x (k + 1) = enRow T x k ++ if 0 < getT T x k then [([(x : Int), (k : Int), getT T x k], 1)] else [] := by
    unfold enRow
    rw [List.range_succ, List.filter_append, List.map_append]
    congr 1
    by_cases h : 0 < getT T x k <;> simp [h]
  unfold enTo
  rw [h1, List.append_assoc]
theorem ints_at {T : List Int} (hT : T.length = 400) {x y : Nat} (hx : x < 20) (hy : y < 20) : (ints T)[x * 20 + y]? = some (.int .i64 (getT T x y)) := by
  have h : 20 * x + y < T.length := by omega
  rw [show x * 20 + y = 20 * x + y by omega]
  simp [ints, getT, h]
def rowL (T : List Int) (x : Nat) : List Value := (List.range 20).map fun y => Value.int .i64 (getT T x y)
theorem rowL_len (T : List Int) (x : Nat) : (rowL T x).length = 20 := by rw [rowL, List.length_map, List.length_range]
theorem rowL_at (T : List Int) (x : Nat) {y : Nat} (hy : y < 20) : (rowL T x)[y]? = some (.int .i64 (getT T x y)) := by
  rw [rowL, List.getElem?_map, List.getElem?_range hy]; rfl
set_option maxRecDepth 100000 in
set_option maxHeartbeats 6400000 in
theorem entries_w (T : List Int) (w : World) (hT : T.length = 400) :
    Calls Try.prog 73 #[.agg (ints T)] w fun e w' => ∃ A' c', e = .returned (.slice A' (entT T).length c') ∧ EntsOw w' (news w w') A' c' (entT T) ∧ Below w.heap.size w w' := by
  obtain ⟨i0, hi, hz0, hz1, hz2⟩ := info_parts Try.infoEnt
  go_enter Try.func73, Try.ntmps73
  go_wp2_with fail
  refine abs_world (fun W => Blk W w.heap.size 65 (ints T) ∧ Below w.heap.size w W) ⟨Blk.newAt rfl, bal (Below.refl _ _) _⟩ ?_
  rintro W1 ⟨hB1, hbW⟩
  have HEND := Lib.hid (enTo_end T)
  have hs1 : w.heap.size < W1.heap.size := hB1.lt
  go_wp2
  go_loopw [3, 7] (fun v i wr => ∃ (x : Nat) (A : Option Addr) (c : Nat), x ≤ 20 ∧ i = .int .i64 (x : Nat) ∧ v = .slice A (enTo T x 0).length c ∧ EntsOw wr (news W1 wr) A c (enTo T x 0) ∧ Below W1.heap.size W1 wr) (fun _ i _ => 20 - (intOf i).toNat)
  case atStart => exact ⟨0, none, 0, by omega, rfl, rfl, ⟨_, _, SlF.nil (fun k hk => hk.2)⟩, Below.refl _ _⟩
  case round =>
    obtain ⟨x, A, c, hx, rfl, rfl, hO, hbel⟩ := hrel
    by_cases hlt : x < 20
    · have hltI : (x : Int) < 20 := by omega
      have hxs : (x : Int) < ((20 : Nat) : Int) := by omega
      have HO := Lib.hid hO
      have hB := hB1.below hbel
      have HN := Lib.hid (enTo_next T x)
      have hrow : ∀ j v, (rowL T x)[j]? = some v → wr.cell? ⟨w.heap.size, x * 20 + j, none⟩ = some v := fun j v hv => by
        have hj : j < 20 := by
          have h := (List.getElem?_eq_some_iff.1 hv).1
          rw [rowL_len] at h; exact h
        rw [rowL_at T x hj] at hv
        rw [← hv]
        exact (hB.cell (x * 20 + j)).trans (ints_at hT hlt hj)
      have hix : ∀ y : Nat, y < 20 → ∀ W, (Instr.index 63 (.agg (rowL T x).toArray) (.int .i64 (y : Int))).run Try.prog W = .ok (.int .i64 (getT T x y)) W := fun y hy W => run_indexD _ y _ hy (by rw [List.getElem?_toArray]; exact rowL_at T x hy) W
      have hinf : (Try.prog.info? 63).map (·.size) = some (rowL T x).length := by rw [rowL_len]; exact infoD
      have HIX := Lib.hid hix
      have HST := Lib.hid (fun k => enTo_step T x k)
      have hS := Lib.hid hbel
      clear hO hbel hix hB
      go_wp2_with (refine wpList_load_at rfl 63 _ rfl w.heap.size (x * 20) rfl (rowL T x) _ hrow underD rfl hinf ?_)
      clear hrow hinf
      obtain ⟨V, rfl⟩ : ∃ V : World, V = wr := ⟨_, rfl⟩
      go_loopw [3, 13] (fun v j wr => ∃ (k : Nat) (A : Option Addr) (c : Nat), k ≤ 20 ∧ j = .int .i64 (k : Nat) ∧ v = .slice A (enTo T x k).length c ∧ EntsOw wr (news W1 wr) A c (enTo T x k) ∧ Below W1.heap.size W1 wr) (fun _ j _ => 20 - (intOf j).toNat)
      case atStart => exact ⟨0, A, c, by omega, rfl, rfl, HO.out, hS.out⟩
      case round =>
        clear HO hS
        obtain ⟨k, A, c, hk, rfl, rfl, hO, hbel⟩ := hrel
        by_cases hkl : k < 20
        · have hkI : (k : Int) < 20 := by omega
          have hix := HIX.out k hkl
          have hst := HST.out k
          have hlen := enTo_len T (x := x) (k := k) (by omega) hk
          have hbase0 := hbel.size
          generalize hd : getT T x k = d at *
          have HD := Lib.hid hd
          clear hd
          by_cases h0 : 0 < d
          · rw [if_pos h0] at hst
            have HSTI := Lib.hid hst
            obtain ⟨css, F, hfl⟩ := hO
            generalize enTo T x k = M at *
            have hb1 : Below wr.heap.size wr (wr.alloc (.cells #[.int .i64 (x : Int), .int .i64 (k : Int), .int .i64 d] 3)) := bal (Below.refl _ _) _
            have ho : IntsOwn (wr.alloc (.cells #[.int .i64 (x : Int), .int .i64 (k : Int), .int .i64 d] 3)) wr.heap.size (some ⟨wr.heap.size, 0, none⟩) 3 [(x : Int), (k : Int), d] := World.ownsRow_lit (base := wr.heap.size) (size := 1) (e := 3) wr #[.int .i64 (x : Int), .int .i64 (k : Int), .int .i64 d] 3 (Nat.le_refl _) (by simp [maxLen]) (by simp)
            have hrow2 := (hfl.loc entO (fun q hq => hb1.block q hq.2)).row
            have hbase : ∀ q, blk A = some q → W1.heap.size ≤ q := fun q hq => (hfl.top q hq).1
            have hrow3 := (ownsRow_base hrow2 hbase).alloc (.cells #[.slice (some ⟨wr.heap.size, 0, none⟩) 3 3, .int .i64 1] 40)
            have HF := Lib.hid (And.intro hfl (And.intro hbel (And.intro hb1 ho)))
            clear hst hfl hb1 ho hrow2 hbase hbel
            go_wp2_with (at_builtin; refine wpList_append_own_at _ rfl _ _ 27 rfl W1.heap.size 40 i0 (.agg #[.slice none 0 0, .int .i64 0]) 2 32 Try.underlying27 hi hz0 hz1 hz2 rfl (by decide) (.slice A M.length c) _ _ rfl hrow3 ⟨wr.heap.size + 1, 0, none⟩ 1 1 [.slice (some ⟨wr.heap.size, 0, none⟩) 3 3, .int .i64 1] rfl rfl (ent_srcsD (by simp)) ent_ones (by unfold maxLen; omega) (by omega) (by simp; omega) ?_)
            intro v' w4 hrow' hgrow hnil hat
            rw [ownBlock_slice] at hgrow
            obtain ⟨hfl, hbel, hb1, ho⟩ := HF.out
            have hp2 := SlF.pushE (w2 := w4) hfl hbel hb1 ho hrow' hgrow (fun q hq => by
              rcases hat with h | h
              · rw [ownBlock_slice] at h; exact .inl (h ▸ hq)
              · right
                rw [h] at hq
                have h2 := Option.some.inj hq
                rw [World.size_alloc]
                omega)
            obtain ⟨A3, c3, rfl, ho3, hb3⟩ := hp2
            have hM1 : enTo T x (k + 1) = M ++ [([(x : Int), (k : Int), d], 1)] := HSTI.out
            have HO3 : Hid (EntsOw w4 (news W1 w4) A3 c3 (enTo T x (k + 1))) := by rw [Hid, hM1]; exact ho3
            have HL : Hid (M.length + 1 = (enTo T x (k + 1)).length) := by rw [Hid, hM1]; simp
            have HB3 := Lib.hid hb3
            clear hrow' hgrow hnil hat hfl hbel hb1 ho ho3 hb3 HF hrow3 hM1
            go_wp2
            go_roundw
            case rel => exact ⟨k + 1, A3, c3, by omega, by go_num, by rw [HL.out], HO3.out, HB3.out⟩
            case measure => simp [intOf]; omega
          · rw [if_neg h0, List.append_nil] at hst
            have HSTI := Lib.hid hst
            have HO := Lib.hid hO
            have HB3 := Lib.hid hbel
            clear hst hO hbel
            go_wp2
            go_roundw
            case rel => exact ⟨k + 1, A, c, by omega, by go_num, by rw [HSTI.out], by rw [HSTI.out]; exact HO.out, HB3.out⟩
            case measure => simp [intOf]; omega
        · obtain rfl : k = 20 := by omega
          have HNL : Hid ((enTo T x 20).length = (enTo T (x + 1) 0).length) := by rw [Hid, HN.out]
          rw [HN.out] at hO
          have HO := Lib.hid hO
          have HB3 := Lib.hid hbel
          clear hO hbel
          go_wp2
          go_roundw
          case rel => exact ⟨x + 1, A, c, by omega, by go_num, by rw [HNL.out], HO.out, HB3.out⟩
          case measure => simp [intOf]; omega
    · obtain rfl : x = 20 := by omega
      have hs2 := hbel.size
      have HNL : Hid ((enTo T 20 0).length = (entT T).length) := by rw [Hid, HEND.out]
      rw [HEND.out] at hO
      have HO := Lib.hid (hO.mono (S' := news w wr) (fun q hq => ⟨by have := hq.1; omega, hq.2⟩) (fun q hq => hq.2))
      have HB := Lib.hid (btr hbW hbel)
      clear hO hbel
      go_wp2
      go_ret
      exact ⟨A, c, by rw [← HNL.out]; rfl, HO.out, HB.out⟩
end Go.Proofs.Ytifjenleoagefaa
