/- HELPER, no statement of the seat: slices.Insert at antichains, of one time. -/
import Derived.Test.YtkonhjdfcfljpaaFrJ
import Derived.Test.YtkonhjdfcfljpaaZba
import Derived.Lib.SlBuf
import Derived.Lib.Overlaps
import Derived.Lib.AppendZerosOnto
import Derived.Laws.Externs
namespace Go.Proofs.Ytkonhjdfcfljpaa
open Go.RowKit Go.Sort
set_option linter.unusedSimpArgs false
set_option linter.unusedVariables false

theorem append_types {P : Program} (w : World) (t t' ty e e' : TypeId) (ht : P.underlying t = some (.slice e)) (ht' : P.underlying t' = some (.slice e')) (s x : Value) : (Builtin.append_ #[t, t'] ty #[s, x]).run P w = (Builtin.append_ #[t, t] ty #[s, x]).run P w := by
  unfold Builtin.append_
  cases s <;> simp [run_underlying ht, run_underlying ht']
/-- append where the second slice's type bears another name. -/
theorem wpList_append_srcN {P : Program} (w : World) {ops : Array Oper} {rest : List Oper} {o : Oper} {a : Act} {Q : Exit → Act → World → Prop} (hgd : o.guard = none) (s x : Operand) (t t' : TypeId)
    (ho : o.op = .call { callee := .builtin .append, args := #[s, x], argTypes := #[t, t'] })
    (base : Nat) (e e' : TypeId) (i : TypeInfo) (z : Value) (size bytes : Nat) (ht : P.underlying t = some (.slice e)) (ht' : P.underlying t' = some (.slice e')) (hi : P.info? e = some i) (hz : i.zero = some z)
    (hsize : i.size = size) (hby : i.bytes = bytes) (hzs : z.cells.size = size) (hsz : 0 < size)
    (v : Value) (n : Nat) (xs : List Value) (hs : a.eval s = v) (hown : w.ownsRow base e size v n xs)
    (A : Option Addr) (m c : Nat) (news : List Value) (hx : a.eval x = .slice A m c) (hl : news.length = m * size) (hA : A = none → m = 0) (hnews : ∀ a, A = some a → ∀ j u, news[j]? = some u → w.cell? (a.add j) = some u) (h1 : ∀ u ∈ news, u.oneCell' = true)
    (h63 : n + m ≤ maxLen) (hbytes : (n + m) * bytes ≤ 140737488355328) (hbase : base ≤ w.heap.size)
    (h : ∀ v' w', w'.ownsRow base e size v' (n + m) (xs ++ news) → w.grownBy w' v.ownBlock → (∀ k, v'.ownBlock = some k → v.ownBlock = some k ∨ w.heap.size ≤ k) → wpList P ops Q rest (a.put o.dst v') w') : wpList P ops Q (o :: rest) a w := by
  refine wpList_plain hgd fun K hK => ?_
  obtain ⟨v', w', hr, h2, h3, h4⟩ := run_append_src (P := P) w base t o.type e i z size bytes ht hi hz hsize hby hzs hsz v n xs hown A m c news hl hA hnews h1 h63 hbytes hbase
  rw [← append_types w t t' o.type e e' ht ht'] at hr
  unfold Oper.wp execOp
  simp only [ho, resolve, invoke, builtin, Sem.run_bind, Sem.run_pure, Result.andThen_ok, List.map_toArray, List.map_cons, List.map_nil, hs, hx, hr]
  exact hK _ _ (h v' w' h2 h3 h4)
/-- copy at elements of sz cells. -/
theorem run_copy_cellsK {P : Program} (sz : Nat) (w : World) (dT sT ty elem : TypeId) (b o dLen dCap : Nat) (a : Addr) (sLen sCap : Nat) (cs : List Value)
    (hu : P.underlying dT = some (.slice elem)) (hs : (P.info? elem).map (·.size) = some sz) (hn : cs.length = Nat.min sLen dLen * sz)
    (hsrc : ∀ j v, cs[j]? = some v → w.cell? (a.add j) = some v) (hc : ∀ j, j < cs.length → (w.cell? ⟨b, o + j, none⟩).isSome = true) (hf : ∀ j, j < cs.length → w.frozen? ⟨b, o + j, none⟩ = false) (h1 : ∀ v ∈ cs, v.oneCell' = true) :
    (Builtin.copy_ #[dT, sT] ty #[.slice (some ⟨b, o, none⟩) dLen dCap, .slice (some a) sLen sCap]).run P w = .ok (goInt (Nat.min sLen dLen)) (w.setCells b o cs) := by
  have hl := run_loadCells_list (P := P) w a cs hsrc
  have hst := run_storeCells_cells (P := P) b o cs 0 w (by simpa using hc) (by simpa using hf) h1
  cases hq : P.info? elem with
  | none => simp [hq] at hs
  | some i =>
    have hi : i.size = sz := by simpa [hq] using hs
    simp [Builtin.copy_, run_underlying hu, Builtin.lenOf, Builtin.firstCells, sizeOf, typeInfo, hq, hi, ← hn, hl, hst]

/-- Cells laid into a row: what it holds then. -/
theorem ownsRow_lay {base : Nat} {E : TypeId} {sz g c n : Nat} : ∀ (vs : List Value) (o : Nat) (w : World) (xs : List Value), w.ownsRow base E sz (.slice (some ⟨g, 0, none⟩) n c) n xs → o + vs.length ≤ xs.length → (w.setCells g o vs).ownsRow base E sz (.slice (some ⟨g, 0, none⟩) n c) n (xs.take o ++ vs ++ xs.drop (o + vs.length))
  | [], o, _, xs, h, _ => by simpa [World.setCells] using h
  | v :: r, o, w, xs, h, hl => by
    simp only [List.length_cons] at hl
    have := ownsRow_lay r (o + 1) _ _ (World.ownsRow.stored h o v).1 (by simp; omega)
    rw [list_seg_step xs o v r (by omega)] at this
    exact this
theorem ownsRow_more {w : World} {base : Nat} {E : TypeId} {sz g n c m : Nat} {vs : List Value} (h : w.ownsRow base E sz (.slice (some ⟨g, 0, none⟩) n c) n vs) (hm : n ≤ m) (hc : m ≤ c) : ∃ zs, zs.length = (m - n) * sz ∧ w.ownsRow base E sz (.slice (some ⟨g, 0, none⟩) m c) m (vs ++ zs) := by
  obtain ⟨hl, h⟩ := h
  rcases h with ⟨e, h0⟩ | ⟨g', cap, cur, e, hb, hg, h1, h2, h3, h4⟩
  · cases e
  · injection e with e1 e2 e3
    injection e1 with e1
    injection e1 with e1
    subst e1; subst e3
    have hms : n * sz ≤ m * sz := Nat.mul_le_mul_right _ hm
    have hcs : m * sz ≤ c * sz := Nat.mul_le_mul_right _ hc
    have e : (cur.toList.take (m * sz)) = vs ++ (cur.toList.take (m * sz)).drop (n * sz) := by
      rw [← h4]
      have := List.take_append_drop (n * sz) (cur.toList.take (m * sz))
      rw [List.take_take, show min (n * sz) (m * sz) = n * sz by omega] at this
      exact this.symm
    refine ⟨(cur.toList.take (m * sz)).drop (n * sz), by simp only [List.length_drop, List.length_take, Array.length_toList, h3, Nat.sub_mul, Nat.min_eq_left hcs], ?_, .inr ⟨g, c, cur, rfl, hb, hg, hc, h2, h3, e⟩⟩
    rw [← e, List.length_take, Array.length_toList, h3, Nat.min_eq_left hcs]
theorem timeL_split (ks : List Tm) {p : Nat} (hp : p ≤ ks.length) (t : Tm) : timeL (ks.take p ++ [t] ++ ks.drop p) = (timeL ks).take (p * 2) ++ [.int .i64 t.1, .int .i64 t.2] ++ timeL (ks.drop p) := by
  rw [timeL_append, timeL_append, timeL_take]
  rfl
theorem timeL_drop (l : List Tm) : ∀ i, (timeL l).drop (i * 2) = timeL (l.drop i) := by
  induction l with
  | nil => intro i; simp [timeL]
  | cons a l ih =>
    intro i
    cases i with
    | zero => simp [timeL]
    | succ i =>
      have := ih i
      rw [show (i + 1) * 2 = i * 2 + 1 + 1 by omega]
      simp only [timeL, List.flatMap_cons, List.drop_succ_cons, List.cons_append, List.nil_append] at this ⊢
      rw [this]
theorem lay2 (ks : List Tm) (zs : List Value) (p : Nat) (hp : p ≤ ks.length) (t : Tm) (L : List Value) (hz : L = (timeL ks).take (p * 2) ++ zs) (hl : zs.length = (ks.length + 1 - p) * 2) :
    ((L.take ((p + 1) * 2) ++ timeL (ks.drop p) ++ L.drop ((p + 1) * 2 + (timeL (ks.drop p)).length)).take (p * 2) ++ [.int .i64 t.1, .int .i64 t.2] ++ (L.take ((p + 1) * 2) ++ timeL (ks.drop p) ++ L.drop ((p + 1) * 2 + (timeL (ks.drop p)).length)).drop (p * 2 + 2)) = timeL (ks.take p ++ [t] ++ ks.drop p) := by
  have h1 : ((timeL ks).take (p * 2)).length = p * 2 := by rw [List.length_take, timeL_len]; omega
  have h2 : L.length = (ks.length + 1) * 2 := by rw [hz, List.length_append, h1, hl]; omega
  have h3 : (timeL (ks.drop p)).length = (ks.length - p) * 2 := by rw [timeL_len, List.length_drop]
  have h4 : L.drop ((p + 1) * 2 + (timeL (ks.drop p)).length) = [] := List.drop_eq_nil_of_le (by rw [h2, h3]; omega)
  have h5 : (L.take ((p + 1) * 2)).length = (p + 1) * 2 := by rw [List.length_take, h2]; omega
  rw [h4, List.append_nil, timeL_split ks hp t]
  congr 1
  · congr 1
    rw [List.take_append_of_le_length (by rw [h5]; omega), List.take_take, show min (p * 2) ((p + 1) * 2) = p * 2 by omega, hz, List.take_append_of_le_length (by rw [h1]; omega), List.take_take, Nat.min_self]
  · rw [List.drop_append, List.drop_eq_nil_of_le (by rw [h5]; omega), h5, show p * 2 + 2 - (p + 1) * 2 = 0 by omega]
    rfl

theorem size_time : (Try.prog.info? 52).map (·.size) = some 2 := by kernel_rfl
theorem zr_time (w : World) : (Go.sizeOf 52).run Try.prog w = .ok 2 w := by kernel_rfl
theorem shape_row {w : World} {base : Nat} {E : TypeId} {sz g n c : Nat} {vs : List Value} (h : w.ownsRow base E sz (.slice (some ⟨g, 0, none⟩) n c) n vs) : w.shape? g = some (E, c * sz) := by
  obtain ⟨_, ⟨e, _⟩ | ⟨g', cap, cur, e, _, hg, _, _, h3, _⟩⟩ := h
  · cases e
  · injection e with e1 e2 e3
    injection e1 with e1
    injection e1 with e1
    subst e1; subst e3
    simp [World.shape?, hg, h3]
theorem shape_blk {w : World} {g : Nat} {t : TypeId} {cs : Array Value} (h : Blk w g t cs) : w.shape? g = some (t, cs.size) := by
  unfold Blk at h
  simp [World.shape?, h]

set_option maxRecDepth 100000 in
set_option maxHeartbeats 3200000 in
/-- At the end. -/
theorem insEnd_i (base : Nat) (A : Option Addr) (c : Nat) (ks : List Tm) (x y : Int) (V : Nat) (w : World) (ho : TmOwn w base A c ks) (hV : Blk w V 52 #[.int .i64 x, .int .i64 y]) (hn : ks.length ≤ 4194000) (hb : base ≤ w.heap.size) :
    Calls Try.prog 162 #[.slice A ks.length c, .int .i64 ks.length, .slice (some ⟨V, 0, none⟩) 1 1] w fun e w' => ∃ A' c', e = .returned (.slice A' (ks.length + 1) c') ∧ TmOwn w' base A' c' (ks ++ [(x, y)]) ∧ GrownS w w' (fun k => blk A = some k) ∧ ∀ k, blk A' = some k → blk A = some k ∨ w.heap.size ≤ k := by
  obtain ⟨i0, hi, hz0, hz1, hz2⟩ := info_parts Try.infoTime
  have hcap := ho.cap
  have hcm : (c : Int) ≤ 9223372036854775807 := by have := hcap.2; unfold maxLen at this; omega
  have hs : ∀ a, some (⟨V, 0, none⟩ : Addr) = some a → ∀ j u, [Value.int .i64 x, .int .i64 y][j]? = some u → w.cell? (a.add j) = some u := by
    intro a e j u hu
    injection e with e
    subst e
    have h0 := hV.cell 0
    have h1 := hV.cell 1
    simp at h0 h1
    match j, hu with
    | 0, hu => simp at hu; subst hu; simpa [Addr.add] using h0
    | 1, hu => simp at hu; subst hu; simpa [Addr.add] using h1
  have hG : ∀ (w1 : World) (v' : Value), w1.ownsRow base 52 2 v' (ks.length + 1) (timeL ks ++ [.int .i64 x, .int .i64 y]) → w.grownBy w1 (Value.slice A ks.length c).ownBlock → (∀ k, v'.ownBlock = some k → (Value.slice A ks.length c).ownBlock = some k ∨ w.heap.size ≤ k) → ∃ A' c', v' = .slice A' (ks.length + 1) c' ∧ TmOwn w1 base A' c' (ks ++ [(x, y)]) ∧ GrownS w w1 (fun k => blk A = some k) ∧ ∀ k, blk A' = some k → blk A = some k ∨ w.heap.size ≤ k := fun w1 v' h1 h2 h4 => by
    obtain ⟨A', c', e, h3⟩ := TmOwn.push h1
    exact ⟨A', c', e, h3, GrownS.ofGrown h2 (fun k hk => by rw [ownBlock_slice] at hk; exact hk), fun k hk => by
      have := h4 k (by rw [e, ownBlock_slice]; exact hk)
      rwa [ownBlock_slice] at this⟩
  have HO := Lib.hid ho
  have HG := Lib.hid hG
  clear hG ho hV
  rcases A with _ | ⟨g, off, sp⟩
  · obtain ⟨hc0, hk0⟩ : c = 0 ∧ ks.length = 0 := by
      rcases ownsRow_form HO.out with ⟨_, h1, h2⟩ | ⟨g, h, _⟩
      · exact ⟨h1, h2⟩
      · cases h
    subst hc0
    obtain rfl := List.eq_nil_of_length_eq_zero hk0
    have HO' : Hid (w.ownsRow base 52 2 (.slice none 0 0) 0 []) := HO.out
    have HG' : Hid (∀ (w1 : World) (v' : Value), w1.ownsRow base 52 2 v' 1 [.int .i64 x, .int .i64 y] → w.grownBy w1 (Value.slice none 0 0).ownBlock → (∀ k, v'.ownBlock = some k → (Value.slice none 0 0).ownBlock = some k ∨ w.heap.size ≤ k) → ∃ A' c', v' = .slice A' 1 c' ∧ TmOwn w1 base A' c' [(x, y)] ∧ GrownS w w1 (fun k => blk none = some k) ∧ ∀ k, blk A' = some k → blk none = some k ∨ w.heap.size ≤ k) := fun w1 v' h1 h2 h4 => HG.out w1 v' h1 h2 h4
    clear hk0 hcm hcap
    go_enter Try.func162, Try.ntmps162
    go_wp2_with (at_builtin; refine wpList_append_srcN _ rfl _ _ 106 30 rfl base 52 52 i0 (.agg #[.int .i64 0, .int .i64 0]) 2 16 Try.underlying106 Try.underlying30 hi hz0 hz1 hz2 rfl (by decide) _ _ _ rfl HO'.out (some ⟨V, 0, none⟩) 1 1 [.int .i64 x, .int .i64 y] rfl rfl (fun e => by cases e) hs (tm_ones x y) (by simp [maxLen]) (by simp) hb ?_)
    intro v' w1 hown' hgrow hob
    obtain ⟨A', c', hv, ho1, hg1⟩ := HG'.out _ _ (by simpa using hown') hgrow hob
    have HV := Lib.hid hv
    have HO1 := Lib.hid ho1
    have HG1 := Lib.hid hg1
    clear hv ho1 hg1 hown' hgrow hob HG HO HG' HO' hs
    go_wp2
    go_ret
    exact ⟨A', c', by rw [HV.out]; rfl, HO1.out, HG1.out⟩
  · by_cases hcn : c = ks.length
    · subst hcn
      go_enter Try.func162, Try.ntmps162
      go_wp2_with (at_builtin; refine wpList_append_srcN _ rfl _ _ 106 30 rfl base 52 52 i0 (.agg #[.int .i64 0, .int .i64 0]) 2 16 Try.underlying106 Try.underlying30 hi hz0 hz1 hz2 rfl (by decide) _ _ _ rfl HO.out (some ⟨V, 0, none⟩) 1 1 [.int .i64 x, .int .i64 y] rfl rfl (fun e => by cases e) hs (tm_ones x y) (by unfold maxLen; omega) (by omega) hb ?_)
      intro v' w1 hown' hgrow hob
      obtain ⟨A', c', hv, ho1, hg1⟩ := HG.out _ _ hown' hgrow hob
      have HV := Lib.hid hv
      have HO1 := Lib.hid ho1
      have HG1 := Lib.hid hg1
      clear hv ho1 hg1 hown' hgrow hob HG HO hs
      go_wp2
      go_ret
      exact ⟨A', c', by rw [HV.out]; rfl, HO1.out, HG1.out⟩
    · go_enter Try.func162, Try.ntmps162
      go_wp2_with (at_builtin; refine wpList_append_srcN _ rfl _ _ 106 30 rfl base 52 52 i0 (.agg #[.int .i64 0, .int .i64 0]) 2 16 Try.underlying106 Try.underlying30 hi hz0 hz1 hz2 rfl (by decide) _ _ _ rfl HO.out (some ⟨V, 0, none⟩) 1 1 [.int .i64 x, .int .i64 y] rfl rfl (fun e => by cases e) hs (tm_ones x y) (by unfold maxLen; omega) (by omega) hb ?_)
      intro v' w1 hown' hgrow hob
      obtain ⟨A', c', hv, ho1, hg1⟩ := HG.out _ _ hown' hgrow hob
      have HV := Lib.hid hv
      have HO1 := Lib.hid ho1
      have HG1 := Lib.hid hg1
      clear hv ho1 hg1 hown' hgrow hob HG HO hs
      go_wp2
      go_ret
      exact ⟨A', c', by rw [HV.out]; rfl, HO1.out, HG1.out⟩

set_option maxHeartbeats 1600000 in
theorem copies_room (base g c : Nat) (ks : List Tm) (p : Nat) (hp : p < ks.length) (x y : Int) (V : Nat) (w : World) (ho : TmOwn w base (some ⟨g, 0, none⟩) c ks) (hV : Blk w V 52 #[.int .i64 x, .int .i64 y]) (hVg : V ≠ g) (hr : ks.length + 1 ≤ c) :
    ∃ W1 W2, (∀ ty dc sc, (Builtin.copy_ #[106, 106] ty #[.slice (some ⟨g, (p + 1) * 2, none⟩) (ks.length - p) dc, .slice (some ⟨g, p * 2, none⟩) (ks.length + 1 - p) sc]).run Try.prog w = .ok (goInt (Nat.min (ks.length + 1 - p) (ks.length - p))) W1) ∧
      (∀ ty dc, (Builtin.copy_ #[106, 30] ty #[.slice (some ⟨g, p * 2, none⟩) (ks.length + 1 - p) dc, .slice (some ⟨V, 0, none⟩) 1 1]).run Try.prog W1 = .ok (goInt (Nat.min 1 (ks.length + 1 - p))) W2) ∧
      TmOwn W2 base (some ⟨g, 0, none⟩) c (ks.take p ++ [(x, y)] ++ ks.drop p) ∧ GrownS w W2 (fun k => k = g) := by
  obtain ⟨zs, hzl, hrow⟩ := ownsRow_more ho (show ks.length ≤ ks.length + 1 by omega) hr
  have hLl : (timeL ks ++ zs).length = (ks.length + 1) * 2 := by rw [List.length_append, timeL_len, hzl]; omega
  have hdl : (timeL (ks.drop p)).length = (ks.length - p) * 2 := by rw [timeL_len, List.length_drop]
  have hcell : ∀ W : World, ∀ L : List Value, W.ownsRow base 52 2 (.slice (some ⟨g, 0, none⟩) (ks.length + 1) c) (ks.length + 1) L → ∀ j, j < (ks.length + 1) * 2 → (W.cell? ⟨g, j, none⟩).isSome = true := fun W L h j hj => by
    rw [World.ownsRow.cellAt h j hj, List.getElem?_eq_getElem (by rw [h.1]; exact hj)]; rfl
  -- the first copy
  obtain ⟨W1, hW1⟩ : ∃ W1, W1 = w.setCells g ((p + 1) * 2) (timeL (ks.drop p)) := ⟨_, rfl⟩
  have hrow1 : W1.ownsRow base 52 2 (.slice (some ⟨g, 0, none⟩) (ks.length + 1) c) (ks.length + 1) ((timeL ks ++ zs).take ((p + 1) * 2) ++ timeL (ks.drop p) ++ (timeL ks ++ zs).drop ((p + 1) * 2 + (timeL (ks.drop p)).length)) := by
    rw [hW1]; exact ownsRow_lay _ _ _ _ hrow (by rw [hLl, hdl]; omega)
  have hV1 : ∀ j, W1.cell? ⟨V, j, none⟩ = w.cell? ⟨V, j, none⟩ := fun j => by rw [hW1]; exact World.cell?_setCells_out _ _ _ _ _ (fun h _ => absurd h hVg)
  have hrow2 := ownsRow_lay [.int .i64 x, .int .i64 y] (p * 2) _ _ hrow1 (by
    have h4 : (timeL ks ++ zs).drop ((p + 1) * 2 + (timeL (ks.drop p)).length) = [] := List.drop_eq_nil_of_le (by rw [hLl, hdl]; omega)
    rw [h4, List.append_nil, List.length_append, List.length_take, hLl, hdl]; simp; omega)
  rw [show p * 2 + [Value.int .i64 x, .int .i64 y].length = p * 2 + 2 from rfl, lay2 ks ((timeL ks).drop (p * 2) ++ zs) p (by omega) (x, y) (timeL ks ++ zs) (by rw [← List.append_assoc, List.take_append_drop]) (by rw [List.length_append, List.length_drop, timeL_len, hzl]; omega)] at hrow2
  have hcp1 : ∀ ty dc sc, (Builtin.copy_ #[106, 106] ty #[.slice (some ⟨g, (p + 1) * 2, none⟩) (ks.length - p) dc, .slice (some ⟨g, p * 2, none⟩) (ks.length + 1 - p) sc]).run Try.prog w = .ok (goInt (Nat.min (ks.length + 1 - p) (ks.length - p))) W1 := fun ty dc sc => by
    rw [hW1]
    exact run_copy_cellsK 2 w _ _ ty 52 g ((p + 1) * 2) (ks.length - p) dc ⟨g, p * 2, none⟩ (ks.length + 1 - p) sc (timeL (ks.drop p)) Try.underlying106 size_time (by rw [hdl]; simp only [Nat.min_def]; split <;> omega)
      (fun j v hj => by
        rw [Addr.add_lit, World.ownsRow.cellAt ho (p * 2 + j) (by
          rcases Nat.lt_or_ge j (timeL (ks.drop p)).length with h | h
          · rw [hdl] at h; omega
          · rw [List.getElem?_eq_none h] at hj; cases hj)]
        rw [← timeL_drop, List.getElem?_drop] at hj
        exact hj)
      (fun j hj => hcell w _ hrow _ (by rw [hdl] at hj; omega)) (fun j hj => World.ownsRow.frozenAt hrow _) (tms_one _)
  have hcp2 : ∀ ty dc, (Builtin.copy_ #[106, 30] ty #[.slice (some ⟨g, p * 2, none⟩) (ks.length + 1 - p) dc, .slice (some ⟨V, 0, none⟩) 1 1]).run Try.prog W1 = .ok (goInt (Nat.min 1 (ks.length + 1 - p))) (W1.setCells g (p * 2) [.int .i64 x, .int .i64 y]) := fun ty dc =>
    run_copy_cellsK 2 W1 _ _ ty 52 g (p * 2) (ks.length + 1 - p) dc ⟨V, 0, none⟩ 1 1 [.int .i64 x, .int .i64 y] Try.underlying106 size_time (by simp only [Nat.min_def]; split <;> simp <;> omega)
      (fun j v hj => by
        rw [Addr.add_lit, hV1, hV.cell, Nat.zero_add]
        simpa using hj)
      (fun j hj => hcell W1 _ hrow1 _ (by simp at hj; omega)) (fun j hj => World.ownsRow.frozenAt hrow1 _) (tm_ones x y)
  refine ⟨W1, W1.setCells g (p * 2) [.int .i64 x, .int .i64 y], hcp1, hcp2, ?_, ?_⟩
  · have e : (ks.take p ++ [(x, y)] ++ ks.drop p).length = ks.length + 1 := by simp; omega
    unfold TmOwn; rw [e]; exact hrow2
  · rw [hW1]
    exact grownS_setCells (S := fun k => k = g) rfl _ _ _ (grownS_setCells (S := fun k => k = g) rfl _ _ _ (GrownS.refl _ _))
set_option maxRecDepth 100000 in
set_option maxHeartbeats 6400000 in
/-- Within, with room. -/
theorem insRoom_i (base g c : Nat) (ks : List Tm) (p : Nat) (hp : p < ks.length) (x y : Int) (V : Nat) (w : World) (ho : TmOwn w base (some ⟨g, 0, none⟩) c ks) (hV : Blk w V 52 #[.int .i64 x, .int .i64 y]) (hVg : V ≠ g) (hn : ks.length ≤ 4194000) (hb : base ≤ w.heap.size) (hr : ks.length + 1 ≤ c) :
    Calls Try.prog 162 #[.slice (some ⟨g, 0, none⟩) ks.length c, .int .i64 p, .slice (some ⟨V, 0, none⟩) 1 1] w fun e w' => e = .returned (.slice (some ⟨g, 0, none⟩) (ks.length + 1) c) ∧ TmOwn w' base (some ⟨g, 0, none⟩) c (ks.take p ++ [(x, y)] ++ ks.drop p) ∧ GrownS w w' (fun k => k = g) := by
  obtain ⟨zs, hzl, hrow⟩ := ownsRow_more ho (show ks.length ≤ ks.length + 1 by omega) hr
  have hcap := ho.cap
  have hcm : (c : Int) ≤ 9223372036854775807 := by have := hcap.2; unfold maxLen at this; omega
  have hov : ∀ lb cb, (callFunc 174 #[.slice (some ⟨V, 0, none⟩) 1 1, .slice (some ⟨g, (p + 1) * 2, none⟩) lb cb]).run Try.prog w = .ok (.value (.bool false)) w := fun lb cb => by
    rw [run_callFunc_extern Try.func174 (by kernel_rfl) (by kernel_rfl) (by kernel_rfl) (e := Extern.SlicesOverlaps.overlaps #[30, 30] #[4]) (by kernel_rfl),
      Lib.run_overlaps_apart w 30 4 52 Try.underlying30 2 zr_time ⟨V, 0, none⟩ ⟨g, (p + 1) * 2, none⟩ 1 1 lb cb hVg 52 52 2 (c * 2) (by simpa using shape_blk hV) (shape_row hrow) (by omega) (hV.frozen 0) (by simpa using hV.frozen 2)]
    rfl
  have hne : ((p : Int) == (ks.length : Int)) = false := by rw [beq_eq_false_iff_ne]; omega
  have hp1 : ¬ (c = p + 1) := by omega
  have hp2 : ¬ (c = p) := by omega
  have hcps := fun W (hW : Below w.heap.size w W) => copies_room base g c ks p hp x y V W (ho.below hW) (hV.below hW) hVg hr
  have HCP := Lib.hid hcps
  clear hcps hrow hzl ho hV
  go_enter Try.func162, Try.ntmps162
  go_wp2_with (simp only [hov])
  refine wp_region_facts [[], [], [], [1, 2], [0, 1, 2, 3], [], [], [5, 6]]
    [fun v' _ => v' = .slice (some ⟨g, 0, none⟩) (ks.length + 1) c, fun v' _ => v' = .int .i64 p, fun v' _ => v' = .int .i64 1, fun v' _ => v' = .int .i64 (p + 1), fun v' _ => v' = .slice (some ⟨g, (p + 1) * 2, none⟩) (ks.length - p) (c - (p + 1)), fun v' _ => v' = .slice (some ⟨g, 0, none⟩) (ks.length + 1) c, fun v' _ => v' = .int .i64 p, fun v' _ => v' = .slice (some ⟨g, p * 2, none⟩) (ks.length + 1 - p) (c - p)]
    (by kernel_rfl) (by kernel_rfl) rfl ⟨stable_pure _, stable_pure _, stable_pure _, stable_pure _, stable_pure _, stable_pure _, stable_pure _, stable_pure _, trivial⟩ ?_
  refine wf_step (fun wf hb hf => ?_) (fun t0 => ?_)
  · go_wp2
    exact ⟨rfl, _, by kernel_rfl, Below.refl _ _, rfl⟩
  refine wf_step (fun wf hb hf => ?_) (fun t1 => ?_)
  · go_wp2
    exact ⟨rfl, _, by kernel_rfl, Below.refl _ _, rfl⟩
  refine wf_step (fun wf hb hf => ?_) (fun t2 => ?_)
  · go_wp2
    exact ⟨rfl, _, by kernel_rfl, Below.refl _ _, rfl⟩
  refine wf_step (fun wf hb hf => ?_) (fun t3 => ?_)
  · obtain ⟨rfl, rfl, -⟩ := hf
    go_wp2
    exact ⟨rfl, _, by kernel_rfl, Below.refl _ _, rfl⟩
  refine wf_step (fun wf hb hf => ?_) (fun t4 => ?_)
  · obtain ⟨rfl, rfl, rfl, rfl, -⟩ := hf
    go_wp2
    exact ⟨rfl, .slice (some ⟨g, (p + 1) * 2, none⟩) (ks.length - p) (c - (p + 1)), by simp [Act.put], Below.refl _ _, rfl⟩
  refine wf_step (fun wf hb hf => ?_) (fun t5 => ?_)
  · go_wp2
    exact ⟨rfl, _, by kernel_rfl, Below.refl _ _, rfl⟩
  refine wf_step (fun wf hb hf => ?_) (fun t6 => ?_)
  · go_wp2
    exact ⟨rfl, _, by kernel_rfl, Below.refl _ _, rfl⟩
  refine wf_step (fun wf hb hf => ?_) (fun t7 => ?_)
  · obtain ⟨rfl, rfl, -⟩ := hf
    go_wp2
    exact ⟨rfl, .slice (some ⟨g, p * 2, none⟩) (ks.length + 1 - p) (c - p), by simp [Act.put], Below.refl _ _, rfl⟩
  refine wf_done (fun wC hb hf => ?_)
  obtain ⟨rfl, rfl, rfl, rfl, rfl, rfl, rfl, rfl, -⟩ := hf
  obtain ⟨W1, W2, hc1, hc2, ho2, hg2⟩ := HCP.out wC hb
  have HO2 := Lib.hid ho2
  have HG2 : Hid (GrownS w W2 (fun k => k = g)) := (GrownS.ofBelow hb).trans hg2
  clear ho2 hg2 hb
  show wpList _ _ _ [_] _ _
  refine wpList_frame (by simp [Act.put]; rfl) ?_
  go_wp2_with (at_builtin; refine Lib.wpList_copy_run _ rfl _ _ 106 106 rfl _ _ rfl rfl (hc1 _ _ _) ?_)
  go_wp2_with (at_builtin; refine Lib.wpList_copy_run _ rfl _ _ 106 30 rfl _ _ rfl rfl (hc2 _ _) ?_)
  go_ret
  exact ⟨rfl, HO2.out, HG2.out⟩

theorem row_isSome {W : World} {base : Nat} {E : TypeId} {sz g n c : Nat} {L : List Value} (h : W.ownsRow base E sz (.slice (some ⟨g, 0, none⟩) n c) n L) {j : Nat} (hj : j < n * sz) : (W.cell? ⟨g, j, none⟩).isSome = true := by
  rw [World.ownsRow.cellAt h j hj, List.getElem?_eq_getElem (by rw [h.1]; exact hj)]; rfl
theorem copyV_i (base g n c p : Nat) (hp : p < n) (L : List Value) (x y : Int) (V : Nat) (w : World) (h : w.ownsRow base 52 2 (.slice (some ⟨g, 0, none⟩) n c) n L) (hV : Blk w V 52 #[.int .i64 x, .int .i64 y]) :
    ∀ ty dc, (Builtin.copy_ #[106, 30] ty #[.slice (some ⟨g, p * 2, none⟩) (n - p) dc, .slice (some ⟨V, 0, none⟩) 1 1]).run Try.prog w = .ok (goInt (Nat.min 1 (n - p))) (w.setCells g (p * 2) [.int .i64 x, .int .i64 y]) := fun ty dc =>
  run_copy_cellsK 2 w _ _ ty 52 g (p * 2) (n - p) dc ⟨V, 0, none⟩ 1 1 [.int .i64 x, .int .i64 y] Try.underlying106 size_time (by simp only [Nat.min_def]; split <;> simp <;> omega)
    (fun j v hj => by
      rw [Addr.add_lit, hV.cell, Nat.zero_add]
      simpa using hj)
    (fun j hj => row_isSome h (by simp at hj; omega)) (fun j hj => World.ownsRow.frozenAt h _) (tm_ones x y)
theorem copyS_i (base g g' c G : Nat) (ks : List Tm) (p : Nat) (hp : p < ks.length) (L : List Value) (w : World) (h : w.ownsRow base 52 2 (.slice (some ⟨g', 0, none⟩) (ks.length + 1) G) (ks.length + 1) L) (ho : TmOwn w base (some ⟨g, 0, none⟩) c ks) :
    ∀ ty dc sc, (Builtin.copy_ #[106, 106] ty #[.slice (some ⟨g', (p + 1) * 2, none⟩) (ks.length - p) dc, .slice (some ⟨g, p * 2, none⟩) (ks.length - p) sc]).run Try.prog w = .ok (goInt (Nat.min (ks.length - p) (ks.length - p))) (w.setCells g' ((p + 1) * 2) (timeL (ks.drop p))) := fun ty dc sc =>
  run_copy_cellsK 2 w _ _ ty 52 g' ((p + 1) * 2) (ks.length - p) dc ⟨g, p * 2, none⟩ (ks.length - p) sc (timeL (ks.drop p)) Try.underlying106 size_time (by rw [timeL_len, List.length_drop]; simp only [Nat.min_def]; split <;> omega)
    (fun j v hj => by
      rw [Addr.add_lit, World.ownsRow.cellAt ho (p * 2 + j) (by
        rcases Nat.lt_or_ge j (timeL (ks.drop p)).length with h | h
        · rw [timeL_len, List.length_drop] at h; omega
        · rw [List.getElem?_eq_none h] at hj; cases hj)]
      rw [← timeL_drop, List.getElem?_drop] at hj
      exact hj)
    (fun j hj => row_isSome h (by rw [timeL_len, List.length_drop] at hj; omega)) (fun j hj => World.ownsRow.frozenAt h _) (tms_one _)
theorem zeros_size (z : Array Value) (n : Nat) : (Builtin.zeroCells z n).size = n * z.size := by simp [Builtin.zeroCells]
set_option maxHeartbeats 1600000 in
theorem growRow_i (base g : Nat) (ks : List Tm) (p : Nat) (hp : p < ks.length) (w : World) (ho : TmOwn w base (some ⟨g, 0, none⟩) ks.length ks) (hn : ks.length ≤ 4194000) (hb : base ≤ w.heap.size) :
    ∃ W1 G zs, (∀ ty, (Builtin.append_ #[106, 3] ty #[.slice (some ⟨g, 0, none⟩) p ks.length, .int .i64 ((ks.length : Int) + 1 - (p : Int))]).run Try.prog w = .ok (.slice (some ⟨w.heap.size, 0, none⟩) (ks.length + 1) G) W1) ∧
      zs.length = (ks.length + 1 - p) * 2 ∧ W1.ownsRow base 52 2 (.slice (some ⟨w.heap.size, 0, none⟩) (ks.length + 1) G) (ks.length + 1) ((timeL ks).take (p * 2) ++ zs) ∧ Below w.heap.size w W1 ∧ ks.length + 1 ≤ G ∧ G ≤ maxLen := by
  obtain ⟨i0, hi, hz0, hz1, hz2⟩ := info_parts Try.infoTime
  have htl : ((timeL ks).take (p * 2)).length = p * 2 := by rw [List.length_take, timeL_len]; omega
  have hold : (Builtin.firstCells i0.size p (.slice (some ⟨g, 0, none⟩) p ks.length)).run Try.prog w.drew = .ok ((timeL ks).take (p * 2)).toArray w.drew := by
    rw [hz1]
    refine run_firstCells_some w.drew 2 p ⟨g, 0, none⟩ p ks.length ((timeL ks).take (p * 2)) htl (fun j v hj => ?_)
    have hj2 : j < p * 2 := by
      rcases Nat.lt_or_ge j (p * 2) with h | h
      · exact h
      · rw [List.getElem?_eq_none (by rw [htl]; exact h)] at hj; cases hj
    rw [Addr.add_lit, Nat.zero_add]
    show w.cell? _ = _
    rw [World.ownsRow.cellAt ho j (by omega)]
    rwa [List.getElem?_take_of_lt hj2] at hj
  have hik : p + (ks.length + 1 - p) = ks.length + 1 := by omega
  have h := fun ty => Lib.run_append_grow_zeros w 106 3 ty 52 i0 _ .i64 .i64 Try.underlying106 Try.underlying3 hi hz0 (some ⟨g, 0, none⟩) p ks.length ((timeL ks).take (p * 2)) hold (ks.length + 1 - p) (by omega) (by omega) (by omega) (by omega) (by rw [hz2]; omega) (by rw [hz2, hik]; exact growslice_fits (by omega) (by omega))
  rw [hik] at h
  have hkk : (ks.length : Int) + 1 - (p : Int) = ((ks.length + 1 - p : Nat) : Int) := by omega
  rw [hkk]
  have hGn := grownCap_ge w (ks.length + 1) ks.length 52
  have hGm := grownCap_le_maxLen w (ks.length + 1) ks.length 52 (by unfold maxLen; omega)
  refine ⟨_, _, (Builtin.zeroCells (Value.agg #[.int .i64 0, .int .i64 0]).cells (ks.length + 1 - p)).toList, h, by simp [zeros_size, Value.cells], ?_, ((Below.refl _ w).drew).alloc (by simp) _, hGn, hGm⟩
  generalize grownCap w (ks.length + 1) ks.length 52 = G at hGn hGm ⊢
  refine ⟨by rw [List.length_append, htl]; simp [zeros_size, Value.cells]; omega, .inr ⟨w.heap.size, G, _, rfl, hb, heap_alloc_new w.drew _, hGn, hGm, ?_, ?_⟩⟩
  · simp only [Array.size_append, List.size_toArray, htl, zeros_size]
    simp [Value.cells]
    omega
  · simp only [Array.toList_append]
    rw [List.take_append_of_le_length (by simp [htl, zeros_size, Value.cells]; omega), List.take_of_length_le (by simp [htl, zeros_size, Value.cells]; omega)]

set_option maxRecDepth 100000 in
set_option maxHeartbeats 6400000 in
/-- Within, without room. -/
theorem insGrow_i (base g : Nat) (ks : List Tm) (p : Nat) (hp : p < ks.length) (x y : Int) (V : Nat) (w : World) (ho : TmOwn w base (some ⟨g, 0, none⟩) ks.length ks) (hV : Blk w V 52 #[.int .i64 x, .int .i64 y]) (hVg : V ≠ g) (hn : ks.length ≤ 4194000) (hb : base ≤ w.heap.size) :
    Calls Try.prog 162 #[.slice (some ⟨g, 0, none⟩) ks.length ks.length, .int .i64 p, .slice (some ⟨V, 0, none⟩) 1 1] w fun e w' => ∃ A' c', e = .returned (.slice A' (ks.length + 1) c') ∧ TmOwn w' base A' c' (ks.take p ++ [(x, y)] ++ ks.drop p) ∧ GrownS w w' (fun _ => False) ∧ ∀ k, blk A' = some k → w.heap.size ≤ k := by
  obtain ⟨W1, G, zs, hap, hzl, hrow, hB1, hG1, hG2⟩ := growRow_i base g ks p hp w ho hn hb
  obtain ⟨g', hg'⟩ : ∃ g', g' = w.heap.size := ⟨_, rfl⟩
  have hgw : g < w.heap.size := (World.ownsRow.lt ho g rfl).2
  have hVw : V < w.heap.size := hV.lt
  rw [← hg'] at hap hrow
  have ho1 := ho.below hB1
  have hV1 := hV.below hB1
  have hcA := copyV_i base g' (ks.length + 1) G p (by omega) _ x y V W1 hrow hV1
  have hrow2 := ownsRow_lay [.int .i64 x, .int .i64 y] (p * 2) _ _ hrow (by rw [List.length_append, List.length_take, timeL_len, hzl]; simp; omega)
  obtain ⟨W2, hW2⟩ : ∃ W2, W2 = W1.setCells g' (p * 2) [.int .i64 x, .int .i64 y] := ⟨_, rfl⟩
  rw [← hW2] at hcA hrow2
  have hB2 : Below w.heap.size w W2 := by rw [hW2]; exact Go.below_setCells (by omega) _ _ _ hB1
  have ho2 := ho.below hB2
  have hZ : ∀ W, Below W2.heap.size W2 W → ∃ W3, (∀ ty dc sc, (Builtin.copy_ #[106, 106] ty #[.slice (some ⟨g', (p + 1) * 2, none⟩) (ks.length - p) dc, .slice (some ⟨g, p * 2, none⟩) (ks.length - p) sc]).run Try.prog W = .ok (goInt (Nat.min (ks.length - p) (ks.length - p))) W3) ∧ TmOwn W3 base (some ⟨g', 0, none⟩) G (ks.take p ++ [(x, y)] ++ ks.drop p) ∧ GrownS w W3 (fun _ => False) := fun W hW => by
    have hgw2 : g' < W2.heap.size := (World.ownsRow.lt hrow2 g' rfl).2
    have hr3 : W.ownsRow base 52 2 (.slice (some ⟨g', 0, none⟩) (ks.length + 1) G) (ks.length + 1) _ := ownsRow_loc hrow2 (fun k hk => hW.block k ((show g' = k by simpa [blk] using hk) ▸ hgw2))
    refine ⟨_, copyS_i base g g' ks.length G ks p hp _ W hr3 (ho2.below hW), ?_, ?_⟩
    · have hL : (List.take (p * 2) (timeL ks) ++ zs).length = (ks.length + 1) * 2 := by rw [List.length_append, List.length_take, timeL_len, hzl]; omega
      have htl : ((timeL ks).take (p * 2)).length = p * 2 := by rw [List.length_take, timeL_len]; omega
      have h4 := ownsRow_lay (timeL (ks.drop p)) ((p + 1) * 2) _ _ hr3 (by simp only [List.length_append, List.length_take, List.length_drop, timeL_len, hzl]; simp; omega)
      have e : (ks.take p ++ [(x, y)] ++ ks.drop p).length = ks.length + 1 := by simp; omega
      unfold TmOwn
      rw [e]
      rw [timeL_split ks (by omega) (x, y)]
      have e1 : (List.take (p * 2) (List.take (p * 2) (timeL ks) ++ zs) ++ [Value.int .i64 x, .int .i64 y] ++ List.drop (p * 2 + [Value.int .i64 x, .int .i64 y].length) (List.take (p * 2) (timeL ks) ++ zs)).take ((p + 1) * 2) = (timeL ks).take (p * 2) ++ [.int .i64 x, .int .i64 y] := by
        rw [List.take_append_of_le_length (by simp [timeL_len]; omega), List.take_of_length_le (by simp [timeL_len]; omega), List.take_append_of_le_length (by rw [htl]; omega), List.take_take, Nat.min_self]
      rw [e1] at h4
      have e2 : ∀ Z : List Value, Z.length = (ks.length + 1) * 2 → Z.drop ((p + 1) * 2 + (timeL (ks.drop p)).length) = [] := fun Z hZ => List.drop_eq_nil_of_le (by rw [hZ, timeL_len, List.length_drop]; omega)
      rw [e2 _ (by simp only [List.length_append, List.length_take, List.length_drop, timeL_len, hzl]; simp; omega), List.append_nil] at h4
      exact h4
    · have : Below w.heap.size w (W.setCells g' ((p + 1) * 2) (timeL (ks.drop p))) := Go.below_setCells (by omega) _ _ _ (hB2.trans (hW.mono hB2.size))
      exact GrownS.ofBelow this
  have hne : ((p : Int) == (ks.length : Int)) = false := by rw [beq_eq_false_iff_ne]; omega
  have hp1 : ¬ (ks.length = p) := by omega
  have hp2 : ¬ (G = p) := by omega
  have hp3 : ¬ (G = p + 1) := by omega
  have hG3 : (G : Int) ≤ 9223372036854775807 := by unfold maxLen at hG2; omega
  have HAP := Lib.hid hap
  have HCA := Lib.hid hcA
  have HZ := Lib.hid hZ
  have hw1 : IntKind.i64.wrap ((ks.length : Int) + 1 - (p : Int)) = (ks.length : Int) + 1 - (p : Int) := by rw [IntKind.wrap_i64]; omega
  have HGG : Hid (∀ k, blk (some ⟨g', 0, none⟩) = some k → w.heap.size ≤ k) := fun k hk => by
    have : g' = k := by simpa [blk] using hk
    omega
  clear hap hcA hZ hrow hrow2 hW2 hB2 ho2 hV1 ho1 hg' hzl hB1 ho hV
  go_enter Try.func162, Try.ntmps162
  go_wp2_with (first
    | (at_builtin; refine Lib.wpList_append_run _ rfl _ _ _ _ rfl _ _ rfl rfl _ _ (HAP.out _) ?_)
    | (refine Lib.wpList_copy_run _ rfl _ _ 106 30 rfl _ _ rfl rfl (HCA.out _ _) ?_))
  refine wp_region_facts [[], [], [], [1, 2], [0, 1, 2, 3], [], [], [5, 6]]
    [fun v' _ => v' = .slice (some ⟨g', 0, none⟩) (ks.length + 1) G, fun v' _ => v' = .int .i64 p, fun v' _ => v' = .int .i64 1, fun v' _ => v' = .int .i64 (p + 1), fun v' _ => v' = .slice (some ⟨g', (p + 1) * 2, none⟩) (ks.length - p) (G - (p + 1)), fun v' _ => v' = .slice (some ⟨g, 0, none⟩) ks.length ks.length, fun v' _ => v' = .int .i64 p, fun v' _ => v' = .slice (some ⟨g, p * 2, none⟩) (ks.length - p) (ks.length - p)]
    (by kernel_rfl) (by kernel_rfl) rfl ⟨stable_pure _, stable_pure _, stable_pure _, stable_pure _, stable_pure _, stable_pure _, stable_pure _, stable_pure _, trivial⟩ ?_
  refine wf_step (fun wf hb hf => ?_) (fun t0 => ?_)
  · go_wp2
    exact ⟨rfl, _, by kernel_rfl, Below.refl _ _, rfl⟩
  refine wf_step (fun wf hb hf => ?_) (fun t1 => ?_)
  · go_wp2
    exact ⟨rfl, _, by kernel_rfl, Below.refl _ _, rfl⟩
  refine wf_step (fun wf hb hf => ?_) (fun t2 => ?_)
  · go_wp2
    exact ⟨rfl, _, by kernel_rfl, Below.refl _ _, rfl⟩
  refine wf_step (fun wf hb hf => ?_) (fun t3 => ?_)
  · obtain ⟨rfl, rfl, -⟩ := hf
    go_wp2
    exact ⟨rfl, _, by kernel_rfl, Below.refl _ _, rfl⟩
  refine wf_step (fun wf hb hf => ?_) (fun t4 => ?_)
  · obtain ⟨rfl, rfl, rfl, rfl, -⟩ := hf
    go_wp2
    exact ⟨rfl, .slice (some ⟨g', (p + 1) * 2, none⟩) (ks.length - p) (G - (p + 1)), by simp [Act.put], Below.refl _ _, rfl⟩
  refine wf_step (fun wf hb hf => ?_) (fun t5 => ?_)
  · go_wp2
    exact ⟨rfl, _, by kernel_rfl, Below.refl _ _, rfl⟩
  refine wf_step (fun wf hb hf => ?_) (fun t6 => ?_)
  · go_wp2
    exact ⟨rfl, _, by kernel_rfl, Below.refl _ _, rfl⟩
  refine wf_step (fun wf hb hf => ?_) (fun t7 => ?_)
  · obtain ⟨rfl, rfl, -⟩ := hf
    go_wp2
    exact ⟨rfl, .slice (some ⟨g, p * 2, none⟩) (ks.length - p) (ks.length - p), by simp [Act.put], Below.refl _ _, rfl⟩
  refine wf_done (fun wC hb hf => ?_)
  obtain ⟨rfl, rfl, rfl, rfl, rfl, rfl, rfl, rfl, -⟩ := hf
  obtain ⟨W3, hc3, ho3, hg3⟩ := HZ.out wC hb
  have HO3 := Lib.hid ho3
  have HG3 := Lib.hid hg3
  clear ho3 hg3 hb
  show wpList _ _ _ [_] _ _
  refine wpList_frame (by simp [Act.put]; rfl) ?_
  go_wp2_with (at_builtin; refine Lib.wpList_copy_run _ rfl _ _ 106 106 rfl _ _ rfl rfl (hc3 _ _ _) ?_)
  go_ret
  exact ⟨_, _, rfl, HO3.out, HG3.out, HGG.out⟩
end Go.Proofs.Ytkonhjdfcfljpaa
