/- HELPER, no statement of the seat: several texts in one file. -/
import Derived.Test.YthefakiobpijiaaTms
import Derived.Test.YthefakiobpijiaaTmK
import Derived.Test.YthefakiobpijiaaBldM
import Derived.Test.YthefakiobpijiaaZba
import Derived.Lib.SlBuf
import Derived.Lib.Overlaps
import Derived.Lib.AppendZerosOnto
import Derived.Laws.Externs
/- HELPER, no statement of the seat: the program's insertion of a time into an antichain, as lists. -/
namespace Go.Proofs.Ythefakiobpijiaa
open Go.RowKit Go.Sort
set_option linter.unusedSimpArgs false
set_option linter.unusedVariables false

/-- What t does not cover. -/
def keepF (t : Tm) (xs : List Tm) : List Tm := xs.filter fun e => !leB t.1 t.2 e.1 e.2
/-- How many stand ahead of t. -/
def plc (t : Tm) : List Tm → Nat
  | [] => 0
  | e :: r => if bfB e.1 e.2 t.1 t.2 = true then plc t r + 1 else 0
def insAt (t : Tm) (ks : List Tm) : List Tm := ks.take (plc t ks) ++ [t] ++ ks.drop (plc t ks)
theorem plc_le (t : Tm) : ∀ ks : List Tm, plc t ks ≤ ks.length
  | [] => by simp [plc]
  | e :: r => by
    unfold plc
    have := plc_le t r
    split <;> simp <;> omega
theorem plc_lt (t : Tm) : ∀ (ks : List Tm) (k : Nat) (h : k < ks.length), k < plc t ks → bfB ks[k].1 ks[k].2 t.1 t.2 = true
  | [], k, h, _ => by simp at h
  | e :: r, 0, _, hp => by
    unfold plc at hp
    split at hp
    · assumption
    · omega
  | e :: r, k + 1, h, hp => by
    unfold plc at hp
    split at hp
    · simpa using plc_lt t r k (by simpa using h) (by omega)
    · omega
theorem plc_at (t : Tm) : ∀ (ks : List Tm) (h : plc t ks < ks.length), bfB ks[plc t ks].1 ks[plc t ks].2 t.1 t.2 = false
  | [], h => by simp at h
  | e :: r, h => by
    by_cases hb : bfB e.1 e.2 t.1 t.2 = true
    · have e1 : plc t (e :: r) = plc t r + 1 := by simp [plc, hb]
      have := plc_at t r (by rw [e1] at h; simpa using h)
      simp only [e1, List.getElem_cons_succ]
      exact this
    · have e1 : plc t (e :: r) = 0 := by simp [plc, hb]
      simp only [e1, List.getElem_cons_zero]
      simpa using hb
theorem plc_of (t : Tm) (ks : List Tm) (k : Nat) (hk : k ≤ ks.length) (ha : ∀ j (h : j < ks.length), j < k → bfB ks[j].1 ks[j].2 t.1 t.2 = true) (hb : ∀ h : k < ks.length, bfB ks[k].1 ks[k].2 t.1 t.2 = false) : plc t ks = k := by
  have h1 := plc_le t ks
  rcases Nat.lt_trichotomy (plc t ks) k with h | h | h
  · have := plc_at t ks (by omega)
    rw [ha _ (by omega) h] at this
    cases this
  · exact h
  · have := plc_lt t ks k (by omega) h
    rw [hb (by omega)] at this
    cases this
theorem bf_tri {a b : Tm} (h : leB a.1 a.2 b.1 b.2 = false) : bfB a.1 a.2 b.1 b.2 = !bfB b.1 b.2 a.1 a.2 := by
  simp only [leB, decide_eq_false_iff_not] at h
  unfold bfB
  by_cases h1 : a.1 < b.1 ∨ a.1 = b.1 ∧ a.2 < b.2
  · have h2 : ¬ (b.1 < a.1 ∨ b.1 = a.1 ∧ b.2 < a.2) := by omega
    simp [h1, h2]
  · have h2 : b.1 < a.1 ∨ b.1 = a.1 ∧ b.2 < a.2 := by omega
    simp [h1, h2]
theorem fold_placed (t : Tm) : ∀ (xs acc : List Tm), xs.foldl (insS t) (acc, true) = (acc ++ keepF t xs, true)
  | [], acc => by simp [keepF]
  | e :: xs, acc => by
    rw [List.foldl_cons]
    by_cases h : leB t.1 t.2 e.1 e.2 = true
    · have e1 : insS t (acc, true) e = (acc, true) := by simp [insS, h]
      rw [e1, fold_placed t xs]
      simp [keepF, List.filter_cons, h]
    · have e1 : insS t (acc, true) e = (acc ++ [e], true) := by simp [insS, h]
      rw [e1, fold_placed t xs]
      simp [keepF, List.filter_cons, h]
theorem fold_open (t : Tm) : ∀ (xs acc : List Tm), insE t (xs.foldl (insS t) (acc, false)) = acc ++ insAt t (keepF t xs)
  | [], acc => by simp [keepF, insE, insAt, plc]
  | e :: xs, acc => by
    rw [List.foldl_cons]
    by_cases h : leB t.1 t.2 e.1 e.2 = true
    · have e1 : insS t (acc, false) e = (acc, false) := by simp [insS, h]
      rw [e1, fold_open t xs]
      simp [keepF, List.filter_cons, h]
    · have h' : leB t.1 t.2 e.1 e.2 = false := by simpa using h
      have hk : keepF t (e :: xs) = e :: keepF t xs := by simp [keepF, List.filter_cons, h']
      by_cases hb : bfB t.1 t.2 e.1 e.2 = true
      · have e1 : insS t (acc, false) e = (acc ++ [t] ++ [e], true) := by simp [insS, h, hb]
        have hb2 : bfB e.1 e.2 t.1 t.2 = false := by have := bf_tri h'; rw [hb] at this; simpa using this.symm
        rw [e1, fold_placed, hk]
        simp [insE, insAt, plc, hb2]
      · have hb' : bfB t.1 t.2 e.1 e.2 = false := by simpa using hb
        have hb2 : bfB e.1 e.2 t.1 t.2 = true := by have := bf_tri h'; rw [hb'] at this; simpa using this.symm
        have e1 : insS t (acc, false) e = (acc ++ [e], false) := by simp [insS, h, hb']
        rw [e1, fold_open t xs, hk]
        simp [insAt, plc, hb2]
theorem insT_cv {xs : List Tm} {t : Tm} (h : cvB xs t.1 t.2 = true) : insT xs t = xs := by simp [insT, h]
theorem insT_at {xs : List Tm} {t : Tm} (h : cvB xs t.1 t.2 = false) : insT xs t = insAt t (keepF t xs) := by
  unfold insT
  rw [h, fold_open]
  simp
end Go.Proofs.Ythefakiobpijiaa

/- HELPER, no statement of the seat: slices.DeleteFunc at antichains, with Time.lessEqual bound to a time. -/
namespace Go.Proofs.Ythefakiobpijiaa
open Go.RowKit Go.Sort
set_option linter.unusedSimpArgs false
set_option linter.unusedVariables false

/-- A beginning of a row is a row. -/
theorem ownsRow_take {w : World} {base : Nat} {E : TypeId} {sz : Nat} {A : Option Addr} {n c i : Nat} {vs : List Value} (h : w.ownsRow base E sz (.slice A n c) n vs) (hi : i ≤ n) : w.ownsRow base E sz (.slice A i c) i (vs.take (i * sz)) := by
  obtain ⟨hl, h⟩ := h
  have hm : i * sz ≤ n * sz := Nat.mul_le_mul_right _ hi
  refine ⟨by rw [List.length_take, hl]; omega, ?_⟩
  rcases h with ⟨e, h0⟩ | ⟨g, cap, cur, e, hb, hg, h1, h2, h3, h4⟩
  · injection e with e1 e2 e3
    subst e1; subst e3
    obtain rfl : i = 0 := by omega
    exact .inl ⟨rfl, rfl⟩
  · injection e with e1 e2 e3
    subst e1; subst e3
    exact .inr ⟨g, c, cur, rfl, hb, hg, by omega, h2, h3, by rw [← h4, List.take_take]; congr 1; omega⟩
theorem ownsRow_setCells {base : Nat} {E : TypeId} {sz g c n : Nat} : ∀ (vs : List Value) (o : Nat) (w : World) (xs : List Value), w.ownsRow base E sz (.slice (some ⟨g, 0, none⟩) n c) n xs → ∃ xs', (w.setCells g o vs).ownsRow base E sz (.slice (some ⟨g, 0, none⟩) n c) n xs' ∧ xs'.take o = xs.take o
  | [], _, _, xs, h => ⟨xs, h, rfl⟩
  | v :: r, o, w, xs, h => by
    obtain ⟨xs', h1, h2⟩ := ownsRow_setCells r (o + 1) _ _ (World.ownsRow.stored h o v).1
    refine ⟨xs', h1, ?_⟩
    have := congrArg (List.take o) h2
    rw [List.take_take, List.take_take, show min o (o + 1) = o by omega] at this
    rw [this, List.take_set_of_le (by omega)]
theorem grownS_setCells {a : World} {S : Fp} {b : Nat} (hS : S b) : ∀ (vs : List Value) (o : Nat) (w : World), GrownS a w S → GrownS a (w.setCells b o vs) S
  | [], _, _, h => h
  | v :: r, o, w, h => grownS_setCells hS r (o + 1) _ (h.set_ (p := ⟨b, o, none⟩) hS v)
theorem size_setCellsT (b : Nat) : ∀ (vs : List Value) (o : Nat) (w : World), (w.setCells b o vs).heap.size = w.heap.size
  | [], _, _ => rfl
  | v :: r, o, w => by rw [World.setCells, size_setCellsT b r]; simp

/-- How slices.DeleteFunc goes: D holds what was kept of the first j, then what was there. -/
structure DelT (p : Tm → Bool) (xs : List Tm) (j i : Nat) (D : List Tm) : Prop where
  len : D.length = xs.length
  lt : i < j
  cnt : i = ((xs.take j).filter p).length
  head : D.take i = (xs.take j).filter p
  tail : D.drop j = xs.drop j
theorem DelT.start {p : Tm → Bool} {xs : List Tm} {k : Nat} (hk : k < xs.length) (h : ∀ x ∈ xs.take k, p x = true) (hp : p xs[k] = false) : DelT p xs (k + 1) k xs := by
  have e : (xs.take (k + 1)).filter p = xs.take k := by
    rw [List.take_succ_eq_append_getElem hk, List.filter_append, List.filter_eq_self.2 h]
    simp [hp]
  exact ⟨rfl, by omega, by rw [e, List.length_take]; omega, e.symm, rfl⟩
theorem DelT.skip {p : Tm → Bool} {xs D : List Tm} {j i : Nat} (h : DelT p xs j i D) (hj : j < xs.length) (hp : p xs[j] = false) : DelT p xs (j + 1) i D := by
  have e : (xs.take (j + 1)).filter p = (xs.take j).filter p := by rw [List.take_succ_eq_append_getElem hj, List.filter_append]; simp [hp]
  refine ⟨h.len, by have := h.lt; omega, by rw [e]; exact h.cnt, by rw [e]; exact h.head, ?_⟩
  rw [← List.drop_drop, h.tail, List.drop_drop]
theorem DelT.keep {p : Tm → Bool} {xs D : List Tm} {j i : Nat} (h : DelT p xs j i D) (hj : j < xs.length) (hp : p xs[j] = true) : DelT p xs (j + 1) (i + 1) (D.set i xs[j]) := by
  have e : (xs.take (j + 1)).filter p = (xs.take j).filter p ++ [xs[j]] := by rw [List.take_succ_eq_append_getElem hj, List.filter_append]; simp [hp]
  have hl := h.lt
  have hD := h.len
  refine ⟨by simp [hD], by omega, by rw [e, List.length_append, ← h.cnt]; rfl, ?_, ?_⟩
  · rw [e, ← h.head, List.take_succ_eq_append_getElem (by simp; omega), List.getElem_set_self, List.take_set, List.set_eq_of_length_le (by simp; omega)]
  · rw [List.drop_set_of_lt (by omega), ← List.drop_drop, h.tail, List.drop_drop]
theorem DelT.at_ {p : Tm → Bool} {xs D : List Tm} {j i : Nat} (h : DelT p xs j i D) (hj : j < xs.length) : D.getD j (0, 0) = xs[j] := by
  have hD := h.len
  have e := congrArg (fun l => l[0]?) h.tail
  simp only [List.getElem?_drop, Nat.add_zero] at e
  rw [List.getElem?_eq_getElem hj] at e
  rw [List.getD_eq_getElem?_getD, e]
  rfl
theorem DelT.end_ {p : Tm → Bool} {xs D : List Tm} {i : Nat} (h : DelT p xs xs.length i D) : i = (xs.filter p).length ∧ D.take i = xs.filter p := by
  have h1 := h.cnt
  have h2 := h.head
  rw [List.take_length] at h1 h2
  exact ⟨h1, h2⟩
theorem timeL_take (l : List Tm) : ∀ i, (timeL l).take (i * 2) = timeL (l.take i) := by
  induction l with
  | nil => intro i; simp [timeL]
  | cons a l ih =>
    intro i
    cases i with
    | zero => simp [timeL]
    | succ i =>
      have := ih i
      rw [show (i + 1) * 2 = i * 2 + 1 + 1 by omega]
      simp only [timeL, List.flatMap_cons, List.take_succ_cons, List.cons_append, List.nil_append] at this ⊢
      rw [this]

abbrev leFn (x y : Int) : Value := .func (.func 210) #[.agg #[.int .i64 x, .int .i64 y]] #[]
def IdxT (p : Tm → Bool) (xs : List Tm) (e : Ending) : Prop := (e = .returned (.int .i64 (-1)) ∧ ∀ t ∈ xs, p t = true) ∨ ∃ (k : Nat) (hk : k < xs.length), e = .returned (.int .i64 (k : Int)) ∧ p xs[k] = false ∧ ∀ t ∈ xs.take k, p t = true
theorem zero_time (w : World) : (zeroValue 117).run Try.prog w = .ok (.agg #[.int .i64 0, .int .i64 0]) w := by kernel_rfl
end Go.Proofs.Ythefakiobpijiaa

/- HELPER, no statement of the seat: slices.Insert at antichains, of one time. -/
namespace Go.Proofs.Ythefakiobpijiaa
open Go.RowKit Go.Sort
set_option linter.unusedSimpArgs false
set_option linter.unusedVariables false

theorem append_types {P : Program} (w : World) (t t' ty e e' : TypeId) (ht : P.underlying t = some (.slice e)) (ht' : P.underlying t' = some (.slice e')) (s x : Value) : (Builtin.append_ #[t, t'] ty #[s, x]).run P w = (Builtin.append_ #[t, t] ty #[s, x]).run P w := by
  unfold Builtin.append_
  cases s <;> simp [run_underlying ht, run_underlying ht']
/-- append where the second slice's type bears another name. -/
theorem wpList_append_srcN {P : Program} (w : World) {ops : Array Oper} {rest : List Oper} {o : Oper} {a : Act} {Q : Exit → Act → World → Prop} (hgd : o.guard = none) (s x : Operand) (t t' : TypeId)
    (ho : o.op = .call { callee := .builtin .append, args := #[s, x], argTypes := #[t, t'] })
    (base : Nat) (e e' : TypeId) (i : TypeInfo) (z : Value) (size bytes : Nat) (ht : P.underlying t = some (.slice e)) (ht' : P.underlying t' = some (.slice e')) (hi : P.info? e = some i) (hz : i.zero = some z)
    (hsize : i.size = size) (hby : i.bytes = bytes) (hzs : z.cells.size = size) (hsz : 0 < size)
    (v : Value) (n : Nat) (xs : List Value) (hs : a.eval s = v) (hown : w.ownsRow base e size v n xs)
    (A : Option Addr) (m c : Nat) (news : List Value) (hx : a.eval x = .slice A m c) (hl : news.length = m * size) (hA : A = none → m = 0) (hnews : ∀ a, A = some a → ∀ j u, news[j]? = some u → w.cell? (a.add j) = some u) (h1 : ∀ u ∈ news, u.oneCell' = true)
    (h63 : n + m ≤ maxLen) (hbytes : (n + m) * bytes ≤ 140737488355328) (hbase : base ≤ w.heap.size)
    (h : ∀ v' w', w'.ownsRow base e size v' (n + m) (xs ++ news) → w.grownBy w' v.ownBlock → (∀ k, v'.ownBlock = some k → v.ownBlock = some k ∨ w.heap.size ≤ k) → wpList P ops Q rest (a.put o.dst v') w') : wpList P ops Q (o :: rest) a w := by
  refine wpList_plain hgd fun K hK => ?_
  obtain ⟨v', w', hr, h2, h3, h4⟩ := run_append_src (P := P) w base t o.type e i z size bytes ht hi hz hsize hby hzs hsz v n xs hown A m c news hl hA hnews h1 h63 hbytes hbase
  rw [← append_types w t t' o.type e e' ht ht'] at hr
  unfold Oper.wp execOp
  simp only [ho, resolve, invoke, builtin, Sem.run_bind, Sem.run_pure, Result.andThen_ok, List.map_toArray, List.map_cons, List.map_nil, hs, hx, hr]
  exact hK _ _ (h v' w' h2 h3 h4)
/-- copy at elements of sz cells. -/
theorem run_copy_cellsK {P : Program} (sz : Nat) (w : World) (dT sT ty elem : TypeId) (b o dLen dCap : Nat) (a : Addr) (sLen sCap : Nat) (cs : List Value)
    (hu : P.underlying dT = some (.slice elem)) (hs : (P.info? elem).map (·.size) = some sz) (hn : cs.length = Nat.min sLen dLen * sz)
    (hsrc : ∀ j v, cs[j]? = some v → w.cell? (a.add j) = some v) (hc : ∀ j, j < cs.length → (w.cell? ⟨b, o + j, none⟩).isSome = true) (hf : ∀ j, j < cs.length → w.frozen? ⟨b, o + j, none⟩ = false) (h1 : ∀ v ∈ cs, v.oneCell' = true) :
    (Builtin.copy_ #[dT, sT] ty #[.slice (some ⟨b, o, none⟩) dLen dCap, .slice (some a) sLen sCap]).run P w = .ok (goInt (Nat.min sLen dLen)) (w.setCells b o cs) := by
  have hl := run_loadCells_list (P := P) w a cs hsrc
  have hst := run_storeCells_cells (P := P) b o cs 0 w (by simpa using hc) (by simpa using hf) h1
  cases hq : P.info? elem with
  | none => simp [hq] at hs
  | some i =>
    have hi : i.size = sz := by simpa [hq] using hs
    simp [Builtin.copy_, run_underlying hu, Builtin.lenOf, Builtin.firstCells, sizeOf, typeInfo, hq, hi, ← hn, hl, hst]

/-- Cells laid into a row: what it holds then. -/
theorem ownsRow_lay {base : Nat} {E : TypeId} {sz g c n : Nat} : ∀ (vs : List Value) (o : Nat) (w : World) (xs : List Value), w.ownsRow base E sz (.slice (some ⟨g, 0, none⟩) n c) n xs → o + vs.length ≤ xs.length → (w.setCells g o vs).ownsRow base E sz (.slice (some ⟨g, 0, none⟩) n c) n (xs.take o ++ vs ++ xs.drop (o + vs.length))
  | [], o, _, xs, h, _ => by simpa [World.setCells] using h
  | v :: r, o, w, xs, h, hl => by
    simp only [List.length_cons] at hl
    have := ownsRow_lay r (o + 1) _ _ (World.ownsRow.stored h o v).1 (by simp; omega)
    rw [list_seg_step xs o v r (by omega)] at this
    exact this
theorem ownsRow_more {w : World} {base : Nat} {E : TypeId} {sz g n c m : Nat} {vs : List Value} (h : w.ownsRow base E sz (.slice (some ⟨g, 0, none⟩) n c) n vs) (hm : n ≤ m) (hc : m ≤ c) : ∃ zs, zs.length = (m - n) * sz ∧ w.ownsRow base E sz (.slice (some ⟨g, 0, none⟩) m c) m (vs ++ zs) := by
  obtain ⟨hl, h⟩ := h
  rcases h with ⟨e, h0⟩ | ⟨g', cap, cur, e, hb, hg, h1, h2, h3, h4⟩
  · cases e
  · injection e with e1 e2 e3
    injection e1 with e1
    injection e1 with e1
    subst e1; subst e3
    have hms : n * sz ≤ m * sz := Nat.mul_le_mul_right _ hm
    have hcs : m * sz ≤ c * sz := Nat.mul_le_mul_right _ hc
    have e : (cur.toList.take (m * sz)) = vs ++ (cur.toList.take (m * sz)).drop (n * sz) := by
      rw [← h4]
      have := List.take_append_drop (n * sz) (cur.toList.take (m * sz))
      rw [List.take_take, show min (n * sz) (m * sz) = n * sz by omega] at this
      exact this.symm
    refine ⟨(cur.toList.take (m * sz)).drop (n * sz), by simp only [List.length_drop, List.length_take, Array.length_toList, h3, Nat.sub_mul, Nat.min_eq_left hcs], ?_, .inr ⟨g, c, cur, rfl, hb, hg, hc, h2, h3, e⟩⟩
    rw [← e, List.length_take, Array.length_toList, h3, Nat.min_eq_left hcs]
theorem timeL_split (ks : List Tm) {p : Nat} (hp : p ≤ ks.length) (t : Tm) : timeL (ks.take p ++ [t] ++ ks.drop p) = (timeL ks).take (p * 2) ++ [.int .i64 t.1, .int .i64 t.2] ++ timeL (ks.drop p) := by
  rw [timeL_append, timeL_append, timeL_take]
  rfl
theorem timeL_drop (l : List Tm) : ∀ i, (timeL l).drop (i * 2) = timeL (l.drop i) := by
  induction l with
  | nil => intro i; simp [timeL]
  | cons a l ih =>
    intro i
    cases i with
    | zero => simp [timeL]
    | succ i =>
      have := ih i
      rw [show (i + 1) * 2 = i * 2 + 1 + 1 by omega]
      simp only [timeL, List.flatMap_cons, List.drop_succ_cons, List.cons_append, List.nil_append] at this ⊢
      rw [this]
theorem lay2 (ks : List Tm) (zs : List Value) (p : Nat) (hp : p ≤ ks.length) (t : Tm) (L : List Value) (hz : L = (timeL ks).take (p * 2) ++ zs) (hl : zs.length = (ks.length + 1 - p) * 2) :
    ((L.take ((p + 1) * 2) ++ timeL (ks.drop p) ++ L.drop ((p + 1) * 2 + (timeL (ks.drop p)).length)).take (p * 2) ++ [.int .i64 t.1, .int .i64 t.2] ++ (L.take ((p + 1) * 2) ++ timeL (ks.drop p) ++ L.drop ((p + 1) * 2 + (timeL (ks.drop p)).length)).drop (p * 2 + 2)) = timeL (ks.take p ++ [t] ++ ks.drop p) := by
  have h1 : ((timeL ks).take (p * 2)).length = p * 2 := by rw [List.length_take, timeL_len]; omega
  have h2 : L.length = (ks.length + 1) * 2 := by rw [hz, List.length_append, h1, hl]; omega
  have h3 : (timeL (ks.drop p)).length = (ks.length - p) * 2 := by rw [timeL_len, List.length_drop]
  have h4 : L.drop ((p + 1) * 2 + (timeL (ks.drop p)).length) = [] := List.drop_eq_nil_of_le (by rw [h2, h3]; omega)
  have h5 : (L.take ((p + 1) * 2)).length = (p + 1) * 2 := by rw [List.length_take, h2]; omega
  rw [h4, List.append_nil, timeL_split ks hp t]
  congr 1
  · congr 1
    rw [List.take_append_of_le_length (by rw [h5]; omega), List.take_take, show min (p * 2) ((p + 1) * 2) = p * 2 by omega, hz, List.take_append_of_le_length (by rw [h1]; omega), List.take_take, Nat.min_self]
  · rw [List.drop_append, List.drop_eq_nil_of_le (by rw [h5]; omega), h5, show p * 2 + 2 - (p + 1) * 2 = 0 by omega]
    rfl

theorem size_time : (Try.prog.info? 117).map (·.size) = some 2 := by kernel_rfl
theorem zr_time (w : World) : (Go.sizeOf 117).run Try.prog w = .ok 2 w := by kernel_rfl
theorem shape_row {w : World} {base : Nat} {E : TypeId} {sz g n c : Nat} {vs : List Value} (h : w.ownsRow base E sz (.slice (some ⟨g, 0, none⟩) n c) n vs) : w.shape? g = some (E, c * sz) := by
  obtain ⟨_, ⟨e, _⟩ | ⟨g', cap, cur, e, _, hg, _, _, h3, _⟩⟩ := h
  · cases e
  · injection e with e1 e2 e3
    injection e1 with e1
    injection e1 with e1
    subst e1; subst e3
    simp [World.shape?, hg, h3]
theorem shape_blk {w : World} {g : Nat} {t : TypeId} {cs : Array Value} (h : Blk w g t cs) : w.shape? g = some (t, cs.size) := by
  unfold Blk at h
  simp [World.shape?, h]

set_option maxHeartbeats 1600000 in
theorem copies_room (base g c : Nat) (ks : List Tm) (p : Nat) (hp : p < ks.length) (x y : Int) (V : Nat) (w : World) (ho : TmOwn w base (some ⟨g, 0, none⟩) c ks) (hV : Blk w V 117 #[.int .i64 x, .int .i64 y]) (hVg : V ≠ g) (hr : ks.length + 1 ≤ c) :
    ∃ W1 W2, (∀ ty dc sc, (Builtin.copy_ #[98, 98] ty #[.slice (some ⟨g, (p + 1) * 2, none⟩) (ks.length - p) dc, .slice (some ⟨g, p * 2, none⟩) (ks.length + 1 - p) sc]).run Try.prog w = .ok (goInt (Nat.min (ks.length + 1 - p) (ks.length - p))) W1) ∧
      (∀ ty dc, (Builtin.copy_ #[98, 23] ty #[.slice (some ⟨g, p * 2, none⟩) (ks.length + 1 - p) dc, .slice (some ⟨V, 0, none⟩) 1 1]).run Try.prog W1 = .ok (goInt (Nat.min 1 (ks.length + 1 - p))) W2) ∧
      TmOwn W2 base (some ⟨g, 0, none⟩) c (ks.take p ++ [(x, y)] ++ ks.drop p) ∧ GrownS w W2 (fun k => k = g) := by
  obtain ⟨zs, hzl, hrow⟩ := ownsRow_more ho (show ks.length ≤ ks.length + 1 by omega) hr
  have hLl : (timeL ks ++ zs).length = (ks.length + 1) * 2 := by rw [List.length_append, timeL_len, hzl]; omega
  have hdl : (timeL (ks.drop p)).length = (ks.length - p) * 2 := by rw [timeL_len, List.length_drop]
  have hcell : ∀ W : World, ∀ L : List Value, W.ownsRow base 117 2 (.slice (some ⟨g, 0, none⟩) (ks.length + 1) c) (ks.length + 1) L → ∀ j, j < (ks.length + 1) * 2 → (W.cell? ⟨g, j, none⟩).isSome = true := fun W L h j hj => by
    rw [World.ownsRow.cellAt h j hj, List.getElem?_eq_getElem (by rw [h.1]; exact hj)]; rfl
  -- the first copy
  obtain ⟨W1, hW1⟩ : ∃ W1, W1 = w.setCells g ((p + 1) * 2) (timeL (ks.drop p)) := ⟨_, rfl⟩
  have hrow1 : W1.ownsRow base 117 2 (.slice (some ⟨g, 0, none⟩) (ks.length + 1) c) (ks.length + 1) ((timeL ks ++ zs).take ((p + 1) * 2) ++ timeL (ks.drop p) ++ (timeL ks ++ zs).drop ((p + 1) * 2 + (timeL (ks.drop p)).length)) := by
    rw [hW1]; exact ownsRow_lay _ _ _ _ hrow (by rw [hLl, hdl]; omega)
  have hV1 : ∀ j, W1.cell? ⟨V, j, none⟩ = w.cell? ⟨V, j, none⟩ := fun j => by rw [hW1]; exact World.cell?_setCells_out _ _ _ _ _ (fun h _ => absurd h hVg)
  have hrow2 := ownsRow_lay [.int .i64 x, .int .i64 y] (p * 2) _ _ hrow1 (by
    have h4 : (timeL ks ++ zs).drop ((p + 1) * 2 + (timeL (ks.drop p)).length) = [] := List.drop_eq_nil_of_le (by rw [hLl, hdl]; omega)
    rw [h4, List.append_nil, List.length_append, List.length_take, hLl, hdl]; simp; omega)
  rw [show p * 2 + [Value.int .i64 x, .int .i64 y].length = p * 2 + 2 from rfl, lay2 ks ((timeL ks).drop (p * 2) ++ zs) p (by omega) (x, y) (timeL ks ++ zs) (by rw [← List.append_assoc, List.take_append_drop]) (by rw [List.length_append, List.length_drop, timeL_len, hzl]; omega)] at hrow2
  have hcp1 : ∀ ty dc sc, (Builtin.copy_ #[98, 98] ty #[.slice (some ⟨g, (p + 1) * 2, none⟩) (ks.length - p) dc, .slice (some ⟨g, p * 2, none⟩) (ks.length + 1 - p) sc]).run Try.prog w = .ok (goInt (Nat.min (ks.length + 1 - p) (ks.length - p))) W1 := fun ty dc sc => by
    rw [hW1]
    exact run_copy_cellsK 2 w _ _ ty 117 g ((p + 1) * 2) (ks.length - p) dc ⟨g, p * 2, none⟩ (ks.length + 1 - p) sc (timeL (ks.drop p)) Try.underlying98 size_time (by rw [hdl]; simp only [Nat.min_def]; split <;> omega)
      (fun j v hj => by
        rw [Addr.add_lit, World.ownsRow.cellAt ho (p * 2 + j) (by
          rcases Nat.lt_or_ge j (timeL (ks.drop p)).length with h | h
          · rw [hdl] at h; omega
          · rw [List.getElem?_eq_none h] at hj; cases hj)]
        rw [← timeL_drop, List.getElem?_drop] at hj
        exact hj)
      (fun j hj => hcell w _ hrow _ (by rw [hdl] at hj; omega)) (fun j hj => World.ownsRow.frozenAt hrow _) (tms_one _)
  have hcp2 : ∀ ty dc, (Builtin.copy_ #[98, 23] ty #[.slice (some ⟨g, p * 2, none⟩) (ks.length + 1 - p) dc, .slice (some ⟨V, 0, none⟩) 1 1]).run Try.prog W1 = .ok (goInt (Nat.min 1 (ks.length + 1 - p))) (W1.setCells g (p * 2) [.int .i64 x, .int .i64 y]) := fun ty dc =>
    run_copy_cellsK 2 W1 _ _ ty 117 g (p * 2) (ks.length + 1 - p) dc ⟨V, 0, none⟩ 1 1 [.int .i64 x, .int .i64 y] Try.underlying98 size_time (by simp only [Nat.min_def]; split <;> simp <;> omega)
      (fun j v hj => by
        rw [Addr.add_lit, hV1, hV.cell, Nat.zero_add]
        simpa using hj)
      (fun j hj => hcell W1 _ hrow1 _ (by simp at hj; omega)) (fun j hj => World.ownsRow.frozenAt hrow1 _) (tm_ones x y)
  refine ⟨W1, W1.setCells g (p * 2) [.int .i64 x, .int .i64 y], hcp1, hcp2, ?_, ?_⟩
  · have e : (ks.take p ++ [(x, y)] ++ ks.drop p).length = ks.length + 1 := by simp; omega
    unfold TmOwn; rw [e]; exact hrow2
  · rw [hW1]
    exact grownS_setCells (S := fun k => k = g) rfl _ _ _ (grownS_setCells (S := fun k => k = g) rfl _ _ _ (GrownS.refl _ _))
set_option maxRecDepth 100000 in
set_option maxHeartbeats 6400000 in
/-- Within, with room. -/
theorem row_isSome {W : World} {base : Nat} {E : TypeId} {sz g n c : Nat} {L : List Value} (h : W.ownsRow base E sz (.slice (some ⟨g, 0, none⟩) n c) n L) {j : Nat} (hj : j < n * sz) : (W.cell? ⟨g, j, none⟩).isSome = true := by
  rw [World.ownsRow.cellAt h j hj, List.getElem?_eq_getElem (by rw [h.1]; exact hj)]; rfl
theorem copyV_i (base g n c p : Nat) (hp : p < n) (L : List Value) (x y : Int) (V : Nat) (w : World) (h : w.ownsRow base 117 2 (.slice (some ⟨g, 0, none⟩) n c) n L) (hV : Blk w V 117 #[.int .i64 x, .int .i64 y]) :
    ∀ ty dc, (Builtin.copy_ #[98, 23] ty #[.slice (some ⟨g, p * 2, none⟩) (n - p) dc, .slice (some ⟨V, 0, none⟩) 1 1]).run Try.prog w = .ok (goInt (Nat.min 1 (n - p))) (w.setCells g (p * 2) [.int .i64 x, .int .i64 y]) := fun ty dc =>
  run_copy_cellsK 2 w _ _ ty 117 g (p * 2) (n - p) dc ⟨V, 0, none⟩ 1 1 [.int .i64 x, .int .i64 y] Try.underlying98 size_time (by simp only [Nat.min_def]; split <;> simp <;> omega)
    (fun j v hj => by
      rw [Addr.add_lit, hV.cell, Nat.zero_add]
      simpa using hj)
    (fun j hj => row_isSome h (by simp at hj; omega)) (fun j hj => World.ownsRow.frozenAt h _) (tm_ones x y)
theorem copyS_i (base g g' c G : Nat) (ks : List Tm) (p : Nat) (hp : p < ks.length) (L : List Value) (w : World) (h : w.ownsRow base 117 2 (.slice (some ⟨g', 0, none⟩) (ks.length + 1) G) (ks.length + 1) L) (ho : TmOwn w base (some ⟨g, 0, none⟩) c ks) :
    ∀ ty dc sc, (Builtin.copy_ #[98, 98] ty #[.slice (some ⟨g', (p + 1) * 2, none⟩) (ks.length - p) dc, .slice (some ⟨g, p * 2, none⟩) (ks.length - p) sc]).run Try.prog w = .ok (goInt (Nat.min (ks.length - p) (ks.length - p))) (w.setCells g' ((p + 1) * 2) (timeL (ks.drop p))) := fun ty dc sc =>
  run_copy_cellsK 2 w _ _ ty 117 g' ((p + 1) * 2) (ks.length - p) dc ⟨g, p * 2, none⟩ (ks.length - p) sc (timeL (ks.drop p)) Try.underlying98 size_time (by rw [timeL_len, List.length_drop]; simp only [Nat.min_def]; split <;> omega)
    (fun j v hj => by
      rw [Addr.add_lit, World.ownsRow.cellAt ho (p * 2 + j) (by
        rcases Nat.lt_or_ge j (timeL (ks.drop p)).length with h | h
        · rw [timeL_len, List.length_drop] at h; omega
        · rw [List.getElem?_eq_none h] at hj; cases hj)]
      rw [← timeL_drop, List.getElem?_drop] at hj
      exact hj)
    (fun j hj => row_isSome h (by rw [timeL_len, List.length_drop] at hj; omega)) (fun j hj => World.ownsRow.frozenAt h _) (tms_one _)
theorem zeros_size (z : Array Value) (n : Nat) : (Builtin.zeroCells z n).size = n * z.size := by simp [Builtin.zeroCells]
set_option maxHeartbeats 1600000 in
theorem growRow_i (base g : Nat) (ks : List Tm) (p : Nat) (hp : p < ks.length) (w : World) (ho : TmOwn w base (some ⟨g, 0, none⟩) ks.length ks) (hn : ks.length ≤ 4194000) (hb : base ≤ w.heap.size) :
    ∃ W1 G zs, (∀ ty, (Builtin.append_ #[98, 3] ty #[.slice (some ⟨g, 0, none⟩) p ks.length, .int .i64 ((ks.length : Int) + 1 - (p : Int))]).run Try.prog w = .ok (.slice (some ⟨w.heap.size, 0, none⟩) (ks.length + 1) G) W1) ∧
      zs.length = (ks.length + 1 - p) * 2 ∧ W1.ownsRow base 117 2 (.slice (some ⟨w.heap.size, 0, none⟩) (ks.length + 1) G) (ks.length + 1) ((timeL ks).take (p * 2) ++ zs) ∧ Below w.heap.size w W1 ∧ ks.length + 1 ≤ G ∧ G ≤ maxLen := by
  obtain ⟨i0, hi, hz0, hz1, hz2⟩ := info_parts Try.infoTime
  have htl : ((timeL ks).take (p * 2)).length = p * 2 := by rw [List.length_take, timeL_len]; omega
  have hold : (Builtin.firstCells i0.size p (.slice (some ⟨g, 0, none⟩) p ks.length)).run Try.prog w.drew = .ok ((timeL ks).take (p * 2)).toArray w.drew := by
    rw [hz1]
    refine run_firstCells_some w.drew 2 p ⟨g, 0, none⟩ p ks.length ((timeL ks).take (p * 2)) htl (fun j v hj => ?_)
    have hj2 : j < p * 2 := by
      rcases Nat.lt_or_ge j (p * 2) with h | h
      · exact h
      · rw [List.getElem?_eq_none (by rw [htl]; exact h)] at hj; cases hj
    rw [Addr.add_lit, Nat.zero_add]
    show w.cell? _ = _
    rw [World.ownsRow.cellAt ho j (by omega)]
    rwa [List.getElem?_take_of_lt hj2] at hj
  have hik : p + (ks.length + 1 - p) = ks.length + 1 := by omega
  have h := fun ty => Lib.run_append_grow_zeros w 98 3 ty 117 i0 _ .i64 .i64 Try.underlying98 Try.underlying3 hi hz0 (some ⟨g, 0, none⟩) p ks.length ((timeL ks).take (p * 2)) hold (ks.length + 1 - p) (by omega) (by omega) (by omega) (by omega) (by rw [hz2]; omega) (by rw [hz2, hik]; exact growslice_fits (by omega) (by omega))
  rw [hik] at h
  have hkk : (ks.length : Int) + 1 - (p : Int) = ((ks.length + 1 - p : Nat) : Int) := by omega
  rw [hkk]
  have hGn := grownCap_ge w (ks.length + 1) ks.length 117
  have hGm := grownCap_le_maxLen w (ks.length + 1) ks.length 117 (by unfold maxLen; omega)
  refine ⟨_, _, (Builtin.zeroCells (Value.agg #[.int .i64 0, .int .i64 0]).cells (ks.length + 1 - p)).toList, h, by simp [zeros_size, Value.cells], ?_, ((Below.refl _ w).drew).alloc (by simp) _, hGn, hGm⟩
  generalize grownCap w (ks.length + 1) ks.length 117 = G at hGn hGm ⊢
  refine ⟨by rw [List.length_append, htl]; simp [zeros_size, Value.cells]; omega, .inr ⟨w.heap.size, G, _, rfl, hb, heap_alloc_new w.drew _, hGn, hGm, ?_, ?_⟩⟩
  · simp only [Array.size_append, List.size_toArray, htl, zeros_size]
    simp [Value.cells]
    omega
  · simp only [Array.toList_append]
    rw [List.take_append_of_le_length (by simp [htl, zeros_size, Value.cells]; omega), List.take_of_length_le (by simp [htl, zeros_size, Value.cells]; omega)]

end Go.Proofs.Ythefakiobpijiaa
