/- HELPER, no statement of the seat: a region that draws its order, one of whose operations may also come behind the first of the last ones. -/
import Derived.Test.YthefakiobpijiaaZba
namespace Go.Proofs.Ythefakiobpijiaa
open Go.RowKit
set_option linter.unusedSimpArgs false
set_option linter.unusedVariables false

/-- What an operation waits for: the first of the last ones waits for all but q. -/
def preQ (pre : List (List Nat)) (n q k : Nat) : List Nat := if k < n then pre.getD k [] else if k = n then (List.range n).filter (fun j => j != q) else List.range k
def factsQ (ops : Array Oper) (pre : List (List Nat)) (n q : Nat) : Bool :=
  Region.noSelect ops && decide (n ≤ ops.size) &&
  (List.range ops.size).all fun k =>
    match ops[k]? with
    | none => false
    | some o =>
      (o.after.all fun e => !Region.binds .any e || decide (e.on < k)) &&
      ((preQ pre n q k).all fun j => decide (j < k) && o.after.any fun e => Region.binds .any e && (e.on == j || (preQ pre n q e.on).contains j)) &&
      (if k < n then
        !isDefer o.op && (match o.dst with | none => true | some d => !(o.looksAt ops).contains d) &&
        (List.range n).all fun j => j == k || (match opDst ops j with | none => true | some d => (o.dst != some d) && (!(o.looksAt ops).contains d || (pre.getD k []).contains j))
      else true)

section
variable {P : Program} {ops : Array Oper} {Q : Exit → Act → World → Prop} {w0 : World} {a0 : Act} {n q : Nat} {D : Nat → Value → World → Prop}
theorem memQ {pre : List (List Nat)} {i k : Nat} (hi : n ≤ i) (hk : k < n) (hq : k ≠ q) : k ∈ preQ pre n q i := by
  unfold preQ
  rw [if_neg (by omega)]
  split
  · simp [hk, hq]
  · simp; omega
/-- The frame with the values of the first k operations, q left out. -/
def layQ (ops : Array Oper) (a : Act) (q : Nat) (vs : Nat → Value) : Nat → Act
  | 0 => a
  | k + 1 => if k = q then layQ ops a q vs k else (layQ ops a q vs k).put (opDst ops k) (vs k)
theorem layL_q {listed : Array Bool} {vs : Nat → Value} : ∀ m, (∀ k, k < m → (listed.getD k false = true ↔ k ≠ q)) → layL ops a0 listed vs m = layQ ops a0 q vs m
  | 0, _ => rfl
  | m + 1, h => by
    unfold layL layQ
    rw [layL_q m (fun k hk => h k (by omega))]
    by_cases hm : m = q
    · rw [if_pos hm, if_neg (fun e => (h m (by omega)).1 e hm)]
    · rw [if_neg hm, if_pos ((h m (by omega)).2 hm)]
theorem cnt_pref {listed : Array Bool} (hall : ∀ k, k < n → listed.getD k false = true) (hno : ∀ k, n ≤ k → listed.getD k false = false) : ∀ m, n ≤ m → cnt listed m = m - n := by
  intro m
  induction m with
  | zero => intro h; simp [cnt]
  | succ m ihm =>
    intro h
    rcases Nat.lt_or_ge n (m + 1) with h' | h'
    · unfold cnt
      rw [ihm (by omega), hno m (by omega)]
      simp; omega
    · rw [cnt_all (m + 1) (fun k hk => hall k (by omega))]; omega

structure TextQ (ops : Array Oper) (pre : List (List Nat)) (n q : Nat) : Prop where
  sel : Region.noSelect ops = true
  le : n ≤ ops.size
  up : ∀ k o, ops[k]? = some o → ∀ e ∈ o.after, Region.binds .any e = true → e.on < k
  waits : ∀ k o, ops[k]? = some o → ∀ j ∈ preQ pre n q k, j < k ∧ ∃ e ∈ o.after, Region.binds .any e = true ∧ (e.on = j ∨ j ∈ preQ pre n q e.on)
  later : ∀ k o, ops[k]? = some o → k < n → isDefer o.op = false
  own : ∀ k o, ops[k]? = some o → k < n → ∀ d, o.dst = some d → d ∉ o.looksAt ops
  dst : ∀ k o, ops[k]? = some o → k < n → ∀ j, j < n → j ≠ k → ∀ d, opDst ops j = some d → o.dst ≠ some d ∧ (d ∈ o.looksAt ops → j ∈ preQ pre n q k)

theorem textQ {pre : List (List Nat)} (h : factsQ ops pre n q = true) : TextQ ops pre n q := by
  simp only [factsQ, Bool.and_eq_true, decide_eq_true_eq, List.all_eq_true, List.mem_range] at h
  obtain ⟨⟨h1, h2⟩, h3⟩ := h
  have lt : ∀ k o, ops[k]? = some o → k < ops.size := fun k o ho => (Array.getElem?_eq_some_iff.1 ho).1
  refine ⟨h1, h2, ?_, ?_, ?_, ?_, ?_⟩
  · intro k o ho e he hb
    have := h3 k (lt k o ho)
    simp only [ho, Bool.and_eq_true] at this
    have h4 := Array.all_eq_true_iff_forall_mem.1 this.1.1 e he
    simpa [hb] using h4
  · intro k o ho j hj
    have := h3 k (lt k o ho)
    simp only [ho, Bool.and_eq_true] at this
    have h4 := List.all_eq_true.1 this.1.2 j hj
    simp only [Bool.and_eq_true, decide_eq_true_eq, Array.any_eq_true'] at h4
    obtain ⟨h5, e, he, h6⟩ := h4
    simp only [Bool.and_eq_true, Bool.or_eq_true, beq_iff_eq, List.contains_iff_mem] at h6
    exact ⟨h5, e, he, h6.1, h6.2⟩
  · intro k o ho hk
    have := h3 k (lt k o ho)
    simp only [ho, Bool.and_eq_true, hk, if_true] at this
    simpa using this.2.1.1
  · intro k o ho hk d hd hc
    have := h3 k (lt k o ho)
    simp only [ho, Bool.and_eq_true, hk, if_true] at this
    have h4 := this.2.1.2
    simp only [hd, Bool.not_eq_true'] at h4
    have : (o.looksAt ops).contains d = true := by simpa using hc
    rw [this] at h4
    cases h4
  · intro k o ho hk j hj hne d hd
    have := h3 k (lt k o ho)
    simp only [ho, Bool.and_eq_true, hk, if_true, List.all_eq_true, List.mem_range] at this
    have h4 := this.2.2 j hj
    simp only [hd, Bool.or_eq_true, beq_iff_eq, hne, false_or, Bool.and_eq_true, Bool.not_eq_true'] at h4
    refine ⟨by simpa using h4.1, fun hc => ?_⟩
    have h5 : (o.looksAt ops).contains d = true := by simpa using hc
    rw [h5] at h4
    simpa [preQ, hk] using h4.2

def ClosedQ (ops : Array Oper) (pre : List (List Nat)) (n q : Nat) (listed : Array Bool) : Prop :=
  ∀ k, k < ops.size → listed.getD k false = true → ∀ j ∈ preQ pre n q k, listed.getD j false = true

theorem ready_preQ {pre : List (List Nat)} (ht : TextQ ops pre n q) {listed : Array Bool} (hc : ClosedQ ops pre n q listed) {k : Nat} (hk : k ∈ Region.ready .any ops listed) :
    ∀ j ∈ preQ pre n q k, listed.getD j false = true := by
  obtain ⟨_, o, ho, hall⟩ := mem_ready.1 hk
  intro j hj
  obtain ⟨_, e, he, hb, h⟩ := ht.waits k o ho j hj
  have hl := hall e he hb
  rcases h with rfl | h
  · exact hl
  · exact hc _ (by have h1 := ht.up k o ho e he hb; have h2 := (Array.getElem?_eq_some_iff.1 ho).1; omega) hl j h

theorem closed_setQ {pre : List (List Nat)} (ht : TextQ ops pre n q) {listed : Array Bool} (hc : ClosedQ ops pre n q listed) {k : Nat} (hk : k ∈ Region.ready .any ops listed) :
    ClosedQ ops pre n q (listed.setIfInBounds k true) := by
  intro m hm hl j hj
  refine getD_set_true ?_
  by_cases hmk : m = k
  · subst hmk
    exact ready_preQ ht hc hk j hj
  · rw [getD_set_ne false (Ne.symm hmk)] at hl
    exact hc m hm hl j hj

/-- The first that has not come up may come up. -/
theorem ready_firstQ {pre : List (List Nat)} (ht : TextQ ops pre n q) {listed : Array Bool} (hs : listed.size = ops.size) {k : Nat} (hk : k < ops.size) (hl : listed.getD k false = false) (hb : ∀ j, j < k → listed.getD j false = true) :
    k ∈ Region.ready .any ops listed := by
  refine mem_ready.2 ⟨by simp [hs, hk] at hl ⊢; exact hl, ops[k], by simp [hk], fun e he hb' => hb _ (ht.up k _ (by simp [hk]) e he hb')⟩

theorem tail_soundQ {pre : List (List Nat)} (ht : TextQ ops pre n q) : ∀ (fuel : Nat) (k : Nat) (listed : Array Bool) (a : Act) (w : World), ops.size = k + fuel → n ≤ k → listed.size = ops.size → ClosedQ ops pre n q listed →
    (∀ j, listed.getD j false = true ↔ j < k) → wpList P ops Q (ops.toList.drop k) a w → wpAny P .any ops Q fuel listed a w
  | 0, k, listed, a, w, hf, _, hs, _, hl, h => by
    have hd : ops.toList.drop k = [] := by apply List.drop_eq_nil_of_le; simp; omega
    rw [hd] at h
    have hr : Region.ready .any ops listed = [] := by
      apply List.eq_nil_iff_forall_not_mem.2
      intro i hi
      obtain ⟨h0, o, ho, _⟩ := mem_ready.1 hi
      have hlt := (Array.getElem?_eq_some_iff.1 ho).1
      have := (hl i).2 (by omega)
      simp [hs, hlt] at this h0
      rw [h0] at this; cases this
    exact ⟨hr, h⟩
  | fuel + 1, k, listed, a, w, hf, hn, hs, hc, hl, h => by
    have hk : k < ops.size := by omega
    have hkf : listed.getD k false = false := by
      have := mt (hl k).1 (Nat.lt_irrefl k)
      simpa using this
    have hkr := ready_firstQ ht hs hk hkf (fun j hj => (hl j).2 hj)
    refine ⟨fun h0 => (by rw [h0] at hkr; cases hkr), fun i hi => ?_⟩
    have hik : i = k := by
      obtain ⟨h0, o, ho, _⟩ := mem_ready.1 hi
      have hlt := (Array.getElem?_eq_some_iff.1 ho).1
      have hge : ¬ i < k := fun h' => by
        have := (hl i).2 h'
        simp [hs, hlt] at this h0
        rw [h0] at this; cases this
      rcases Nat.lt_or_ge k i with h' | h'
      · have := ready_preQ ht hc hi k (by simp [preQ, show ¬ i < n by omega, show ¬ i = n by omega]; exact h')
        rw [hkf] at this; cases this
      · omega
    subst hik
    have hd : ops.toList.drop i = ops[i] :: ops.toList.drop (i + 1) := by
      rw [List.drop_eq_getElem_cons (by simpa using hk)]; simp
    rw [hd] at h
    have hw : wpOp P ops Q i (wpList P ops Q (ops.toList.drop (i + 1))) a w := by
      unfold wpOp
      simp only [Array.getElem?_eq_getElem hk]
      exact h
    refine wpOp_mono (fun a' w' h' => tail_soundQ ht fuel (i + 1) _ a' w' (by omega) (by omega) (by simpa using hs) (closed_setQ ht hc hkr) (fun j => ?_) h') hw
    by_cases hj : j = i
    · subst hj
      simp [hs, hk]
    · rw [getD_set_ne false (Ne.symm hj), hl j]
      omega


theorem late_sound {pre : List (List Nat)} {oQ : Oper} (ht : TextQ ops pre n q) (hqn : q < n) (hns : n < ops.size) (hQ : ops[q]? = some oQ) : ∀ (fuel : Nat) (listed : Array Bool) (a : Act) (w : World), ops.size = n + fuel → listed.size = ops.size → ClosedQ ops pre n q listed →
    (∀ j, listed.getD j false = true ↔ (j < n + 1 ∧ j ≠ q)) → wpList P ops Q (oQ :: ops.toList.drop (n + 1)) a w → wpAny P .any ops Q fuel listed a w
  | 0, _, _, _, hf, _, _, _, _ => by omega
  | fuel + 1, listed, a, w, hf, hs, hc, hl, h => by
    have hqs : q < ops.size := by omega
    have hqf : listed.getD q false = false := by
      have := mt (hl q).1 (fun h => h.2 rfl)
      simpa using this
    have hqr := ready_firstQ ht hs hqs hqf (fun j hj => (hl j).2 ⟨by omega, by omega⟩)
    refine ⟨fun h0 => (by rw [h0] at hqr; cases hqr), fun i hi => ?_⟩
    have hiq : i = q := by
      obtain ⟨h0, o, ho, _⟩ := mem_ready.1 hi
      have hlt := (Array.getElem?_eq_some_iff.1 ho).1
      by_cases h1 : i = q
      · exact h1
      rcases Nat.lt_or_ge i (n + 1) with h2 | h2
      · have := (hl i).2 ⟨h2, h1⟩
        simp [hs, hlt] at this h0
        rw [h0] at this; cases this
      · have := ready_preQ ht hc hi q (by simp [preQ, show ¬ i < n by omega, show ¬ i = n by omega]; omega)
        rw [hqf] at this; cases this
    subst hiq
    have hw : wpOp P ops Q i (wpList P ops Q (ops.toList.drop (n + 1))) a w := by
      unfold wpOp
      simp only [hQ]
      exact h
    refine wpOp_mono (fun a' w' h' => tail_soundQ ht fuel (n + 1) _ a' w' (by omega) (by omega) (by simpa using hs) (closed_setQ ht hc hqr) (fun j => ?_) h') hw
    by_cases hj : j = i
    · subst hj
      simp [hs, hqs]; omega
    · rw [getD_set_ne false (Ne.symm hj), hl j]
      constructor
      · intro h2; exact h2.1
      · intro h2; exact ⟨h2, hj⟩

theorem facts_soundQ {pre : List (List Nat)} {oN oQ : Oper} (ht : TextQ ops pre n q) (hqn : q < n) (hN : ops[n]? = some oN) (hQ : ops[q]? = some oQ) (hD : ∀ k v w w', Below w.heap.size w w' → D k v w → D k v w')
    (step : ∀ k o, k < n → ops[k]? = some o → ∀ (vs : Nat → Value) w, Below w0.heap.size w0 w → (∀ j ∈ preQ pre n q k, D j (vs j) w) → wpList P ops (OpPost o (lay ops a0 vs k) (D k) w) [o] (lay ops a0 vs k) w)
    (done : ∀ (vs : Nat → Value) w, Below w0.heap.size w0 w → (∀ k, k < n → D k (vs k) w) → wpList P ops Q (ops.toList.drop n) (lay ops a0 vs n) w)
    (done2 : ∀ (vs : Nat → Value) w, Below w0.heap.size w0 w → (∀ k, k < n → k ≠ q → D k (vs k) w) → wpList P ops Q (oN :: oQ :: ops.toList.drop (n + 1)) (layQ ops a0 q vs n) w) :
    ∀ (fuel : Nat) (listed : Array Bool) (vs : Nat → Value) (w : World), listed.size = ops.size → ClosedQ ops pre n q listed → (∀ k, n ≤ k → listed.getD k false = false) → Below w0.heap.size w0 w →
      (∀ k, k < n → listed.getD k false = true → D k (vs k) w) → cnt listed ops.size = fuel → wpAny P .any ops Q fuel listed (layL ops a0 listed vs n) w := by
  intro fuel
  induction fuel with
  | zero =>
    intro listed vs w hs hc hno hb hf hcnt
    have hall := cnt_zero _ hcnt
    have hn : n = ops.size := by
      rcases Nat.lt_or_ge n ops.size with h | h
      · have h1 := hall n h
        rw [hno n (Nat.le_refl _)] at h1; cases h1
      · have := ht.le; omega
    rw [layL_all n (fun k hk => hall k (by have := ht.le; omega))]
    exact tail_soundQ ht 0 n listed _ w (by omega) (Nat.le_refl _) hs hc (fun j => ⟨fun h => (by
      rcases Nat.lt_or_ge j n with h' | h'
      · exact h'
      · rw [hno j h'] at h; exact (Bool.noConfusion h)), fun h => hall j (by omega)⟩) (done vs w hb (fun k hk => hf k hk (hall k (by omega))))
  | succ fuel ih =>
    intro listed vs w hs hc hno hb hf hcnt
    by_cases hall : ∀ k, k < n → listed.getD k false = true
    · rw [layL_all n hall]
      have hcn : cnt listed ops.size = ops.size - n := by
        have : ∀ m, n ≤ m → cnt listed m = m - n := by
          intro m
          induction m with
          | zero => intro h; simp [cnt]
          | succ m ihm =>
            intro h
            rcases Nat.lt_or_ge n (m + 1) with h' | h'
            · unfold cnt
              rw [ihm (by omega), hno m (by omega)]
              simp; omega
            · rw [cnt_all (m + 1) (fun k hk => hall k (by omega))]; omega
        exact this _ ht.le
      refine tail_soundQ ht (fuel + 1) n listed _ w (by have h1 := ht.le; omega) (Nat.le_refl _) hs hc (fun j => ⟨fun h => ?_, fun h => hall j h⟩) (done vs w hb (fun k hk => hf k hk (hall k hk)))
      rcases Nat.lt_or_ge j n with h' | h'
      · exact h'
      · rw [hno j h'] at h; cases h
    · obtain ⟨k, hk, hkf, hkb⟩ := first_open ops.size (by omega : cnt listed ops.size ≠ 0)
      have hkr := ready_firstQ ht hs hk hkf hkb
      refine ⟨fun h0 => (by rw [h0] at hkr; cases hkr), fun i hi => ?_⟩
      obtain ⟨hi0, o, ho, _⟩ := mem_ready.1 hi
      have hisz := (Array.getElem?_eq_some_iff.1 ho).1
      have hif0 : listed.getD i false = false := by simp [hs, hisz] at hi0 ⊢; exact hi0
      rcases Nat.lt_or_ge i n with hin | hge
      rotate_left
      · have hqf : listed.getD q false = false := by
          rcases Bool.eq_false_or_eq_true (listed.getD q false) with h | h
          · exact absurd (fun k hk => by
              by_cases hkq : k = q
              · subst hkq; exact h
              · exact ready_preQ ht hc hi k (memQ hge hk hkq)) hall
          · exact h
        have hin' : i = n := by
          rcases Nat.lt_or_ge n i with h | h
          · have := ready_preQ ht hc hi q (by simp [preQ, show ¬ i < n by omega, show ¬ i = n by omega]; omega)
            rw [hqf] at this; cases this
          · omega
        have hlist : ∀ k, k < n → (listed.getD k false = true ↔ k ≠ q) := fun k hk => ⟨fun h e => (by subst e; rw [hqf] at h; cases h), fun hkq => ready_preQ ht hc hi k (memQ hge hk hkq)⟩
        have hqs : q < listed.size := by omega
        have hcq : cnt (listed.setIfInBounds q true) ops.size = ops.size - n := by
          refine cnt_pref (fun k hk => ?_) (fun k hk => ?_) ops.size ht.le
          · by_cases hkq : k = q
            · subst hkq; simp [hqs]
            · rw [getD_set_ne false (Ne.symm hkq)]; exact (hlist k hk).2 hkq
          · rw [getD_set_ne false (by omega)]; exact hno k hk
        have hcq2 := cnt_set (listed := listed) (i := q) (by simp [hqs] at hqf ⊢; exact hqf) ops.size (by omega)
        rw [layL_q n hlist]
        have hd2 := done2 vs w hb (fun k hk hkq => hf k hk ((hlist k hk).2 hkq))
        have hw : wpOp P ops Q i (wpList P ops Q (oQ :: ops.toList.drop (n + 1))) (layQ ops a0 q vs n) w := by
          rw [hin']
          unfold wpOp
          simp only [hN]
          exact hd2
        refine wpOp_mono (fun a' w' h' => late_sound ht hqn (by omega) hQ fuel _ a' w' (by omega) (by simpa using hs) (closed_setQ ht hc hi) (fun j => ?_) h') hw
        by_cases hj : j = i
        · subst hj
          simp [hs, hisz]; omega
        · rw [getD_set_ne false (Ne.symm hj)]
          rcases Nat.lt_or_ge j n with h | h
          · rw [hlist j h]; constructor
            · intro h2; exact ⟨by omega, h2⟩
            · intro h2; exact h2.2
          · rw [hno j h]; constructor
            · intro h2; cases h2
            · intro h2; omega
      have hif : listed.getD i false = false := by simp [hs, hisz] at hi0 ⊢; exact hi0
      have hpre := ready_preQ ht hc hi
      have hlt : ∀ j ∈ preQ pre n q i, j < i := fun j hj => (ht.waits i o ho j hj).1
      have hst := step i o hin ho vs w hb (fun j hj => hf j (by have := hlt j hj; omega) (hpre j hj))
      have htmp : ∀ t ∈ o.looksAt ops, (layL ops a0 listed vs n).tmps[t]? = (lay ops a0 vs i).tmps[t]? := by
        intro t htl
        have := tmp_lay (a0 := a0) (vs := vs) (ops := ops) (n := n) (listed := listed) (t := t) (k := i) (fun j hj hd => by
          by_cases hji : j = i
          · subst hji
            have : o.dst = some t := by simpa [opDst, ho] using hd
            exact absurd htl (ht.own j o ho hin t this)
          · have hjp := (ht.dst i o ho hin j hj hji t hd).2 htl
            exact ⟨hlt j hjp, hpre j hjp⟩) n (Nat.le_refl _)
        rw [this, show min n i = i by omega]
      have hex : execOp (layL ops a0 listed vs n).eval o = execOp (lay ops a0 vs i).eval o :=
        execOp_congr o (fun cs b => Region.noSelect_spec ht.sel i o cs b ho) (fun x hx => by
          cases x with
          | tmp t =>
            have := htmp t (List.mem_append_left _ (List.mem_filterMap.2 ⟨.tmp t, by simpa using hx, rfl⟩))
            simp only [Act.eval, Array.getD_eq_getD_getElem?, this]
          | _ => rfl)
      have hwa : Region.wanted o (yielded ops (layL ops a0 listed vs n).tmps) = Region.wanted o (yielded ops (lay ops a0 vs i).tmps) := by
        unfold Region.wanted
        cases hg : o.guard with
        | none => rfl
        | some gw =>
          obtain ⟨g, want⟩ := gw
          have hy : yielded ops (layL ops a0 listed vs n).tmps g = yielded ops (lay ops a0 vs i).tmps g := by
            unfold yielded
            cases hd : (ops[g]?).bind (·.dst) with
            | none => rfl
            | some t =>
              have := htmp t (by simp [Oper.looksAt, hg, hd])
              simp only [Option.bind_some, this]
          simp only [hy]
      have hdst : opDst ops i = o.dst := by simp [opDst, ho]
      have go : ∀ v w', Below w.heap.size w w' → D i v w' → wpAny P .any ops Q fuel (listed.setIfInBounds i true) ((layL ops a0 listed vs n).put o.dst v) w' := by
        intro v w' hb' hd'
        have hput := layL_put (ops := ops) (a0 := a0) (n := n) (listed := listed) (vs := vs) (vs' := fun j => if j = i then v else vs j) (i := i) hif (by omega) (fun k hk => by simp [hk])
          (fun j hj hji d hd => by rw [hdst]; exact (ht.dst i o ho hin j hj hji d hd).1) n (Nat.le_refl _) hin
        simp only [if_true, hdst] at hput
        rw [← hput]
        have hcnt' := cnt_set hi0 ops.size hisz
        refine ih _ _ w' (by simpa using hs) (closed_setQ ht hc hi) (fun k hk => ?_) (hb.trans (hb'.mono hb.size)) (fun k hk hl => ?_) (by omega)
        · rw [getD_set_ne false (by omega)]; exact hno k hk
        · by_cases hki : k = i
          · subst hki; simpa using hd'
          · rw [getD_set_ne false (Ne.symm hki)] at hl
            simp only [hki, if_false]
            exact hD k _ w w' hb' (hf k hk hl)
      unfold wpOp
      simp only [ho]
      unfold wpList at hst
      rw [hwa]
      have fin : ∀ v w', OpPost o (lay ops a0 vs i) (D i) w .normal ((lay ops a0 vs i).put o.dst v) w' → wpAny P .any ops Q fuel (listed.setIfInBounds i true) ((layL ops a0 listed vs n).put o.dst v) w' := by
        intro v w' ⟨_, u, he, hb', hd'⟩
        have hu : (layL ops a0 listed vs n).put o.dst v = (layL ops a0 listed vs n).put o.dst u := by
          cases hd : o.dst with
          | none => rfl
          | some d =>
            rw [hd] at he
            have h1 : (lay ops a0 vs i).tmps.setIfInBounds d v = (lay ops a0 vs i).tmps.setIfInBounds d u := congrArg Act.tmps he
            have hsz : (lay ops a0 vs i).tmps.size = (layL ops a0 listed vs n).tmps.size := by
              have s1 : ∀ m, (lay ops a0 vs m).tmps.size = a0.tmps.size := by
                intro m
                induction m with
                | zero => rfl
                | succ m ih => unfold lay; cases opDst ops m <;> simpa [Act.put] using ih
              have s2 : ∀ m, (layL ops a0 listed vs m).tmps.size = a0.tmps.size := by
                intro m
                induction m with
                | zero => rfl
                | succ m ih =>
                  unfold layL
                  split
                  · cases opDst ops m <;> simpa [Act.put] using ih
                  · exact ih
              rw [s1, s2]
            by_cases hlt : d < (lay ops a0 vs i).tmps.size
            · have h2 : ((lay ops a0 vs i).tmps.setIfInBounds d v)[d]? = ((lay ops a0 vs i).tmps.setIfInBounds d u)[d]? := by rw [h1]
              simp only [Array.getElem?_setIfInBounds, hlt, if_true] at h2
              injection h2 with h2
              rw [h2]
            · simp only [Act.put]
              rw [Array.setIfInBounds_eq_of_size_le (by rw [← hsz]; exact Nat.le_of_not_lt hlt), Array.setIfInBounds_eq_of_size_le (by rw [← hsz]; exact Nat.le_of_not_lt hlt)]
        rw [hu]
        exact go u w' hb' hd'
      split
      · rename_i hwant
        rw [if_pos hwant] at hst
        rcases hst with hst | ⟨_, a', w', h, _⟩
        · left
          unfold Oper.wp at *
          rw [hex]
          generalize (execOp (lay ops a0 vs i).eval o).run P w = r at *
          cases r with
          | ok x w' =>
            cases x <;> simp only [Oper.upon] at hst ⊢
            case value u => exact fin u w' (by simpa [wpList] using hst)
            case skip => exact fin undef w' (by simpa [wpList] using hst)
            case defer d =>
              simp only [wpList, OpPost] at hst
              obtain ⟨_, v, he, _⟩ := hst
              exfalso
              have h1 := congrArg Act.defers he
              have h2 : ∀ (a : Act) (x : Option Tmp) (v : Value), (a.put x v).defers = a.defers := by intro a x v; cases x <;> rfl
              rw [h2, h2] at h1
              simp at h1
            case enter f args =>
              refine Calls.mono hst fun e w'' he => ?_
              cases e with
              | returned u => exact fin u w'' (by simpa [wpList] using he)
              | panicked c => exact absurd he.1 (by simp)
              | outgrown => obtain ⟨a', w3, h, _⟩ := he; cases h
            case row row args => exact Rows.mono hst fun u w'' he => fin u w'' (by simpa [wpList] using he)
          | halt x w' =>
            cases x <;> simp only [Oper.upon] at hst ⊢
            case panic u => exact absurd hst.1 (by simp)
        · cases h
      · rename_i hwant
        rw [if_neg hwant] at hst
        exact fin undef w (by simpa [wpList] using hst)


/-- The end of the walk where q has not come up yet. -/
def doneO (w0 : World) (R : Act → World → Prop) : List (Option (Value → World → Prop)) → List Oper → List (World → Prop) → Act → Prop
  | none :: Ds, _ :: l, F, a => doneO w0 R Ds l F a
  | some d :: Ds, o :: l, F, a => ∀ v, doneO w0 R Ds l (F ++ [d v]) (a.put o.dst v)
  | _, _, F, a => ∀ w, Below w0.heap.size w0 w → allOf w F → R a w
theorem doneO_some {R : Act → World → Prop} {d : Value → World → Prop} {Ds : List (Option (Value → World → Prop))} {o : Oper} {l : List Oper} {F : List (World → Prop)} {a : Act} (h : ∀ v, doneO w0 R Ds l (F ++ [d v]) (a.put o.dst v)) : doneO w0 R (some d :: Ds) (o :: l) F a := h
theorem doneO_none {R : Act → World → Prop} {Ds : List (Option (Value → World → Prop))} {o : Oper} {l : List Oper} {F : List (World → Prop)} {a : Act} (h : doneO w0 R Ds l F a) : doneO w0 R (none :: Ds) (o :: l) F a := h
theorem doneO_end {R : Act → World → Prop} {l : List Oper} {F : List (World → Prop)} {a : Act} (sub : List Nat) (Fp : List (World → Prop)) (hs : (sub.all fun j => decide (j < F.length)) = true) (hF : (sub.map fun j => F.getD j (fun _ => True)) = Fp)
    (h : ∀ w, Below w0.heap.size w0 w → allOf w Fp → R a w) : doneO w0 R [] l F a := by
  have h' : ∀ w, Below w0.heap.size w0 w → allOf w F → R a w := fun w hb hf => h w hb (by
    subst hF
    refine allOf_of (fun f hff => ?_)
    obtain ⟨j, hj, rfl⟩ := List.mem_map.1 hff
    have hlt : j < F.length := by simpa using List.all_eq_true.1 hs j hj
    have hall : ∀ (F : List (World → Prop)), allOf w F → ∀ f ∈ F, f w := by
      intro F
      induction F with
      | nil => intro _ f hf; cases hf
      | cons g F ih =>
        intro hg f hf
        rcases List.mem_cons.1 hf with rfl | hf
        · exact hg.1
        · exact ih hg.2 f hf
    have : F.getD j (fun _ => True) = F[j] := by simp [List.getD, hlt]
    rw [this]
    exact hall F hf _ (List.getElem_mem hlt))
  cases l <;> exact h'
theorem doneO_spec {R : Act → World → Prop} (vs : Nat → Value) :
    ∀ (Ds : List (Option (Value → World → Prop))) (l : List Oper) (k : Nat) (F : List (World → Prop)) (a : Act), (∀ m x, Ds[m]? = some x → x = if k + m = q then none else some (D (k + m))) →
      (∀ f ∈ F, ∃ j, j < k ∧ j ≠ q ∧ f = D j (vs j)) → a = layQ ops a0 q vs k → (∀ m, l[m]? = ops[k + m]?) → k + Ds.length ≤ ops.size → doneO w0 R Ds l F a →
      ∀ w, Below w0.heap.size w0 w → (∀ j, j < k + Ds.length → j ≠ q → D j (vs j) w) → R (layQ ops a0 q vs (k + Ds.length)) w
  | [], l, k, F, a, _, hF, ha, _, _, h, w, hb, hf => by
    subst ha
    have h' : ∀ w, Below w0.heap.size w0 w → allOf w F → R (layQ ops a0 q vs k) w := by cases l <;> exact h
    refine h' w hb (allOf_of (fun f hff => ?_))
    obtain ⟨j, h1, h2, rfl⟩ := hF f hff
    exact hf j (by simpa using h1) h2
  | x :: Ds, l, k, F, a, hDs, hF, ha, hl, hk, h, w, hb, hf => by
    have hx := hDs 0 x rfl
    rw [Nat.add_zero] at hx
    have hks : k < ops.size := by simp at hk; omega
    have e : k + (x :: Ds).length = k + 1 + Ds.length := by simp; omega
    rw [e] at hf ⊢
    match l, hl 0 with
    | [], h0 => simp [hks] at h0
    | o :: l, h0 =>
      have ho : ops[k]? = some o := by simpa using h0.symm
      have hDs' : ∀ m x, Ds[m]? = some x → x = if k + 1 + m = q then none else some (D (k + 1 + m)) := fun m y hm => by
        have := hDs (m + 1) y (by simpa using hm)
        rwa [show k + (m + 1) = k + 1 + m by omega] at this
      have hl' : ∀ m, l[m]? = ops[k + 1 + m]? := fun m => by
        have := hl (m + 1)
        rw [show k + (m + 1) = k + 1 + m by omega] at this
        simpa using this
      by_cases hq : k = q
      · rw [if_pos hq] at hx
        subst hx
        exact doneO_spec vs Ds l (k + 1) F a hDs' (fun f hff => (hF f hff).imp fun j ⟨h1, h2, h3⟩ => ⟨by omega, h2, h3⟩) (by rw [ha]; simp [layQ, hq]) hl' (by simp at hk; omega) h w hb hf
      · rw [if_neg hq] at hx
        subst hx
        exact doneO_spec vs Ds l (k + 1) (F ++ [D k (vs k)]) (a.put o.dst (vs k)) hDs' (fun f hff => by
          rcases List.mem_append.1 hff with h1 | h1
          · exact (hF f h1).imp fun j ⟨h1, h2, h3⟩ => ⟨by omega, h2, h3⟩
          · simp at h1; exact ⟨k, by omega, hq, h1⟩) (by rw [ha]; simp [layQ, hq, opDst, ho]) hl' (by simp at hk; omega) (h (vs k)) w hb hf

/-- **A REGION THAT DRAWS ITS ORDER**, one of whose operations may come late: 'pre': which operations surely come before each; 'Ds': what the value of each comes to. -/
theorem wp_region_factsQ {id : Nat} {l : List Oper} {w : World} (q : Nat) (oN oQ : Oper) (pre : List (List Nat)) (Ds : List (Value → World → Prop)) (Do : List (Option (Value → World → Prop))) (hqn : q < pre.length) (hN : l[pre.length]? = some oN) (hQ : l[q]? = some oQ) (hDo : Do = (List.range pre.length).map fun k => if k = q then none else some (Ds.getD k (fun _ _ => True))) (hm : P.follows .mixedOrders = true) (hB : factsQ l.toArray pre pre.length q = true) (hlen : pre.length = Ds.length) (hD : allStable Ds)
    (h : wpFacts P l.toArray w (fun a w => wpList P l.toArray Q (l.drop pre.length) a w) (pre.zip Ds) l [] a0)
    (h2 : doneO w (fun a w => wpList P l.toArray Q (oN :: oQ :: l.drop (pre.length + 1)) a w) Do l [] a0) : (Code.region id l.toArray true).wp P Q a0 w := by
  have ht := textQ hB
  refine wp_region_any hm ?_
  have key : ∀ vs : Nat → Value, _ := fun vs => wpFacts_spec (P := P) (ops := l.toArray) (w0 := w) (a0 := a0) (D := fun k => Ds.getD k (fun _ _ => True)) (pr := fun k => if k < pre.length then pre.getD k [] else []) (by
      intro k j hj
      by_cases hk : k < pre.length
      · rw [if_pos hk] at hj
        have hks : k < l.toArray.size := Nat.lt_of_lt_of_le hk ht.le
        exact (ht.waits k _ (Array.getElem?_eq_getElem hks) j (by simpa [preQ, hk] using hj)).1
      · rw [if_neg hk] at hj; cases hj) vs (pre.zip Ds) l 0 [] a0 (by
      intro m p d hmd
      rw [List.getElem?_zip_eq_some] at hmd
      obtain ⟨h1, h2⟩ := hmd
      have hml : m < pre.length := (List.getElem?_eq_some_iff.1 h1).1
      simp [hml, List.getD, h1, h2] at *
      simp [h1]) rfl rfl (by simp) (by simp [List.length_zip, hlen]; have := ht.le; simp [hlen] at this; omega) h
  have hzl : (pre.zip Ds).length = pre.length := by simp [List.length_zip, hlen]
  have hlay : layL l.toArray a0 (Array.replicate l.toArray.size false) (fun _ => undef) pre.length = a0 := by
    have : ∀ m, layL l.toArray a0 (Array.replicate l.toArray.size false) (fun _ => undef) m = a0 := by
      intro m
      induction m with
      | zero => rfl
      | succ m ih =>
        unfold layL
        rw [if_neg (by simp [Array.getElem?_replicate]; split <;> simp), ih]
    exact this _
  have hno : ∀ k, (Array.replicate l.toArray.size false).getD k false = false := by
    intro k; simp [Array.getElem?_replicate]; split <;> simp
  have hlenO : Do.length = pre.length := by rw [hDo]; simp
  have := facts_soundQ (q := q) (oN := oN) (oQ := oQ) (P := P) (Q := Q) (ops := l.toArray) (w0 := w) (a0 := a0) (n := pre.length) (D := fun k => Ds.getD k (fun _ _ => True)) ht hqn (by simpa using hN) (by simpa using hQ) (fun k v w w' hb hd => allStable_get hD k v w w' hb hd)
    (fun k o hk ho vs w hb hf => by
      have := (key vs).1 k o (by rw [hzl]; exact hk) (by rw [Nat.zero_add]; exact ho) w hb (fun j hj => hf j (by simpa [preQ, hk] using hj))
      simpa using this)
    (fun vs w hb hf => by
      have := (key vs).2 w hb (fun j hj => hf j (by rw [hzl] at hj; omega))
      rw [hzl, Nat.zero_add] at this
      exact this)
    (fun vs w1 hb hf => by
      have := doneO_spec (q := q) (ops := l.toArray) (a0 := a0) (w0 := w) (D := fun k => Ds.getD k (fun _ _ => True)) vs Do l 0 [] a0 (fun m x hm => by
        rw [hDo] at hm
        rw [List.getElem?_map] at hm
        rcases Nat.lt_or_ge m pre.length with hml | hml
        · rw [List.getElem?_range hml] at hm
          simp at hm
          rw [Nat.zero_add]
          exact hm.symm
        · rw [List.getElem?_eq_none (by simpa using hml)] at hm
          cases hm) (fun f hf => by cases hf) rfl (by simp) (by rw [hlenO, Nat.zero_add]; exact ht.le) h2 w1 hb (fun j hj hjq => hf j (by rw [hlenO] at hj; omega) hjq)
      rw [hlenO, Nat.zero_add] at this
      simpa using this)
    l.toArray.size (Array.replicate l.toArray.size false) (fun _ => undef) w.drew (by simp) (fun k _ hl => by rw [hno] at hl; cases hl) (fun k _ => hno k) (Below.refl _ _).drew (fun k _ hl => by rw [hno] at hl; cases hl)
    (by
      have : ∀ m, cnt (Array.replicate l.toArray.size false) m = m := by
        intro m
        induction m with
        | zero => rfl
        | succ m ih => unfold cnt; rw [ih, hno]; simp
      exact this _)
  rw [hlay] at this
  exact this

end
end Go.Proofs.Ythefakiobpijiaa
