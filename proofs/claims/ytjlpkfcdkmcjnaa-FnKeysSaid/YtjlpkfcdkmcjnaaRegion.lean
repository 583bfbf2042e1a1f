/- HELPER, no statement of the seat: a region that draws its order, each operation of which leaves what was there (it may make memory): ONE walk in the order of the text serves every order, each operation shown once, from the facts of those that surely come before it; the last operations, which wait for all, are walked behind it. -/
import Derived.WalkKit
import Derived.Below
import Derived.Orders
import Derived.Lib.Hide
namespace Go.Proofs.Ytjlpkfcdkmcjnaa
open Go.RowKit
set_option linter.unusedSimpArgs false
set_option linter.unusedVariables false

/-- The facts of the operations in p, out of the list F of facts. -/
def holds (F : List (World → Prop)) (w : World) : List Nat → Prop
  | [] => True
  | j :: p => (F.getD j (fun _ => True)) w ∧ holds F w p

/-- All facts of a list. -/
def allOf (w : World) : List (World → Prop) → Prop
  | [] => True
  | f :: F => f w ∧ allOf w F

/-- What one operation must come to: its value meets d, and nothing that was there has turned. -/
def OpPost (o : Oper) (a : Act) (d : Value → World → Prop) (w : World) (e : Exit) (a' : Act) (w' : World) : Prop :=
  e = .normal ∧ ∃ v, a' = a.put o.dst v ∧ Below w.heap.size w w' ∧ d v w'

/-- The walk in the order of the text. -/
def wpFacts (P : Program) (ops : Array Oper) (w0 : World) (R : Act → World → Prop) : List (List Nat × (Value → World → Prop)) → List Oper → List (World → Prop) → Act → Prop
  | (p, d) :: Ds, o :: l, F, a => (∀ w, Below w0.heap.size w0 w → holds F w p → wpList P ops (OpPost o a d w) [o] a w) ∧ ∀ v, wpFacts P ops w0 R Ds l (F ++ [d v]) (a.put o.dst v)
  | _, _, F, a => ∀ w, Below w0.heap.size w0 w → allOf w F → R a w

def opDst (ops : Array Oper) (k : Nat) : Option Tmp := (ops[k]?).bind (·.dst)

def isDefer : Op → Bool
  | .defer _ => true
  | _ => false

/-- What is asked of the region's text: n operations in whatever order, then the others, each of which waits for all. -/
def factsB (ops : Array Oper) (pre : List (List Nat)) (n : Nat) : Bool :=
  Region.noSelect ops && decide (n ≤ ops.size) &&
  (List.range ops.size).all fun k =>
    match ops[k]? with
    | none => false
    | some o =>
      (o.after.all fun e => !Region.binds .any e || decide (e.on < k)) &&
      ((if k < n then pre.getD k [] else List.range k).all fun j => decide (j < k) && o.after.any fun e => Region.binds .any e && (e.on == j || ((if e.on < n then pre.getD e.on [] else List.range e.on).contains j))) &&
      (if k < n then
        !isDefer o.op && (match o.dst with | none => true | some d => !(o.looksAt ops).contains d) &&
        (List.range n).all fun j => j == k || (match opDst ops j with | none => true | some d => (o.dst != some d) && (!(o.looksAt ops).contains d || (pre.getD k []).contains j))
      else true)

section
variable {P : Program} {ops : Array Oper} {Q : Exit → Act → World → Prop} {w0 : World} {a0 : Act} {n : Nat} {D : Nat → Value → World → Prop}

/-- The frame with the values of the first k operations. -/
def lay (ops : Array Oper) (a : Act) (vs : Nat → Value) : Nat → Act
  | 0 => a
  | k + 1 => (lay ops a vs k).put (opDst ops k) (vs k)

/-- The frame with the values of those of the first k operations that have come up. -/
def layL (ops : Array Oper) (a : Act) (listed : Array Bool) (vs : Nat → Value) : Nat → Act
  | 0 => a
  | k + 1 => if listed.getD k false = true then (layL ops a listed vs k).put (opDst ops k) (vs k) else layL ops a listed vs k

def cnt (listed : Array Bool) : Nat → Nat
  | 0 => 0
  | k + 1 => cnt listed k + (if listed.getD k false = true then 0 else 1)

theorem cnt_set_ge {listed : Array Bool} {i : Nat} : ∀ m, m ≤ i → cnt (listed.setIfInBounds i true) m = cnt listed m
  | 0, _ => rfl
  | m + 1, h => by
    unfold cnt
    rw [cnt_set_ge m (by omega), getD_set_ne false (by omega)]

theorem cnt_set {listed : Array Bool} {i : Nat} (hi : listed.getD i true = false) : ∀ m, i < m → cnt (listed.setIfInBounds i true) m + 1 = cnt listed m
  | 0, h => by omega
  | m + 1, h => by
    have hsz : i < listed.size := by
      rcases Nat.lt_or_ge i listed.size with h' | h'
      · exact h'
      · simp [Array.getElem?_eq_none h'] at hi
    have hf : listed.getD i false = false := by simp [hsz] at hi ⊢; exact hi
    unfold cnt
    rcases Nat.lt_or_ge i m with hlt | hge
    · have := cnt_set hi m hlt
      rw [getD_set_ne false (by omega)]
      omega
    · obtain rfl : i = m := by omega
      rw [cnt_set_ge i (Nat.le_refl _), hf]
      simp [hsz]

theorem cnt_zero {listed : Array Bool} : ∀ m, cnt listed m = 0 → ∀ k, k < m → listed.getD k false = true
  | 0, _, k, hk => by omega
  | m + 1, h, k, hk => by
    unfold cnt at h
    rcases Nat.lt_or_ge k m with hlt | hge
    · exact cnt_zero m (by omega) k hlt
    · obtain rfl : k = m := by omega
      by_cases hl : listed.getD k false = true
      · exact hl
      · rw [if_neg hl] at h; omega

theorem cnt_all {listed : Array Bool} : ∀ m, (∀ k, k < m → listed.getD k false = true) → cnt listed m = 0
  | 0, _ => rfl
  | m + 1, h => by
    unfold cnt
    rw [cnt_all m (fun k hk => h k (by omega)), if_pos (h m (by omega))]

theorem layL_congr {listed listed' : Array Bool} {vs vs' : Nat → Value} : ∀ m, (∀ k, k < m → listed'.getD k false = listed.getD k false ∧ vs' k = vs k) → layL ops a0 listed' vs' m = layL ops a0 listed vs m
  | 0, _ => rfl
  | m + 1, h => by
    unfold layL
    rw [layL_congr m (fun k hk => h k (by omega)), (h m (by omega)).1, (h m (by omega)).2]

theorem layL_put {listed : Array Bool} {vs vs' : Nat → Value} {i : Nat} (hi : listed.getD i false = false) (hsz : i < listed.size) (hv : ∀ k, k ≠ i → vs' k = vs k)
    (hd : ∀ j, j < n → j ≠ i → ∀ d, opDst ops j = some d → opDst ops i ≠ some d) :
    ∀ m, m ≤ n → i < m → layL ops a0 (listed.setIfInBounds i true) vs' m = (layL ops a0 listed vs m).put (opDst ops i) (vs' i)
  | 0, _, h => by omega
  | m + 1, hm, h => by
    unfold layL
    rcases Nat.lt_or_ge i m with hlt | hge
    · rw [layL_put hi hsz hv hd m (by omega) hlt, getD_set_ne false (by omega), hv m (by omega)]
      split
      · exact (Act.put_comm _ _ _ (fun d h1 h2 => hd m (by omega) (by omega) d h2 h1))
      · rfl
    · obtain rfl : i = m := by omega
      rw [if_pos (by simp [hsz]), hi, if_neg (by simp), layL_congr i (fun k hk => ⟨getD_set_ne false (by omega), hv k (by omega)⟩)]

theorem layL_all {listed : Array Bool} {vs : Nat → Value} : ∀ m, (∀ k, k < m → listed.getD k false = true) → layL ops a0 listed vs m = lay ops a0 vs m
  | 0, _ => rfl
  | m + 1, h => by
    unfold layL lay
    rw [if_pos (h m (by omega)), layL_all m (fun k hk => h k (by omega))]

theorem layL_defers {listed : Array Bool} {vs : Nat → Value} : ∀ m, (layL ops a0 listed vs m).defers = a0.defers
  | 0 => rfl
  | m + 1 => by
    unfold layL
    split
    · cases opDst ops m <;> exact layL_defers m
    · exact layL_defers m

theorem lay_defers {vs : Nat → Value} : ∀ m, (lay ops a0 vs m).defers = a0.defers
  | 0 => rfl
  | m + 1 => by
    unfold lay
    cases opDst ops m <;> exact lay_defers m

/-- A temporary that only operations write which have come up, and which stand before k. -/
theorem tmp_lay {listed : Array Bool} (vs : Nat → Value) {t : Tmp} {k : Nat} (ht : ∀ j, j < n → opDst ops j = some t → j < k ∧ listed.getD j false = true) :
    ∀ m, m ≤ n → (layL ops a0 listed vs m).tmps[t]? = (lay ops a0 vs (min m k)).tmps[t]?
  | 0, _ => by simp [layL, lay]
  | m + 1, hm => by
    have ih := tmp_lay vs ht m (by omega)
    have sL : ∀ m, (layL ops a0 listed vs m).tmps.size = a0.tmps.size := by
      intro m
      induction m with
      | zero => rfl
      | succ m ih =>
        unfold layL
        split
        · cases opDst ops m <;> simpa [Act.put] using ih
        · exact ih
    have sl : ∀ m, (lay ops a0 vs m).tmps.size = a0.tmps.size := by
      intro m
      induction m with
      | zero => rfl
      | succ m ih =>
        unfold lay
        cases opDst ops m <;> simpa [Act.put] using ih
    by_cases hdt : opDst ops m = some t
    · obtain ⟨h1, h2⟩ := ht m (by omega) hdt
      rw [show min (m + 1) k = m + 1 by omega]
      unfold layL lay
      rw [if_pos h2, hdt]
      simp only [Act.put, Array.getElem?_setIfInBounds, sL m, sl m, if_true]
    · have hput : ∀ (a : Act) (v : Value), (a.put (opDst ops m) v).tmps[t]? = a.tmps[t]? := by
        intro a v
        cases hd : opDst ops m with
        | none => rfl
        | some d =>
          have hne : d ≠ t := fun e => hdt (by rw [hd, e])
          simp [Act.put, Array.getElem?_setIfInBounds_ne hne]
      have e1 : (layL ops a0 listed vs (m + 1)).tmps[t]? = (layL ops a0 listed vs m).tmps[t]? := by
        conv => lhs; unfold layL
        split
        · exact hput _ _
        · rfl
      rw [e1, ih]
      rcases Nat.lt_or_ge m k with hlt | hge
      · rw [show min (m + 1) k = m + 1 by omega, show min m k = m by omega]
        exact (hput (lay ops a0 vs m) (vs m)).symm
      · rw [show min (m + 1) k = k by omega, show min m k = k by omega]

/-- What an operation waits for. -/
def preOf (pre : List (List Nat)) (n k : Nat) : List Nat := if k < n then pre.getD k [] else List.range k

structure TextOk (ops : Array Oper) (pre : List (List Nat)) (n : Nat) : Prop where
  sel : Region.noSelect ops = true
  le : n ≤ ops.size
  up : ∀ k o, ops[k]? = some o → ∀ e ∈ o.after, Region.binds .any e = true → e.on < k
  waits : ∀ k o, ops[k]? = some o → ∀ j ∈ preOf pre n k, j < k ∧ ∃ e ∈ o.after, Region.binds .any e = true ∧ (e.on = j ∨ j ∈ preOf pre n e.on)
  later : ∀ k o, ops[k]? = some o → k < n → isDefer o.op = false
  own : ∀ k o, ops[k]? = some o → k < n → ∀ d, o.dst = some d → d ∉ o.looksAt ops
  dst : ∀ k o, ops[k]? = some o → k < n → ∀ j, j < n → j ≠ k → ∀ d, opDst ops j = some d → o.dst ≠ some d ∧ (d ∈ o.looksAt ops → j ∈ preOf pre n k)

theorem textOk {pre : List (List Nat)} (h : factsB ops pre n = true) : TextOk ops pre n := by
  simp only [factsB, Bool.and_eq_true, decide_eq_true_eq, List.all_eq_true, List.mem_range] at h
  obtain ⟨⟨h1, h2⟩, h3⟩ := h
  have lt : ∀ k o, ops[k]? = some o → k < ops.size := fun k o ho => (Array.getElem?_eq_some_iff.1 ho).1
  refine ⟨h1, h2, ?_, ?_, ?_, ?_, ?_⟩
  · intro k o ho e he hb
    have := h3 k (lt k o ho)
    simp only [ho, Bool.and_eq_true] at this
    have h4 := Array.all_eq_true_iff_forall_mem.1 this.1.1 e he
    simpa [hb] using h4
  · intro k o ho j hj
    have := h3 k (lt k o ho)
    simp only [ho, Bool.and_eq_true] at this
    have h4 := List.all_eq_true.1 this.1.2 j hj
    simp only [Bool.and_eq_true, decide_eq_true_eq, Array.any_eq_true'] at h4
    obtain ⟨h5, e, he, h6⟩ := h4
    simp only [Bool.and_eq_true, Bool.or_eq_true, beq_iff_eq, List.contains_iff_mem] at h6
    exact ⟨h5, e, he, h6.1, h6.2⟩
  · intro k o ho hk
    have := h3 k (lt k o ho)
    simp only [ho, Bool.and_eq_true, hk, if_true] at this
    simpa using this.2.1.1
  · intro k o ho hk d hd hc
    have := h3 k (lt k o ho)
    simp only [ho, Bool.and_eq_true, hk, if_true] at this
    have h4 := this.2.1.2
    simp only [hd, Bool.not_eq_true'] at h4
    have : (o.looksAt ops).contains d = true := by simpa using hc
    rw [this] at h4
    cases h4
  · intro k o ho hk j hj hne d hd
    have := h3 k (lt k o ho)
    simp only [ho, Bool.and_eq_true, hk, if_true, List.all_eq_true, List.mem_range] at this
    have h4 := this.2.2 j hj
    simp only [hd, Bool.or_eq_true, beq_iff_eq, hne, false_or, Bool.and_eq_true, Bool.not_eq_true'] at h4
    refine ⟨by simpa using h4.1, fun hc => ?_⟩
    have h5 : (o.looksAt ops).contains d = true := by simpa using hc
    rw [h5] at h4
    simpa [preOf, hk] using h4.2

def Closed (ops : Array Oper) (pre : List (List Nat)) (n : Nat) (listed : Array Bool) : Prop :=
  ∀ k, k < ops.size → listed.getD k false = true → ∀ j ∈ preOf pre n k, listed.getD j false = true

theorem ready_pre {pre : List (List Nat)} (ht : TextOk ops pre n) {listed : Array Bool} (hc : Closed ops pre n listed) {k : Nat} (hk : k ∈ Region.ready .any ops listed) :
    ∀ j ∈ preOf pre n k, listed.getD j false = true := by
  obtain ⟨_, o, ho, hall⟩ := mem_ready.1 hk
  intro j hj
  obtain ⟨_, e, he, hb, h⟩ := ht.waits k o ho j hj
  have hl := hall e he hb
  rcases h with rfl | h
  · exact hl
  · exact hc _ (by have h1 := ht.up k o ho e he hb; have h2 := (Array.getElem?_eq_some_iff.1 ho).1; omega) hl j h

theorem closed_set {pre : List (List Nat)} (ht : TextOk ops pre n) {listed : Array Bool} (hc : Closed ops pre n listed) {k : Nat} (hk : k ∈ Region.ready .any ops listed) :
    Closed ops pre n (listed.setIfInBounds k true) := by
  intro m hm hl j hj
  refine getD_set_true ?_
  by_cases hmk : m = k
  · subst hmk
    exact ready_pre ht hc hk j hj
  · rw [getD_set_ne false (Ne.symm hmk)] at hl
    exact hc m hm hl j hj

/-- The first that has not come up may come up. -/
theorem ready_first {pre : List (List Nat)} (ht : TextOk ops pre n) {listed : Array Bool} (hs : listed.size = ops.size) {k : Nat} (hk : k < ops.size) (hl : listed.getD k false = false) (hb : ∀ j, j < k → listed.getD j false = true) :
    k ∈ Region.ready .any ops listed := by
  refine mem_ready.2 ⟨by simp [hs, hk] at hl ⊢; exact hl, ops[k], by simp [hk], fun e he hb' => hb _ (ht.up k _ (by simp [hk]) e he hb')⟩

theorem first_open {listed : Array Bool} : ∀ m, cnt listed m ≠ 0 → ∃ k, k < m ∧ listed.getD k false = false ∧ ∀ j, j < k → listed.getD j false = true
  | 0, h => absurd rfl h
  | m + 1, h => by
    by_cases h0 : cnt listed m = 0
    · refine ⟨m, by omega, ?_, fun j hj => cnt_zero m h0 j hj⟩
      unfold cnt at h
      by_cases hl : listed.getD m false = true
      · rw [if_pos hl] at h; omega
      · simpa using hl
    · obtain ⟨k, hk, h1, h2⟩ := first_open m h0
      exact ⟨k, by omega, h1, h2⟩

theorem tail_sound {pre : List (List Nat)} (ht : TextOk ops pre n) : ∀ (fuel : Nat) (k : Nat) (listed : Array Bool) (a : Act) (w : World), ops.size = k + fuel → n ≤ k → listed.size = ops.size → Closed ops pre n listed →
    (∀ j, listed.getD j false = true ↔ j < k) → wpList P ops Q (ops.toList.drop k) a w → wpAny P .any ops Q fuel listed a w
  | 0, k, listed, a, w, hf, _, hs, _, hl, h => by
    have hd : ops.toList.drop k = [] := by apply List.drop_eq_nil_of_le; simp; omega
    rw [hd] at h
    have hr : Region.ready .any ops listed = [] := by
      apply List.eq_nil_iff_forall_not_mem.2
      intro i hi
      obtain ⟨h0, o, ho, _⟩ := mem_ready.1 hi
      have hlt := (Array.getElem?_eq_some_iff.1 ho).1
      have := (hl i).2 (by omega)
      simp [hs, hlt] at this h0
      rw [h0] at this; cases this
    exact ⟨hr, h⟩
  | fuel + 1, k, listed, a, w, hf, hn, hs, hc, hl, h => by
    have hk : k < ops.size := by omega
    have hkf : listed.getD k false = false := by
      have := mt (hl k).1 (Nat.lt_irrefl k)
      simpa using this
    have hkr := ready_first ht hs hk hkf (fun j hj => (hl j).2 hj)
    refine ⟨fun h0 => (by rw [h0] at hkr; cases hkr), fun i hi => ?_⟩
    have hik : i = k := by
      obtain ⟨h0, o, ho, _⟩ := mem_ready.1 hi
      have hlt := (Array.getElem?_eq_some_iff.1 ho).1
      have hge : ¬ i < k := fun h' => by
        have := (hl i).2 h'
        simp [hs, hlt] at this h0
        rw [h0] at this; cases this
      rcases Nat.lt_or_ge k i with h' | h'
      · have := ready_pre ht hc hi k (by simp [preOf, show ¬ i < n by omega]; exact h')
        rw [hkf] at this; cases this
      · omega
    subst hik
    have hd : ops.toList.drop i = ops[i] :: ops.toList.drop (i + 1) := by
      rw [List.drop_eq_getElem_cons (by simpa using hk)]; simp
    rw [hd] at h
    have hw : wpOp P ops Q i (wpList P ops Q (ops.toList.drop (i + 1))) a w := by
      unfold wpOp
      simp only [Array.getElem?_eq_getElem hk]
      exact h
    refine wpOp_mono (fun a' w' h' => tail_sound ht fuel (i + 1) _ a' w' (by omega) (by omega) (by simpa using hs) (closed_set ht hc hkr) (fun j => ?_) h') hw
    by_cases hj : j = i
    · subst hj
      simp [hs, hk]
    · rw [getD_set_ne false (Ne.symm hj), hl j]
      omega

theorem facts_sound {pre : List (List Nat)} (ht : TextOk ops pre n) (hD : ∀ k v w w', Below w.heap.size w w' → D k v w → D k v w')
    (step : ∀ k o, k < n → ops[k]? = some o → ∀ (vs : Nat → Value) w, Below w0.heap.size w0 w → (∀ j ∈ preOf pre n k, D j (vs j) w) → wpList P ops (OpPost o (lay ops a0 vs k) (D k) w) [o] (lay ops a0 vs k) w)
    (done : ∀ (vs : Nat → Value) w, Below w0.heap.size w0 w → (∀ k, k < n → D k (vs k) w) → wpList P ops Q (ops.toList.drop n) (lay ops a0 vs n) w) :
    ∀ (fuel : Nat) (listed : Array Bool) (vs : Nat → Value) (w : World), listed.size = ops.size → Closed ops pre n listed → (∀ k, n ≤ k → listed.getD k false = false) → Below w0.heap.size w0 w →
      (∀ k, k < n → listed.getD k false = true → D k (vs k) w) → cnt listed ops.size = fuel → wpAny P .any ops Q fuel listed (layL ops a0 listed vs n) w := by
  intro fuel
  induction fuel with
  | zero =>
    intro listed vs w hs hc hno hb hf hcnt
    have hall := cnt_zero _ hcnt
    have hn : n = ops.size := by
      rcases Nat.lt_or_ge n ops.size with h | h
      · have h1 := hall n h
        rw [hno n (Nat.le_refl _)] at h1; cases h1
      · have := ht.le; omega
    rw [layL_all n (fun k hk => hall k (by have := ht.le; omega))]
    exact tail_sound ht 0 n listed _ w (by omega) (Nat.le_refl _) hs hc (fun j => ⟨fun h => (by
      rcases Nat.lt_or_ge j n with h' | h'
      · exact h'
      · rw [hno j h'] at h; exact (Bool.noConfusion h)), fun h => hall j (by omega)⟩) (done vs w hb (fun k hk => hf k hk (hall k (by omega))))
  | succ fuel ih =>
    intro listed vs w hs hc hno hb hf hcnt
    by_cases hall : ∀ k, k < n → listed.getD k false = true
    · rw [layL_all n hall]
      have hcn : cnt listed ops.size = ops.size - n := by
        have : ∀ m, n ≤ m → cnt listed m = m - n := by
          intro m
          induction m with
          | zero => intro h; simp [cnt]
          | succ m ihm =>
            intro h
            rcases Nat.lt_or_ge n (m + 1) with h' | h'
            · unfold cnt
              rw [ihm (by omega), hno m (by omega)]
              simp; omega
            · rw [cnt_all (m + 1) (fun k hk => hall k (by omega))]; omega
        exact this _ ht.le
      refine tail_sound ht (fuel + 1) n listed _ w (by have h1 := ht.le; omega) (Nat.le_refl _) hs hc (fun j => ⟨fun h => ?_, fun h => hall j h⟩) (done vs w hb (fun k hk => hf k hk (hall k hk)))
      rcases Nat.lt_or_ge j n with h' | h'
      · exact h'
      · rw [hno j h'] at h; cases h
    · obtain ⟨k, hk, hkf, hkb⟩ := first_open ops.size (by omega : cnt listed ops.size ≠ 0)
      have hkr := ready_first ht hs hk hkf hkb
      refine ⟨fun h0 => (by rw [h0] at hkr; cases hkr), fun i hi => ?_⟩
      obtain ⟨hi0, o, ho, _⟩ := mem_ready.1 hi
      have hisz := (Array.getElem?_eq_some_iff.1 ho).1
      have hin : i < n := by
        rcases Nat.lt_or_ge i n with h | h
        · exact h
        · exact absurd (fun k hk => ready_pre ht hc hi k (by simp [preOf, show ¬ i < n by omega]; omega)) hall
      have hif : listed.getD i false = false := by simp [hs, hisz] at hi0 ⊢; exact hi0
      have hpre := ready_pre ht hc hi
      have hlt : ∀ j ∈ preOf pre n i, j < i := fun j hj => (ht.waits i o ho j hj).1
      have hst := step i o hin ho vs w hb (fun j hj => hf j (by have := hlt j hj; omega) (hpre j hj))
      have htmp : ∀ t ∈ o.looksAt ops, (layL ops a0 listed vs n).tmps[t]? = (lay ops a0 vs i).tmps[t]? := by
        intro t htl
        have := tmp_lay (a0 := a0) (vs := vs) (ops := ops) (n := n) (listed := listed) (t := t) (k := i) (fun j hj hd => by
          by_cases hji : j = i
          · subst hji
            have : o.dst = some t := by simpa [opDst, ho] using hd
            exact absurd htl (ht.own j o ho hin t this)
          · have hjp := (ht.dst i o ho hin j hj hji t hd).2 htl
            exact ⟨hlt j hjp, hpre j hjp⟩) n (Nat.le_refl _)
        rw [this, show min n i = i by omega]
      have hex : execOp (layL ops a0 listed vs n).eval o = execOp (lay ops a0 vs i).eval o :=
        execOp_congr o (fun cs b => Region.noSelect_spec ht.sel i o cs b ho) (fun x hx => by
          cases x with
          | tmp t =>
            have := htmp t (List.mem_append_left _ (List.mem_filterMap.2 ⟨.tmp t, by simpa using hx, rfl⟩))
            simp only [Act.eval, Array.getD_eq_getD_getElem?, this]
          | _ => rfl)
      have hwa : Region.wanted o (yielded ops (layL ops a0 listed vs n).tmps) = Region.wanted o (yielded ops (lay ops a0 vs i).tmps) := by
        unfold Region.wanted
        cases hg : o.guard with
        | none => rfl
        | some gw =>
          obtain ⟨g, want⟩ := gw
          have hy : yielded ops (layL ops a0 listed vs n).tmps g = yielded ops (lay ops a0 vs i).tmps g := by
            unfold yielded
            cases hd : (ops[g]?).bind (·.dst) with
            | none => rfl
            | some t =>
              have := htmp t (by simp [Oper.looksAt, hg, hd])
              simp only [Option.bind_some, this]
          simp only [hy]
      have hdst : opDst ops i = o.dst := by simp [opDst, ho]
      have go : ∀ v w', Below w.heap.size w w' → D i v w' → wpAny P .any ops Q fuel (listed.setIfInBounds i true) ((layL ops a0 listed vs n).put o.dst v) w' := by
        intro v w' hb' hd'
        have hput := layL_put (ops := ops) (a0 := a0) (n := n) (listed := listed) (vs := vs) (vs' := fun j => if j = i then v else vs j) (i := i) hif (by omega) (fun k hk => by simp [hk])
          (fun j hj hji d hd => by rw [hdst]; exact (ht.dst i o ho hin j hj hji d hd).1) n (Nat.le_refl _) hin
        simp only [if_true, hdst] at hput
        rw [← hput]
        have hcnt' := cnt_set hi0 ops.size hisz
        refine ih _ _ w' (by simpa using hs) (closed_set ht hc hi) (fun k hk => ?_) (hb.trans (hb'.mono hb.size)) (fun k hk hl => ?_) (by omega)
        · rw [getD_set_ne false (by omega)]; exact hno k hk
        · by_cases hki : k = i
          · subst hki; simpa using hd'
          · rw [getD_set_ne false (Ne.symm hki)] at hl
            simp only [hki, if_false]
            exact hD k _ w w' hb' (hf k hk hl)
      unfold wpOp
      simp only [ho]
      unfold wpList at hst
      rw [hwa]
      have fin : ∀ v w', OpPost o (lay ops a0 vs i) (D i) w .normal ((lay ops a0 vs i).put o.dst v) w' → wpAny P .any ops Q fuel (listed.setIfInBounds i true) ((layL ops a0 listed vs n).put o.dst v) w' := by
        intro v w' ⟨_, u, he, hb', hd'⟩
        have hu : (layL ops a0 listed vs n).put o.dst v = (layL ops a0 listed vs n).put o.dst u := by
          cases hd : o.dst with
          | none => rfl
          | some d =>
            rw [hd] at he
            have h1 : (lay ops a0 vs i).tmps.setIfInBounds d v = (lay ops a0 vs i).tmps.setIfInBounds d u := congrArg Act.tmps he
            have hsz : (lay ops a0 vs i).tmps.size = (layL ops a0 listed vs n).tmps.size := by
              have s1 : ∀ m, (lay ops a0 vs m).tmps.size = a0.tmps.size := by
                intro m
                induction m with
                | zero => rfl
                | succ m ih => unfold lay; cases opDst ops m <;> simpa [Act.put] using ih
              have s2 : ∀ m, (layL ops a0 listed vs m).tmps.size = a0.tmps.size := by
                intro m
                induction m with
                | zero => rfl
                | succ m ih =>
                  unfold layL
                  split
                  · cases opDst ops m <;> simpa [Act.put] using ih
                  · exact ih
              rw [s1, s2]
            by_cases hlt : d < (lay ops a0 vs i).tmps.size
            · have h2 : ((lay ops a0 vs i).tmps.setIfInBounds d v)[d]? = ((lay ops a0 vs i).tmps.setIfInBounds d u)[d]? := by rw [h1]
              simp only [Array.getElem?_setIfInBounds, hlt, if_true] at h2
              injection h2 with h2
              rw [h2]
            · simp only [Act.put]
              rw [Array.setIfInBounds_eq_of_size_le (by rw [← hsz]; exact Nat.le_of_not_lt hlt), Array.setIfInBounds_eq_of_size_le (by rw [← hsz]; exact Nat.le_of_not_lt hlt)]
        rw [hu]
        exact go u w' hb' hd'
      split
      · rename_i hwant
        rw [if_pos hwant] at hst
        rcases hst with hst | ⟨_, a', w', h, _⟩
        · left
          unfold Oper.wp at *
          rw [hex]
          generalize (execOp (lay ops a0 vs i).eval o).run P w = r at *
          cases r with
          | ok x w' =>
            cases x <;> simp only [Oper.upon] at hst ⊢
            case value u => exact fin u w' (by simpa [wpList] using hst)
            case skip => exact fin undef w' (by simpa [wpList] using hst)
            case defer d =>
              simp only [wpList, OpPost] at hst
              obtain ⟨_, v, he, _⟩ := hst
              exfalso
              have h1 := congrArg Act.defers he
              have h2 : ∀ (a : Act) (x : Option Tmp) (v : Value), (a.put x v).defers = a.defers := by intro a x v; cases x <;> rfl
              rw [h2, h2] at h1
              simp at h1
            case enter f args =>
              refine Calls.mono hst fun e w'' he => ?_
              cases e with
              | returned u => exact fin u w'' (by simpa [wpList] using he)
              | panicked c => exact absurd he.1 (by simp)
              | outgrown => obtain ⟨a', w3, h, _⟩ := he; cases h
            case row row args => exact Rows.mono hst fun u w'' he => fin u w'' (by simpa [wpList] using he)
          | halt x w' =>
            cases x <;> simp only [Oper.upon] at hst ⊢
            case panic u => exact absurd hst.1 (by simp)
        · cases h
      · rename_i hwant
        rw [if_neg hwant] at hst
        exact fin undef w (by simpa [wpList] using hst)

/-- The list of the facts, and the walk in the order of the text, give what 'facts_sound' asks. -/
theorem holds_of {F : List (World → Prop)} {w : World} {p : List Nat} : (∀ j ∈ p, (F.getD j (fun _ => True)) w) → holds F w p := by
  induction p with
  | nil => intro _; trivial
  | cons j p ih => intro h; exact ⟨h j (by simp), ih (fun i hi => h i (by simp [hi]))⟩

theorem allOf_of {w : World} : ∀ {F : List (World → Prop)}, (∀ f ∈ F, f w) → allOf w F
  | [], _ => trivial
  | f :: F, h => ⟨h f (by simp), allOf_of (fun g hg => h g (by simp [hg]))⟩

theorem getD_range_map {α : Type} (f : Nat → α) (x : α) : ∀ (k j : Nat), j < k → (((List.range k).map f).getD j x) = f j := by
  intro k j hj
  simp [List.getD, hj]

theorem wpFacts_spec {R : Act → World → Prop} {pr : Nat → List Nat} (hpr : ∀ k, ∀ j ∈ pr k, j < k) (vs : Nat → Value) :
    ∀ (Ds : List (List Nat × (Value → World → Prop))) (l : List Oper) (k : Nat) (F : List (World → Prop)) (a : Act), (∀ m p d, Ds[m]? = some (p, d) → p = pr (k + m) ∧ d = D (k + m)) →
      F = (List.range k).map (fun j => D j (vs j)) → a = lay ops a0 vs k → (∀ m, l[m]? = ops[k + m]?) → k + Ds.length ≤ ops.size → wpFacts P ops w0 R Ds l F a →
      (∀ m o, m < Ds.length → ops[k + m]? = some o → ∀ w, Below w0.heap.size w0 w → (∀ j ∈ pr (k + m), D j (vs j) w) → wpList P ops (OpPost o (lay ops a0 vs (k + m)) (D (k + m)) w) [o] (lay ops a0 vs (k + m)) w) ∧
      (∀ w, Below w0.heap.size w0 w → (∀ j, j < k + Ds.length → D j (vs j) w) → R (lay ops a0 vs (k + Ds.length)) w)
  | [], l, k, F, a, _, hF, ha, _, _, h => by
    subst hF; subst ha
    refine ⟨fun m o hm => absurd hm (by simp), fun w hb hf => ?_⟩
    have h' : ∀ w, Below w0.heap.size w0 w → allOf w ((List.range k).map (fun j => D j (vs j))) → R (lay ops a0 vs k) w := by cases l <;> exact h
    refine h' w hb (allOf_of (fun f hff => ?_))
    obtain ⟨j, hj, rfl⟩ := List.mem_map.1 hff
    exact hf j (by simpa using hj)
  | (p, d) :: Ds, l, k, F, a, hDs, hF, ha, hl, hk, h => by
    obtain ⟨rfl, rfl⟩ := hDs 0 p d rfl
    have hks : k < ops.size := by simp at hk; omega
    match l, hl 0 with
    | [], h0 => simp [hks] at h0
    | o :: l, h0 =>
      have ho : ops[k]? = some o := by simpa using h0.symm
      obtain ⟨h1, h2⟩ := h
      have ih := wpFacts_spec hpr vs Ds l (k + 1) (F ++ [D k (vs k)]) (a.put o.dst (vs k)) (fun m p d hm => by
          have := hDs (m + 1) p d (by simpa using hm)
          rwa [show k + (m + 1) = k + 1 + m by omega] at this)
        (by rw [hF, List.range_succ, List.map_append]; rfl) (by rw [ha]; simp [lay, opDst, ho]) (fun m => by
          have := hl (m + 1)
          rw [show k + (m + 1) = k + 1 + m by omega] at this
          simpa using this) (by simp at hk; omega) (h2 (vs k))
      refine ⟨fun m o' hm ho' w hb hf => ?_, fun w hb hf => ?_⟩
      · match m with
        | 0 =>
          have : o' = o := by rw [Nat.add_zero, ho] at ho'; injection ho' with h; exact h.symm
          subst this
          subst ha
          refine h1 w hb (holds_of (fun j hj => ?_))
          have hjk := hpr _ j hj
          subst hF
          rw [getD_range_map _ _ k j hjk]
          exact hf j hj
        | m + 1 =>
          have e : k + (m + 1) = k + 1 + m := by omega
          rw [e] at ho' hf ⊢
          exact ih.1 m o' (by simpa using hm) ho' w hb hf
      · have e : k + ((pr (k + 0), D (k + 0)) :: Ds).length = k + 1 + Ds.length := by simp; omega
        rw [e] at hf ⊢
        exact ih.2 w hb hf

/-- Each fact stays true in a world that has only grown. -/
def Stable (d : Value → World → Prop) : Prop := ∀ v w w', Below w.heap.size w w' → d v w → d v w'
def allStable : List (Value → World → Prop) → Prop
  | [] => True
  | d :: Ds => Stable d ∧ allStable Ds
theorem stable_pure (p : Value → Prop) : Stable (fun v _ => p v) := fun _ _ _ _ h => h

theorem allStable_get : ∀ {Ds : List (Value → World → Prop)}, allStable Ds → ∀ k, Stable (Ds.getD k (fun _ _ => True))
  | [], _, k => by simp only [List.getD_nil]; exact stable_pure _
  | d :: Ds, h, 0 => h.1
  | d :: Ds, h, k + 1 => by simpa using allStable_get h.2 k

/-- **A REGION THAT DRAWS ITS ORDER**: 'pre': which operations surely come before each; 'Ds': what the value of each comes to. -/
theorem wp_region_facts {id : Nat} {l : List Oper} {w : World} (pre : List (List Nat)) (Ds : List (Value → World → Prop)) (hm : P.follows .mixedOrders = true) (hB : factsB l.toArray pre pre.length = true) (hlen : pre.length = Ds.length) (hD : allStable Ds)
    (h : wpFacts P l.toArray w (fun a w => wpList P l.toArray Q (l.drop pre.length) a w) (pre.zip Ds) l [] a0) : (Code.region id l.toArray true).wp P Q a0 w := by
  have ht := textOk hB
  refine wp_region_any hm ?_
  have key : ∀ vs : Nat → Value, _ := fun vs => wpFacts_spec (P := P) (ops := l.toArray) (w0 := w) (a0 := a0) (D := fun k => Ds.getD k (fun _ _ => True)) (pr := fun k => if k < pre.length then pre.getD k [] else []) (by
      intro k j hj
      by_cases hk : k < pre.length
      · rw [if_pos hk] at hj
        have hks : k < l.toArray.size := Nat.lt_of_lt_of_le hk ht.le
        exact (ht.waits k _ (Array.getElem?_eq_getElem hks) j (by simpa [preOf, hk] using hj)).1
      · rw [if_neg hk] at hj; cases hj) vs (pre.zip Ds) l 0 [] a0 (by
      intro m p d hmd
      rw [List.getElem?_zip_eq_some] at hmd
      obtain ⟨h1, h2⟩ := hmd
      have hml : m < pre.length := (List.getElem?_eq_some_iff.1 h1).1
      simp [hml, List.getD, h1, h2] at *
      simp [h1]) rfl rfl (by simp) (by simp [List.length_zip, hlen]; have := ht.le; simp [hlen] at this; omega) h
  have hzl : (pre.zip Ds).length = pre.length := by simp [List.length_zip, hlen]
  have hlay : layL l.toArray a0 (Array.replicate l.toArray.size false) (fun _ => undef) pre.length = a0 := by
    have : ∀ m, layL l.toArray a0 (Array.replicate l.toArray.size false) (fun _ => undef) m = a0 := by
      intro m
      induction m with
      | zero => rfl
      | succ m ih =>
        unfold layL
        rw [if_neg (by simp [Array.getElem?_replicate]; split <;> simp), ih]
    exact this _
  have hno : ∀ k, (Array.replicate l.toArray.size false).getD k false = false := by
    intro k; simp [Array.getElem?_replicate]; split <;> simp
  have := facts_sound (P := P) (Q := Q) (ops := l.toArray) (w0 := w) (a0 := a0) (n := pre.length) (D := fun k => Ds.getD k (fun _ _ => True)) ht (fun k v w w' hb hd => allStable_get hD k v w w' hb hd)
    (fun k o hk ho vs w hb hf => by
      have := (key vs).1 k o (by rw [hzl]; exact hk) (by rw [Nat.zero_add]; exact ho) w hb (fun j hj => hf j (by simpa [preOf, hk] using hj))
      simpa using this)
    (fun vs w hb hf => by
      have := (key vs).2 w hb (fun j hj => hf j (by rw [hzl] at hj; omega))
      rw [hzl, Nat.zero_add] at this
      exact this)
    l.toArray.size (Array.replicate l.toArray.size false) (fun _ => undef) w.drew (by simp) (fun k _ hl => by rw [hno] at hl; cases hl) (fun k _ => hno k) (Below.refl _ _).drew (fun k _ hl => by rw [hno] at hl; cases hl)
    (by
      have : ∀ m, cnt (Array.replicate l.toArray.size false) m = m := by
        intro m
        induction m with
        | zero => rfl
        | succ m ih => unfold cnt; rw [ih, hno]; simp
      exact this _)
  rw [hlay] at this
  exact this

theorem wf_step {R : Act → World → Prop} {p : List Nat} {pre : List (List Nat)} {d : Value → World → Prop} {Ds : List (Value → World → Prop)} {o : Oper} {l : List Oper} {F : List (World → Prop)} {a : Act}
    (h1 : ∀ w, Below w0.heap.size w0 w → holds F w p → wpList P ops (OpPost o a d w) [o] a w) (h2 : ∀ v, wpFacts P ops w0 R (pre.zip Ds) l (F ++ [d v]) (a.put o.dst v)) :
    wpFacts P ops w0 R ((p :: pre).zip (d :: Ds)) (o :: l) F a := ⟨h1, h2⟩
theorem wf_done {R : Act → World → Prop} {l : List Oper} {F : List (World → Prop)} {a : Act} (h : ∀ w, Below w0.heap.size w0 w → allOf w F → R a w) : wpFacts P ops w0 R (([] : List (List Nat)).zip ([] : List (Value → World → Prop))) l F a := by
  cases l <;> exact h

theorem upon_norm {o : Oper} {Q1 : Exit → Act → World → Prop} (hn : ∀ e a w, Q1 e a w → e = .normal) {K K' : Act → World → Prop} (hK : ∀ a w, K a w → K' a w) {a : Act} {r : Result Next} (h : o.upon P a K Q1 r) : o.upon P a K' Q r := by
  cases r with
  | ok x w' =>
    cases x <;> simp only [Oper.upon] at h ⊢
    case value u => exact hK _ _ h
    case skip => exact hK _ _ h
    case defer d => exact hK _ _ h
    case enter f args =>
      refine Calls.mono h fun e w'' he => ?_
      cases e with
      | returned u => exact hK _ _ he
      | panicked c => exact absurd (hn _ _ _ he) (by simp)
      | outgrown => obtain ⟨a', w3, h⟩ := he; exact absurd (hn _ _ _ h) (by simp)
    case row row args => exact Rows.mono h fun u w'' he => hK _ _ he
  | halt x w' =>
    cases x <;> simp only [Oper.upon] at h ⊢
    case panic u => exact absurd (hn _ _ _ h) (by simp)

theorem wpList_norm {Q1 : Exit → Act → World → Prop} (hn : ∀ e a w, Q1 e a w → e = .normal) (hQ : ∀ a w, Q1 .normal a w → Q .normal a w) : ∀ (l : List Oper) (a : Act) (w : World), wpList P ops Q1 l a w → wpList P ops Q l a w
  | [], _, _, h => hQ _ _ h
  | o :: l, a, w, h => by
    unfold wpList at h ⊢
    split
    · rename_i hw
      rw [if_pos hw] at h
      rcases h with h | ⟨_, a', w', h⟩
      · exact .inl (upon_norm hn (fun a w h => wpList_norm hn hQ l a w h) h)
      · exact absurd (hn _ _ _ h) (by simp)
    · rename_i hw
      rw [if_neg hw] at h
      exact wpList_norm hn hQ l _ _ h

/-- A store at a region's end: its world under a name. -/
def StorePost (a : Act) (F : World → Prop) (e : Exit) (b : Act) (w' : World) : Prop := e = .normal ∧ b = a ∧ F w'
theorem wpList_abs {o : Oper} {a : Act} {w : World} (F : World → Prop) (h1 : wpList P ops (StorePost a F) [o] a w) (h2 : ∀ w', F w' → Q .normal a w') : wpList P ops Q [o] a w :=
  wpList_norm (fun _ _ _ h => h.1) (fun _ _ ⟨_, e, h⟩ => e ▸ h2 _ h) [o] a w h1

/-- The frame, written out. -/
theorem wpList_frame {l : List Oper} {a b : Act} {w : World} (h : a = b) (k : wpList P ops Q l b w) : wpList P ops Q l a w := h ▸ k

/-- The world under a name, with what is known of it. -/
theorem abs_world {c : Code} {a : Act} {w : World} (F : World → Prop) (h : F w) (k : ∀ w, F w → c.wp P Q a w) : c.wp P Q a w := k w h
end

theorem bal {a w : World} (h : Below a.heap.size a w) (o : Obj) : Below a.heap.size a (w.alloc o) := h.alloc h.size o
theorem btr {a b c : World} (h : Below a.heap.size a b) (k : Below b.heap.size b c) : Below a.heap.size a c := h.trans (k.mono h.size)
theorem bset {a w : World} (h : Below a.heap.size a w) {p : Addr} (hp : a.heap.size ≤ p.block) (u : Value) : Below a.heap.size a (w.setCell p u) := h.setCell hp u
theorem bcell {W w1 : World} (hb : Below W.heap.size W w1) : (∀ b o, b < W.heap.size → w1.cell? ⟨b, o, none⟩ = W.cell? ⟨b, o, none⟩) ∧ (∀ b o, b < W.heap.size → w1.frozen? ⟨b, o, none⟩ = W.frozen? ⟨b, o, none⟩) :=
  ⟨fun b o h => hb.cell (p := ⟨b, o, none⟩) h, fun b o h => hb.frozen (p := ⟨b, o, none⟩) h⟩
theorem ret_bool {a b : Bool} (h : a = b) : Ending.returned (.bool a) = Ending.returned (.bool b) := by rw [h]

/-- Block g is just these cells, none frozen. -/
def Blk (w : World) (g : Nat) (t : TypeId) (cs : Array Value) : Prop := w.heap[g]? = some (.cells cs t (0, 0))
section
variable {w w' : World} {g : Nat} {t : TypeId} {cs : Array Value}
theorem Blk.lt (h : Blk w g t cs) : g < w.heap.size := by
  rcases Nat.lt_or_ge g w.heap.size with hlt | hge
  · exact hlt
  · unfold Blk at h; rw [Array.getElem?_eq_none hge] at h; cases h
theorem Blk.cell (h : Blk w g t cs) (i : Nat) : w.cell? ⟨g, i, none⟩ = cs[i]? := cell_of_row w g i cs t (0, 0) h
theorem Blk.frozen (h : Blk w g t cs) (i : Nat) : w.frozen? ⟨g, i, none⟩ = false := by
  unfold Blk at h
  simp [World.frozen?, h]
theorem Blk.newAt (hg : w.heap.size = g) : Blk (w.alloc (.cells cs t)) g t cs := by subst hg; exact heap_alloc_new w _
theorem Blk.alloc (h : Blk w g t cs) (o : Obj) : Blk (w.alloc o) g t cs := (Below.heap_alloc w o g h.lt).trans h
theorem Blk.drew (h : Blk w g t cs) : Blk w.drew g t cs := h
theorem Blk.set_ (h : Blk w g t cs) (i : Nat) (u : Value) : Blk (w.setCell ⟨g, i, none⟩ u) g t (cs.setIfInBounds i u) := by
  unfold Blk at h ⊢
  simp [World.setCell, Array.getElem?_modify, h]
theorem Blk.far (h : Blk w g t cs) {p : Addr} (hp : g ≠ p.block) (u : Value) : Blk (w.setCell p u) g t cs := (Below.heap_setCell w p u g hp).trans h
theorem Blk.below (h : Blk w g t cs) (hb : Below w.heap.size w w') : Blk w' g t cs := (hb.block g h.lt).trans h
end
/-- v leads to a new block of these cells. -/
def AtBlk (B : Nat) (t : TypeId) (cs : Array Value) (v : Value) (w : World) : Prop := ∃ b, v = .pointer (some ⟨b, 0, none⟩) ∧ B ≤ b ∧ Blk w b t cs
theorem stable_atBlk (B : Nat) (t : TypeId) (cs : Array Value) : Stable (AtBlk B t cs) := fun _ _ _ hb ⟨b, e, h1, h2⟩ => ⟨b, e, h1, h2.below hb⟩
end Go.Proofs.Ytjlpkfcdkmcjnaa
