/- HELPER, no statement of the seat: several texts in one file. -/
import Derived.WalkKit
import Derived.Below
import Derived.Orders
import Derived.Lib.Hide
import Derived.Test.YtbgbomhlaobncaaRows
import Derived.ProofKit
import Derived.OpenShut
import Derived.WalkLawsBesides
import Derived.OwnWalk
import Derived.LoopTactic
import Derived.Deep.QuietTactic
import Derived.BigQuiet
import Derived.Outline
import Derived.Laws.AppendOwn
import Derived.Laws.OwnMore
import Derived.Carry
import Derived.Deep.Slices
import Derived.Laws.ResultCell
import Derived.Lib.QuietBelow
import Derived.WalkSpells
/- HELPER, no statement of the seat: a region that draws its order, each operation of which leaves what was there (it may make memory): ONE walk in the order of the text serves every order, each operation shown once, from the facts of those that surely come before it; the last operations, which wait for all, are walked behind it. -/
namespace Go.Proofs.Ytbgbomhlaobncaa
open Go.RowKit
set_option linter.unusedSimpArgs false
set_option linter.unusedVariables false

/-- The facts of the operations in p, out of the list F of facts. -/
def holds (F : List (World → Prop)) (w : World) : List Nat → Prop
  | [] => True
  | j :: p => (F.getD j (fun _ => True)) w ∧ holds F w p

/-- All facts of a list. -/
def allOf (w : World) : List (World → Prop) → Prop
  | [] => True
  | f :: F => f w ∧ allOf w F

/-- What one operation must come to: its value meets d, and nothing that was there has turned. -/
def OpPost (o : Oper) (a : Act) (d : Value → World → Prop) (w : World) (e : Exit) (a' : Act) (w' : World) : Prop :=
  e = .normal ∧ ∃ v, a' = a.put o.dst v ∧ Below w.heap.size w w' ∧ d v w'

/-- The walk in the order of the text. -/
def wpFacts (P : Program) (ops : Array Oper) (w0 : World) (R : Act → World → Prop) : List (List Nat × (Value → World → Prop)) → List Oper → List (World → Prop) → Act → Prop
  | (p, d) :: Ds, o :: l, F, a => (∀ w, Below w0.heap.size w0 w → holds F w p → wpList P ops (OpPost o a d w) [o] a w) ∧ ∀ v, wpFacts P ops w0 R Ds l (F ++ [d v]) (a.put o.dst v)
  | _, _, F, a => ∀ w, Below w0.heap.size w0 w → allOf w F → R a w

def opDst (ops : Array Oper) (k : Nat) : Option Tmp := (ops[k]?).bind (·.dst)

def isDefer : Op → Bool
  | .defer _ => true
  | _ => false

/-- What is asked of the region's text: n operations in whatever order, then the others, each of which waits for all. -/
def factsB (ops : Array Oper) (pre : List (List Nat)) (n : Nat) : Bool :=
  Region.noSelect ops && decide (n ≤ ops.size) &&
  (List.range ops.size).all fun k =>
    match ops[k]? with
    | none => false
    | some o =>
      (o.after.all fun e => !Region.binds .any e || decide (e.on < k)) &&
      ((if k < n then pre.getD k [] else List.range k).all fun j => decide (j < k) && o.after.any fun e => Region.binds .any e && (e.on == j || ((if e.on < n then pre.getD e.on [] else List.range e.on).contains j))) &&
      (if k < n then
        !isDefer o.op && (match o.dst with | none => true | some d => !(o.looksAt ops).contains d) &&
        (List.range n).all fun j => j == k || (match opDst ops j with | none => true | some d => (o.dst != some d) && (!(o.looksAt ops).contains d || (pre.getD k []).contains j))
      else true)

section
variable {P : Program} {ops : Array Oper} {Q : Exit → Act → World → Prop} {w0 : World} {a0 : Act} {n : Nat} {D : Nat → Value → World → Prop}

/-- The frame with the values of the first k operations. -/
def lay (ops : Array Oper) (a : Act) (vs : Nat → Value) : Nat → Act
  | 0 => a
  | k + 1 => (lay ops a vs k).put (opDst ops k) (vs k)

/-- The frame with the values of those of the first k operations that have come up. -/
def layL (ops : Array Oper) (a : Act) (listed : Array Bool) (vs : Nat → Value) : Nat → Act
  | 0 => a
  | k + 1 => if listed.getD k false = true then (layL ops a listed vs k).put (opDst ops k) (vs k) else layL ops a listed vs k

def cnt (listed : Array Bool) : Nat → Nat
  | 0 => 0
  | k + 1 => cnt listed k + (if listed.getD k false = true then 0 else 1)

theorem cnt_set_ge {listed : Array Bool} {i : Nat} : ∀ m, m ≤ i → cnt (listed.setIfInBounds i true) m = cnt listed m
  | 0, _ => rfl
  | m + 1, h => by
    unfold cnt
    rw [cnt_set_ge m (by omega), getD_set_ne false (by omega)]

theorem cnt_set {listed : Array Bool} {i : Nat} (hi : listed.getD i true = false) : ∀ m, i < m → cnt (listed.setIfInBounds i true) m + 1 = cnt listed m
  | 0, h => by omega
  | m + 1, h => by
    have hsz : i < listed.size := by
      rcases Nat.lt_or_ge i listed.size with h' | h'
      · exact h'
      · simp [Array.getElem?_eq_none h'] at hi
    have hf : listed.getD i false = false := by simp [hsz] at hi ⊢; exact hi
    unfold cnt
    rcases Nat.lt_or_ge i m with hlt | hge
    · have := cnt_set hi m hlt
      rw [getD_set_ne false (by omega)]
      omega
    · obtain rfl : i = m := by omega
      rw [cnt_set_ge i (Nat.le_refl _), hf]
      simp [hsz]

theorem cnt_zero {listed : Array Bool} : ∀ m, cnt listed m = 0 → ∀ k, k < m → listed.getD k false = true
  | 0, _, k, hk => by omega
  | m + 1, h, k, hk => by
    unfold cnt at h
    rcases Nat.lt_or_ge k m with hlt | hge
    · exact cnt_zero m (by omega) k hlt
    · obtain rfl : k = m := by omega
      by_cases hl : listed.getD k false = true
      · exact hl
      · rw [if_neg hl] at h; omega

theorem cnt_all {listed : Array Bool} : ∀ m, (∀ k, k < m → listed.getD k false = true) → cnt listed m = 0
  | 0, _ => rfl
  | m + 1, h => by
    unfold cnt
    rw [cnt_all m (fun k hk => h k (by omega)), if_pos (h m (by omega))]

theorem layL_congr {listed listed' : Array Bool} {vs vs' : Nat → Value} : ∀ m, (∀ k, k < m → listed'.getD k false = listed.getD k false ∧ vs' k = vs k) → layL ops a0 listed' vs' m = layL ops a0 listed vs m
  | 0, _ => rfl
  | m + 1, h => by
    unfold layL
    rw [layL_congr m (fun k hk => h k (by omega)), (h m (by omega)).1, (h m (by omega)).2]

theorem layL_put {listed : Array Bool} {vs vs' : Nat → Value} {i : Nat} (hi : listed.getD i false = false) (hsz : i < listed.size) (hv : ∀ k, k ≠ i → vs' k = vs k)
    (hd : ∀ j, j < n → j ≠ i → ∀ d, opDst ops j = some d → opDst ops i ≠ some d) :
    ∀ m, m ≤ n → i < m → layL ops a0 (listed.setIfInBounds i true) vs' m = (layL ops a0 listed vs m).put (opDst ops i) (vs' i)
  | 0, _, h => by omega
  | m + 1, hm, h => by
    unfold layL
    rcases Nat.lt_or_ge i m with hlt | hge
    · rw [layL_put hi hsz hv hd m (by omega) hlt, getD_set_ne false (by omega), hv m (by omega)]
      split
      · exact (Act.put_comm _ _ _ (fun d h1 h2 => hd m (by omega) (by omega) d h2 h1))
      · rfl
    · obtain rfl : i = m := by omega
      rw [if_pos (by simp [hsz]), hi, if_neg (by simp), layL_congr i (fun k hk => ⟨getD_set_ne false (by omega), hv k (by omega)⟩)]

theorem layL_all {listed : Array Bool} {vs : Nat → Value} : ∀ m, (∀ k, k < m → listed.getD k false = true) → layL ops a0 listed vs m = lay ops a0 vs m
  | 0, _ => rfl
  | m + 1, h => by
    unfold layL lay
    rw [if_pos (h m (by omega)), layL_all m (fun k hk => h k (by omega))]

theorem layL_defers {listed : Array Bool} {vs : Nat → Value} : ∀ m, (layL ops a0 listed vs m).defers = a0.defers
  | 0 => rfl
  | m + 1 => by
    unfold layL
    split
    · cases opDst ops m <;> exact layL_defers m
    · exact layL_defers m

theorem lay_defers {vs : Nat → Value} : ∀ m, (lay ops a0 vs m).defers = a0.defers
  | 0 => rfl
  | m + 1 => by
    unfold lay
    cases opDst ops m <;> exact lay_defers m

/-- A temporary that only operations write which have come up, and which stand before k. -/
theorem tmp_lay {listed : Array Bool} (vs : Nat → Value) {t : Tmp} {k : Nat} (ht : ∀ j, j < n → opDst ops j = some t → j < k ∧ listed.getD j false = true) :
    ∀ m, m ≤ n → (layL ops a0 listed vs m).tmps[t]? = (lay ops a0 vs (min m k)).tmps[t]?
  | 0, _ => by simp [layL, lay]
  | m + 1, hm => by
    have ih := tmp_lay vs ht m (by omega)
    have sL : ∀ m, (layL ops a0 listed vs m).tmps.size = a0.tmps.size := by
      intro m
      induction m with
      | zero => rfl
      | succ m ih =>
        unfold layL
        split
        · cases opDst ops m <;> simpa [Act.put] using ih
        · exact ih
    have sl : ∀ m, (lay ops a0 vs m).tmps.size = a0.tmps.size := by
      intro m
      induction m with
      | zero => rfl
      | succ m ih =>
        unfold lay
        cases opDst ops m <;> simpa [Act.put] using ih
    by_cases hdt : opDst ops m = some t
    · obtain ⟨h1, h2⟩ := ht m (by omega) hdt
      rw [show min (m + 1) k = m + 1 by omega]
      unfold layL lay
      rw [if_pos h2, hdt]
      simp only [Act.put, Array.getElem?_setIfInBounds, sL m, sl m, if_true]
    · have hput : ∀ (a : Act) (v : Value), (a.put (opDst ops m) v).tmps[t]? = a.tmps[t]? := by
        intro a v
        cases hd : opDst ops m with
        | none => rfl
        | some d =>
          have hne : d ≠ t := fun e => hdt (by rw [hd, e])
          simp [Act.put, Array.getElem?_setIfInBounds_ne hne]
      have e1 : (layL ops a0 listed vs (m + 1)).tmps[t]? = (layL ops a0 listed vs m).tmps[t]? := by
        conv => lhs; unfold layL
        split
        · exact hput _ _
        · rfl
      rw [e1, ih]
      rcases Nat.lt_or_ge m k with hlt | hge
      · rw [show min (m + 1) k = m + 1 by omega, show min m k = m by omega]
        exact (hput (lay ops a0 vs m) (vs m)).symm
      · rw [show min (m + 1) k = k by omega, show min m k = k by omega]

/-- What an operation waits for. -/
def preOf (pre : List (List Nat)) (n k : Nat) : List Nat := if k < n then pre.getD k [] else List.range k

structure TextOk (ops : Array Oper) (pre : List (List Nat)) (n : Nat) : Prop where
  sel : Region.noSelect ops = true
  le : n ≤ ops.size
  up : ∀ k o, ops[k]? = some o → ∀ e ∈ o.after, Region.binds .any e = true → e.on < k
  waits : ∀ k o, ops[k]? = some o → ∀ j ∈ preOf pre n k, j < k ∧ ∃ e ∈ o.after, Region.binds .any e = true ∧ (e.on = j ∨ j ∈ preOf pre n e.on)
  later : ∀ k o, ops[k]? = some o → k < n → isDefer o.op = false
  own : ∀ k o, ops[k]? = some o → k < n → ∀ d, o.dst = some d → d ∉ o.looksAt ops
  dst : ∀ k o, ops[k]? = some o → k < n → ∀ j, j < n → j ≠ k → ∀ d, opDst ops j = some d → o.dst ≠ some d ∧ (d ∈ o.looksAt ops → j ∈ preOf pre n k)

theorem textOk {pre : List (List Nat)} (h : factsB ops pre n = true) : TextOk ops pre n := by
  simp only [factsB, Bool.and_eq_true, decide_eq_true_eq, List.all_eq_true, List.mem_range] at h
  obtain ⟨⟨h1, h2⟩, h3⟩ := h
  have lt : ∀ k o, ops[k]? = some o → k < ops.size := fun k o ho => (Array.getElem?_eq_some_iff.1 ho).1
  refine ⟨h1, h2, ?_, ?_, ?_, ?_, ?_⟩
  · intro k o ho e he hb
    have := h3 k (lt k o ho)
    simp only [ho, Bool.and_eq_true] at this
    have h4 := Array.all_eq_true_iff_forall_mem.1 this.1.1 e he
    simpa [hb] using h4
  · intro k o ho j hj
    have := h3 k (lt k o ho)
    simp only [ho, Bool.and_eq_true] at this
    have h4 := List.all_eq_true.1 this.1.2 j hj
    simp only [Bool.and_eq_true, decide_eq_true_eq, Array.any_eq_true'] at h4
    obtain ⟨h5, e, he, h6⟩ := h4
    simp only [Bool.and_eq_true, Bool.or_eq_true, beq_iff_eq, List.contains_iff_mem] at h6
    exact ⟨h5, e, he, h6.1, h6.2⟩
  · intro k o ho hk
    have := h3 k (lt k o ho)
    simp only [ho, Bool.and_eq_true, hk, if_true] at this
    simpa using this.2.1.1
  · intro k o ho hk d hd hc
    have := h3 k (lt k o ho)
    simp only [ho, Bool.and_eq_true, hk, if_true] at this
    have h4 := this.2.1.2
    simp only [hd, Bool.not_eq_true'] at h4
    have : (o.looksAt ops).contains d = true := by simpa using hc
    rw [this] at h4
    cases h4
  · intro k o ho hk j hj hne d hd
    have := h3 k (lt k o ho)
    simp only [ho, Bool.and_eq_true, hk, if_true, List.all_eq_true, List.mem_range] at this
    have h4 := this.2.2 j hj
    simp only [hd, Bool.or_eq_true, beq_iff_eq, hne, false_or, Bool.and_eq_true, Bool.not_eq_true'] at h4
    refine ⟨by simpa using h4.1, fun hc => ?_⟩
    have h5 : (o.looksAt ops).contains d = true := by simpa using hc
    rw [h5] at h4
    simpa [preOf, hk] using h4.2

def Closed (ops : Array Oper) (pre : List (List Nat)) (n : Nat) (listed : Array Bool) : Prop :=
  ∀ k, k < ops.size → listed.getD k false = true → ∀ j ∈ preOf pre n k, listed.getD j false = true

theorem ready_pre {pre : List (List Nat)} (ht : TextOk ops pre n) {listed : Array Bool} (hc : Closed ops pre n listed) {k : Nat} (hk : k ∈ Region.ready .any ops listed) :
    ∀ j ∈ preOf pre n k, listed.getD j false = true := by
  obtain ⟨_, o, ho, hall⟩ := mem_ready.1 hk
  intro j hj
  obtain ⟨_, e, he, hb, h⟩ := ht.waits k o ho j hj
  have hl := hall e he hb
  rcases h with rfl | h
  · exact hl
  · exact hc _ (by have h1 := ht.up k o ho e he hb; have h2 := (Array.getElem?_eq_some_iff.1 ho).1; omega) hl j h

theorem closed_set {pre : List (List Nat)} (ht : TextOk ops pre n) {listed : Array Bool} (hc : Closed ops pre n listed) {k : Nat} (hk : k ∈ Region.ready .any ops listed) :
    Closed ops pre n (listed.setIfInBounds k true) := by
  intro m hm hl j hj
  refine getD_set_true ?_
  by_cases hmk : m = k
  · subst hmk
    exact ready_pre ht hc hk j hj
  · rw [getD_set_ne false (Ne.symm hmk)] at hl
    exact hc m hm hl j hj

/-- The first that has not come up may come up. -/
theorem ready_first {pre : List (List Nat)} (ht : TextOk ops pre n) {listed : Array Bool} (hs : listed.size = ops.size) {k : Nat} (hk : k < ops.size) (hl : listed.getD k false = false) (hb : ∀ j, j < k → listed.getD j false = true) :
    k ∈ Region.ready .any ops listed := by
  refine mem_ready.2 ⟨by simp [hs, hk] at hl ⊢; exact hl, ops[k], by simp [hk], fun e he hb' => hb _ (ht.up k _ (by simp [hk]) e he hb')⟩

theorem first_open {listed : Array Bool} : ∀ m, cnt listed m ≠ 0 → ∃ k, k < m ∧ listed.getD k false = false ∧ ∀ j, j < k → listed.getD j false = true
  | 0, h => absurd rfl h
  | m + 1, h => by
    by_cases h0 : cnt listed m = 0
    · refine ⟨m, by omega, ?_, fun j hj => cnt_zero m h0 j hj⟩
      unfold cnt at h
      by_cases hl : listed.getD m false = true
      · rw [if_pos hl] at h; omega
      · simpa using hl
    · obtain ⟨k, hk, h1, h2⟩ := first_open m h0
      exact ⟨k, by omega, h1, h2⟩

theorem tail_sound {pre : List (List Nat)} (ht : TextOk ops pre n) : ∀ (fuel : Nat) (k : Nat) (listed : Array Bool) (a : Act) (w : World), ops.size = k + fuel → n ≤ k → listed.size = ops.size → Closed ops pre n listed →
    (∀ j, listed.getD j false = true ↔ j < k) → wpList P ops Q (ops.toList.drop k) a w → wpAny P .any ops Q fuel listed a w
  | 0, k, listed, a, w, hf, _, hs, _, hl, h => by
    have hd : ops.toList.drop k = [] := by apply List.drop_eq_nil_of_le; simp; omega
    rw [hd] at h
    have hr : Region.ready .any ops listed = [] := by
      apply List.eq_nil_iff_forall_not_mem.2
      intro i hi
      obtain ⟨h0, o, ho, _⟩ := mem_ready.1 hi
      have hlt := (Array.getElem?_eq_some_iff.1 ho).1
      have := (hl i).2 (by omega)
      simp [hs, hlt] at this h0
      rw [h0] at this; cases this
    exact ⟨hr, h⟩
  | fuel + 1, k, listed, a, w, hf, hn, hs, hc, hl, h => by
    have hk : k < ops.size := by omega
    have hkf : listed.getD k false = false := by
      have := mt (hl k).1 (Nat.lt_irrefl k)
      simpa using this
    have hkr := ready_first ht hs hk hkf (fun j hj => (hl j).2 hj)
    refine ⟨fun h0 => (by rw [h0] at hkr; cases hkr), fun i hi => ?_⟩
    have hik : i = k := by
      obtain ⟨h0, o, ho, _⟩ := mem_ready.1 hi
      have hlt := (Array.getElem?_eq_some_iff.1 ho).1
      have hge : ¬ i < k := fun h' => by
        have := (hl i).2 h'
        simp [hs, hlt] at this h0
        rw [h0] at this; cases this
      rcases Nat.lt_or_ge k i with h' | h'
      · have := ready_pre ht hc hi k (by simp [preOf, show ¬ i < n by omega]; exact h')
        rw [hkf] at this; cases this
      · omega
    subst hik
    have hd : ops.toList.drop i = ops[i] :: ops.toList.drop (i + 1) := by
      rw [List.drop_eq_getElem_cons (by simpa using hk)]; simp
    rw [hd] at h
    have hw : wpOp P ops Q i (wpList P ops Q (ops.toList.drop (i + 1))) a w := by
      unfold wpOp
      simp only [Array.getElem?_eq_getElem hk]
      exact h
    refine wpOp_mono (fun a' w' h' => tail_sound ht fuel (i + 1) _ a' w' (by omega) (by omega) (by simpa using hs) (closed_set ht hc hkr) (fun j => ?_) h') hw
    by_cases hj : j = i
    · subst hj
      simp [hs, hk]
    · rw [getD_set_ne false (Ne.symm hj), hl j]
      omega

theorem facts_sound {pre : List (List Nat)} (ht : TextOk ops pre n) (hD : ∀ k v w w', Below w.heap.size w w' → D k v w → D k v w')
    (step : ∀ k o, k < n → ops[k]? = some o → ∀ (vs : Nat → Value) w, Below w0.heap.size w0 w → (∀ j ∈ preOf pre n k, D j (vs j) w) → wpList P ops (OpPost o (lay ops a0 vs k) (D k) w) [o] (lay ops a0 vs k) w)
    (done : ∀ (vs : Nat → Value) w, Below w0.heap.size w0 w → (∀ k, k < n → D k (vs k) w) → wpList P ops Q (ops.toList.drop n) (lay ops a0 vs n) w) :
    ∀ (fuel : Nat) (listed : Array Bool) (vs : Nat → Value) (w : World), listed.size = ops.size → Closed ops pre n listed → (∀ k, n ≤ k → listed.getD k false = false) → Below w0.heap.size w0 w →
      (∀ k, k < n → listed.getD k false = true → D k (vs k) w) → cnt listed ops.size = fuel → wpAny P .any ops Q fuel listed (layL ops a0 listed vs n) w := by
  intro fuel
  induction fuel with
  | zero =>
    intro listed vs w hs hc hno hb hf hcnt
    have hall := cnt_zero _ hcnt
    have hn : n = ops.size := by
      rcases Nat.lt_or_ge n ops.size with h | h
      · have h1 := hall n h
        rw [hno n (Nat.le_refl _)] at h1; cases h1
      · have := ht.le; omega
    rw [layL_all n (fun k hk => hall k (by have := ht.le; omega))]
    exact tail_sound ht 0 n listed _ w (by omega) (Nat.le_refl _) hs hc (fun j => ⟨fun h => (by
      rcases Nat.lt_or_ge j n with h' | h'
      · exact h'
      · rw [hno j h'] at h; exact (Bool.noConfusion h)), fun h => hall j (by omega)⟩) (done vs w hb (fun k hk => hf k hk (hall k (by omega))))
  | succ fuel ih =>
    intro listed vs w hs hc hno hb hf hcnt
    by_cases hall : ∀ k, k < n → listed.getD k false = true
    · rw [layL_all n hall]
      have hcn : cnt listed ops.size = ops.size - n := by
        have : ∀ m, n ≤ m → cnt listed m = m - n := by
          intro m
          induction m with
          | zero => intro h; simp [cnt]
          | succ m ihm =>
            intro h
            rcases Nat.lt_or_ge n (m + 1) with h' | h'
            · unfold cnt
              rw [ihm (by omega), hno m (by omega)]
              simp; omega
            · rw [cnt_all (m + 1) (fun k hk => hall k (by omega))]; omega
        exact this _ ht.le
      refine tail_sound ht (fuel + 1) n listed _ w (by have h1 := ht.le; omega) (Nat.le_refl _) hs hc (fun j => ⟨fun h => ?_, fun h => hall j h⟩) (done vs w hb (fun k hk => hf k hk (hall k hk)))
      rcases Nat.lt_or_ge j n with h' | h'
      · exact h'
      · rw [hno j h'] at h; cases h
    · obtain ⟨k, hk, hkf, hkb⟩ := first_open ops.size (by omega : cnt listed ops.size ≠ 0)
      have hkr := ready_first ht hs hk hkf hkb
      refine ⟨fun h0 => (by rw [h0] at hkr; cases hkr), fun i hi => ?_⟩
      obtain ⟨hi0, o, ho, _⟩ := mem_ready.1 hi
      have hisz := (Array.getElem?_eq_some_iff.1 ho).1
      have hin : i < n := by
        rcases Nat.lt_or_ge i n with h | h
        · exact h
        · exact absurd (fun k hk => ready_pre ht hc hi k (by simp [preOf, show ¬ i < n by omega]; omega)) hall
      have hif : listed.getD i false = false := by simp [hs, hisz] at hi0 ⊢; exact hi0
      have hpre := ready_pre ht hc hi
      have hlt : ∀ j ∈ preOf pre n i, j < i := fun j hj => (ht.waits i o ho j hj).1
      have hst := step i o hin ho vs w hb (fun j hj => hf j (by have := hlt j hj; omega) (hpre j hj))
      have htmp : ∀ t ∈ o.looksAt ops, (layL ops a0 listed vs n).tmps[t]? = (lay ops a0 vs i).tmps[t]? := by
        intro t htl
        have := tmp_lay (a0 := a0) (vs := vs) (ops := ops) (n := n) (listed := listed) (t := t) (k := i) (fun j hj hd => by
          by_cases hji : j = i
          · subst hji
            have : o.dst = some t := by simpa [opDst, ho] using hd
            exact absurd htl (ht.own j o ho hin t this)
          · have hjp := (ht.dst i o ho hin j hj hji t hd).2 htl
            exact ⟨hlt j hjp, hpre j hjp⟩) n (Nat.le_refl _)
        rw [this, show min n i = i by omega]
      have hex : execOp (layL ops a0 listed vs n).eval o = execOp (lay ops a0 vs i).eval o :=
        execOp_congr o (fun cs b => Region.noSelect_spec ht.sel i o cs b ho) (fun x hx => by
          cases x with
          | tmp t =>
            have := htmp t (List.mem_append_left _ (List.mem_filterMap.2 ⟨.tmp t, by simpa using hx, rfl⟩))
            simp only [Act.eval, Array.getD_eq_getD_getElem?, this]
          | _ => rfl)
      have hwa : Region.wanted o (yielded ops (layL ops a0 listed vs n).tmps) = Region.wanted o (yielded ops (lay ops a0 vs i).tmps) := by
        unfold Region.wanted
        cases hg : o.guard with
        | none => rfl
        | some gw =>
          obtain ⟨g, want⟩ := gw
          have hy : yielded ops (layL ops a0 listed vs n).tmps g = yielded ops (lay ops a0 vs i).tmps g := by
            unfold yielded
            cases hd : (ops[g]?).bind (·.dst) with
            | none => rfl
            | some t =>
              have := htmp t (by simp [Oper.looksAt, hg, hd])
              simp only [Option.bind_some, this]
          simp only [hy]
      have hdst : opDst ops i = o.dst := by simp [opDst, ho]
      have go : ∀ v w', Below w.heap.size w w' → D i v w' → wpAny P .any ops Q fuel (listed.setIfInBounds i true) ((layL ops a0 listed vs n).put o.dst v) w' := by
        intro v w' hb' hd'
        have hput := layL_put (ops := ops) (a0 := a0) (n := n) (listed := listed) (vs := vs) (vs' := fun j => if j = i then v else vs j) (i := i) hif (by omega) (fun k hk => by simp [hk])
          (fun j hj hji d hd => by rw [hdst]; exact (ht.dst i o ho hin j hj hji d hd).1) n (Nat.le_refl _) hin
        simp only [if_true, hdst] at hput
        rw [← hput]
        have hcnt' := cnt_set hi0 ops.size hisz
        refine ih _ _ w' (by simpa using hs) (closed_set ht hc hi) (fun k hk => ?_) (hb.trans (hb'.mono hb.size)) (fun k hk hl => ?_) (by omega)
        · rw [getD_set_ne false (by omega)]; exact hno k hk
        · by_cases hki : k = i
          · subst hki; simpa using hd'
          · rw [getD_set_ne false (Ne.symm hki)] at hl
            simp only [hki, if_false]
            exact hD k _ w w' hb' (hf k hk hl)
      unfold wpOp
      simp only [ho]
      unfold wpList at hst
      rw [hwa]
      have fin : ∀ v w', OpPost o (lay ops a0 vs i) (D i) w .normal ((lay ops a0 vs i).put o.dst v) w' → wpAny P .any ops Q fuel (listed.setIfInBounds i true) ((layL ops a0 listed vs n).put o.dst v) w' := by
        intro v w' ⟨_, u, he, hb', hd'⟩
        have hu : (layL ops a0 listed vs n).put o.dst v = (layL ops a0 listed vs n).put o.dst u := by
          cases hd : o.dst with
          | none => rfl
          | some d =>
            rw [hd] at he
            have h1 : (lay ops a0 vs i).tmps.setIfInBounds d v = (lay ops a0 vs i).tmps.setIfInBounds d u := congrArg Act.tmps he
            have hsz : (lay ops a0 vs i).tmps.size = (layL ops a0 listed vs n).tmps.size := by
              have s1 : ∀ m, (lay ops a0 vs m).tmps.size = a0.tmps.size := by
                intro m
                induction m with
                | zero => rfl
                | succ m ih => unfold lay; cases opDst ops m <;> simpa [Act.put] using ih
              have s2 : ∀ m, (layL ops a0 listed vs m).tmps.size = a0.tmps.size := by
                intro m
                induction m with
                | zero => rfl
                | succ m ih =>
                  unfold layL
                  split
                  · cases opDst ops m <;> simpa [Act.put] using ih
                  · exact ih
              rw [s1, s2]
            by_cases hlt : d < (lay ops a0 vs i).tmps.size
            · have h2 : ((lay ops a0 vs i).tmps.setIfInBounds d v)[d]? = ((lay ops a0 vs i).tmps.setIfInBounds d u)[d]? := by rw [h1]
              simp only [Array.getElem?_setIfInBounds, hlt, if_true] at h2
              injection h2 with h2
              rw [h2]
            · simp only [Act.put]
              rw [Array.setIfInBounds_eq_of_size_le (by rw [← hsz]; exact Nat.le_of_not_lt hlt), Array.setIfInBounds_eq_of_size_le (by rw [← hsz]; exact Nat.le_of_not_lt hlt)]
        rw [hu]
        exact go u w' hb' hd'
      split
      · rename_i hwant
        rw [if_pos hwant] at hst
        rcases hst with hst | ⟨_, a', w', h, _⟩
        · left
          unfold Oper.wp at *
          rw [hex]
          generalize (execOp (lay ops a0 vs i).eval o).run P w = r at *
          cases r with
          | ok x w' =>
            cases x <;> simp only [Oper.upon] at hst ⊢
            case value u => exact fin u w' (by simpa [wpList] using hst)
            case skip => exact fin undef w' (by simpa [wpList] using hst)
            case defer d =>
              simp only [wpList, OpPost] at hst
              obtain ⟨_, v, he, _⟩ := hst
              exfalso
              have h1 := congrArg Act.defers he
              have h2 : ∀ (a : Act) (x : Option Tmp) (v : Value), (a.put x v).defers = a.defers := by intro a x v; cases x <;> rfl
              rw [h2, h2] at h1
              simp at h1
            case enter f args =>
              refine Calls.mono hst fun e w'' he => ?_
              cases e with
              | returned u => exact fin u w'' (by simpa [wpList] using he)
              | panicked c => exact absurd he.1 (by simp)
              | outgrown => obtain ⟨a', w3, h, _⟩ := he; cases h
            case row row args => exact Rows.mono hst fun u w'' he => fin u w'' (by simpa [wpList] using he)
          | halt x w' =>
            cases x <;> simp only [Oper.upon] at hst ⊢
            case panic u => exact absurd hst.1 (by simp)
        · cases h
      · rename_i hwant
        rw [if_neg hwant] at hst
        exact fin undef w (by simpa [wpList] using hst)

/-- The list of the facts, and the walk in the order of the text, give what 'facts_sound' asks. -/
theorem holds_of {F : List (World → Prop)} {w : World} {p : List Nat} : (∀ j ∈ p, (F.getD j (fun _ => True)) w) → holds F w p := by
  induction p with
  | nil => intro _; trivial
  | cons j p ih => intro h; exact ⟨h j (by simp), ih (fun i hi => h i (by simp [hi]))⟩

theorem allOf_of {w : World} : ∀ {F : List (World → Prop)}, (∀ f ∈ F, f w) → allOf w F
  | [], _ => trivial
  | f :: F, h => ⟨h f (by simp), allOf_of (fun g hg => h g (by simp [hg]))⟩

theorem getD_range_map {α : Type} (f : Nat → α) (x : α) : ∀ (k j : Nat), j < k → (((List.range k).map f).getD j x) = f j := by
  intro k j hj
  simp [List.getD, hj]

theorem wpFacts_spec {R : Act → World → Prop} {pr : Nat → List Nat} (hpr : ∀ k, ∀ j ∈ pr k, j < k) (vs : Nat → Value) :
    ∀ (Ds : List (List Nat × (Value → World → Prop))) (l : List Oper) (k : Nat) (F : List (World → Prop)) (a : Act), (∀ m p d, Ds[m]? = some (p, d) → p = pr (k + m) ∧ d = D (k + m)) →
      F = (List.range k).map (fun j => D j (vs j)) → a = lay ops a0 vs k → (∀ m, l[m]? = ops[k + m]?) → k + Ds.length ≤ ops.size → wpFacts P ops w0 R Ds l F a →
      (∀ m o, m < Ds.length → ops[k + m]? = some o → ∀ w, Below w0.heap.size w0 w → (∀ j ∈ pr (k + m), D j (vs j) w) → wpList P ops (OpPost o (lay ops a0 vs (k + m)) (D (k + m)) w) [o] (lay ops a0 vs (k + m)) w) ∧
      (∀ w, Below w0.heap.size w0 w → (∀ j, j < k + Ds.length → D j (vs j) w) → R (lay ops a0 vs (k + Ds.length)) w)
  | [], l, k, F, a, _, hF, ha, _, _, h => by
    subst hF; subst ha
    refine ⟨fun m o hm => absurd hm (by simp), fun w hb hf => ?_⟩
    have h' : ∀ w, Below w0.heap.size w0 w → allOf w ((List.range k).map (fun j => D j (vs j))) → R (lay ops a0 vs k) w := by cases l <;> exact h
    refine h' w hb (allOf_of (fun f hff => ?_))
    obtain ⟨j, hj, rfl⟩ := List.mem_map.1 hff
    exact hf j (by simpa using hj)
  | (p, d) :: Ds, l, k, F, a, hDs, hF, ha, hl, hk, h => by
    obtain ⟨rfl, rfl⟩ := hDs 0 p d rfl
    have hks : k < ops.size := by simp at hk; omega
    match l, hl 0 with
    | [], h0 => simp [hks] at h0
    | o :: l, h0 =>
      have ho : ops[k]? = some o := by simpa using h0.symm
      obtain ⟨h1, h2⟩ := h
      have ih := wpFacts_spec hpr vs Ds l (k + 1) (F ++ [D k (vs k)]) (a.put o.dst (vs k)) (fun m p d hm => by
          have := hDs (m + 1) p d (by simpa using hm)
          rwa [show k + (m + 1) = k + 1 + m by omega] at this)
        (by rw [hF, List.range_succ, List.map_append]; rfl) (by rw [ha]; simp [lay, opDst, ho]) (fun m => by
          have := hl (m + 1)
          rw [show k + (m + 1) = k + 1 + m by omega] at this
          simpa using this) (by simp at hk; omega) (h2 (vs k))
      refine ⟨fun m o' hm ho' w hb hf => ?_, fun w hb hf => ?_⟩
      · match m with
        | 0 =>
          have : o' = o := by rw [Nat.add_zero, ho] at ho'; injection ho' with h; exact h.symm
          subst this
          subst ha
          refine h1 w hb (holds_of (fun j hj => ?_))
          have hjk := hpr _ j hj
          subst hF
          rw [getD_range_map _ _ k j hjk]
          exact hf j hj
        | m + 1 =>
          have e : k + (m + 1) = k + 1 + m := by omega
          rw [e] at ho' hf ⊢
          exact ih.1 m o' (by simpa using hm) ho' w hb hf
      · have e : k + ((pr (k + 0), D (k + 0)) :: Ds).length = k + 1 + Ds.length := by simp; omega
        rw [e] at hf ⊢
        exact ih.2 w hb hf

/-- Each fact stays true in a world that has only grown. -/
def Stable (d : Value → World → Prop) : Prop := ∀ v w w', Below w.heap.size w w' → d v w → d v w'
def allStable : List (Value → World → Prop) → Prop
  | [] => True
  | d :: Ds => Stable d ∧ allStable Ds
theorem stable_pure (p : Value → Prop) : Stable (fun v _ => p v) := fun _ _ _ _ h => h

theorem allStable_get : ∀ {Ds : List (Value → World → Prop)}, allStable Ds → ∀ k, Stable (Ds.getD k (fun _ _ => True))
  | [], _, k => by simp only [List.getD_nil]; exact stable_pure _
  | d :: Ds, h, 0 => h.1
  | d :: Ds, h, k + 1 => by simpa using allStable_get h.2 k

/-- **A REGION THAT DRAWS ITS ORDER**: 'pre': which operations surely come before each; 'Ds': what the value of each comes to. -/
theorem wp_region_facts {id : Nat} {l : List Oper} {w : World} (pre : List (List Nat)) (Ds : List (Value → World → Prop)) (hm : P.follows .mixedOrders = true) (hB : factsB l.toArray pre pre.length = true) (hlen : pre.length = Ds.length) (hD : allStable Ds)
    (h : wpFacts P l.toArray w (fun a w => wpList P l.toArray Q (l.drop pre.length) a w) (pre.zip Ds) l [] a0) : (Code.region id l.toArray true).wp P Q a0 w := by
  have ht := textOk hB
  refine wp_region_any hm ?_
  have key : ∀ vs : Nat → Value, _ := fun vs => wpFacts_spec (P := P) (ops := l.toArray) (w0 := w) (a0 := a0) (D := fun k => Ds.getD k (fun _ _ => True)) (pr := fun k => if k < pre.length then pre.getD k [] else []) (by
      intro k j hj
      by_cases hk : k < pre.length
      · rw [if_pos hk] at hj
        have hks : k < l.toArray.size := Nat.lt_of_lt_of_le hk ht.le
        exact (ht.waits k _ (Array.getElem?_eq_getElem hks) j (by simpa [preOf, hk] using hj)).1
      · rw [if_neg hk] at hj; cases hj) vs (pre.zip Ds) l 0 [] a0 (by
      intro m p d hmd
      rw [List.getElem?_zip_eq_some] at hmd
      obtain ⟨h1, h2⟩ := hmd
      have hml : m < pre.length := (List.getElem?_eq_some_iff.1 h1).1
      simp [hml, List.getD, h1, h2] at *
      simp [h1]) rfl rfl (by simp) (by simp [List.length_zip, hlen]; have := ht.le; simp [hlen] at this; omega) h
  have hzl : (pre.zip Ds).length = pre.length := by simp [List.length_zip, hlen]
  have hlay : layL l.toArray a0 (Array.replicate l.toArray.size false) (fun _ => undef) pre.length = a0 := by
    have : ∀ m, layL l.toArray a0 (Array.replicate l.toArray.size false) (fun _ => undef) m = a0 := by
      intro m
      induction m with
      | zero => rfl
      | succ m ih =>
        unfold layL
        rw [if_neg (by simp [Array.getElem?_replicate]; split <;> simp), ih]
    exact this _
  have hno : ∀ k, (Array.replicate l.toArray.size false).getD k false = false := by
    intro k; simp [Array.getElem?_replicate]; split <;> simp
  have := facts_sound (P := P) (Q := Q) (ops := l.toArray) (w0 := w) (a0 := a0) (n := pre.length) (D := fun k => Ds.getD k (fun _ _ => True)) ht (fun k v w w' hb hd => allStable_get hD k v w w' hb hd)
    (fun k o hk ho vs w hb hf => by
      have := (key vs).1 k o (by rw [hzl]; exact hk) (by rw [Nat.zero_add]; exact ho) w hb (fun j hj => hf j (by simpa [preOf, hk] using hj))
      simpa using this)
    (fun vs w hb hf => by
      have := (key vs).2 w hb (fun j hj => hf j (by rw [hzl] at hj; omega))
      rw [hzl, Nat.zero_add] at this
      exact this)
    l.toArray.size (Array.replicate l.toArray.size false) (fun _ => undef) w.drew (by simp) (fun k _ hl => by rw [hno] at hl; cases hl) (fun k _ => hno k) (Below.refl _ _).drew (fun k _ hl => by rw [hno] at hl; cases hl)
    (by
      have : ∀ m, cnt (Array.replicate l.toArray.size false) m = m := by
        intro m
        induction m with
        | zero => rfl
        | succ m ih => unfold cnt; rw [ih, hno]; simp
      exact this _)
  rw [hlay] at this
  exact this

theorem wf_step {R : Act → World → Prop} {p : List Nat} {pre : List (List Nat)} {d : Value → World → Prop} {Ds : List (Value → World → Prop)} {o : Oper} {l : List Oper} {F : List (World → Prop)} {a : Act}
    (h1 : ∀ w, Below w0.heap.size w0 w → holds F w p → wpList P ops (OpPost o a d w) [o] a w) (h2 : ∀ v, wpFacts P ops w0 R (pre.zip Ds) l (F ++ [d v]) (a.put o.dst v)) :
    wpFacts P ops w0 R ((p :: pre).zip (d :: Ds)) (o :: l) F a := ⟨h1, h2⟩
theorem wf_done {R : Act → World → Prop} {l : List Oper} {F : List (World → Prop)} {a : Act} (h : ∀ w, Below w0.heap.size w0 w → allOf w F → R a w) : wpFacts P ops w0 R (([] : List (List Nat)).zip ([] : List (Value → World → Prop))) l F a := by
  cases l <;> exact h

theorem upon_norm {o : Oper} {Q1 : Exit → Act → World → Prop} (hn : ∀ e a w, Q1 e a w → e = .normal) {K K' : Act → World → Prop} (hK : ∀ a w, K a w → K' a w) {a : Act} {r : Result Next} (h : o.upon P a K Q1 r) : o.upon P a K' Q r := by
  cases r with
  | ok x w' =>
    cases x <;> simp only [Oper.upon] at h ⊢
    case value u => exact hK _ _ h
    case skip => exact hK _ _ h
    case defer d => exact hK _ _ h
    case enter f args =>
      refine Calls.mono h fun e w'' he => ?_
      cases e with
      | returned u => exact hK _ _ he
      | panicked c => exact absurd (hn _ _ _ he) (by simp)
      | outgrown => obtain ⟨a', w3, h⟩ := he; exact absurd (hn _ _ _ h) (by simp)
    case row row args => exact Rows.mono h fun u w'' he => hK _ _ he
  | halt x w' =>
    cases x <;> simp only [Oper.upon] at h ⊢
    case panic u => exact absurd (hn _ _ _ h) (by simp)

theorem wpList_norm {Q1 : Exit → Act → World → Prop} (hn : ∀ e a w, Q1 e a w → e = .normal) (hQ : ∀ a w, Q1 .normal a w → Q .normal a w) : ∀ (l : List Oper) (a : Act) (w : World), wpList P ops Q1 l a w → wpList P ops Q l a w
  | [], _, _, h => hQ _ _ h
  | o :: l, a, w, h => by
    unfold wpList at h ⊢
    split
    · rename_i hw
      rw [if_pos hw] at h
      rcases h with h | ⟨_, a', w', h⟩
      · exact .inl (upon_norm hn (fun a w h => wpList_norm hn hQ l a w h) h)
      · exact absurd (hn _ _ _ h) (by simp)
    · rename_i hw
      rw [if_neg hw] at h
      exact wpList_norm hn hQ l _ _ h

/-- A store at a region's end: its world under a name. -/
def StorePost (a : Act) (F : World → Prop) (e : Exit) (b : Act) (w' : World) : Prop := e = .normal ∧ b = a ∧ F w'
theorem wpList_abs {o : Oper} {a : Act} {w : World} (F : World → Prop) (h1 : wpList P ops (StorePost a F) [o] a w) (h2 : ∀ w', F w' → Q .normal a w') : wpList P ops Q [o] a w :=
  wpList_norm (fun _ _ _ h => h.1) (fun _ _ ⟨_, e, h⟩ => e ▸ h2 _ h) [o] a w h1

/-- The frame, written out. -/
theorem wpList_frame {l : List Oper} {a b : Act} {w : World} (h : a = b) (k : wpList P ops Q l b w) : wpList P ops Q l a w := h ▸ k

/-- The world under a name, with what is known of it. -/
theorem abs_world {c : Code} {a : Act} {w : World} (F : World → Prop) (h : F w) (k : ∀ w, F w → c.wp P Q a w) : c.wp P Q a w := k w h
end

theorem bal {a w : World} (h : Below a.heap.size a w) (o : Obj) : Below a.heap.size a (w.alloc o) := h.alloc h.size o
theorem btr {a b c : World} (h : Below a.heap.size a b) (k : Below b.heap.size b c) : Below a.heap.size a c := h.trans (k.mono h.size)
theorem bset {a w : World} (h : Below a.heap.size a w) {p : Addr} (hp : a.heap.size ≤ p.block) (u : Value) : Below a.heap.size a (w.setCell p u) := h.setCell hp u
theorem bcell {W w1 : World} (hb : Below W.heap.size W w1) : (∀ b o, b < W.heap.size → w1.cell? ⟨b, o, none⟩ = W.cell? ⟨b, o, none⟩) ∧ (∀ b o, b < W.heap.size → w1.frozen? ⟨b, o, none⟩ = W.frozen? ⟨b, o, none⟩) :=
  ⟨fun b o h => hb.cell (p := ⟨b, o, none⟩) h, fun b o h => hb.frozen (p := ⟨b, o, none⟩) h⟩
theorem ret_bool {a b : Bool} (h : a = b) : Ending.returned (.bool a) = Ending.returned (.bool b) := by rw [h]

/-- Block g is just these cells, none frozen. -/
def Blk (w : World) (g : Nat) (t : TypeId) (cs : Array Value) : Prop := w.heap[g]? = some (.cells cs t (0, 0))
section
variable {w w' : World} {g : Nat} {t : TypeId} {cs : Array Value}
theorem Blk.lt (h : Blk w g t cs) : g < w.heap.size := by
  rcases Nat.lt_or_ge g w.heap.size with hlt | hge
  · exact hlt
  · unfold Blk at h; rw [Array.getElem?_eq_none hge] at h; cases h
theorem Blk.cell (h : Blk w g t cs) (i : Nat) : w.cell? ⟨g, i, none⟩ = cs[i]? := cell_of_row w g i cs t (0, 0) h
theorem Blk.frozen (h : Blk w g t cs) (i : Nat) : w.frozen? ⟨g, i, none⟩ = false := by
  unfold Blk at h
  simp [World.frozen?, h]
theorem Blk.newAt (hg : w.heap.size = g) : Blk (w.alloc (.cells cs t)) g t cs := by subst hg; exact heap_alloc_new w _
theorem Blk.alloc (h : Blk w g t cs) (o : Obj) : Blk (w.alloc o) g t cs := (Below.heap_alloc w o g h.lt).trans h
theorem Blk.drew (h : Blk w g t cs) : Blk w.drew g t cs := h
theorem Blk.set_ (h : Blk w g t cs) (i : Nat) (u : Value) : Blk (w.setCell ⟨g, i, none⟩ u) g t (cs.setIfInBounds i u) := by
  unfold Blk at h ⊢
  simp [World.setCell, Array.getElem?_modify, h]
theorem Blk.far (h : Blk w g t cs) {p : Addr} (hp : g ≠ p.block) (u : Value) : Blk (w.setCell p u) g t cs := (Below.heap_setCell w p u g hp).trans h
theorem Blk.below (h : Blk w g t cs) (hb : Below w.heap.size w w') : Blk w' g t cs := (hb.block g h.lt).trans h
end
/-- v leads to a new block of these cells. -/
def AtBlk (B : Nat) (t : TypeId) (cs : Array Value) (v : Value) (w : World) : Prop := ∃ b, v = .pointer (some ⟨b, 0, none⟩) ∧ B ≤ b ∧ Blk w b t cs
theorem stable_atBlk (B : Nat) (t : TypeId) (cs : Array Value) : Stable (AtBlk B t cs) := fun _ _ _ hb ⟨b, e, h1, h2⟩ => ⟨b, e, h1, h2.below hb⟩
end Go.Proofs.Ytbgbomhlaobncaa

/- HELPER, no statement of the seat: sums of weighted keys, over whatever order; no program. -/
namespace Go.Proofs.Ytbgbomhlaobncaa
set_option linter.unusedSimpArgs false
set_option linter.unusedVariables false
set_option linter.unusedSectionVars false

/-- A strict total order. -/
structure TotLt {κ : Type} (lt : κ → κ → Bool) : Prop where
  irrefl : ∀ a, lt a a = false
  trans : ∀ a b c, lt a b = true → lt b c = true → lt a c = true
  tri : ∀ a b, lt a b = false → lt b a = false → a = b

section
variable {κ : Type} [DecidableEq κ] {lt : κ → κ → Bool}
theorem TotLt.asymm (h : TotLt lt) {a b : κ} (hab : lt a b = true) : lt b a = false := by
  cases hb : lt b a with
  | false => rfl
  | true => have := h.trans a b a hab hb; rw [h.irrefl] at this; cases this
theorem TotLt.ne (h : TotLt lt) {a b : κ} (hab : lt a b = true) : a ≠ b := fun e => by rw [e, h.irrefl] at hab; cases hab

/-- Ascending: each key once. -/
def Asc (lt : κ → κ → Bool) (l : List (κ × Int)) : Prop := l.Pairwise fun x y => lt x.1 y.1 = true
/-- Never descending. -/
def Up (lt : κ → κ → Bool) (l : List (κ × Int)) : Prop := l.Pairwise fun x y => lt y.1 x.1 = false
/-- The sum of the weights of a key. -/
def wsum (l : List (κ × Int)) (r : κ) : Int := ((l.filter fun x => decide (x.1 = r)).map (·.2)).sum
theorem wsum_nil (r : κ) : wsum ([] : List (κ × Int)) r = 0 := rfl
theorem wsum_cons (x : κ × Int) (l : List (κ × Int)) (r : κ) : wsum (x :: l) r = (if x.1 = r then x.2 else 0) + wsum l r := by
  unfold wsum
  by_cases h : x.1 = r <;> simp [h]
theorem wsum_append (l m : List (κ × Int)) (r : κ) : wsum (l ++ m) r = wsum l r + wsum m r := by
  induction l with
  | nil => simp [wsum_nil]
  | cons x l ih => rw [List.cons_append, wsum_cons, wsum_cons, ih]; omega
theorem wsum_zero {l : List (κ × Int)} {r : κ} (h : ∀ x ∈ l, x.1 ≠ r) : wsum l r = 0 := by
  induction l with
  | nil => rfl
  | cons x l ih => rw [wsum_cons, if_neg (h x (by simp)), ih (fun y hy => h y (by simp [hy]))]; rfl
theorem wsum_perm {l m : List (κ × Int)} (h : l.Perm m) (r : κ) : wsum l r = wsum m r := by
  induction h with
  | nil => rfl
  | cons x _ ih => rw [wsum_cons, wsum_cons, ih]
  | swap x y l => rw [wsum_cons, wsum_cons, wsum_cons, wsum_cons]; omega
  | trans _ _ h1 h2 => rw [h1, h2]
theorem wsum_filter (l : List (κ × Int)) (r : κ) : wsum (l.filter fun x => decide (x.2 ≠ 0)) r = wsum l r := by
  induction l with
  | nil => rfl
  | cons x l ih =>
    by_cases h : x.2 = 0
    · rw [List.filter_cons_of_neg (by simp [h]), wsum_cons, ih, h]; split <;> omega
    · rw [List.filter_cons_of_pos (by simp [h]), wsum_cons, wsum_cons, ih]
theorem wsum_reverse (l : List (κ × Int)) (r : κ) : wsum l.reverse r = wsum l r := wsum_perm l.reverse_perm r

theorem asc_filter {p : κ × Int → Bool} {l : List (κ × Int)} (h : Asc lt l) : Asc lt (l.filter p) := List.Pairwise.sublist List.filter_sublist h
/-- Two ascending lists without zeros, of the same sums, are the same. -/
theorem asc_ext (ht : TotLt lt) : ∀ {l m : List (κ × Int)}, Asc lt l → Asc lt m → (∀ x ∈ l, x.2 ≠ 0) → (∀ x ∈ m, x.2 ≠ 0) → (∀ r, wsum l r = wsum m r) → l = m
  | [], [], _, _, _, _, _ => rfl
  | [], y :: m, _, hm, _, h0, h => by
    have := h y.1
    rw [wsum_nil, wsum_cons, if_pos rfl, wsum_zero (fun x hx e => ht.ne ((List.pairwise_cons.1 hm).1 x hx) e.symm)] at this
    exact absurd (by omega) (h0 y (by simp))
  | x :: l, [], hl, _, h0, _, h => by
    have := h x.1
    rw [wsum_nil, wsum_cons, if_pos rfl, wsum_zero (fun y hy e => ht.ne ((List.pairwise_cons.1 hl).1 y hy) e.symm)] at this
    exact absurd (by omega) (h0 x (by simp))
  | x :: l, y :: m, hl, hm, h0, h1, h => by
    obtain ⟨hl1, hl2⟩ := List.pairwise_cons.1 hl
    obtain ⟨hm1, hm2⟩ := List.pairwise_cons.1 hm
    have key : x.1 = y.1 := by
      cases h2 : lt x.1 y.1 with
      | true =>
        have := h x.1
        rw [wsum_cons, if_pos rfl, wsum_zero (l := l) (fun z hz e => ht.ne (hl1 z hz) e.symm), wsum_zero (l := y :: m) (fun z hz e => by
          rcases List.mem_cons.1 hz with rfl | hz
          · exact ht.ne h2 e.symm
          · exact ht.ne (ht.trans _ _ _ h2 (hm1 z hz)) e.symm)] at this
        exact absurd (by omega) (h0 x (by simp))
      | false =>
        cases h3 : lt y.1 x.1 with
        | true =>
          have := h y.1
          rw [wsum_cons (x := y), if_pos rfl, wsum_zero (l := m) (fun z hz e => ht.ne (hm1 z hz) e.symm), wsum_zero (l := x :: l) (fun z hz e => by
            rcases List.mem_cons.1 hz with rfl | hz
            · exact ht.ne h3 e.symm
            · exact ht.ne (ht.trans _ _ _ h3 (hl1 z hz)) e.symm)] at this
          exact absurd (by omega) (h1 y (by simp))
        | false => exact ht.tri _ _ h2 h3
    have hx := h x.1
    rw [wsum_cons, if_pos rfl, wsum_zero (l := l) (fun z hz e => ht.ne (hl1 z hz) e.symm), wsum_cons, if_pos key.symm, wsum_zero (l := m) (fun z hz e => ht.ne (hm1 z hz) (e.trans key).symm)] at hx
    have hxy : x = y := Prod.ext key (by omega)
    subst hxy
    rw [asc_ext ht hl2 hm2 (fun z hz => h0 z (by simp [hz])) (fun z hz => h1 z (by simp [hz])) (fun r => by have := h r; rw [wsum_cons, wsum_cons] at this; omega)]

/-! ### Adding into a sorted list -/
/-- How many keys lie below r. -/
def low (lt : κ → κ → Bool) (l : List (κ × Int)) (r : κ) : Nat := (l.takeWhile fun x => lt x.1 r).length
def insK (lt : κ → κ → Bool) (l : List (κ × Int)) (r : κ) (w : Int) : List (κ × Int) :=
  match l with
  | [] => [(r, w)]
  | x :: l => if lt x.1 r = true then x :: insK lt l r w else if x.1 = r then (x.1, x.2 + w) :: l else (r, w) :: x :: l
theorem insK_wsum (l : List (κ × Int)) (r : κ) (w : Int) (q : κ) : wsum (insK lt l r w) q = wsum l q + if r = q then w else 0 := by
  induction l with
  | nil => simp [insK, wsum_cons, wsum_nil]
  | cons x l ih =>
    unfold insK
    split
    · rw [wsum_cons, wsum_cons, ih]; omega
    · split
      · rename_i h
        rw [wsum_cons, wsum_cons, h]
        simp only
        split <;> omega
      · rw [wsum_cons, wsum_cons]
        simp only
        omega
theorem insK_key {l : List (κ × Int)} {r : κ} {w : Int} {y : κ × Int} (h : y ∈ insK lt l r w) : y.1 = r ∨ ∃ x ∈ l, y.1 = x.1 := by
  induction l with
  | nil => simp [insK] at h; exact .inl (by rw [h])
  | cons x l ih =>
    unfold insK at h
    split at h
    · rcases List.mem_cons.1 h with rfl | h
      · exact .inr ⟨y, by simp, rfl⟩
      · rcases ih h with h | ⟨z, hz, e⟩
        · exact .inl h
        · exact .inr ⟨z, by simp [hz], e⟩
    · split at h
      · rcases List.mem_cons.1 h with rfl | h
        · exact .inr ⟨x, by simp, rfl⟩
        · exact .inr ⟨y, by simp [h], rfl⟩
      · rcases List.mem_cons.1 h with rfl | h
        · exact .inl rfl
        · exact .inr ⟨y, h, rfl⟩
theorem insK_asc (ht : TotLt lt) {l : List (κ × Int)} (h : Asc lt l) (r : κ) (w : Int) : Asc lt (insK lt l r w) := by
  induction l with
  | nil => exact List.pairwise_singleton _ _
  | cons x l ih =>
    obtain ⟨h1, h2⟩ := List.pairwise_cons.1 h
    unfold insK
    split
    · rename_i hx
      refine List.pairwise_cons.2 ⟨fun y hy => ?_, ih h2⟩
      rcases insK_key hy with e | ⟨z, hz, e⟩
      · rw [e]; exact hx
      · rw [e]; exact h1 z hz
    · rename_i hx
      split
      · exact List.pairwise_cons.2 ⟨fun y hy => h1 y hy, h2⟩
      · rename_i hne
        have hr : lt r x.1 = true := by
          cases hc : lt r x.1 with
          | true => rfl
          | false => exact absurd (ht.tri _ _ (by simpa using hx) hc) hne
        refine List.pairwise_cons.2 ⟨fun y hy => ?_, h⟩
        rcases List.mem_cons.1 hy with rfl | hy
        · exact hr
        · exact ht.trans _ _ _ hr (h1 y hy)
theorem insK_length (l : List (κ × Int)) (r : κ) (w : Int) : (insK lt l r w).length ≤ l.length + 1 := by
  induction l with
  | nil => simp [insK]
  | cons x l ih =>
    unfold insK
    split
    · simp; omega
    · split <;> simp
/-- The same, by the place of the key. -/
theorem insK_at (ht : TotLt lt) {l : List (κ × Int)} (h : Asc lt l) {r : κ} {w : Int} {k : Nat} (hk : k ≤ l.length) (h1 : ∀ j (hj : j < l.length), j < k → lt l[j].1 r = true) (h2 : ∀ j (hj : j < l.length), k ≤ j → lt l[j].1 r = false) :
    (∀ hk : k < l.length, l[k].1 = r → insK lt l r w = l.set k (r, l[k].2 + w)) ∧ ((∀ hk : k < l.length, l[k].1 ≠ r) → insK lt l r w = l.take k ++ (r, w) :: l.drop k) := by
  induction l generalizing k with
  | nil =>
    obtain rfl : k = 0 := by simpa using hk
    exact ⟨fun hk => absurd hk (by simp), fun _ => rfl⟩
  | cons x l ih =>
    cases k with
    | zero =>
      have hx := h2 0 (by simp) (Nat.le_refl _)
      simp only [List.getElem_cons_zero] at hx
      refine ⟨fun _ e => ?_, fun e => ?_⟩
      · simp only [List.getElem_cons_zero] at e ⊢
        unfold insK
        rw [if_neg (by simp [hx]), if_pos e, e]
        rfl
      · have := e (by simp)
        simp only [List.getElem_cons_zero] at this
        unfold insK
        rw [if_neg (by simp [hx]), if_neg this]
        rfl
    | succ k =>
      have hx := h1 0 (by simp) (by omega)
      simp only [List.getElem_cons_zero] at hx
      obtain ⟨i1, i2⟩ := ih (List.pairwise_cons.1 h).2 (k := k) (by simpa using hk) (fun j hj hjk => by have := h1 (j + 1) (by simpa using hj) (by omega); simpa using this) (fun j hj hjk => by have := h2 (j + 1) (by simpa using hj) (by omega); simpa using this)
      refine ⟨fun hk' e => ?_, fun e => ?_⟩
      · simp only [List.getElem_cons_succ] at e ⊢
        unfold insK
        rw [if_pos hx, i1 (by simpa using hk') e]
        rfl
      · unfold insK
        rw [if_pos hx, i2 (fun hk' => by have := e (by simpa using hk'); simpa using this)]
        rfl

/-! ### Collecting what comes in its order -/
/-- One more: into the last, where it has the same key. -/
def addM (l : List (κ × Int)) (x : κ × Int) : List (κ × Int) :=
  match l.getLast? with
  | some y => if y.1 = x.1 then l.dropLast ++ [(y.1, y.2 + x.2)] else l ++ [x]
  | none => [x]
theorem addM_nil (x : κ × Int) : addM [] x = [x] := rfl
theorem addM_snoc (l : List (κ × Int)) (y x : κ × Int) : addM (l ++ [y]) x = if y.1 = x.1 then l ++ [(y.1, y.2 + x.2)] else l ++ [y] ++ [x] := by
  unfold addM
  rw [List.getLast?_append]
  simp
theorem snoc_cases (l : List (κ × Int)) : l = [] ∨ ∃ m y, l = m ++ [y] := by
  rcases List.eq_nil_or_concat l with h | ⟨m, y, h⟩
  · exact .inl h
  · exact .inr ⟨m, y, by rw [h, List.concat_eq_append]⟩
theorem addM_wsum (l : List (κ × Int)) (x : κ × Int) (r : κ) : wsum (addM l x) r = wsum l r + if x.1 = r then x.2 else 0 := by
  rcases snoc_cases l with rfl | ⟨m, y, rfl⟩
  · rw [addM_nil, wsum_cons, wsum_nil]; omega
  · rw [addM_snoc]
    split
    · rename_i h
      rw [wsum_append, wsum_append, wsum_cons, wsum_cons, wsum_nil, h]
      simp only
      split <;> omega
    · rw [wsum_append, wsum_cons, wsum_nil]; omega
theorem addM_asc (ht : TotLt lt) {l : List (κ × Int)} (h : Asc lt l) {x : κ × Int} (hx : ∀ y ∈ l, lt x.1 y.1 = false) : Asc lt (addM l x) := by
  rcases snoc_cases l with rfl | ⟨m, y, rfl⟩
  · exact List.pairwise_singleton _ _
  · obtain ⟨h1, h2, h3⟩ := List.pairwise_append.1 h
    rw [addM_snoc]
    split
    · exact List.pairwise_append.2 ⟨h1, List.pairwise_singleton _ _, fun a ha b hb => by simp at hb; subst hb; exact h3 a ha y (by simp)⟩
    · rename_i hne
      have hyx : lt y.1 x.1 = true := by
        cases hc : lt y.1 x.1 with
        | true => rfl
        | false => exact absurd (ht.tri _ _ hc (hx y (by simp))) hne
      refine List.pairwise_append.2 ⟨h, List.pairwise_singleton _ _, fun a ha b hb => ?_⟩
      simp at hb
      subst hb
      rcases List.mem_append.1 ha with ha | ha
      · exact ht.trans _ _ _ (h3 a ha y (by simp)) hyx
      · simp at ha; subst ha; exact hyx
theorem addM_key {l : List (κ × Int)} {x y : κ × Int} (h : y ∈ addM l x) : y.1 = x.1 ∨ ∃ z ∈ l, y.1 = z.1 := by
  rcases snoc_cases l with rfl | ⟨m, q, rfl⟩
  · rw [addM_nil] at h; simp at h; exact .inl (by rw [h])
  · rw [addM_snoc] at h
    split at h
    · rcases List.mem_append.1 h with h | h
      · exact .inr ⟨y, by simp [h], rfl⟩
      · simp at h; exact .inr ⟨q, by simp, by rw [h]⟩
    · rcases List.mem_append.1 h with h | h
      · exact .inr ⟨y, h, rfl⟩
      · simp at h; exact .inl (by rw [h])
/-- All of them. -/
def sumM (l : List (κ × Int)) (xs : List (κ × Int)) : List (κ × Int) := xs.foldl addM l
theorem sumM_wsum (xs : List (κ × Int)) : ∀ (l : List (κ × Int)) (r : κ), wsum (sumM l xs) r = wsum l r + wsum xs r := by
  induction xs with
  | nil => intro l r; simp [sumM, wsum_nil]
  | cons x xs ih => intro l r; show wsum (sumM (addM l x) xs) r = _; rw [ih, addM_wsum, wsum_cons]; omega
theorem sumM_asc (ht : TotLt lt) : ∀ (xs l : List (κ × Int)), Asc lt l → Up lt xs → (∀ x ∈ xs, ∀ y ∈ l, lt x.1 y.1 = false) → Asc lt (sumM l xs)
  | [], l, h, _, _ => h
  | x :: xs, l, h, hu, hx => by
    obtain ⟨u1, u2⟩ := List.pairwise_cons.1 hu
    refine sumM_asc ht xs (addM l x) (addM_asc ht h (hx x (by simp))) u2 (fun y hy z hz => ?_)
    rcases addM_key hz with e | ⟨q, hq, e⟩
    · rw [e]; exact u1 y hy
    · rw [e]; exact hx y (by simp [hy]) q hq
/-- The sums, without those that are zero. -/
def nz (l : List (κ × Int)) : List (κ × Int) := l.filter fun x => decide (x.2 ≠ 0)
theorem nz_mem {l : List (κ × Int)} : ∀ x ∈ nz l, x.2 ≠ 0 := fun x hx => by have := (List.mem_filter.1 hx).2; simpa using this
theorem nz_wsum (l : List (κ × Int)) (r : κ) : wsum (nz l) r = wsum l r := wsum_filter l r
/-- Two ascending lists of the same sums agree without their zeros. -/
theorem nz_ext (ht : TotLt lt) {l m : List (κ × Int)} (hl : Asc lt l) (hm : Asc lt m) (h : ∀ r, wsum l r = wsum m r) : nz l = nz m :=
  asc_ext ht (asc_filter hl) (asc_filter hm) nz_mem nz_mem (fun r => by rw [nz_wsum, nz_wsum, h])
end
end Go.Proofs.Ytbgbomhlaobncaa

/- HELPER, no statement of the seat: contracts of the functions on lists of numbers. -/
namespace Go.Proofs.Ytbgbomhlaobncaa
open Go.RowKit
set_option linter.unusedSimpArgs false
set_option linter.unusedVariables false

/-- The cells of a list of numbers. -/
def ints (l : List Int) : Array Value := (l.map (Value.int .i64)).toArray
theorem ints_size (l : List Int) : (ints l).size = l.length := by simp [ints]
theorem ints_get (l : List Int) (j : Nat) (h : j < l.length) : (ints l)[j]? = some (.int .i64 (l.getD j 0)) := by simp [ints, h]
theorem ints_set (l : List Int) (k : Nat) (x : Int) : (ints l).setIfInBounds k (.int .i64 x) = ints (l.set k x) := by simp [ints, List.map_set]
theorem ints_made (n : Nat) : madeCells #[.int .i64 0] n = ints (List.replicate n 0) := by
  apply Array.ext
  · simp [madeCells, ints]
  · intro i h1 h2
    simp [madeCells, ints, Nat.mod_one]

/-- The slice at A reads as xs. -/
def IntsAt (w : World) (A : Option Addr) (xs : List Int) : Prop :=
  0 < xs.length → ∃ b off, A = some ⟨b, off, none⟩ ∧ b < w.heap.size ∧ ∀ j, j < xs.length → w.cell? ⟨b, off + j, none⟩ = some (.int .i64 (xs.getD j 0))
theorem IntsAt.below {w w' : World} {A : Option Addr} {xs : List Int} (h : IntsAt w A xs) (hb : Below w.heap.size w w') : IntsAt w' A xs := fun hn => by
  obtain ⟨b, off, e, hlt, hc⟩ := h hn
  exact ⟨b, off, e, Nat.lt_of_lt_of_le hlt hb.size, fun j hj => (hb.cell (p := ⟨b, off + j, none⟩) hlt).trans (hc j hj)⟩
theorem IntsAt.ofBlk {w : World} {g : Nat} {t : TypeId} {xs : List Int} (h : Blk w g t (ints xs)) : IntsAt w (some ⟨g, 0, none⟩) xs := fun _ =>
  ⟨g, 0, rfl, h.lt, fun j hj => by rw [Nat.zero_add, h.cell, ints_get _ _ hj]⟩

theorem take_eq_step {xs ys : List Int} {k : Nat} (h1 : k < xs.length) (h2 : k < ys.length) (h : xs.take k = ys.take k) (e : xs[k] = ys[k]) : xs.take (k + 1) = ys.take (k + 1) := by
  rw [List.take_succ_eq_append_getElem h1, List.take_succ_eq_append_getElem h2, h, e]
theorem bdn {a w : World} (h : Below a.heap.size a w) (n : Nat) : Below a.heap.size a (w.drewN n) := ⟨h.os, h.tape, h.output, h.size, h.block⟩
theorem ret_int {k : IntKind} {a b : Int} (h : a = b) : Ending.returned (.int k a) = .returned (.int k b) := by rw [h]

def inB (n lo hi : Int) : Bool := decide (lo ≤ n ∧ n ≤ hi)
theorem Try.infoInt : (Try.prog.info? 3).map (fun i => (i.zero, i.size, i.bytes)) = some (some (.int .i64 0), 1, 8) := by kernel_rfl

theorem fill_step (zs : List Int) (k : Nat) (hk : k < zs.length) : (zs.take k ++ List.replicate (zs.length - k) 0).set k (zs.getD k 0) = zs.take (k + 1) ++ List.replicate (zs.length - (k + 1)) 0 := by
  have e : zs.length - k = (zs.length - (k + 1)) + 1 := by omega
  rw [List.set_append_right _ _ (by simp; omega), e, List.replicate_succ]
  have e2 : k - (zs.take k).length = 0 := by simp; omega
  rw [e2, List.set_cons_zero, List.take_succ_eq_append_getElem hk, List.append_assoc]
  simp [hk]

/-- A row: what the document calls valid. -/
def rowB (xs : List Int) : Bool := decide (1 ≤ xs.length ∧ xs.length ≤ 6 ∧ ∀ x ∈ xs, -9999 ≤ x ∧ x ≤ 9999)
def allIn (xs : List Int) : Prop := ∀ x ∈ xs, -9999 ≤ x ∧ x ≤ 9999
theorem allIn_step {xs : List Int} {k : Nat} (h1 : k < xs.length) (h : allIn (xs.take k)) (e : inB xs[k] (-9999) 9999 = true) : allIn (xs.take (k + 1)) := by
  rw [List.take_succ_eq_append_getElem h1]
  intro x hx
  rcases List.mem_append.1 hx with hx | hx
  · exact h x hx
  · simp at hx; subst hx; simpa [inB] using e
theorem rowB_bad {xs : List Int} {k : Nat} (h1 : k < xs.length) (e : inB xs[k] (-9999) 9999 = false) : rowB xs = false := by
  simp only [rowB, decide_eq_false_iff_not]
  rintro ⟨_, _, h⟩
  have := h xs[k] (List.getElem_mem h1)
  simp [inB] at e
  omega
theorem rowB_end {xs : List Int} (h : allIn (xs.take xs.length)) : rowB xs = inB xs.length 1 6 := by
  rw [List.take_length] at h
  simp only [rowB, inB]
  congr 1
  simp only [eq_iff_iff]
  constructor
  · rintro ⟨a, b, _⟩; omega
  · rintro ⟨a, b⟩; exact ⟨by omega, by omega, h⟩

/-- The order of lists: -1, 0, 1. -/
def cmpI (a b : Int) : Int := if a < b then -1 else if b < a then 1 else 0
def cmpL : List Int → List Int → Int
  | [], [] => 0
  | [], _ :: _ => -1
  | _ :: _, [] => 1
  | a :: xs, b :: ys => if cmpI a b = 0 then cmpL xs ys else cmpI a b
def lessB (xs ys : List Int) : Bool := decide (cmpL xs ys < 0)
theorem cmpL_step {xs ys : List Int} {k : Nat} (h1 : k < xs.length) (h2 : k < ys.length) : cmpL (xs.drop k) (ys.drop k) = if cmpI xs[k] ys[k] = 0 then cmpL (xs.drop (k + 1)) (ys.drop (k + 1)) else cmpI xs[k] ys[k] := by
  rw [List.drop_eq_getElem_cons h1, List.drop_eq_getElem_cons h2]; rfl
theorem cmpL_end1 {xs ys : List Int} {k : Nat} (h1 : k < xs.length) (h2 : ys.length ≤ k) : cmpL (xs.drop k) (ys.drop k) = 1 := by
  rw [List.drop_eq_getElem_cons h1, List.drop_eq_nil_of_le h2]; rfl
theorem cmpL_end2 {xs ys : List Int} {k : Nat} (h1 : xs.length ≤ k) (h2 : k < ys.length) : cmpL (xs.drop k) (ys.drop k) = -1 := by
  rw [List.drop_eq_getElem_cons h2, List.drop_eq_nil_of_le h1]; rfl
theorem cmpL_end3 {xs ys : List Int} {k : Nat} (h1 : xs.length ≤ k) (h2 : ys.length ≤ k) : cmpL (xs.drop k) (ys.drop k) = 0 := by
  rw [List.drop_eq_nil_of_le h1, List.drop_eq_nil_of_le h2]; rfl
theorem cmpL_lt {xs ys : List Int} {k : Nat} (h1 : xs.length ≤ k) (h2 : k ≤ ys.length) (h3 : k ≤ xs.length) : cmpL (xs.drop k) (ys.drop k) = if xs.length < ys.length then -1 else 0 := by
  by_cases h : xs.length < ys.length
  · rw [if_pos h, cmpL_end2 h1 (by omega)]
  · rw [if_neg h, cmpL_end3 h1 (by omega)]

theorem lessB_of {xs ys : List Int} {z : Int} (h : cmpL xs ys = z) : lessB xs ys = decide (z < 0) := by simp [lessB, h]
theorem cmpI_lt (a b : Int) (h : a ≠ b) : decide (cmpI a b < 0) = decide (a < b) := by
  unfold cmpI
  by_cases h1 : a < b
  · simp [h1]
  · simp [h1, show b < a by omega]
theorem cmpI_zero (a b : Int) : cmpI a b = 0 ↔ a = b := by
  unfold cmpI
  by_cases h1 : a < b
  · simp [h1]; omega
  · by_cases h2 : b < a
    · simp [h1, h2]; omega
    · simp [h1, h2]; omega

section
open Go.ChangeShapes Go.WideShapes Go.ChangeAt
variable {H : Type} {enc : TypeId × Value → H} {P : Program} {W : World}
/-- A list of numbers that came in. -/
theorem ints_of {t e : TypeId} {a : Option Addr} {len cap : Nat} {d : DataW H} {p : List MemPlace} (ht : P.underlying t = some (.slice e)) (he : P.underlying e = some (.int .i64)) (hc : P.cellsOf e = 1)
    (h : DataW.Trod enc P W 0 (fun _ => true) true t (.slice a len cap) d p) : ∃ xs : List Int, len = xs.length ∧ IntsAt W a xs := by
  obtain ⟨fuel, hf⟩ := h
  rcases open_ints ht he hc hf with ⟨hcs, _⟩ | ⟨x, l, c, zs, hcs, _, hl, hm, hz, _, hcell, hwz⟩
  · simp [Value.cells] at hcs
    obtain ⟨rfl, rfl, rfl⟩ := hcs
    exact ⟨[], rfl, fun h => absurd h (by simp)⟩
  · simp [Value.cells] at hcs
    obtain ⟨rfl, rfl, rfl⟩ := hcs
    have hz' : zs.length = cap := by simpa using hz
    refine ⟨zs.take len, by simp; omega, fun hn => ?_⟩
    have hpos : 0 < zs.length := by simp at hn; omega
    obtain ⟨b, off, spot⟩ := x
    have h0 := hcell 0 hpos
    have hspot : spot = none := by simpa [Addr.add] using World.cell?_spot h0
    subst hspot
    have h0' : W.cell? ⟨b, off, none⟩ = some (.int .i64 (zs.getD 0 0)) := by simpa [Addr.add] using h0
    refine ⟨b, off, rfl, block_lt_of_cell h0', fun j hj => ?_⟩
    have hjl : j < len := by simp at hj; omega
    have := hcell j (by omega)
    rw [show (zs.take len).getD j 0 = zs.getD j 0 by simp [List.getD, List.getElem?_take, hjl]]
    rw [← this]
    by_cases hj0 : j = 0
    · subst hj0; simp [Addr.add]
    · simp [Addr.add, hj0]
end
end Go.Proofs.Ytbgbomhlaobncaa

/- HELPER, no statement of the seat: lists of numbers that a call made: marks, and projections. -/
namespace Go.Proofs.Ytbgbomhlaobncaa
open Go.RowKit
set_option linter.unusedSimpArgs false
set_option linter.unusedVariables false

/-- The slice at A is the head of a row of a call's own, which reads as xs. -/
def IntsOwn (w : World) (base : Nat) (A : Option Addr) (c : Nat) (xs : List Int) : Prop := w.ownsRow base 3 1 (.slice A xs.length c) xs.length (xs.map (Value.int .i64))

section
variable {w w' : World} {base : Nat} {A : Option Addr} {c : Nat} {xs : List Int}
theorem IntsOwn.form (h : IntsOwn w base A c xs) : (A = none ∧ xs = []) ∨ ∃ g, A = some ⟨g, 0, none⟩ ∧ base ≤ g ∧ g < w.heap.size := by
  rcases h.2 with ⟨e, hn⟩ | ⟨g, cap, cur, e, hb, hg, _⟩
  · injection e with e1; exact .inl ⟨e1, List.eq_nil_of_length_eq_zero hn⟩
  · injection e with e1; exact .inr ⟨g, e1, hb, (Array.getElem?_eq_some_iff.1 hg).1⟩
theorem IntsOwn.at_ (h : IntsOwn w base A c xs) : IntsAt w A xs := fun hn => by
  rcases h.form with ⟨_, rfl⟩ | ⟨g, rfl, _, hlt⟩
  · simp at hn
  · refine ⟨g, 0, rfl, hlt, fun j hj => ?_⟩
    have := World.ownsRow.cells h (g := g) rfl j (.int .i64 (xs.getD j 0)) (by simp [hj])
    have e : (⟨g, 0, none⟩ : Addr).add j = ⟨g, 0 + j, none⟩ := by unfold Addr.add; split <;> simp_all
    rw [e] at this
    exact this
theorem IntsOwn.below (h : IntsOwn w base A c xs) (hb : Below w.heap.size w w') : IntsOwn w' base A c xs :=
  World.ownsRow.kept (row := none) h ⟨hb.os, hb.tape, hb.output, hb.size, fun k hk _ => hb.block k hk⟩ (by cases hv : (Value.slice A xs.length c).ownBlock <;> simp)
theorem IntsOwn.mono {base' : Nat} (h : IntsOwn w base A c xs) (hb : base' ≤ base) : IntsOwn w base' A c xs := by
  refine ⟨h.1, ?_⟩
  rcases h.2 with h2 | ⟨g, cap, cur, e, hbg, r⟩
  · exact .inl h2
  · exact .inr ⟨g, cap, cur, e, Nat.le_trans hb hbg, r⟩
theorem IntsOwn.ofBlk {g : Nat} (h : Blk w g 3 (ints xs)) (hb : base ≤ g) (hn : xs.length ≤ maxLen) : IntsOwn w base (some ⟨g, 0, none⟩) xs.length xs :=
  ⟨by simp, .inr ⟨g, xs.length, ints xs, rfl, hb, h, Nat.le_refl _, hn, by simp [ints], by simp [ints, List.take_of_length_le]⟩⟩
theorem IntsOwn.nil : IntsOwn w base none 0 [] := World.ownsRow_nil _ _ _ _
theorem IntsOwn.kept {row : Option Nat} (h : IntsOwn w base A c xs) (hg : w.grownBy w' row) (hne : ∀ a, A = some a → row ≠ some a.block) : IntsOwn w' base A c xs :=
  World.ownsRow.kept h hg (by
    cases A with
    | none => exact .inl rfl
    | some a => exact .inr (fun e => hne a rfl e.symm))
/-- What lies elsewhere reads as it did. -/
theorem IntsAt.kept {B : Option Addr} {ys : List Int} {row : Option Nat} (h : IntsAt w B ys) (hg : w.grownBy w' row) (hne : ∀ a, B = some a → row ≠ some a.block) : IntsAt w' B ys := fun hn => by
  obtain ⟨b, off, rfl, hlt, hc⟩ := h hn
  refine ⟨b, off, rfl, Nat.lt_of_lt_of_le hlt hg.size, fun j hj => ?_⟩
  exact (World.cell?_of_block (a := ⟨b, off + j, none⟩) (hg.block b hlt (fun e => hne _ rfl e.symm))).trans (hc j hj)
end
theorem below_of_grown {a w w' : World} {row : Option Nat} (h : Below a.heap.size a w) (hg : w.grownBy w' row) (hr : ∀ k, row = some k → a.heap.size ≤ k) : Below a.heap.size a w' := h.grown hg h.size hr

/-- The marks k, k + 1, .. -/
def marks (k : Int) (n : Nat) : List Int := (List.range n).map fun (j : Nat) => k + (j : Int)
theorem marks_length (k : Int) (n : Nat) : (marks k n).length = n := by simp [marks]
theorem marks_get (k : Int) (n j : Nat) (h : j < n) : (marks k n).getD j 0 = k + j := by simp [marks, h]

theorem mark_step (xs : List Int) (k : Int) (j : Nat) (hj : j < xs.length) : ((marks k j ++ xs.drop j).map (Value.int .i64)).set j (.int .i64 (k + j)) = (marks k (j + 1) ++ xs.drop (j + 1)).map (Value.int .i64) := by
  rw [← List.map_set]
  congr 1
  rw [List.set_append_right _ _ (by simp [marks]), show j - (marks k j).length = 0 by simp [marks], List.drop_eq_getElem_cons hj, List.set_cons_zero]
  simp [marks, List.range_succ]

/-! ### Projections -/
def colB (cols : List Int) (n : Nat) : Bool := decide (1 ≤ cols.length ∧ cols.length ≤ 6 ∧ ∀ c ∈ cols, 0 ≤ c ∧ c < n)
def projL (xs cols : List Int) : List Int := cols.map fun c => xs.getD c.toNat 0
def colsIn (cols : List Int) (n : Nat) : Prop := ∀ c ∈ cols, 0 ≤ c ∧ c < n
theorem colsIn_step {cols : List Int} {n k : Nat} (h1 : k < cols.length) (h : colsIn (cols.take k) n) (e : 0 ≤ cols[k] ∧ cols[k] < n) : colsIn (cols.take (k + 1)) n := by
  rw [List.take_succ_eq_append_getElem h1]
  intro x hx
  rcases List.mem_append.1 hx with hx | hx
  · exact h x hx
  · simp at hx; subst hx; exact e
theorem colB_bad {cols : List Int} {n k : Nat} (h1 : k < cols.length) (e : ¬ (0 ≤ cols[k] ∧ cols[k] < n)) : colB cols n = false := by
  simp only [colB, decide_eq_false_iff_not]
  rintro ⟨_, _, h⟩
  exact e (h cols[k] (List.getElem_mem h1))
theorem colB_far {cols : List Int} (n : Nat) (h : cols.length < 1 ∨ 6 < cols.length) : colB cols n = false := by
  simp only [colB, decide_eq_false_iff_not]
  rintro ⟨a, b, _⟩
  omega
theorem colB_end {cols : List Int} {n : Nat} (h : colsIn (cols.take cols.length) n) : colB cols n = inB cols.length 1 6 := by
  rw [List.take_length] at h
  simp only [colB, inB]
  congr 1
  simp only [eq_iff_iff]
  constructor
  · rintro ⟨a, b, _⟩; omega
  · rintro ⟨a, b⟩; exact ⟨by omega, by omega, h⟩
theorem inB_iff (c : Int) (n : Nat) : inB c 0 ((n : Int) - 1) = decide (0 ≤ c ∧ c < n) := by
  unfold inB; congr 1; simp only [eq_iff_iff]; constructor <;> rintro ⟨a, b⟩ <;> exact ⟨a, by omega⟩

theorem projL_step {xs cols : List Int} {k : Nat} (h : k < cols.length) (hc : 0 ≤ cols[k] ∧ cols[k] < xs.length) (hi : cols[k].toNat < xs.length) :
    (projL xs (cols.take k)).map (Value.int .i64) ++ [.int .i64 xs[cols[k].toNat]] = (projL xs (cols.take (k + 1))).map (Value.int .i64) := by
  rw [List.take_succ_eq_append_getElem h]
  simp only [projL, List.map_append, List.map_cons, List.map_nil]
  congr 3
  simp [hi]
theorem own_slice {w : World} {base n : Nat} {v : Value} {e : TypeId} {size : Nat} {xs : List Value} (h : w.ownsRow base e size v n xs) : ∃ A c, v = .slice A n c := by
  rcases h.2 with ⟨rfl, rfl⟩ | ⟨g, cap, _, rfl, _⟩
  · exact ⟨none, 0, rfl⟩
  · exact ⟨_, cap, rfl⟩
theorem projL_length (xs cols : List Int) : (projL xs cols).length = cols.length := by simp [projL]

/-- What ProjectRow gives. -/
def projB (xs cols : List Int) : Bool := rowB xs && colB cols xs.length
def projR (xs cols : List Int) : List Int := if projB xs cols = true then projL xs cols else []
theorem row_len {xs : List Int} (h : rowB xs = true) : xs.length ≤ 6 := by simp [rowB] at h; omega
theorem col_in {cols : List Int} {n : Nat} (h : colB cols n = true) : colsIn cols n ∧ cols.length ≤ 6 ∧ 1 ≤ cols.length := by
  simp only [colB, decide_eq_true_eq] at h
  exact ⟨h.2.2, h.2.1, h.1⟩

/-- What stands in the projection after k columns. -/
def projK (xs cols : List Int) (k : Nat) : List Int := projL xs (cols.take k) ++ List.replicate (cols.length - k) 0
theorem projK_length {xs cols : List Int} {k : Nat} (h : k ≤ cols.length) : (projK xs cols k).length = cols.length := by simp [projK, projL]; omega
theorem projK_step {xs cols : List Int} {k : Nat} (h : k < cols.length) (hi : cols[k].toNat < xs.length) : (projK xs cols k).set k xs[cols[k].toNat] = projK xs cols (k + 1) := by
  unfold projK
  have e : cols.length - k = (cols.length - (k + 1)) + 1 := by omega
  rw [List.set_append_right _ _ (by simp [projL]; omega), e, List.replicate_succ]
  have e2 : k - (projL xs (cols.take k)).length = 0 := by simp [projL]; omega
  rw [e2, List.set_cons_zero, List.take_succ_eq_append_getElem h]
  simp only [projL, List.map_append, List.map_cons, List.map_nil, List.append_assoc, List.cons_append, List.nil_append]
  congr 2
  simp [hi]
theorem projK_end {xs cols : List Int} : projK xs cols cols.length = projL xs cols := by simp [projK]

end Go.Proofs.Ytbgbomhlaobncaa

/- HELPER, no statement of the seat: data in memory: read ('Rd'), and owned, with the blocks that it lies in ('Ow'). -/
namespace Go.Proofs.Ytbgbomhlaobncaa
open Go.RowKit
set_option linter.unusedSimpArgs false
set_option linter.unusedVariables false

abbrev Fp := Nat → Prop
/-- Only blocks of S, and new ones, have turned. -/
structure GrownS (w w' : World) (S : Fp) : Prop where
  os : w'.os = w.os
  tape : w'.tape = w.tape
  output : w'.output = w.output
  size : w.heap.size ≤ w'.heap.size
  block : ∀ k, k < w.heap.size → ¬ S k → w'.heap[k]? = w.heap[k]?
section
variable {a w w' w'' : World} {S S' : Fp}
theorem GrownS.refl (w : World) (S : Fp) : GrownS w w S := ⟨rfl, rfl, rfl, Nat.le_refl _, fun _ _ _ => rfl⟩
theorem GrownS.trans (h : GrownS w w' S) (k : GrownS w' w'' S) : GrownS w w'' S :=
  ⟨k.os.trans h.os, k.tape.trans h.tape, k.output.trans h.output, Nat.le_trans h.size k.size, fun i hi hn => (k.block i (Nat.lt_of_lt_of_le hi h.size) hn).trans (h.block i hi hn)⟩
theorem GrownS.mono (h : GrownS w w' S) (hs : ∀ k, S k → S' k) : GrownS w w' S' := ⟨h.os, h.tape, h.output, h.size, fun k hk hn => h.block k hk (fun e => hn (hs k e))⟩
theorem GrownS.ofBelow (h : Below w.heap.size w w') : GrownS w w' S := ⟨h.os, h.tape, h.output, h.size, fun k hk _ => h.block k hk⟩
theorem GrownS.ofGrown {row : Option Nat} (h : w.grownBy w' row) (hr : ∀ k, row = some k → S k) : GrownS w w' S := ⟨h.os, h.tape, h.output, h.size, fun k hk hn => h.block k hk (fun e => hn (hr k e.symm))⟩
theorem GrownS.below (g : GrownS w w' S) (h : Below a.heap.size a w) (hs : ∀ k, S k → a.heap.size ≤ k) : Below a.heap.size a w' :=
  ⟨g.os.trans h.os, g.tape.trans h.tape, g.output.trans h.output, Nat.le_trans h.size g.size, fun k hk => (g.block k (Nat.lt_of_lt_of_le hk h.size) (fun e => by have := hs k e; omega)).trans (h.block k hk)⟩
theorem GrownS.set_ (g : GrownS a w S) {p : Addr} (hp : S p.block) (u : Value) : GrownS a (w.setCell p u) S :=
  g.trans ⟨rfl, rfl, rfl, by simp [World.setCell], fun k hk hn => Below.heap_setCell _ _ _ _ (fun e => hn (e ▸ hp))⟩
end

abbrev Rd (α : Type) := World → List Value → α → Prop
abbrev Ow (α : Type) := World → Fp → List Value → α → Prop

structure ROk {α : Type} (R : Rd α) (sz : Nat) : Prop where
  len : ∀ {w cs x}, R w cs x → cs.length = sz
  below : ∀ {w w' cs x}, R w cs x → Below w.heap.size w w' → R w' cs x
structure OOk {α : Type} (O : Ow α) (R : Rd α) (sz : Nat) : Prop where
  len : ∀ {w S cs x}, O w S cs x → cs.length = sz
  lt : ∀ {w S cs x}, O w S cs x → ∀ k, S k → k < w.heap.size
  loc : ∀ {w w' S cs x}, O w S cs x → (∀ k, S k → w'.heap[k]? = w.heap[k]?) → O w' S cs x
  mono : ∀ {w S S' cs x}, O w S cs x → (∀ k, S k → S' k) → (∀ k, S' k → k < w.heap.size) → O w S' cs x
  rd : ∀ {w S cs x}, O w S cs x → R w cs x
  one : ∀ {w S cs x}, O w S cs x → ∀ u ∈ cs, u.oneCell' = true

theorem lt_of_heap {w w' : World} {k : Nat} (h : w'.heap[k]? = w.heap[k]?) (hk : k < w.heap.size) : k < w'.heap.size := by
  rcases Nat.lt_or_ge k w'.heap.size with hlt | hge
  · exact hlt
  · rw [Array.getElem?_eq_none hge, Array.getElem?_eq_getElem hk] at h; cases h
theorem OOk.below {α : Type} {O : Ow α} {R : Rd α} {sz : Nat} (ok : OOk O R sz) {w w' : World} {S : Fp} {cs : List Value} {x : α} (h : O w S cs x) (hb : Below w.heap.size w w') : O w' S cs x :=
  ok.loc h (fun k hk => hb.block k (ok.lt h k hk))
theorem OOk.kept {α : Type} {O : Ow α} {R : Rd α} {sz : Nat} (ok : OOk O R sz) {w w' : World} {S T : Fp} {cs : List Value} {x : α} (h : O w S cs x) (hb : GrownS w w' T) (hd : ∀ k, S k → ¬ T k) : O w' S cs x :=
  ok.loc h (fun k hk => hb.block k (ok.lt h k hk) (hd k hk))

/-! ### Numbers and truth values -/
def IntR : Rd Int := fun _ cs x => cs = [.int .i64 x]
def IntO : Ow Int := fun w S cs x => cs = [.int .i64 x] ∧ ∀ k, S k → k < w.heap.size
def BoolR : Rd Bool := fun _ cs x => cs = [.bool x]
def BoolO : Ow Bool := fun w S cs x => cs = [.bool x] ∧ ∀ k, S k → k < w.heap.size
theorem intR : ROk IntR 1 := ⟨fun h => by rw [h]; rfl, fun h _ => h⟩
theorem boolR : ROk BoolR 1 := ⟨fun h => by rw [h]; rfl, fun h _ => h⟩
theorem intO : OOk IntO IntR 1 := ⟨fun h => by rw [h.1]; rfl, fun h => h.2, fun h e => ⟨h.1, fun k hk => lt_of_heap (e k hk) (h.2 k hk)⟩, fun h _ l => ⟨h.1, l⟩, fun h => h.1, fun h u hu => by rw [h.1] at hu; simp at hu; rw [hu]; rfl⟩
theorem boolO : OOk BoolO BoolR 1 := ⟨fun h => by rw [h.1]; rfl, fun h => h.2, fun h e => ⟨h.1, fun k hk => lt_of_heap (e k hk) (h.2 k hk)⟩, fun h _ l => ⟨h.1, l⟩, fun h => h.1, fun h u hu => by rw [h.1] at hu; simp at hu; rw [hu]; rfl⟩

/-! ### Fields side by side -/
def PairR {α β : Type} (R1 : Rd α) (R2 : Rd β) : Rd (α × β) := fun w cs x => ∃ c1 c2, cs = c1 ++ c2 ∧ R1 w c1 x.1 ∧ R2 w c2 x.2
def PairO {α β : Type} (O1 : Ow α) (O2 : Ow β) : Ow (α × β) := fun w S cs x => (∀ k, S k → k < w.heap.size) ∧ ∃ c1 c2 S1 S2, cs = c1 ++ c2 ∧ (∀ k, S1 k → S k) ∧ (∀ k, S2 k → S k) ∧ (∀ k, S1 k → ¬ S2 k) ∧ O1 w S1 c1 x.1 ∧ O2 w S2 c2 x.2
theorem pairR {α β : Type} {R1 : Rd α} {R2 : Rd β} {s1 s2 : Nat} (h1 : ROk R1 s1) (h2 : ROk R2 s2) : ROk (PairR R1 R2) (s1 + s2) :=
  ⟨fun ⟨c1, c2, e, r1, r2⟩ => by rw [e, List.length_append, h1.len r1, h2.len r2], fun ⟨c1, c2, e, r1, r2⟩ hb => ⟨c1, c2, e, h1.below r1 hb, h2.below r2 hb⟩⟩
theorem pairO {α β : Type} {O1 : Ow α} {O2 : Ow β} {R1 : Rd α} {R2 : Rd β} {s1 s2 : Nat} (h1 : OOk O1 R1 s1) (h2 : OOk O2 R2 s2) : OOk (PairO O1 O2) (PairR R1 R2) (s1 + s2) where
  len := fun ⟨_, c1, c2, S1, S2, e, _, _, _, r1, r2⟩ => by rw [e, List.length_append, h1.len r1, h2.len r2]
  lt := fun h => h.1
  loc := fun ⟨l, c1, c2, S1, S2, e, i1, i2, d, r1, r2⟩ q => ⟨fun k hk => lt_of_heap (q k hk) (l k hk), c1, c2, S1, S2, e, i1, i2, d, h1.loc r1 (fun k hk => q k (i1 k hk)), h2.loc r2 (fun k hk => q k (i2 k hk))⟩
  mono := fun ⟨l, c1, c2, S1, S2, e, i1, i2, d, r1, r2⟩ s l' => ⟨l', c1, c2, S1, S2, e, fun k hk => s k (i1 k hk), fun k hk => s k (i2 k hk), d, r1, r2⟩
  rd := fun ⟨_, c1, c2, S1, S2, e, _, _, _, r1, r2⟩ => ⟨c1, c2, e, h1.rd r1, h2.rd r2⟩
  one := fun ⟨_, c1, c2, S1, S2, e, _, _, _, r1, r2⟩ u hu => by
    rw [e] at hu
    rcases List.mem_append.1 hu with hu | hu
    · exact h1.one r1 u hu
    · exact h2.one r2 u hu

/-! ### Slices -/
/-- The slice at A reads as xs. -/
def SlAt {α : Type} (R : Rd α) (sz : Nat) (w : World) (A : Option Addr) (xs : List α) : Prop :=
  0 < xs.length → ∃ b off, A = some ⟨b, off, none⟩ ∧ b < w.heap.size ∧ ∀ j (hj : j < xs.length), ∃ cs : List Value, cs.length = sz ∧ (∀ i, i < sz → w.cell? ⟨b, off + j * sz + i, none⟩ = cs[i]?) ∧ R w cs xs[j]
def SlR {α : Type} (R : Rd α) (sz : Nat) : Rd (List α) := fun w cs xs => ∃ A c, cs = [.slice A xs.length c] ∧ xs.length ≤ maxLen ∧ SlAt R sz w A xs
theorem SlAt.below {α : Type} {R : Rd α} {sz : Nat} (ok : ROk R sz) {w w' : World} {A : Option Addr} {xs : List α} (h : SlAt R sz w A xs) (hb : Below w.heap.size w w') : SlAt R sz w' A xs := fun hn => by
  obtain ⟨b, off, e, hlt, hc⟩ := h hn
  refine ⟨b, off, e, Nat.lt_of_lt_of_le hlt hb.size, fun j hj => ?_⟩
  obtain ⟨cs, hl, hcell, hr⟩ := hc j hj
  exact ⟨cs, hl, fun i hi => (hb.cell (p := ⟨b, off + j * sz + i, none⟩) hlt).trans (hcell i hi), ok.below hr hb⟩
theorem SlAt.nil {α : Type} {R : Rd α} {sz : Nat} {w : World} {A : Option Addr} : SlAt R sz w A [] := fun h => absurd h (by simp)
theorem slR {α : Type} {R : Rd α} {sz : Nat} (ok : ROk R sz) : ROk (SlR R sz) 1 :=
  ⟨fun ⟨_, _, e, _⟩ => by rw [e]; rfl, fun ⟨A, c, e, l, h⟩ hb => ⟨A, c, e, l, h.below ok hb⟩⟩

def blk (A : Option Addr) : Option Nat := A.map (·.block)
theorem ownBlock_slice (A : Option Addr) (n c : Nat) : (Value.slice A n c).ownBlock = blk A := by cases A <;> rfl

/-- The slice at A is the head of a row of its own, which reads as xs; css: its cells, element for element; F: the blocks of each element; S: all its blocks. -/
structure SlF {α : Type} (O : Ow α) (sz : Nat) (E : TypeId) (w : World) (S : Fp) (A : Option Addr) (c : Nat) (xs : List α) (css : List (List Value)) (F : Nat → Fp) : Prop where
  lt : ∀ k, S k → k < w.heap.size
  top : ∀ k, blk A = some k → S k
  row : w.ownsRow 0 E sz (.slice A xs.length c) xs.length css.flatten
  clen : css.length = xs.length
  elen : ∀ cs ∈ css, cs.length = sz
  sub : ∀ j k, F j k → S k ∧ blk A ≠ some k
  apart : ∀ i j k, F i k → F j k → i = j
  elt : ∀ j (h1 : j < css.length) (h2 : j < xs.length), O w (F j) css[j] xs[j]
def SlOw {α : Type} (O : Ow α) (sz : Nat) (E : TypeId) (w : World) (S : Fp) (A : Option Addr) (c : Nat) (xs : List α) : Prop := ∃ css F, SlF O sz E w S A c xs css F
def SlO {α : Type} (O : Ow α) (sz : Nat) (E : TypeId) : Ow (List α) := fun w S cs xs => ∃ A c, cs = [.slice A xs.length c] ∧ SlOw O sz E w S A c xs

theorem flat_get {sz : Nat} : ∀ {css : List (List Value)}, (∀ cs ∈ css, cs.length = sz) → ∀ j (h : j < css.length) i, i < sz → css.flatten[j * sz + i]? = (css[j])[i]?
  | [], _, j, h, _, _ => absurd h (by simp)
  | cs :: css, he, 0, h, i, hi => by
    have : cs.length = sz := he cs (by simp)
    simp [List.getElem?_append, this, hi]
  | cs :: css, he, j + 1, h, i, hi => by
    have h0 : cs.length = sz := he cs (by simp)
    have := flat_get (css := css) (fun c hc => he c (by simp [hc])) j (by simpa using h) i hi
    have e : (j + 1) * sz + i = cs.length + (j * sz + i) := by rw [h0, Nat.add_mul]; omega
    rw [e, List.flatten_cons, List.getElem?_append_right (by omega)]
    simpa using this
theorem flat_len {sz : Nat} : ∀ {css : List (List Value)}, (∀ cs ∈ css, cs.length = sz) → css.flatten.length = css.length * sz
  | [], _ => by simp
  | cs :: css, he => by
    rw [List.flatten_cons, List.length_append, flat_len (fun c hc => he c (by simp [hc])), he cs (by simp), List.length_cons, Nat.add_mul]
    omega
theorem flat_set {sz : Nat} (u : Value) : ∀ {css : List (List Value)}, (∀ cs ∈ css, cs.length = sz) → ∀ j (h : j < css.length) i, i < sz → css.flatten.set (j * sz + i) u = (css.set j ((css[j]).set i u)).flatten
  | [], _, j, h, _, _ => absurd h (by simp)
  | cs :: css, he, 0, h, i, hi => by
    have : cs.length = sz := he cs (by simp)
    simp [List.set_append, this, hi]
  | cs :: css, he, j + 1, h, i, hi => by
    have h0 : cs.length = sz := he cs (by simp)
    have := flat_set u (css := css) (fun c hc => he c (by simp [hc])) j (by simpa using h) i hi
    have e : (j + 1) * sz + i = cs.length + (j * sz + i) := by rw [h0, Nat.add_mul]; omega
    rw [e, List.flatten_cons, List.set_append_right _ _ (by omega)]
    simpa using this

section
variable {α : Type} {O : Ow α} {R : Rd α} {sz : Nat} {E : TypeId} {w w' : World} {S S' : Fp} {A : Option Addr} {c : Nat} {xs : List α} {css : List (List Value)} {F : Nat → Fp}
theorem ownsRow_base0 {base : Nat} {v : Value} {n : Nat} {vs : List Value} (h : w.ownsRow base E sz v n vs) : w.ownsRow 0 E sz v n vs := by
  refine ⟨h.1, ?_⟩
  rcases h.2 with h2 | ⟨g, cap, cur, e, hbg, r⟩
  · exact .inl h2
  · exact .inr ⟨g, cap, cur, e, Nat.zero_le _, r⟩
theorem ownsRow_base {base : Nat} {n : Nat} {vs : List Value} (h : w.ownsRow 0 E sz (.slice A n c) n vs) (hb : ∀ k, blk A = some k → base ≤ k) : w.ownsRow base E sz (.slice A n c) n vs := by
  refine ⟨h.1, ?_⟩
  rcases h.2 with h2 | ⟨g, cap, cur, e, hbg, r⟩
  · exact .inl h2
  · refine .inr ⟨g, cap, cur, e, ?_, r⟩
    injection e with e1 e2 e3
    subst e1
    exact hb g rfl
theorem ownsRow_loc {base n : Nat} {vs : List Value} (h : w.ownsRow base E sz (.slice A n c) n vs) (hq : ∀ k, blk A = some k → w'.heap[k]? = w.heap[k]?) : w'.ownsRow base E sz (.slice A n c) n vs := by
  refine ⟨h.1, ?_⟩
  rcases h.2 with h2 | ⟨g, cap, cur, e, hbg, hg, r⟩
  · exact .inl h2
  · refine .inr ⟨g, cap, cur, e, hbg, ?_, r⟩
    injection e with e1 e2 e3
    subst e1
    rw [hq g rfl]
    exact hg
theorem ownsRow_form {base n : Nat} {vs : List Value} (h : w.ownsRow base E sz (.slice A n c) n vs) : (A = none ∧ c = 0 ∧ n = 0) ∨ ∃ g, A = some ⟨g, 0, none⟩ ∧ base ≤ g ∧ g < w.heap.size ∧ n ≤ c ∧ c ≤ maxLen := by
  rcases h.2 with ⟨e, hn⟩ | ⟨g, cap, cur, e, hb, hg, hc, hm, _⟩
  · injection e with e1 e2 e3; exact .inl ⟨e1, e3, hn⟩
  · injection e with e1 e2 e3
    subst e3
    exact .inr ⟨g, e1, hb, (Array.getElem?_eq_some_iff.1 hg).1, hc, hm⟩
theorem SlF.form (h : SlF O sz E w S A c xs css F) : (A = none ∧ c = 0 ∧ xs = []) ∨ ∃ g, A = some ⟨g, 0, none⟩ ∧ S g ∧ g < w.heap.size ∧ xs.length ≤ c ∧ c ≤ maxLen := by
  rcases ownsRow_form h.row with ⟨h1, h2, h3⟩ | ⟨g, h1, _, h2, h3, h4⟩
  · exact .inl ⟨h1, h2, List.eq_nil_of_length_eq_zero h3⟩
  · exact .inr ⟨g, h1, h.top g (by rw [h1]; rfl), h2, h3, h4⟩
theorem SlF.cell {g : Nat} (h : SlF O sz E w S (some ⟨g, 0, none⟩) c xs css F) (j : Nat) (h1 : j < css.length) (i : Nat) (hi : i < sz) : w.cell? ⟨g, j * sz + i, none⟩ = (css[j])[i]? := by
  have h0 := h.clen
  have hr : w.ownsRow 0 E sz (.slice (some ⟨g, 0, none⟩) xs.length c) xs.length css.flatten := h.row
  have := World.ownsRow.cellAt hr (j * sz + i) (by
    have : (j + 1) * sz ≤ xs.length * sz := Nat.mul_le_mul_right _ (by omega)
    rw [Nat.add_mul] at this; omega)
  rw [this, flat_get h.elen j h1 i hi]
theorem SlF.frozen {g : Nat} (h : SlF O sz E w S (some ⟨g, 0, none⟩) c xs css F) (i : Nat) : w.frozen? ⟨g, i, none⟩ = false := World.ownsRow.frozenAt h.row i
theorem SlF.nil (hl : ∀ k, S k → k < w.heap.size) : SlF O sz E w S none 0 [] [] (fun _ _ => False) :=
  ⟨hl, fun k hk => (by cases hk), World.ownsRow_nil _ _ _ _, rfl, by simp, fun _ _ h => h.elim, fun _ _ _ h => h.elim, fun j h => absurd h (by simp)⟩
theorem SlF.loc (ok : OOk O R sz) (h : SlF O sz E w S A c xs css F) (hq : ∀ k, S k → w'.heap[k]? = w.heap[k]?) : SlF O sz E w' S A c xs css F :=
  ⟨fun k hk => lt_of_heap (hq k hk) (h.lt k hk), h.top, ownsRow_loc h.row (fun k hk => hq k (h.top k hk)), h.clen, h.elen, h.sub, h.apart, fun j h1 h2 => ok.loc (h.elt j h1 h2) (fun k hk => hq k (h.sub j k hk).1)⟩
theorem SlF.mono (h : SlF O sz E w S A c xs css F) (hs : ∀ k, S k → S' k) (hl : ∀ k, S' k → k < w.heap.size) : SlF O sz E w S' A c xs css F :=
  ⟨hl, fun k hk => hs k (h.top k hk), h.row, h.clen, h.elen, fun j k hk => ⟨hs k (h.sub j k hk).1, (h.sub j k hk).2⟩, h.apart, h.elt⟩
theorem SlF.at_ (ok : OOk O R sz) (h : SlF O sz E w S A c xs css F) : SlAt R sz w A xs := fun hn => by
  rcases h.form with ⟨_, _, rfl⟩ | ⟨g, rfl, _, hlt, _⟩
  · simp at hn
  · refine ⟨g, 0, rfl, hlt, fun j hj => ?_⟩
    have h1 : j < css.length := by rw [h.clen]; exact hj
    exact ⟨css[j], h.elen _ (List.getElem_mem h1), fun i hi => by rw [Nat.zero_add, h.cell j h1 i hi], ok.rd (h.elt j h1 hj)⟩
/-- What an element leads to has turned. -/
theorem SlF.inner (ok : OOk O R sz) (h : SlF O sz E w S A c xs css F) {j : Nat} (hj : j < xs.length) (hg : GrownS w w' (F j)) {x' : α} (h1 : j < css.length) (hx : O w' (F j) css[j] x') : SlF O sz E w' S A c (xs.set j x') css F := by
  have hs : ∀ k, S k → k < w'.heap.size := fun k hk => Nat.lt_of_lt_of_le (h.lt k hk) hg.size
  refine ⟨hs, h.top, ?_, by rw [List.length_set, h.clen], h.elen, h.sub, h.apart, fun i g1 g2 => ?_⟩
  · rw [List.length_set]
    exact ownsRow_loc h.row (fun k hk => hg.block k (h.lt k (h.top k hk)) (fun e => (h.sub j k e).2 hk))
  · by_cases e : j = i
    · subst e; simpa using hx
    · rw [List.getElem_set_ne e]
      exact ok.kept (h.elt i g1 (by simpa using g2)) hg (fun k hk hk' => e (h.apart j i k hk' hk))
/-- A cell of an element has been stored. -/
theorem SlF.store (ok : OOk O R sz) {g : Nat} (h : SlF O sz E w S (some ⟨g, 0, none⟩) c xs css F) {j i : Nat} (hj : j < xs.length) (h1 : j < css.length) (hi : i < sz) (u : Value) {x' : α} (hx : O w (F j) ((css[j]).set i u) x') :
    SlF O sz E (w.setCell ⟨g, j * sz + i, none⟩ u) S (some ⟨g, 0, none⟩) c (xs.set j x') (css.set j ((css[j]).set i u)) F := by
  have far : ∀ k, k ≠ g → (w.setCell ⟨g, j * sz + i, none⟩ u).heap[k]? = w.heap[k]? := fun k hk => Below.heap_setCell _ _ _ _ hk
  have hsz : (w.setCell ⟨g, j * sz + i, none⟩ u).heap.size = w.heap.size := by simp [World.setCell]
  have hne : ∀ m k, F m k → k ≠ g := fun m k hk e => (h.sub m k hk).2 (by rw [e]; rfl)
  refine ⟨fun k hk => by rw [hsz]; exact h.lt k hk, h.top, ?_, by simp [h.clen], ?_, h.sub, h.apart, fun m g1 g2 => ?_⟩
  · have := (World.ownsRow.stored h.row (j * sz + i) u).1
    rw [flat_set u h.elen j h1 i hi] at this
    rw [List.length_set]
    exact this
  · intro cs hcs
    rcases List.mem_or_eq_of_mem_set hcs with hcs | rfl
    · exact h.elen cs hcs
    · rw [List.length_set]; exact h.elen _ (List.getElem_mem h1)
  · by_cases e : j = m
    · subst e
      simp only [List.getElem_set_self]
      exact ok.loc hx (fun k hk => far k (hne _ k hk))
    · rw [List.getElem_set_ne e, List.getElem_set_ne e]
      exact ok.loc (h.elt m (by simpa using g1) (by simpa using g2)) (fun k hk => far k (hne _ k hk))
/-- One more element, in a block that holds what was there. -/
theorem SlF.push (ok : OOk O R sz) (h : SlF O sz E w S A c xs css F) {A' : Option Addr} {c' : Nat} {T : Fp} {cs : List Value} {x : α} {U : Fp} (hx : O w T cs x) (hd : ∀ k, T k → ¬ S k)
    (hrow : w'.ownsRow 0 E sz (.slice A' (xs.length + 1) c') (xs.length + 1) (css.flatten ++ cs)) (hg : ∀ k, k < w.heap.size → blk A ≠ some k → w'.heap[k]? = w.heap[k]?) (hA : ∀ k, blk A' = some k → blk A = some k ∨ w.heap.size ≤ k)
    (hU : ∀ k, S k ∨ T k ∨ blk A' = some k → U k) (hUl : ∀ k, U k → k < w'.heap.size) :
    SlF O sz E w' U A' c' (xs ++ [x]) (css ++ [cs]) (fun j => if j = xs.length then T else F j) := by
  have hcl := h.clen
  have nA : ∀ m k, F m k → blk A' ≠ some k := fun m k hk e => by
    rcases hA k e with h' | h'
    · exact (h.sub m k hk).2 h'
    · have := h.lt k (h.sub m k hk).1; omega
  have nT : ∀ k, T k → blk A' ≠ some k := fun k hk e => by
    rcases hA k e with h' | h'
    · exact hd k hk (h.top k h')
    · have := ok.lt hx k hk; omega
  refine ⟨hUl, fun k hk => hU k (.inr (.inr hk)), ?_, by simp [hcl], ?_, ?_, ?_, ?_⟩
  · have e1 : (xs ++ [x]).length = xs.length + 1 := by simp
    have e2 : (css ++ [cs]).flatten = css.flatten ++ cs := by simp
    rw [e1, e2]
    exact hrow
  · intro d hd'
    rcases List.mem_append.1 hd' with hd' | hd'
    · exact h.elen d hd'
    · simp at hd'; subst hd'; exact ok.len hx
  · intro j k hk
    by_cases e : j = xs.length
    · rw [if_pos e] at hk; exact ⟨hU k (.inr (.inl hk)), nT k hk⟩
    · rw [if_neg e] at hk; exact ⟨hU k (.inl (h.sub j k hk).1), nA j k hk⟩
  · intro i j k hi hj
    by_cases ei : i = xs.length <;> by_cases ej : j = xs.length
    · omega
    · rw [if_pos ei] at hi; rw [if_neg ej] at hj; exact absurd (h.sub j k hj).1 (hd k hi)
    · rw [if_neg ei] at hi; rw [if_pos ej] at hj; exact absurd (h.sub i k hi).1 (hd k hj)
    · rw [if_neg ei] at hi; rw [if_neg ej] at hj; exact h.apart i j k hi hj
  · intro j h1 h2
    by_cases e : j = xs.length
    · subst e
      rw [if_pos rfl]
      have : (css ++ [cs])[xs.length]'h1 = cs := by simp [← hcl]
      rw [this]
      simp only [List.getElem_concat_length]
      exact ok.loc hx (fun k hk => hg k (ok.lt hx k hk) (fun e => hd k hk (h.top k e)))
    · have g1 : j < css.length := by simp at h1; omega
      have g2 : j < xs.length := by omega
      rw [if_neg e, List.getElem_append_left g1, List.getElem_append_left g2]
      exact ok.loc (h.elt j g1 g2) (fun k hk => hg k (h.lt k (h.sub j k hk).1) (h.sub j k hk).2)
end

theorem slO {α : Type} {O : Ow α} {R : Rd α} {sz : Nat} {E : TypeId} (ok : OOk O R sz) : OOk (SlO O sz E) (SlR R sz) 1 where
  len := fun ⟨_, _, e, _⟩ => by rw [e]; rfl
  lt := fun ⟨_, _, _, _, _, h⟩ => h.lt
  loc := fun ⟨A, c, e, css, F, h⟩ q => ⟨A, c, e, css, F, h.loc ok q⟩
  mono := fun ⟨A, c, e, css, F, h⟩ s l => ⟨A, c, e, css, F, h.mono s l⟩
  rd := fun ⟨A, c, e, css, F, h⟩ => ⟨A, c, e, (by
    rcases h.form with ⟨_, _, rfl⟩ | ⟨g, _, _, _, h1, h2⟩
    · simp [maxLen]
    · omega), h.at_ ok⟩
  one := fun ⟨A, c, e, _⟩ u hu => by rw [e] at hu; simp at hu; rw [hu]; rfl
section
variable {α : Type} {O : Ow α} {R : Rd α} {sz : Nat} {E : TypeId} {w w' : World} {S S' : Fp} {A : Option Addr} {c : Nat} {xs : List α}
theorem SlOw.at_ (ok : OOk O R sz) (h : SlOw O sz E w S A c xs) : SlAt R sz w A xs := by obtain ⟨_, _, h⟩ := h; exact h.at_ ok
theorem SlOw.lt (h : SlOw O sz E w S A c xs) : ∀ k, S k → k < w.heap.size := by obtain ⟨_, _, h⟩ := h; exact h.lt
theorem SlOw.loc (ok : OOk O R sz) (h : SlOw O sz E w S A c xs) (hq : ∀ k, S k → w'.heap[k]? = w.heap[k]?) : SlOw O sz E w' S A c xs := by obtain ⟨css, F, h⟩ := h; exact ⟨css, F, h.loc ok hq⟩
theorem SlOw.below (ok : OOk O R sz) (h : SlOw O sz E w S A c xs) (hb : Below w.heap.size w w') : SlOw O sz E w' S A c xs := h.loc ok (fun k hk => hb.block k (h.lt k hk))
theorem SlOw.kept (ok : OOk O R sz) {T : Fp} (h : SlOw O sz E w S A c xs) (hb : GrownS w w' T) (hd : ∀ k, S k → ¬ T k) : SlOw O sz E w' S A c xs := h.loc ok (fun k hk => hb.block k (h.lt k hk) (hd k hk))
theorem SlOw.mono (h : SlOw O sz E w S A c xs) (hs : ∀ k, S k → S' k) (hl : ∀ k, S' k → k < w.heap.size) : SlOw O sz E w S' A c xs := by obtain ⟨css, F, h⟩ := h; exact ⟨css, F, h.mono hs hl⟩
theorem SlOw.nil (hl : ∀ k, S k → k < w.heap.size) : SlOw O sz E w S none 0 [] := ⟨_, _, SlF.nil hl⟩
theorem SlAt.kept (ok : ∀ {w w' : World} {cs : List Value} {x : α}, R w cs x → (∀ k, k < w.heap.size → ¬ S k → w'.heap[k]? = w.heap[k]?) → R w' cs x) (h : SlAt R sz w A xs) (hg : GrownS w w' S) (hn : ∀ k, blk A = some k → ¬ S k) : SlAt R sz w' A xs := fun hp => by
  obtain ⟨b, off, e, hlt, hc⟩ := h hp
  refine ⟨b, off, e, Nat.lt_of_lt_of_le hlt hg.size, fun j hj => ?_⟩
  obtain ⟨cs, hl, hcell, hr⟩ := hc j hj
  refine ⟨cs, hl, fun i hi => ?_, ok hr hg.block⟩
  rw [← hcell i hi]
  exact World.cell?_of_block (a := ⟨b, off + j * sz + i, none⟩) (hg.block b hlt (hn b (by rw [e]; rfl)))
end

/-! ### What came in -/
section
variable {H : Type} {enc : TypeId × Value → H} {P : Program} {W : World}
/-- Whatever of the type t came in reads so. -/
def Opens {α : Type} (enc : TypeId × Value → H) (P : Program) (W : World) (t : TypeId) (R : Rd α) (sz : Nat) : Prop :=
  P.cellsOf t = sz ∧ ∀ n cs x, cs.length = sz → DataW.trod enc P W 0 (fun _ => true) true n t cs = some x → ∃ v, R W cs v
theorem opens_int {t : TypeId} (ht : P.underlying t = some (.int .i64)) (hc : P.cellsOf t = 1) : Opens enc P W t IntR 1 :=
  ⟨hc, fun n cs x hl h => by obtain ⟨v, e, -, -⟩ := DataW.trod_int ht h; exact ⟨v, e⟩⟩
theorem cells_spot {w : World} {b off : Nat} {s : Option Nat} {u : Value} (h : w.cell? ⟨b, off, s⟩ = some u) : s = none := World.cell?_spot h
theorem opens_slice {α : Type} {R : Rd α} {sz : Nat} {t e : TypeId} (ht : P.underlying t = some (.slice e)) (hc : P.cellsOf t = 1) (hsz : 0 < sz) (he : Opens enc P W e R sz) : Opens enc P W t (SlR R sz) 1 := by
  refine ⟨hc, fun n cs x hl h => ?_⟩
  rcases Go.Deep.open_slice ht h with ⟨rfl, _⟩ | ⟨a, len, cap, m, k, D, Pl, rfl, hb, hlc, hm, hmm, rfl, hx⟩
  · exact ⟨[], none, 0, rfl, by simp, SlAt.nil⟩
  · have hlm : len ≤ m := by rw [hmm]; simp; exact hlc
    have each : ∀ i : Fin len, ∃ q : α × List Value, q.2.length = sz ∧ (∀ o, o < sz → W.cell? ((a.add (i.1 * sz)).add o) = q.2[o]?) ∧ R W q.2 q.1 := fun i => by
      obtain ⟨cs', h1, h2⟩ := hx i.1 (by omega)
      rw [he.1] at h1
      obtain ⟨_, hlen, hcell⟩ := World.cells?_some h1
      obtain ⟨v, hv⟩ := he.2 _ _ _ hlen h2
      exact ⟨(v, cs'), hlen, fun o ho => hcell o ho, hv⟩
    let q := fun i : Fin len => Classical.choose (each i)
    have hq := fun i : Fin len => Classical.choose_spec (each i)
    refine ⟨(List.finRange len).map (fun i => (q i).1), some a, cap, by simp, by simp; omega, fun hp => ?_⟩
    have hp' : 0 < len := by simpa using hp
    obtain ⟨b, off, spot⟩ := a
    obtain ⟨hl0, hc0, _⟩ := hq ⟨0, hp'⟩
    have h0 := hc0 0 hsz
    rw [List.getElem?_eq_getElem (by omega)] at h0
    have hs0 : spot = none := by
      have := World.cell?_spot h0
      simpa [Addr.add] using this
    subst hs0
    have ha : ∀ i o, ((⟨b, off, none⟩ : Addr).add i).add o = ⟨b, off + i + o, none⟩ := fun i o => by
      unfold Addr.add
      by_cases hi : i = 0 <;> by_cases ho : o = 0 <;> simp [hi, ho, Nat.add_assoc]
    refine ⟨b, off, rfl, ?_, fun j hj => ?_⟩
    · rw [ha] at h0
      exact block_lt_of_cell h0
    · have hj' : j < len := by simpa using hj
      obtain ⟨g1, g2, g3⟩ := hq ⟨j, hj'⟩
      refine ⟨(q ⟨j, hj'⟩).2, g1, fun i hi => ?_, ?_⟩
      · rw [← g2 i hi, ha]
      · simpa using g3
theorem opens_last {α : Type} {R : Rd α} {sz : Nat} {t : TypeId} (h : Opens enc P W t R sz) {n : Nat} {cs : List Value} {x : DataW H × List MemPlace} (o : Nat) (hl : cs.length = o + sz)
    (ht : DataW.trod enc P W 0 (fun _ => true) true n t ((cs.drop o).take (P.cellsOf t)) = some x) : ∃ v, R W (cs.drop o) v := by
  rw [h.1, List.take_of_length_le (by simp; omega)] at ht
  exact h.2 _ _ _ (by simp; omega) ht
theorem opens_cons {α β : Type} {R : Rd α} {R2 : Rd β} {sz s2 : Nat} {t : TypeId} (h : Opens enc P W t R sz) {n : Nat} {cs : List Value} {x : DataW H × List MemPlace} (o : Nat) (hl : cs.length = o + (sz + s2))
    (ht : DataW.trod enc P W 0 (fun _ => true) true n t ((cs.drop o).take (P.cellsOf t)) = some x) (h2 : ∃ v, R2 W (cs.drop (o + sz)) v) : ∃ v, PairR R R2 W (cs.drop o) v := by
  rw [h.1] at ht
  obtain ⟨v, hv⟩ := h.2 _ _ _ (by simp; omega) ht
  obtain ⟨u, hu⟩ := h2
  refine ⟨(v, u), (cs.drop o).take sz, cs.drop (o + sz), ?_, hv, hu⟩
  rw [← List.drop_drop, List.take_append_drop]
theorem opens_struct2 {α β : Type} {R0 : Rd α} {R1 : Rd β} {s0 s1 : Nat} {t : TypeId} {f0 f1 : Field} (ht : P.underlying t = some (.struct #[f0, f1])) (hc : P.cellsOf t = s0 + s1) (o0 : f0.offset = 0) (o1 : f1.offset = s0)
    (h0 : Opens enc P W f0.type R0 s0) (h1 : Opens enc P W f1.type R1 s1) : Opens enc P W t (PairR R0 R1) (s0 + s1) := by
  refine ⟨hc, fun n cs x hl h => ?_⟩
  obtain ⟨ys, k, hk, hxy, _, hxl, hf⟩ := DataW.trod_struct ht h
  have g0 := hf 0 f0 rfl
  rw [List.getElem?_eq_getElem (by rw [hxl]; simp)] at g0
  have g1 := hf 1 f1 rfl
  rw [List.getElem?_eq_getElem (by rw [hxl]; simp)] at g1
  rw [o0] at g0
  rw [o1] at g1
  exact opens_cons h0 0 (by simpa using hl) (by simpa using g0) (by rw [Nat.zero_add]; exact opens_last h1 s0 hl g1)
theorem opens_struct3 {α β γ : Type} {R0 : Rd α} {R1 : Rd β} {R2 : Rd γ} {s0 s1 s2 : Nat} {t : TypeId} {f0 f1 f2 : Field} (ht : P.underlying t = some (.struct #[f0, f1, f2])) (hc : P.cellsOf t = s0 + (s1 + s2)) (o0 : f0.offset = 0) (o1 : f1.offset = s0) (o2 : f2.offset = s0 + s1)
    (h0 : Opens enc P W f0.type R0 s0) (h1 : Opens enc P W f1.type R1 s1) (h2 : Opens enc P W f2.type R2 s2) : Opens enc P W t (PairR R0 (PairR R1 R2)) (s0 + (s1 + s2)) := by
  refine ⟨hc, fun n cs x hl h => ?_⟩
  obtain ⟨ys, k, hk, hxy, _, hxl, hf⟩ := DataW.trod_struct ht h
  have g0 := hf 0 f0 rfl
  rw [List.getElem?_eq_getElem (by rw [hxl]; simp)] at g0
  have g1 := hf 1 f1 rfl
  rw [List.getElem?_eq_getElem (by rw [hxl]; simp)] at g1
  have g2 := hf 2 f2 rfl
  rw [List.getElem?_eq_getElem (by rw [hxl]; simp)] at g2
  rw [o0] at g0
  rw [o1] at g1
  rw [o2] at g2
  exact opens_cons h0 0 (by simpa using hl) (by simpa using g0) (by rw [Nat.zero_add]; exact opens_cons h1 s0 hl g1 (opens_last h2 (s0 + s1) (by omega) g2))
end

/-! ### Filling a row that was made -/
def storeAll (w : World) (g : Nat) : Nat → List Value → World
  | _, [] => w
  | o, c :: cs => storeAll (w.setCell ⟨g, o, none⟩ c) g (o + 1) cs
def setAll (cur : Array Value) : Nat → List Value → Array Value
  | _, [] => cur
  | o, c :: cs => setAll (cur.setIfInBounds o c) (o + 1) cs
theorem setAll_size : ∀ (cs : List Value) (o : Nat) (cur : Array Value), (setAll cur o cs).size = cur.size
  | [], _, _ => rfl
  | c :: cs, o, cur => by rw [setAll, setAll_size cs]; simp
theorem setAll_list : ∀ (cs : List Value) (o : Nat) (cur : Array Value), o + cs.length ≤ cur.size → (setAll cur o cs).toList.take (o + cs.length) = cur.toList.take o ++ cs
  | [], o, cur, _ => by simp [setAll]
  | c :: cs, o, cur, h => by
    have h' : o + (cs.length + 1) ≤ cur.size := by simpa using h
    have ih := setAll_list cs (o + 1) (cur.setIfInBounds o c) (by simp; omega)
    rw [setAll, List.length_cons, show o + (cs.length + 1) = o + 1 + cs.length by omega, ih]
    have ho : o < cur.toList.length := by simp; omega
    rw [Array.toList_setIfInBounds, List.take_succ_eq_append_getElem (by simpa using ho), List.append_assoc]
    simp only [List.take_set, List.getElem_set_self, List.cons_append, List.nil_append]
    rw [List.set_eq_of_length_le (by simp; omega)]
theorem storeAll_heap {E : TypeId} {g : Nat} : ∀ (cs : List Value) (o : Nat) (w : World) (cur : Array Value), w.heap[g]? = some (.cells cur E (0, 0)) → (storeAll w g o cs).heap[g]? = some (.cells (setAll cur o cs) E (0, 0))
  | [], _, _, _, h => h
  | c :: cs, o, w, cur, h => storeAll_heap cs (o + 1) _ _ (heap_setCell_same w g o cur E c h)
theorem storeAll_far {g : Nat} : ∀ (cs : List Value) (o : Nat) (w : World) (k : Nat), k ≠ g → (storeAll w g o cs).heap[k]? = w.heap[k]?
  | [], _, _, _, _ => rfl
  | c :: cs, o, w, k, h => (storeAll_far cs (o + 1) _ k h).trans (Below.heap_setCell _ _ _ _ h)
theorem storeAll_size {g : Nat} : ∀ (cs : List Value) (o : Nat) (w : World), (storeAll w g o cs).heap.size = w.heap.size
  | [], _, _ => rfl
  | c :: cs, o, w => (storeAll_size cs (o + 1) _).trans (by simp [World.setCell])
theorem storeAll_grown {g : Nat} {S : Fp} {a : World} (hg : S g) : ∀ (cs : List Value) (o : Nat) (w : World), GrownS a w S → GrownS a (storeAll w g o cs) S
  | [], _, _, h => h
  | c :: cs, o, w, h => storeAll_grown hg cs (o + 1) _ (h.set_ (p := ⟨g, o, none⟩) hg c)
theorem ownsRow_fill {w : World} {E : TypeId} {sz base g k n : Nat} {vs : List Value} (h : w.ownsRow base E sz (.slice (some ⟨g, 0, none⟩) k n) k vs) (hk : k < n) {cs : List Value} (hc : cs.length = sz) :
    (storeAll w g (k * sz) cs).ownsRow base E sz (.slice (some ⟨g, 0, none⟩) (k + 1) n) (k + 1) (vs ++ cs) := by
  rcases h.2 with ⟨h', _⟩ | ⟨g', cap, cur, h', hb, hg, hnc, hcm, hcs, htake⟩
  · simp at h'
  · simp only [Value.slice.injEq, Option.some.injEq, Addr.mk.injEq, and_true, true_and] at h'
    obtain ⟨rfl, rfl⟩ := h'
    have hle : (k + 1) * sz ≤ n * sz := Nat.mul_le_mul_right _ (by omega)
    rw [Nat.add_mul, Nat.one_mul] at hle
    refine ⟨by rw [List.length_append, h.1, hc, Nat.add_mul]; omega, .inr ⟨g, n, setAll cur (k * sz) cs, rfl, hb, storeAll_heap cs _ w cur hg, by omega, hcm, by rw [setAll_size]; exact hcs, ?_⟩⟩
    have := setAll_list cs (k * sz) cur (by omega)
    rw [htake, hc] at this
    rw [Nat.add_mul, Nat.one_mul]
    exact this
/-- The cell that is to be stored is there. -/
theorem ownsRow_room {w : World} {E : TypeId} {sz base g k n : Nat} {vs : List Value} (h : w.ownsRow base E sz (.slice (some ⟨g, 0, none⟩) k n) k vs) (o : Nat) (ho : o < n * sz) : ∃ u, w.cell? ⟨g, o, none⟩ = some u := by
  rcases h.2 with ⟨h', _⟩ | ⟨g', cap, cur, h', hb, hg, hnc, hcm, hcs, htake⟩
  · simp at h'
  · simp only [Value.slice.injEq, Option.some.injEq, Addr.mk.injEq, and_true, true_and] at h'
    obtain ⟨rfl, rfl⟩ := h'
    rw [cell_of_row w g o cur E (0, 0) hg]
    exact ⟨cur[o]'(by omega), by simp [show o < cur.size by omega]⟩
/-- The next element of a row that is being filled. -/
theorem SlF.fill {α : Type} {O : Ow α} {R : Rd α} {sz : Nat} {E : TypeId} {w w' : World} {S T U : Fp} {g n : Nat} {xs : List α} {css : List (List Value)} {F : Nat → Fp} (ok : OOk O R sz) (h : SlF O sz E w S (some ⟨g, 0, none⟩) n xs css F) (hn : xs.length < n)
    {cs : List Value} {x : α} (hx : O w T cs x) (hd : ∀ k, T k → ¬ S k) (e : w' = storeAll w g (xs.length * sz) cs) (hU : ∀ k, S k ∨ T k → U k) (hUl : ∀ k, U k → k < w.heap.size) :
    SlF O sz E w' U (some ⟨g, 0, none⟩) n (xs ++ [x]) (css ++ [cs]) (fun j => if j = xs.length then T else F j) := by
  subst e
  refine h.push ok hx hd (ownsRow_fill h.row hn (ok.len hx)) (fun k _ hk => storeAll_far _ _ _ _ (fun e => hk (by rw [e]; rfl))) (fun k hk => .inl hk) (fun k hk => ?_) (fun k hk => by rw [storeAll_size]; exact hUl k hk)
  rcases hk with hk | hk | hk
  · exact hU k (.inl hk)
  · exact hU k (.inr hk)
  · exact hU k (.inl (h.top k hk))
/-- A row that was made, with nothing in it yet. -/
theorem SlF.made {α : Type} (O : Ow α) (sz : Nat) (E : TypeId) (w : World) (cur : Array Value) (n : Nat) (hm : n ≤ maxLen) (hs : cur.size = n * sz) {S : Fp} (hS : S w.heap.size) (hl : ∀ k, S k → k < w.heap.size + 1) :
    SlF O sz E (w.alloc (.cells cur E)) S (some ⟨w.heap.size, 0, none⟩) n ([] : List α) [] (fun _ _ => False) :=
  ⟨fun k hk => by simpa using hl k hk, fun k hk => by simp [blk] at hk; rw [← hk]; exact hS, World.ownsRow_made (base := 0) w cur n (Nat.zero_le _) hm hs, rfl, by simp, fun _ _ h => h.elim, fun _ _ _ h => h.elim, fun j h => absurd h (by simp)⟩
end Go.Proofs.Ytbgbomhlaobncaa

/- HELPER, no statement of the seat: entries and lists of entries: what they read as, and contracts of the functions that copy, compare, measure and mark them. -/
namespace Go.Proofs.Ytbgbomhlaobncaa
open Go.RowKit
set_option linter.unusedSimpArgs false
set_option linter.unusedVariables false

/-! ### Rows as data -/
def RowR : Rd (List Int) := fun w cs xs => ∃ A c, cs = [.slice A xs.length c] ∧ xs.length ≤ maxLen ∧ IntsAt w A xs
def RowO : Ow (List Int) := fun w S cs xs => (∀ k, S k → k < w.heap.size) ∧ ∃ A c, cs = [.slice A xs.length c] ∧ (∀ k, blk A = some k → S k) ∧ IntsOwn w 0 A c xs
theorem rowR : ROk RowR 1 := ⟨fun ⟨_, _, e, _⟩ => by rw [e]; rfl, fun ⟨A, c, e, l, h⟩ hb => ⟨A, c, e, l, h.below hb⟩⟩
theorem rowO : OOk RowO RowR 1 where
  len := fun ⟨_, _, _, e, _⟩ => by rw [e]; rfl
  lt := fun h => h.1
  loc := fun ⟨l, A, c, e, hS, h⟩ q => ⟨fun k hk => lt_of_heap (q k hk) (l k hk), A, c, e, hS, ownsRow_loc h (fun k hk => q k (hS k hk))⟩
  mono := fun ⟨_, A, c, e, hS, h⟩ s l => ⟨l, A, c, e, fun k hk => s k (hS k hk), h⟩
  rd := fun ⟨_, A, c, e, _, h⟩ => ⟨A, c, e, (by
    rcases ownsRow_form h with ⟨_, _, h3⟩ | ⟨g, _, _, _, h1, h2⟩
    · omega
    · omega), h.at_⟩
  one := fun ⟨_, _, _, e, _⟩ u hu => by rw [e] at hu; simp at hu; rw [hu]; rfl
theorem ints_of_sl {w : World} {A : Option Addr} {xs : List Int} (h : SlAt IntR 1 w A xs) : IntsAt w A xs := fun hn => by
  obtain ⟨b, off, e, hlt, hc⟩ := h hn
  refine ⟨b, off, e, hlt, fun j hj => ?_⟩
  obtain ⟨cs, _, hcell, hr⟩ := hc j hj
  have := hcell 0 (by omega)
  simp only [Nat.mul_one, Nat.add_zero] at this
  rw [this, hr]
  simp [hj]
theorem rowR_of_sl {w : World} {cs : List Value} {xs : List Int} (h : SlR IntR 1 w cs xs) : RowR w cs xs := by
  obtain ⟨A, c, e, l, h⟩ := h
  exact ⟨A, c, e, l, ints_of_sl h⟩

abbrev Ent := List Int × Int
def EntR : Rd Ent := PairR RowR IntR
def EntO : Ow Ent := PairO RowO IntO
theorem entR : ROk EntR 2 := pairR rowR intR
theorem entO : OOk EntO EntR 2 := pairO rowO intO
theorem EntR.form {w : World} {cs : List Value} {e : Ent} (h : EntR w cs e) : ∃ A c, cs = [.slice A e.1.length c, .int .i64 e.2] ∧ e.1.length ≤ maxLen ∧ IntsAt w A e.1 := by
  obtain ⟨c1, c2, rfl, ⟨A, c, rfl, l, h⟩, h2⟩ := h
  rw [h2]
  exact ⟨A, c, rfl, l, h⟩
theorem EntR.mk {w : World} {A : Option Addr} {c : Nat} {xs : List Int} {x : Int} (l : xs.length ≤ maxLen) (h : IntsAt w A xs) : EntR w [.slice A xs.length c, .int .i64 x] (xs, x) := ⟨[_], [_], rfl, ⟨A, c, rfl, l, h⟩, rfl⟩
theorem EntO.form {w : World} {S : Fp} {cs : List Value} {e : Ent} (h : EntO w S cs e) : ∃ A c, cs = [.slice A e.1.length c, .int .i64 e.2] ∧ (∀ k, blk A = some k → S k) ∧ IntsOwn w 0 A c e.1 := by
  obtain ⟨_, c1, c2, S1, S2, rfl, i1, _, _, ⟨_, A, c, rfl, hS, h⟩, h2, _⟩ := h
  rw [h2]
  exact ⟨A, c, rfl, fun k hk => i1 k (hS k hk), h⟩
theorem EntO.mk {w : World} {S : Fp} {A : Option Addr} {c : Nat} {xs : List Int} {x : Int} (hl : ∀ k, S k → k < w.heap.size) (hS : ∀ k, blk A = some k → S k) (h : IntsOwn w 0 A c xs) : EntO w S [.slice A xs.length c, .int .i64 x] (xs, x) :=
  ⟨hl, [_], [_], S, fun _ => False, rfl, fun _ hk => hk, fun _ hk => hk.elim, fun _ _ hk => hk, ⟨hl, A, c, rfl, hS, h⟩, rfl, fun _ hk => hk.elim⟩

abbrev EntsAt (w : World) (A : Option Addr) (es : List Ent) : Prop := SlAt EntR 2 w A es
theorem EntsAt.get {w : World} {A : Option Addr} {es : List Ent} (h : EntsAt w A es) (j : Nat) (hj : j < es.length) :
    ∃ b off RA rc, A = some ⟨b, off, none⟩ ∧ b < w.heap.size ∧ w.cell? ⟨b, off + j * 2, none⟩ = some (.slice RA es[j].1.length rc) ∧ w.cell? ⟨b, off + j * 2 + 1, none⟩ = some (.int .i64 es[j].2) ∧ es[j].1.length ≤ maxLen ∧ IntsAt w RA es[j].1 := by
  obtain ⟨b, off, rfl, hlt, hc⟩ := h (by omega)
  obtain ⟨cs, hl, hcell, hr⟩ := hc j hj
  obtain ⟨RA, rc, rfl, l, hi⟩ := hr.form
  exact ⟨b, off, RA, rc, rfl, hlt, by simpa using hcell 0 (by omega), by simpa using hcell 1 (by omega), l, hi⟩
def rowsIn (es : List Ent) (n : Nat) : Prop := ∀ e ∈ es, e.1.length ≤ n
theorem rowsIn.get {es : List Ent} {n : Nat} (h : rowsIn es n) {j : Nat} (hj : j < es.length) : es[j].1.length ≤ n := h _ (List.getElem_mem hj)

end Go.Proofs.Ytbgbomhlaobncaa

/- HELPER, no statement of the seat: append to a row of the call's own, from whatever slice, nil too; and where the result lies. Copies of rows. -/
namespace Go.Proofs.Ytbgbomhlaobncaa
open Go.RowKit
set_option linter.unusedSimpArgs false
set_option linter.unusedVariables false

section
variable {P : Program} (w : World)
theorem run_append_src (base : Nat) (t ty e : TypeId) (i : TypeInfo) (z : Value) (size bytes : Nat) (ht : P.underlying t = some (.slice e)) (hi : P.info? e = some i) (hz : i.zero = some z)
    (hsize : i.size = size) (hby : i.bytes = bytes) (hzs : z.cells.size = size) (hsz : 0 < size)
    (v : Value) (n : Nat) (xs : List Value) (hown : w.ownsRow base e size v n xs)
    (A : Option Addr) (m c : Nat) (news : List Value) (hl : news.length = m * size) (hA : A = none → m = 0) (hnews : ∀ a, A = some a → ∀ j u, news[j]? = some u → w.cell? (a.add j) = some u) (h1 : ∀ u ∈ news, u.oneCell' = true)
    (h63 : n + m ≤ maxLen) (hbytes : (n + m) * bytes ≤ 140737488355328) (hbase : base ≤ w.heap.size) :
    ∃ v' w', (Builtin.append_ #[t, t] ty #[v, .slice A m c]).run P w = .ok v' w' ∧ w'.ownsRow base e size v' (n + m) (xs ++ news) ∧ w.grownBy w' v.ownBlock ∧ ∀ k, v'.ownBlock = some k → v.ownBlock = some k ∨ w.heap.size ≤ k := by
  cases A with
  | none =>
    obtain rfl := hA rfl
    have hn : news = [] := List.eq_nil_of_length_eq_zero (by simpa using hl)
    subst hn
    refine ⟨v, w, ?_, by simpa using hown, ⟨rfl, rfl, rfl, Nat.le_refl _, fun _ _ _ => rfl⟩, fun k hk => .inl hk⟩
    rcases hown.2 with ⟨rfl, rfl⟩ | ⟨g, cap, cur, rfl, hb, hg, hnc, _⟩
    · simp [Builtin.append_, run_underlying ht, sizeOf, typeInfo, hi, Builtin.lenOf, Builtin.firstCells, loadCells, loadCellsFrom]
    · simp [Builtin.append_, run_underlying ht, sizeOf, typeInfo, hi, Builtin.lenOf, Builtin.firstCells, loadCells, loadCellsFrom, hnc, storeCells]
  | some a =>
    have hnews := hnews a rfl
    obtain ⟨v', w', hr, ho, hg, _⟩ := run_append_own (P := P) w base t ty e i z size bytes ht hi hz hsize hby hzs hsz v n xs hown a m c news hl hnews h1 h63 hbytes hbase
    refine ⟨v', w', hr, ho, hg, ?_⟩
    rcases hown.2 with ⟨rfl, rfl⟩ | ⟨g, cap, cur, rfl, hb, hgg, hnc, hcm, hcs, htake⟩
    · have hx : xs = [] := List.eq_nil_of_length_eq_zero (by simpa using hown.1)
      subst hx
      obtain ⟨v2, w2, hr2, ho2, _, _⟩ := run_append_own (P := P) w w.heap.size t ty e i z size bytes ht hi hz hsize hby hzs hsz (.slice none 0 0) 0 [] (World.ownsRow_nil _ _ _ _) a m c news hl hnews h1 h63 hbytes (Nat.le_refl _)
      rw [hr] at hr2
      injection hr2 with e1 e2
      subst e1
      intro k hk
      exact .inr (World.ownsRow.lt ho2 k hk).1
    · subst hsize
      subst hby
      intro k hk
      by_cases hroom : n + m ≤ cap
      · have hfit : n * i.size + news.length ≤ cur.size := by rw [hl, hcs, ← Nat.add_mul]; exact Nat.mul_le_mul_right _ hroom
        have hr2 := run_append_room (P := P) w t ty e i ht hi g n cap cur hgg a m c news hl hnews h1 hroom hfit
        rw [hr] at hr2
        injection hr2 with e1 e2
        subst e1
        exact .inl hk
      · have holds : ∀ j u, xs[j]? = some u → w.cell? ((⟨g, 0, none⟩ : Addr).add j) = some u := World.ownsRow.cells hown (g := g) rfl
        have hr2 := run_append_grow (P := P) w t ty e i z ht hi hz ⟨g, 0, none⟩ n cap xs hown.1 holds a m c news hl hnews (by omega) (by simp only [maxLen] at h63; omega) (growslice_fits (by simp only [maxLen] at h63; omega) hbytes)
        rw [hr] at hr2
        injection hr2 with e1 e2
        subst e1
        simp [Value.ownBlock] at hk
        exact .inr (by omega)
theorem wpList_append_src {ops : Array Oper} {rest : List Oper} {o : Oper} {a : Act} {Q : Exit → Act → World → Prop} (hgd : o.guard = none) (s x : Operand) (t : TypeId)
    (ho : o.op = .call { callee := .builtin .append, args := #[s, x], argTypes := #[t, t] })
    (base : Nat) (e : TypeId) (i : TypeInfo) (z : Value) (size bytes : Nat) (ht : P.underlying t = some (.slice e)) (hi : P.info? e = some i) (hz : i.zero = some z)
    (hsize : i.size = size) (hby : i.bytes = bytes) (hzs : z.cells.size = size) (hsz : 0 < size)
    (v : Value) (n : Nat) (xs : List Value) (hs : a.eval s = v) (hown : w.ownsRow base e size v n xs)
    (A : Option Addr) (m c : Nat) (news : List Value) (hx : a.eval x = .slice A m c) (hl : news.length = m * size) (hA : A = none → m = 0) (hnews : ∀ a, A = some a → ∀ j u, news[j]? = some u → w.cell? (a.add j) = some u) (h1 : ∀ u ∈ news, u.oneCell' = true)
    (h63 : n + m ≤ maxLen) (hbytes : (n + m) * bytes ≤ 140737488355328) (hbase : base ≤ w.heap.size)
    (h : ∀ v' w', w'.ownsRow base e size v' (n + m) (xs ++ news) → w.grownBy w' v.ownBlock → (∀ k, v'.ownBlock = some k → v.ownBlock = some k ∨ w.heap.size ≤ k) → wpList P ops Q rest (a.put o.dst v') w') : wpList P ops Q (o :: rest) a w := by
  refine wpList_plain hgd fun K hK => ?_
  obtain ⟨v', w', hr, h2, h3, h4⟩ := run_append_src (P := P) w base t o.type e i z size bytes ht hi hz hsize hby hzs hsz v n xs hown A m c news hl hA hnews h1 h63 hbytes hbase
  unfold Oper.wp execOp
  simp only [ho, resolve, invoke, builtin, Sem.run_bind, Sem.run_pure, Result.andThen_ok, List.map_toArray, List.map_cons, List.map_nil, hs, hx, hr]
  exact hK _ _ (h v' w' h2 h3 h4)
end

theorem ints_src {w : World} {A : Option Addr} {xs : List Int} (h : IntsAt w A xs) :
    (A = none → xs.length = 0) ∧ ∀ a, A = some a → ∀ j u, (xs.map (Value.int .i64))[j]? = some u → w.cell? (a.add j) = some u := by
  refine ⟨fun e => ?_, fun a e j u hu => ?_⟩
  · rcases Nat.eq_zero_or_pos xs.length with h0 | hp
    · exact h0
    · obtain ⟨b, off, e', _⟩ := h hp
      rw [e] at e'; cases e'
  · have hj : j < xs.length := by
      rcases Nat.lt_or_ge j xs.length with hj | hj
      · exact hj
      · rw [List.getElem?_eq_none (by simpa using hj)] at hu; cases hu
    obtain ⟨b, off, e', _, hc⟩ := h (by omega)
    rw [e] at e'
    injection e' with e'
    subst e'
    have ha : (⟨b, off, none⟩ : Addr).add j = ⟨b, off + j, none⟩ := by unfold Addr.add; by_cases h0 : j = 0 <;> simp [h0]
    rw [ha, hc j hj]
    simp [hj] at hu ⊢
    exact hu
theorem ints_one (xs : List Int) : ∀ u ∈ xs.map (Value.int .i64), u.oneCell' = true := by
  intro u hu
  obtain ⟨x, _, rfl⟩ := List.mem_map.1 hu
  rfl

end Go.Proofs.Ytbgbomhlaobncaa

/- HELPER, no statement of the seat: contracts of the functions that copy, measure and compare lists of entries. -/
namespace Go.Proofs.Ytbgbomhlaobncaa
open Go.RowKit Go.Sort
set_option linter.unusedSimpArgs false
set_option linter.unusedVariables false

theorem cgrow {w : World} {b o : Nat} {v : Value} (h : w.cell? ⟨b, o, none⟩ = some v) : ∀ d os, (grow (redrawn w d) os).cell? ⟨b, o, none⟩ = some v := fun d os => cell_regrown h d os

/-- The blocks that have come since w, up to now. -/
def news (w w' : World) : Fp := fun k => w.heap.size ≤ k ∧ k < w'.heap.size

theorem rowO_new {w w' : World} {g : Nat} {xs : List Int} (hg : w.heap.size ≤ g) (hk : Blk w' g 3 (ints xs)) (hn : xs.length ≤ maxLen) (x : Int) : EntO w' (news w w') [.slice (some ⟨g, 0, none⟩) xs.length xs.length, .int .i64 x] (xs, x) :=
  EntO.mk (fun k hk => hk.2) (fun k e => by simp [blk] at e; subst e; exact ⟨hg, hk.lt⟩) (IntsOwn.ofBlk hk (Nat.zero_le _) hn)

def lenSum (es : List Ent) : Nat := (es.map fun e => e.1.length).sum
theorem lenSum_step {es : List Ent} {k : Nat} (h : k < es.length) : lenSum (es.take (k + 1)) = lenSum (es.take k) + es[k].1.length := by
  rw [List.take_succ_eq_append_getElem h]
  simp only [lenSum, List.map_append, List.sum_append, List.map_cons, List.map_nil, List.sum_cons, List.sum_nil, Nat.add_zero]
theorem lenSum_le (es : List Ent) (k : Nat) : lenSum (es.take k) ≤ lenSum es := by
  have : lenSum es = lenSum (es.take k) + lenSum (es.drop k) := by
    rw [lenSum, lenSum, lenSum, ← List.sum_append, ← List.map_append, List.take_append_drop]
  omega

/-- The measure of a list of entries; what is left behind it. -/
def entSz (es : List Ent) : Int := es.length + lenSum es
def entLeft (left : Int) (es : List Ent) : Int := if left < entSz es then -1 else left - entSz es
def eqE (x y : Ent) : Bool := decide (x = y)
theorem take_eq_stepE {α : Type} {xs ys : List α} {k : Nat} (h1 : k < xs.length) (h2 : k < ys.length) (h : xs.take k = ys.take k) (e : xs[k] = ys[k]) : xs.take (k + 1) = ys.take (k + 1) := by
  rw [List.take_succ_eq_append_getElem h1, List.take_succ_eq_append_getElem h2, h, e]
end Go.Proofs.Ytbgbomhlaobncaa

/- HELPER, no statement of the seat: Z-sets as lists; no program. -/
namespace Go.Proofs.Ytbgbomhlaobncaa
set_option linter.unusedSimpArgs false
set_option linter.unusedVariables false

/-- p holds of all numbers below k. -/
def allTo (p : Nat → Bool) (k : Nat) : Bool := (List.range k).all p
theorem allTo_zero (p : Nat → Bool) : allTo p 0 = true := rfl
theorem allTo_step {p : Nat → Bool} {k : Nat} (h : allTo p k = true) (hp : p k = true) : allTo p (k + 1) = true := by
  unfold allTo at *
  rw [List.range_succ, List.all_append, h]
  simp [hp]
theorem allTo_bad {p : Nat → Bool} {k n : Nat} (hk : k < n) (hp : p k = false) : allTo p n = false := by
  unfold allTo
  rw [List.all_eq_false]
  exact ⟨k, by simpa using hk, by simp [hp]⟩
theorem allTo_iff {p : Nat → Bool} {n : Nat} : allTo p n = true ↔ ∀ k, k < n → p k = true := by
  unfold allTo
  simp [List.all_eq_true]
theorem allTo_and {p q : Nat → Bool} {n : Nat} : allTo (fun k => p k && q k) n = (allTo p n && allTo q n) := by
  rw [Bool.eq_iff_iff]
  simp only [allTo_iff, Bool.and_eq_true]
  exact ⟨fun h => ⟨fun k hk => (h k hk).1, fun k hk => (h k hk).2⟩, fun h k hk => ⟨h.1 k hk, h.2 k hk⟩⟩

def wtB (x : Int) : Bool := inB x (-1000000) 1000000
def nth (z : List Ent) (j : Nat) : Ent := z.getD j ([], 0)
theorem nth_get {z : List Ent} {j : Nat} (h : j < z.length) : nth z j = z[j] := by simp [nth, h]
def wid (z : List Ent) : Nat := (nth z 0).1.length
/-- An entry that may be added. -/
def sumE (e : Ent) : Bool := rowB e.1 && wtB e.2
/-- An entry in its place. -/
def stepB (z : List Ent) (j : Nat) : Bool := decide ((nth z j).2 ≠ 0) && (decide ((nth z j).1.length = wid z) && (decide (j = 0) || lessB (nth z (j - 1)).1 (nth z j).1))
def sumsB (z : List Ent) : Bool := allTo (fun j => sumE (nth z j)) z.length
def ordB (z : List Ent) : Bool := allTo (stepB z) z.length
def zsB (z : List Ent) : Bool := decide (z.length ≤ 400) && (sumsB z && ordB z)
theorem zsB_len {z : List Ent} (h : zsB z = true) : z.length ≤ 400 := by
  simp only [zsB, Bool.and_eq_true, decide_eq_true_eq] at h
  exact h.1
theorem zsB_all {z : List Ent} : zsB z = (allTo (fun j => sumE (nth z j) && stepB z j) z.length && decide (z.length ≤ 400)) := by
  rw [allTo_and, zsB, sumsB, ordB, Bool.and_comm]
theorem zsB_get {z : List Ent} (h : zsB z = true) {j : Nat} (hj : j < z.length) : rowB z[j].1 = true ∧ wtB z[j].2 = true ∧ z[j].2 ≠ 0 ∧ z[j].1.length = wid z := by
  rw [zsB_all] at h
  simp only [Bool.and_eq_true] at h
  have := allTo_iff.1 h.1 j hj
  simp only [sumE, stepB, Bool.and_eq_true, decide_eq_true_eq, nth_get hj] at this
  exact ⟨this.1.1, this.1.2, this.2.1, this.2.2.1⟩
theorem zsB_row {z : List Ent} (h : zsB z = true) : rowsIn z 6 := by
  intro e he
  obtain ⟨j, hj, rfl⟩ := List.getElem_of_mem he
  exact row_len (zsB_get h hj).1
theorem zsB_wt {z : List Ent} (h : zsB z = true) {j : Nat} (hj : j < z.length) : -1000000 ≤ z[j].2 ∧ z[j].2 ≤ 1000000 := by
  have := (zsB_get h hj).2.1
  simpa [wtB, inB] using this

/-! ### Weights -/
def totW (z : List Ent) : Int := (z.map (·.2)).sum
theorem totW_step {z : List Ent} {k : Nat} (h : k < z.length) : totW (z.take (k + 1)) = totW (z.take k) + z[k].2 := by
  rw [List.take_succ_eq_append_getElem h]
  simp only [totW, List.map_append, List.sum_append, List.map_cons, List.map_nil, List.sum_cons, List.sum_nil, Int.add_zero]
theorem totW_bd {z : List Ent} (h : ∀ e ∈ z, -1000000 ≤ e.2 ∧ e.2 ≤ 1000000) : ∀ k : Nat, -1000000 * (k : Int) ≤ totW (z.take k) ∧ totW (z.take k) ≤ 1000000 * k := by
  intro k
  induction k with
  | zero => simp [totW]
  | succ k ih =>
    by_cases hk : k < z.length
    · rw [totW_step hk]
      have := h _ (List.getElem_mem hk)
      constructor <;> push_cast <;> omega
    · rw [List.take_of_length_le (by omega)]
      rw [List.take_of_length_le (by omega)] at ih
      constructor <;> push_cast <;> omega
def TotF (z : List Ent) : Int := if zsB z = true then totW z else 0
def wOf (z : List Ent) (r : List Int) : Int := ((z.find? fun e => decide (e.1 = r)).map (·.2)).getD 0
def WeightF (z : List Ent) (r : List Int) : Int := if zsB z = true then wOf z r else 0
/-- None of the first k entries is of the row r. -/
def noneTo (z : List Ent) (r : List Int) (k : Nat) : Prop := ∀ e ∈ z.take k, e.1 ≠ r
theorem noneTo_zero (z : List Ent) (r : List Int) : noneTo z r 0 := fun e he => by simp at he
theorem noneTo_step {z : List Ent} {r : List Int} {k : Nat} (h : noneTo z r k) (hk : k < z.length) (hn : z[k].1 ≠ r) : noneTo z r (k + 1) := by
  intro e he
  rw [List.take_succ_eq_append_getElem hk] at he
  rcases List.mem_append.1 he with he | he
  · exact h e he
  · simp at he; subst he; exact hn
theorem wOf_hit {z : List Ent} {r : List Int} {k : Nat} (h : noneTo z r k) (hk : k < z.length) (hr : z[k].1 = r) : wOf z r = z[k].2 := by
  have : (z.find? fun e => decide (e.1 = r)) = some z[k] := by
    have e : z.find? (fun e => decide (e.1 = r)) = (z.take k ++ z.drop k).find? (fun e => decide (e.1 = r)) := by rw [List.take_append_drop]
    rw [e, List.find?_append, List.find?_eq_none.2 (by intro x hx; simpa using h x hx), List.drop_eq_getElem_cons hk, Option.none_or, List.find?_cons_of_pos (by simp [hr])]
  rw [wOf, this]; rfl
theorem wOf_none {z : List Ent} {r : List Int} (h : noneTo z r z.length) : wOf z r = 0 := by
  rw [noneTo, List.take_length] at h
  rw [wOf, List.find?_eq_none.2 (by intro x hx; simpa using h x hx)]
  rfl
def oneB (z : List Ent) : Bool := allTo (fun j => decide ((nth z j).2 = 1)) z.length
def setB (z : List Ent) : Bool := zsB z && oneB z
def negL (z : List Ent) : List Ent := z.map fun e => (e.1, -e.2)
def NegF (z : List Ent) : List Ent := if zsB z = true then negL z else []
def disL (z : List Ent) : List Ent := (z.filter fun e => decide (0 < e.2)).map fun e => (e.1, 1)
def DisF (z : List Ent) : List Ent := if zsB z = true then disL z else []
theorem disL_step {z : List Ent} {k : Nat} (h : k < z.length) : disL (z.take (k + 1)) = disL (z.take k) ++ if 0 < z[k].2 then [(z[k].1, 1)] else [] := by
  rw [List.take_succ_eq_append_getElem h]
  unfold disL
  rw [List.filter_append, List.map_append]
  congr 1
  by_cases hp : 0 < z[k].2 <;> simp [hp]
end Go.Proofs.Ytbgbomhlaobncaa
