/- HELPER, no statement of the seat: several texts in one file. -/
import Derived.Test.YtffgonddephkkaaGreatGrf
import Derived.Test.YtffgonddephkkaaGreatTmH
import Derived.Test.YtffgonddephkkaaGreatBlu
import Derived.Test.YtffgonddephkkaaGreatVwa
import Derived.Test.YtffgonddephkkaaGreatCpt
/- HELPER, no statement of the seat: drawn regions in which operations make memory that must be told apart: each operation has a birth interval (the heap's size before it and behind it), and the intervals do not overlap. -/
namespace Go.Proofs.YtffgonddephkkaaGreat
namespace Rgo
open Go.RowKit
set_option linter.unusedSimpArgs false
set_option linter.unusedVariables false

def Ap (x y : Nat × Nat) : Prop := x.2 ≤ y.1 ∨ y.2 ≤ x.1
def ApartB (B : List (Nat × Nat)) : Prop := ∀ i j, i < j → j < B.length → Ap (B.getD i (0, 0)) (B.getD j (0, 0))
def BornB (w0 w : World) (B : List (Nat × Nat)) : Prop := ∀ i, i < B.length → w0.heap.size ≤ (B.getD i (0, 0)).1 ∧ (B.getD i (0, 0)).1 ≤ (B.getD i (0, 0)).2 ∧ (B.getD i (0, 0)).2 ≤ w.heap.size
theorem apartB_of {bl bh : Nat → Nat} {n : Nat} (h : ∀ i j, i < n → j < n → i ≠ j → bh i ≤ bl j ∨ bh j ≤ bl i) : ApartB ((List.range n).map (fun j => (bl j, bh j))) := fun i j hij hj => by
  have hj' : j < n := by simpa using hj
  have h1 := getD_range_map (fun j => (bl j, bh j)) (0, 0) n i (by omega)
  have h2 := getD_range_map (fun j => (bl j, bh j)) (0, 0) n j hj'
  rw [h1, h2]
  exact h i j (by omega) hj' (by omega)
theorem bornB_of {w0 w : World} {bl bh : Nat → Nat} {n : Nat} (h : ∀ k, k < n → w0.heap.size ≤ bl k ∧ bl k ≤ bh k ∧ bh k ≤ w.heap.size) : BornB w0 w ((List.range n).map (fun j => (bl j, bh j))) := fun i hi => by
  have hi' : i < n := by simpa using hi
  rw [getD_range_map (fun j => (bl j, bh j)) (0, 0) n i hi']
  exact h i hi'
/-- The walk in the order of the text. -/
def wpFacts (P : Program) (ops : Array Oper) (w0 : World) (R : Act → World → Prop) : List (List Nat × (Nat → Nat → Value → World → Prop)) → List Oper → List (World → Prop) → List (Nat × Nat) → Act → Prop
  | (p, d) :: Ds, o :: l, F, B, a => (∀ w, Below w0.heap.size w0 w → holds F w p → wpList P ops (OpPost o a (fun v w' => d w.heap.size w'.heap.size v w') w) [o] a w) ∧ ∀ v lo hi, wpFacts P ops w0 R Ds l (F ++ [d lo hi v]) (B ++ [(lo, hi)]) (a.put o.dst v)
  | _, _, F, B, a => ∀ w, Below w0.heap.size w0 w → allOf w F → ApartB B → BornB w0 w B → R a w
section
variable {P : Program} {ops : Array Oper} {Q : Exit → Act → World → Prop} {w0 : World} {a0 : Act} {n : Nat} {D : Nat → Nat → Nat → Value → World → Prop}
theorem facts_sound {pre : List (List Nat)} (ht : TextOk ops pre n) (hD : ∀ k lo hi v w w', Below w.heap.size w w' → D k lo hi v w → D k lo hi v w')
    (step : ∀ k o, k < n → ops[k]? = some o → ∀ (vs : Nat → Value) (bl bh : Nat → Nat) w, Below w0.heap.size w0 w → (∀ j ∈ preOf pre n k, D j (bl j) (bh j) (vs j) w) → wpList P ops (OpPost o (lay ops a0 vs k) (fun v w' => D k w.heap.size w'.heap.size v w') w) [o] (lay ops a0 vs k) w)
    (done : ∀ (vs : Nat → Value) (bl bh : Nat → Nat) w, Below w0.heap.size w0 w → (∀ k, k < n → D k (bl k) (bh k) (vs k) w) → (∀ k, k < n → w0.heap.size ≤ bl k ∧ bl k ≤ bh k ∧ bh k ≤ w.heap.size) → (∀ i j, i < n → j < n → i ≠ j → bh i ≤ bl j ∨ bh j ≤ bl i) → wpList P ops Q (ops.toList.drop n) (lay ops a0 vs n) w) :
    ∀ (fuel : Nat) (listed : Array Bool) (vs : Nat → Value) (bl bh : Nat → Nat) (w : World), listed.size = ops.size → Closed ops pre n listed → (∀ k, n ≤ k → listed.getD k false = false) → Below w0.heap.size w0 w →
      (∀ k, k < n → listed.getD k false = true → D k (bl k) (bh k) (vs k) w) → (∀ k, k < n → listed.getD k false = true → w0.heap.size ≤ bl k ∧ bl k ≤ bh k ∧ bh k ≤ w.heap.size) → (∀ i j, i < n → j < n → listed.getD i false = true → listed.getD j false = true → i ≠ j → bh i ≤ bl j ∨ bh j ≤ bl i) → cnt listed ops.size = fuel → wpAny P .any ops Q fuel listed (layL ops a0 listed vs n) w := by
  intro fuel
  induction fuel with
  | zero =>
    intro listed vs bl bh w hs hc hno hb hf hgg hqq hcnt
    have hall := cnt_zero _ hcnt
    have hn : n = ops.size := by
      rcases Nat.lt_or_ge n ops.size with h | h
      · have h1 := hall n h
        rw [hno n (Nat.le_refl _)] at h1; cases h1
      · have := ht.le; omega
    rw [layL_all n (fun k hk => hall k (by have := ht.le; omega))]
    exact tail_sound ht 0 n listed _ w (by omega) (Nat.le_refl _) hs hc (fun j => ⟨fun h => (by
      rcases Nat.lt_or_ge j n with h' | h'
      · exact h'
      · rw [hno j h'] at h; exact (Bool.noConfusion h)), fun h => hall j (by omega)⟩) (done vs bl bh w hb (fun k hk => hf k hk (hall k (by omega))) (fun k hk => hgg k hk (hall k (by omega))) (fun i j hi hj => hqq i j hi hj (hall i (by omega)) (hall j (by omega))))
  | succ fuel ih =>
    intro listed vs bl bh w hs hc hno hb hf hgg hqq hcnt
    by_cases hall : ∀ k, k < n → listed.getD k false = true
    · rw [layL_all n hall]
      have hcn : cnt listed ops.size = ops.size - n := by
        have : ∀ m, n ≤ m → cnt listed m = m - n := by
          intro m
          induction m with
          | zero => intro h; simp [cnt]
          | succ m ihm =>
            intro h
            rcases Nat.lt_or_ge n (m + 1) with h' | h'
            · unfold cnt
              rw [ihm (by omega), hno m (by omega)]
              simp; omega
            · rw [cnt_all (m + 1) (fun k hk => hall k (by omega))]; omega
        exact this _ ht.le
      refine tail_sound ht (fuel + 1) n listed _ w (by have h1 := ht.le; omega) (Nat.le_refl _) hs hc (fun j => ⟨fun h => ?_, fun h => hall j h⟩) (done vs bl bh w hb (fun k hk => hf k hk (hall k hk)) (fun k hk => hgg k hk (hall k hk)) (fun i j hi hj => hqq i j hi hj (hall i hi) (hall j hj)))
      rcases Nat.lt_or_ge j n with h' | h'
      · exact h'
      · rw [hno j h'] at h; cases h
    · obtain ⟨k, hk, hkf, hkb⟩ := first_open ops.size (by omega : cnt listed ops.size ≠ 0)
      have hkr := ready_first ht hs hk hkf hkb
      refine ⟨fun h0 => (by rw [h0] at hkr; cases hkr), fun i hi => ?_⟩
      obtain ⟨hi0, o, ho, _⟩ := mem_ready.1 hi
      have hisz := (Array.getElem?_eq_some_iff.1 ho).1
      have hin : i < n := by
        rcases Nat.lt_or_ge i n with h | h
        · exact h
        · exact absurd (fun k hk => ready_pre ht hc hi k (by simp [preOf, show ¬ i < n by omega]; omega)) hall
      have hif : listed.getD i false = false := by simp [hs, hisz] at hi0 ⊢; exact hi0
      have hpre := ready_pre ht hc hi
      have hlt : ∀ j ∈ preOf pre n i, j < i := fun j hj => (ht.waits i o ho j hj).1
      have hst := step i o hin ho vs bl bh w hb (fun j hj => hf j (by have := hlt j hj; omega) (hpre j hj))
      have htmp : ∀ t ∈ o.looksAt ops, (layL ops a0 listed vs n).tmps[t]? = (lay ops a0 vs i).tmps[t]? := by
        intro t htl
        have := tmp_lay (a0 := a0) (vs := vs) (ops := ops) (n := n) (listed := listed) (t := t) (k := i) (fun j hj hd => by
          by_cases hji : j = i
          · subst hji
            have : o.dst = some t := by simpa [opDst, ho] using hd
            exact absurd htl (ht.own j o ho hin t this)
          · have hjp := (ht.dst i o ho hin j hj hji t hd).2 htl
            exact ⟨hlt j hjp, hpre j hjp⟩) n (Nat.le_refl _)
        rw [this, show min n i = i by omega]
      have hex : execOp (layL ops a0 listed vs n).eval o = execOp (lay ops a0 vs i).eval o :=
        execOp_congr o (fun cs b => Region.noSelect_spec ht.sel i o cs b ho) (fun x hx => by
          cases x with
          | tmp t =>
            have := htmp t (List.mem_append_left _ (List.mem_filterMap.2 ⟨.tmp t, by simpa using hx, rfl⟩))
            simp only [Act.eval, Array.getD_eq_getD_getElem?, this]
          | _ => rfl)
      have hwa : Region.wanted o (yielded ops (layL ops a0 listed vs n).tmps) = Region.wanted o (yielded ops (lay ops a0 vs i).tmps) := by
        unfold Region.wanted
        cases hg : o.guard with
        | none => rfl
        | some gw =>
          obtain ⟨g, want⟩ := gw
          have hy : yielded ops (layL ops a0 listed vs n).tmps g = yielded ops (lay ops a0 vs i).tmps g := by
            unfold yielded
            cases hd : (ops[g]?).bind (·.dst) with
            | none => rfl
            | some t =>
              have := htmp t (by simp [Oper.looksAt, hg, hd])
              simp only [Option.bind_some, this]
          simp only [hy]
      have hdst : opDst ops i = o.dst := by simp [opDst, ho]
      have go : ∀ v w', Below w.heap.size w w' → D i w.heap.size w'.heap.size v w' → wpAny P .any ops Q fuel (listed.setIfInBounds i true) ((layL ops a0 listed vs n).put o.dst v) w' := by
        intro v w' hb' hd'
        have hput := layL_put (ops := ops) (a0 := a0) (n := n) (listed := listed) (vs := vs) (vs' := fun j => if j = i then v else vs j) (i := i) hif (by omega) (fun k hk => by simp [hk])
          (fun j hj hji d hd => by rw [hdst]; exact (ht.dst i o ho hin j hj hji d hd).1) n (Nat.le_refl _) hin
        simp only [if_true, hdst] at hput
        rw [← hput]
        have hcnt' := cnt_set hi0 ops.size hisz
        refine ih _ _ (fun j => if j = i then w.heap.size else bl j) (fun j => if j = i then w'.heap.size else bh j) w' (by simpa using hs) (closed_set ht hc hi) (fun k hk => ?_) (hb.trans (hb'.mono hb.size)) (fun k hk hl => ?_) (fun k hk hl => ?_) (fun k m hk hm hkl hml hne => ?_) (by omega)
        · rw [getD_set_ne false (by omega)]; exact hno k hk
        · by_cases hki : k = i
          · subst hki; simpa using hd'
          · rw [getD_set_ne false (Ne.symm hki)] at hl
            simp only [hki, if_false]
            exact hD k _ _ _ w w' hb' (hf k hk hl)
        · by_cases hki : k = i
          · subst hki
            simp only [if_true]
            exact ⟨hb.size, hb'.size, Nat.le_refl _⟩
          · rw [getD_set_ne false (Ne.symm hki)] at hl
            simp only [hki, if_false]
            have h1 := hgg k hk hl
            have h2 := hb'.size
            omega
        · by_cases hki : k = i
          · subst hki
            have hmk : ¬ m = k := fun e => hne e.symm
            rw [getD_set_ne false (Ne.symm hmk)] at hml
            simp only [if_true, hmk, if_false]
            have h1 := hgg m hm hml
            omega
          · rw [getD_set_ne false (Ne.symm hki)] at hkl
            by_cases hmi : m = i
            · subst hmi
              simp only [if_true, hki, if_false]
              have h1 := hgg k hk hkl
              omega
            · rw [getD_set_ne false (Ne.symm hmi)] at hml
              simp only [hki, hmi, if_false]
              exact hqq k m hk hm hkl hml hne
      unfold wpOp
      simp only [ho]
      unfold wpList at hst
      rw [hwa]
      have fin : ∀ v w', OpPost o (lay ops a0 vs i) (fun v w' => D i w.heap.size w'.heap.size v w') w .normal ((lay ops a0 vs i).put o.dst v) w' → wpAny P .any ops Q fuel (listed.setIfInBounds i true) ((layL ops a0 listed vs n).put o.dst v) w' := by
        intro v w' ⟨_, u, he, hb', hd'⟩
        have hu : (layL ops a0 listed vs n).put o.dst v = (layL ops a0 listed vs n).put o.dst u := by
          cases hd : o.dst with
          | none => rfl
          | some d =>
            rw [hd] at he
            have h1 : (lay ops a0 vs i).tmps.setIfInBounds d v = (lay ops a0 vs i).tmps.setIfInBounds d u := congrArg Act.tmps he
            have hsz : (lay ops a0 vs i).tmps.size = (layL ops a0 listed vs n).tmps.size := by
              have s1 : ∀ m, (lay ops a0 vs m).tmps.size = a0.tmps.size := by
                intro m
                induction m with
                | zero => rfl
                | succ m ih => unfold lay; cases opDst ops m <;> simpa [Act.put] using ih
              have s2 : ∀ m, (layL ops a0 listed vs m).tmps.size = a0.tmps.size := by
                intro m
                induction m with
                | zero => rfl
                | succ m ih =>
                  unfold layL
                  split
                  · cases opDst ops m <;> simpa [Act.put] using ih
                  · exact ih
              rw [s1, s2]
            by_cases hlt : d < (lay ops a0 vs i).tmps.size
            · have h2 : ((lay ops a0 vs i).tmps.setIfInBounds d v)[d]? = ((lay ops a0 vs i).tmps.setIfInBounds d u)[d]? := by rw [h1]
              simp only [Array.getElem?_setIfInBounds, hlt, if_true] at h2
              injection h2 with h2
              rw [h2]
            · simp only [Act.put]
              rw [Array.setIfInBounds_eq_of_size_le (by rw [← hsz]; exact Nat.le_of_not_lt hlt), Array.setIfInBounds_eq_of_size_le (by rw [← hsz]; exact Nat.le_of_not_lt hlt)]
        rw [hu]
        exact go u w' hb' hd'
      split
      · rename_i hwant
        rw [if_pos hwant] at hst
        rcases hst with hst | ⟨_, a', w', h, _⟩
        · left
          unfold Oper.wp at *
          rw [hex]
          generalize (execOp (lay ops a0 vs i).eval o).run P w = r at *
          cases r with
          | ok x w' =>
            cases x <;> simp only [Oper.upon] at hst ⊢
            case value u => exact fin u w' (by simpa [wpList] using hst)
            case skip => exact fin undef w' (by simpa [wpList] using hst)
            case defer d =>
              simp only [wpList, OpPost] at hst
              obtain ⟨_, v, he, _⟩ := hst
              exfalso
              have h1 := congrArg Act.defers he
              have h2 : ∀ (a : Act) (x : Option Tmp) (v : Value), (a.put x v).defers = a.defers := by intro a x v; cases x <;> rfl
              rw [h2, h2] at h1
              simp at h1
            case enter f args =>
              refine Calls.mono hst fun e w'' he => ?_
              cases e with
              | returned u => exact fin u w'' (by simpa [wpList] using he)
              | panicked c => exact absurd he.1 (by simp)
              | outgrown => obtain ⟨a', w3, h, _⟩ := he; cases h
            case row row args => exact Rows.mono hst fun u w'' he => fin u w'' (by simpa [wpList] using he)
          | halt x w' =>
            cases x <;> simp only [Oper.upon] at hst ⊢
            case panic u => exact absurd hst.1 (by simp)
        · cases h
      · rename_i hwant
        rw [if_neg hwant] at hst
        exact fin undef w (by simpa [wpList] using hst)

theorem wpFacts_spec {R : Act → World → Prop} {pr : Nat → List Nat} (hpr : ∀ k, ∀ j ∈ pr k, j < k) (vs : Nat → Value) (bl bh : Nat → Nat) :
    ∀ (Ds : List (List Nat × (Nat → Nat → Value → World → Prop))) (l : List Oper) (k : Nat) (F : List (World → Prop)) (B : List (Nat × Nat)) (a : Act), (∀ m p d, Ds[m]? = some (p, d) → p = pr (k + m) ∧ d = D (k + m)) →
      F = (List.range k).map (fun j => D j (bl j) (bh j) (vs j)) → B = (List.range k).map (fun j => (bl j, bh j)) → a = lay ops a0 vs k → (∀ m, l[m]? = ops[k + m]?) → k + Ds.length ≤ ops.size → wpFacts P ops w0 R Ds l F B a →
      (∀ m o, m < Ds.length → ops[k + m]? = some o → ∀ w, Below w0.heap.size w0 w → (∀ j ∈ pr (k + m), D j (bl j) (bh j) (vs j) w) → wpList P ops (OpPost o (lay ops a0 vs (k + m)) (fun v w' => D (k + m) w.heap.size w'.heap.size v w') w) [o] (lay ops a0 vs (k + m)) w) ∧
      (∀ w, Below w0.heap.size w0 w → (∀ j, j < k + Ds.length → D j (bl j) (bh j) (vs j) w) → ApartB ((List.range (k + Ds.length)).map (fun j => (bl j, bh j))) → BornB w0 w ((List.range (k + Ds.length)).map (fun j => (bl j, bh j))) → R (lay ops a0 vs (k + Ds.length)) w)
  | [], l, k, F, B, a, _, hF, hB, ha, _, _, h => by
    subst hF; subst hB; subst ha
    refine ⟨fun m o hm => absurd hm (by simp), fun w hb hf hap hbo => ?_⟩
    have h' : ∀ w, Below w0.heap.size w0 w → allOf w ((List.range k).map (fun j => D j (bl j) (bh j) (vs j))) → ApartB ((List.range k).map (fun j => (bl j, bh j))) → BornB w0 w ((List.range k).map (fun j => (bl j, bh j))) → R (lay ops a0 vs k) w := by cases l <;> exact h
    refine h' w hb (allOf_of (fun f hff => ?_)) hap hbo
    obtain ⟨j, hj, rfl⟩ := List.mem_map.1 hff
    exact hf j (by simpa using hj)
  | (p, d) :: Ds, l, k, F, B, a, hDs, hF, hB, ha, hl, hk, h => by
    obtain ⟨rfl, rfl⟩ := hDs 0 p d rfl
    have hks : k < ops.size := by simp at hk; omega
    match l, hl 0 with
    | [], h0 => simp [hks] at h0
    | o :: l, h0 =>
      have ho : ops[k]? = some o := by simpa using h0.symm
      obtain ⟨h1, h2⟩ := h
      have ih := wpFacts_spec hpr vs bl bh Ds l (k + 1) (F ++ [D k (bl k) (bh k) (vs k)]) (B ++ [(bl k, bh k)]) (a.put o.dst (vs k)) (fun m p d hm => by
          have := hDs (m + 1) p d (by simpa using hm)
          rwa [show k + (m + 1) = k + 1 + m by omega] at this)
        (by rw [hF, List.range_succ, List.map_append]; rfl) (by rw [hB, List.range_succ, List.map_append]; rfl) (by rw [ha]; simp [lay, opDst, ho]) (fun m => by
          have := hl (m + 1)
          rw [show k + (m + 1) = k + 1 + m by omega] at this
          simpa using this) (by simp at hk; omega) (h2 (vs k) (bl k) (bh k))
      refine ⟨fun m o' hm ho' w hb hf => ?_, fun w hb hf hap hbo => ?_⟩
      · match m with
        | 0 =>
          have : o' = o := by rw [Nat.add_zero, ho] at ho'; injection ho' with h; exact h.symm
          subst this
          subst ha
          refine h1 w hb (holds_of (fun j hj => ?_))
          have hjk := hpr _ j hj
          subst hF
          rw [getD_range_map _ _ k j hjk]
          exact hf j hj
        | m + 1 =>
          have e : k + (m + 1) = k + 1 + m := by omega
          rw [e] at ho' hf ⊢
          exact ih.1 m o' (by simpa using hm) ho' w hb hf
      · have e : k + ((pr (k + 0), D (k + 0)) :: Ds).length = k + 1 + Ds.length := by simp; omega
        rw [e] at hf hap hbo ⊢
        exact ih.2 w hb hf hap hbo

/-- Each fact stays true in a world that has only grown. -/
def Stable (d : Nat → Nat → Value → World → Prop) : Prop := ∀ lo hi v w w', Below w.heap.size w w' → d lo hi v w → d lo hi v w'
def allStable : List (Nat → Nat → Value → World → Prop) → Prop
  | [] => True
  | d :: Ds => Stable d ∧ allStable Ds
theorem stable_pure (p : Value → Prop) : Stable (fun _ _ v _ => p v) := fun _ _ _ _ _ _ h => h

theorem allStable_get : ∀ {Ds : List (Nat → Nat → Value → World → Prop)}, allStable Ds → ∀ k, Stable (Ds.getD k (fun _ _ _ _ => True))
  | [], _, k => by simp only [List.getD_nil]; exact stable_pure _
  | d :: Ds, h, 0 => h.1
  | d :: Ds, h, k + 1 => by simpa using allStable_get h.2 k

/-- **A REGION THAT DRAWS ITS ORDER**: 'pre': which operations surely come before each; 'Ds': what the value of each comes to. -/
theorem wp_region_facts {id : Nat} {l : List Oper} {w : World} (pre : List (List Nat)) (Ds : List (Nat → Nat → Value → World → Prop)) (hm : P.follows .mixedOrders = true) (hB : factsB l.toArray pre pre.length = true) (hlen : pre.length = Ds.length) (hD : allStable Ds)
    (h : wpFacts P l.toArray w (fun a w => wpList P l.toArray Q (l.drop pre.length) a w) (pre.zip Ds) l [] [] a0) : (Code.region id l.toArray true).wp P Q a0 w := by
  have ht := textOk hB
  refine wp_region_any hm ?_
  have key : ∀ (vs : Nat → Value) (bl bh : Nat → Nat), _ := fun vs bl bh => wpFacts_spec (P := P) (ops := l.toArray) (w0 := w) (a0 := a0) (D := fun k => Ds.getD k (fun _ _ _ _ => True)) (pr := fun k => if k < pre.length then pre.getD k [] else []) (by
      intro k j hj
      by_cases hk : k < pre.length
      · rw [if_pos hk] at hj
        have hks : k < l.toArray.size := Nat.lt_of_lt_of_le hk ht.le
        exact (ht.waits k _ (Array.getElem?_eq_getElem hks) j (by simpa [preOf, hk] using hj)).1
      · rw [if_neg hk] at hj; cases hj) vs bl bh (pre.zip Ds) l 0 [] [] a0 (by
      intro m p d hmd
      rw [List.getElem?_zip_eq_some] at hmd
      obtain ⟨h1, h2⟩ := hmd
      have hml : m < pre.length := (List.getElem?_eq_some_iff.1 h1).1
      simp [hml, List.getD, h1, h2] at *
      simp [h1]) rfl rfl rfl (by simp) (by simp [List.length_zip, hlen]; have := ht.le; simp [hlen] at this; omega) h
  have hzl : (pre.zip Ds).length = pre.length := by simp [List.length_zip, hlen]
  have hlay : layL l.toArray a0 (Array.replicate l.toArray.size false) (fun _ => undef) pre.length = a0 := by
    have : ∀ m, layL l.toArray a0 (Array.replicate l.toArray.size false) (fun _ => undef) m = a0 := by
      intro m
      induction m with
      | zero => rfl
      | succ m ih =>
        unfold layL
        rw [if_neg (by simp [Array.getElem?_replicate]; split <;> simp), ih]
    exact this _
  have hno : ∀ k, (Array.replicate l.toArray.size false).getD k false = false := by
    intro k; simp [Array.getElem?_replicate]; split <;> simp
  have := facts_sound (P := P) (Q := Q) (ops := l.toArray) (w0 := w) (a0 := a0) (n := pre.length) (D := fun k => Ds.getD k (fun _ _ _ _ => True)) ht (fun k lo hi v w w' hb hd => allStable_get hD k lo hi v w w' hb hd)
    (fun k o hk ho vs bl bh w hb hf => by
      have := (key vs bl bh).1 k o (by rw [hzl]; exact hk) (by rw [Nat.zero_add]; exact ho) w hb (fun j hj => hf j (by simpa [preOf, hk] using hj))
      simpa using this)
    (fun vs bl bh w hb hf hgg hqq => by
      have := (key vs bl bh).2 w hb (fun j hj => hf j (by rw [hzl] at hj; omega)) (apartB_of (fun i j hi hj => hqq i j (by rw [hzl] at hi; omega) (by rw [hzl] at hj; omega))) (bornB_of (fun i hi => hgg i (by rw [hzl] at hi; omega)))
      rw [hzl, Nat.zero_add] at this
      exact this)
    l.toArray.size (Array.replicate l.toArray.size false) (fun _ => undef) (fun _ => 0) (fun _ => 0) w.drew (by simp) (fun k _ hl => by rw [hno] at hl; cases hl) (fun k _ => hno k) (Below.refl _ _).drew (fun k _ hl => by rw [hno] at hl; cases hl) (fun k _ hl => by rw [hno] at hl; cases hl) (fun i j _ _ hl => by rw [hno] at hl; cases hl)
    (by
      have : ∀ m, cnt (Array.replicate l.toArray.size false) m = m := by
        intro m
        induction m with
        | zero => rfl
        | succ m ih => unfold cnt; rw [ih, hno]; simp
      exact this _)
  rw [hlay] at this
  exact this

theorem wf_stepK {R : Act → World → Prop} {p : List Nat} {pre : List (List Nat)} {d : Nat → Nat → Value → World → Prop} {Ds : List (Nat → Nat → Value → World → Prop)} {o : Oper} {l : List Oper} {F : List (World → Prop)} {B : List (Nat × Nat)} {a : Act}
    (sub : List Nat) (Fp : List (World → Prop)) (hs : (sub.all fun j => p.contains j) = true) (hF : (sub.map fun j => F.getD j (fun _ => True)) = Fp)
    (h1 : ∀ w, Below w0.heap.size w0 w → allOf w Fp → WfOp P ops o a (fun v w' => d w.heap.size w'.heap.size v w') w) (h2 : ∀ v lo hi, wpFacts P ops w0 R (pre.zip Ds) l (F ++ [d lo hi v]) (B ++ [(lo, hi)]) (a.put o.dst v)) :
    wpFacts P ops w0 R ((p :: pre).zip (d :: Ds)) (o :: l) F B a := ⟨fun w hb hf => (h1 w hb (hF ▸ allOf_map hf sub hs)).out, h2⟩
theorem wf_doneK {R : Act → World → Prop} {l : List Oper} {F : List (World → Prop)} {B : List (Nat × Nat)} {a : Act} (sub : List Nat) (Fp : List (World → Prop)) (hs : (sub.all fun j => decide (j < F.length)) = true) (hF : (sub.map fun j => F.getD j (fun _ => True)) = Fp)
    (h : ∀ w, Below w0.heap.size w0 w → allOf w Fp → ApartB B → BornB w0 w B → R a w) : wpFacts P ops w0 R (([] : List (List Nat)).zip ([] : List (Nat → Nat → Value → World → Prop))) l F B a := by
  have key : ∀ w, Below w0.heap.size w0 w → allOf w F → ApartB B → BornB w0 w B → R a w := fun w hb hf hap hbo => h w hb (by
    rw [← hF]
    have hp : ∀ (F : List (World → Prop)), allOf w F → ∀ j, j < F.length → (F.getD j (fun _ => True)) w := by
      intro F
      induction F with
      | nil => intro _ j hj; cases hj
      | cons f F ih =>
        intro h j hj
        cases j with
        | zero => exact h.1
        | succ j => exact ih h.2 j (by simpa using hj)
    clear hF h
    induction sub with
    | nil => trivial
    | cons j sub ih =>
      simp only [List.all_cons, Bool.and_eq_true] at hs
      exact ⟨hp F hf j (by simpa using hs.1), ih hs.2⟩) hap hbo
  cases l <;> exact key
end
end Rgo
end Go.Proofs.YtffgonddephkkaaGreat

/- HELPER, no statement of the seat: slices.Clone at lists of times (a named list), and the model's copy of a list of times. -/
namespace Go.Proofs.YtffgonddephkkaaGreat
open Go.RowKit Go.Sort
set_option linter.unusedSimpArgs false
set_option linter.unusedVariables false

set_option maxHeartbeats 800000 in
theorem cloneT_i (A : Option Addr) (c : Nat) (xs : List Tm) (w : World) (hx : TimesAt w A xs) (hn : xs.length ≤ 4194304) :
    Calls Tryz.prog 40 #[.slice A xs.length c] w fun e w' => ∃ A' c', e = .returned (.slice A' xs.length c') ∧ TmOwn w' w.heap.size A' c' xs ∧ Below w.heap.size w w' := by
  have qT : ∀ (w : World) (a : Option Addr) (n c n' c' : Nat), (binOp .eql 45 (.slice a n c) (.slice none n' c')).run Tryz.prog w = .ok (.bool a.isNone) w := fun w a n c n' c' => Lib.run_eql_slice_nil w _ _ a n c n' c' Tryz.underlying45
  obtain ⟨h0, hsrc⟩ := tms_src hx
  cases A with
  | none =>
    obtain rfl := List.eq_nil_of_length_eq_zero (h0 rfl)
    clear hx h0 hsrc
    go_enter Tryz.func40, Tryz.ntmps40
    go_wp2
    go_ret
    exact ⟨none, 0, rfl, World.ownsRow_nil _ _ _ _, Below.refl _ _⟩
  | some a =>
    obtain ⟨i0, hi, hz0, hz1, hz2⟩ := info_parts Tryz.infoTime
    have hb0 : Below w.heap.size w (w.alloc (.cells #[] 64)) := bal (Below.refl _ _) _
    have hs : ∀ b, some a = some b → ∀ j u, (timeL xs)[j]? = some u → (w.alloc (.cells #[] 64)).cell? (b.add j) = some u := fun b e j u hu => by
      have := hsrc b e j u hu
      rw [hb0.cell (block_lt_of_cell this)]
      exact this
    have HFL := Lib.hid (timeL_len xs)
    have hown := TmOwn.lit w
    have hone := tms_one xs
    go_enter Tryz.func40, Tryz.ntmps40
    go_wp2_with (at_builtin; refine wpList_append_src _ rfl _ _ 45 rfl w.heap.size 64 i0 (.agg #[.int .i64 0, .int .i64 0]) 2 16 Tryz.underlying45 hi hz0 hz1 hz2 rfl (by decide) _ _ _ rfl hown (some a) xs.length c (timeL xs) rfl HFL.out (fun e => by cases e) hs hone (by simp [maxLen]; omega) (by simp; omega) (by simp) ?_)
    intro v' w1 hown' hgrow _
    obtain ⟨A', c', hv⟩ := own_slice hown'
    have HO : Hid (TmOwn w1 w.heap.size A' c' xs) := by rw [hv] at hown'; unfold TmOwn; simpa [Hid, timeL] using hown'
    have HB := Lib.hid (hb0.grown hgrow (by simp) (fun k hk => by simp [Value.ownBlock] at hk; omega))
    have HV := Lib.hid hv
    clear hown' hgrow hv hown hs hb0 hsrc hone h0
    go_wp2
    go_ret
    exact ⟨A', c', by rw [HV.out]; simp, HO.out, HB.out⟩
end Go.Proofs.YtffgonddephkkaaGreat

/- HELPER, no statement of the seat: a store into a box of slices leaves lists of numbers and of updates as they are. -/
namespace Go.Proofs.YtffgonddephkkaaGreat
open Go.RowKit
set_option linter.unusedSimpArgs false
set_option linter.unusedVariables false

theorem cell_heapB {w w' : World} {b o : Nat} (h : w'.heap[b]? = w.heap[b]?) : w'.cell? ⟨b, o, none⟩ = w.cell? ⟨b, o, none⟩ := by unfold World.cell?; simp only [h]
/-- No cell of these is a number. -/
def NoInt (cs : Array Value) : Prop := ∀ (i : Nat) (x : Int), cs[i]? ≠ some (.int .i64 x)
section
variable {w w' : World} {g : Nat} {t : TypeId} {cs : Array Value} (kG : Blk w g t cs) (hc : NoInt cs) (hg : GrownS w w' (fun k => k = g))
include kG hc hg
theorem IntsAt.box {A : Option Addr} {xs : List Int} (h : IntsAt w A xs) : IntsAt w' A xs := fun hn => by
  obtain ⟨b, off, e, hlt, hcell⟩ := h hn
  have hne : b ≠ g := fun e' => by
    subst e'
    have h0 := hcell 0 hn
    rw [kG.cell] at h0
    exact hc _ _ h0
  exact ⟨b, off, e, Nat.lt_of_lt_of_le hlt hg.size, fun j hj => (cell_heapB (hg.block b hlt hne)).trans (hcell j hj)⟩
theorem UpdsAt.box {A : Option Addr} {es : List Upd} (h : UpdsAt w A es) : UpdsAt w' A es := fun hn => by
  obtain ⟨b, off, e, hlt, hcell⟩ := h hn
  have hne : b ≠ g := fun e' => by
    subst e'
    obtain ⟨cs0, hl0, hc0, hr0⟩ := hcell 0 hn
    obtain ⟨RA, rc, rfl, l, hi⟩ := hr0.form
    have h0 := hc0 1 (by omega)
    rw [kG.cell] at h0
    exact hc _ _ h0
  refine ⟨b, off, e, Nat.lt_of_lt_of_le hlt hg.size, fun j hj => ?_⟩
  obtain ⟨cs0, hl0, hc0, hr0⟩ := hcell j hj
  obtain ⟨RA, rc, rfl, l, hi⟩ := hr0.form
  exact ⟨_, hl0, fun i hi0 => (cell_heapB (hg.block b hlt hne)).trans (hc0 i hi0), UpdR.of es[j] l (hi.box kG hc hg)⟩
end
theorem noInt3 {a b c : Option Addr} {n1 m1 n2 m2 n3 m3 : Nat} : NoInt #[.slice a n1 m1, .slice b n2 m2, .slice c n3 m3] := fun i x h => by
  match i, h with
  | 0, h => simp at h
  | 1, h => simp at h
  | 2, h => simp at h
  | i + 3, h => simp at h
end Go.Proofs.YtffgonddephkkaaGreat

/- HELPER, no statement of the seat: views of the program: whether a view is valid. -/
namespace Go.Proofs.YtffgonddephkkaaGreat
open Go.RowKit Go.Sort
set_option linter.unusedSimpArgs false
set_option linter.unusedVariables false

set_option maxHeartbeats 1600000 in
theorem with1C_c (C : Nat) (TA LA UA : Option Addr) (tn tc lc uc : Nat) (lo up : List Tm) (u : Upd) (VA : Option Addr) (vn vc : Nat) (w : World) (h1 : TimesAt w LA lo) (h2 : TimesAt w UA up) (n1 : lo.length ≤ 4194304) (n2 : up.length ≤ 4194304)
    (hC : Blk w C 78 #[.func (.func 69) #[.slice UA up.length uc] #[]]) :
    Calls Tryz.prog 74 #[.agg #[.slice VA vn vc, .int .i64 u.1.2.1, .int .i64 u.1.2.2, .int .i64 u.2], .pointer (some ⟨C, 0, none⟩)] w fun e w' => e = .returned (.bool (!cvB up u.1.2.1 u.1.2.2)) ∧ Below w.heap.size w w' := by
  have hB0 : Below w.heap.size w (w.alloc (.cells #[.slice VA vn vc, .int .i64 u.1.2.1, .int .i64 u.1.2.2, .int .i64 u.2] 66)) := bal (Below.refl _ _) _
  have hcon := covers_i UA uc up u.1.2.1 u.1.2.2 _ (h2.below hB0) n2
  have c0 := hC.cell 0
  simp at c0
  have hl := hC.lt
  go_enter Tryz.func74, Tryz.ntmps74
  go_wp2_with fail
  refine hcon.mono ?_
  rintro e w1 ⟨rfl, b1⟩
  have HB := Lib.hid (btr hB0 b1)
  clear hcon hB0 b1
  go_wp2
  go_ret
  exact ⟨ret_bool (show (!cvB up u.1.2.1 u.1.2.2) = (!cvB up u.1.2.1 u.1.2.2) from rfl), HB.out⟩
set_option maxHeartbeats 1600000 in
theorem withC_i (A : Option Addr) (c : Nat) (es : List Upd) (TA LA UA : Option Addr) (tn tc lc uc : Nat) (lo up : List Tm) (w : World) (hx : UpdsAt w A es) (hn : es.length ≤ 4194304) (h1 : TimesAt w LA lo) (h2 : TimesAt w UA up) (n1 : lo.length ≤ 4194304) (n2 : up.length ≤ 4194304) :
    Calls Tryz.prog 58 #[.slice A es.length c, .func (.func 69) #[.slice UA up.length uc] #[]] w fun e w' => ∃ A' c', e = .returned (.slice A' (es.filter (fun e => cvB up e.1.2.1 e.1.2.2)).length c') ∧ UpdsAt w' A' (es.filter (fun e => cvB up e.1.2.1 e.1.2.2)) ∧ Below w.heap.size w w' := by
  have hB0 : Below w.heap.size w (w.alloc (.cells #[.func (.func 69) #[.slice UA up.length uc] #[]] 78)) := bal (Below.refl _ _) _
  have kC : Blk (w.alloc (.cells #[.func (.func 69) #[.slice UA up.length uc] #[]] 78)) w.heap.size 78 #[.func (.func 69) #[.slice UA up.length uc] #[]] := Blk.newAt rfl
  have HCON : Hid (∀ W, Below (w.alloc (.cells #[.func (.func 69) #[.slice UA up.length uc] #[]] 78)).heap.size (w.alloc (.cells #[.func (.func 69) #[.slice UA up.length uc] #[]] 78)) W → ∀ (u : Upd) (VA : Option Addr) (vn vc : Nat), Calls Tryz.prog 74 #[.agg #[.slice VA vn vc, .int .i64 u.1.2.1, .int .i64 u.1.2.2, .int .i64 u.2], .pointer (some ⟨w.heap.size, 0, none⟩)] W fun e w' => e = .returned (.bool (!cvB up u.1.2.1 u.1.2.2)) ∧ Below W.heap.size W w') := fun W hW u VA vn vc =>
    with1C_c w.heap.size TA LA UA tn tc lc uc lo up u VA vn vc W ((h1.below hB0).below hW) ((h2.below hB0).below hW) n1 n2 (kC.below hW)
  have hx0 := hx.below updR hB0
  go_enter Tryz.func58, Tryz.ntmps58
  go_wp2_with fail
  refine absI (fun W => W = w.alloc (.cells #[.func (.func 69) #[.slice UA up.length uc] #[]] 78)) rfl ?_
  intro W0 hW0
  rw [← hW0] at HCON hx0 hB0
  clear hW0 kC
  refine (cloneW_u A c es W0 hx0 hn).mono ?_
  rintro e w1 ⟨A1, c1, css, rfl, ho1, rd1, b1⟩
  have hdel := delW_u W0 w1 w.heap.size (fun t => cvB up t.1 t.2) HCON W0.heap.size A1 c1 es css b1 (Nat.le_refl _) ho1 rd1 hn
  go_wp2_with fail
  refine hdel.mono ?_
  rintro e w2 ⟨A2, c2, rfl, hx2, b2⟩
  have HX := Lib.hid hx2
  have HB := Lib.hid (btr hB0 b2)
  clear hdel hx2 b2 ho1 rd1 b1
  go_wp2
  go_ret
  exact ⟨A2, c2, rfl, HX.out, HB.out⟩
end Go.Proofs.YtffgonddephkkaaGreat

/- HELPER, no statement of the seat: views of the program: copied (view), extended, compacted. -/
namespace Go.Proofs.YtffgonddephkkaaGreat
open Go.RowKit Go.Sort
set_option linter.unusedSimpArgs false
set_option linter.unusedVariables false

/-- A list of times made in the blocks from bl up to bh. -/
def TmB (xs : List Tm) (bl bh : Nat) (v : Value) (w : World) : Prop := ∃ A c, v = .slice A xs.length c ∧ TmOwn w bl A c xs ∧ ∀ k, blk A = some k → k < bh
def UpB (us : List Upd) (bl bh : Nat) (v : Value) (w : World) : Prop := ∃ A c, v = .slice A us.length c ∧ UpdsOw w (fun k => bl ≤ k ∧ k < bh) A c us
theorem stable_tmB (xs : List Tm) : Rgo.Stable (TmB xs) := fun _ _ _ _ _ hb ⟨A, c, e, h, l⟩ => ⟨A, c, e, h.below hb, l⟩
theorem stable_upB (us : List Upd) : Rgo.Stable (UpB us) := fun _ _ _ _ _ hb ⟨A, c, e, h⟩ => ⟨A, c, e, SlOw.below updO h hb⟩
theorem view_end {w W : World} {A1 A2 A3 : Option Addr} {c1 c2 c3 l1 h1 l2 h2 l3 h3 : Nat} {lo up : List Tm} {us : List Upd} (o1 : TmOwn W l1 A1 c1 lo) (e1 : ∀ k, blk A1 = some k → k < h1) (o2 : TmOwn W l2 A2 c2 up) (e2 : ∀ k, blk A2 = some k → k < h2) (o3 : UpdsOw W (fun k => l3 ≤ k ∧ k < h3) A3 c3 us) (b : Below w.heap.size w W)
    (q1 : w.heap.size + 2 ≤ l1 ∧ l1 ≤ h1 ∧ h1 ≤ W.heap.size) (q2 : w.heap.size + 2 ≤ l2 ∧ l2 ≤ h2 ∧ h2 ≤ W.heap.size) (q3 : w.heap.size + 2 ≤ l3 ∧ l3 ≤ h3 ∧ h3 ≤ W.heap.size) (a12 : h1 ≤ l2 ∨ h2 ≤ l1) (a13 : h1 ≤ l3 ∨ h3 ≤ l1) (a23 : h2 ≤ l3 ∨ h3 ≤ l2) (u0 u1 u2 : Value) :
    BatO (((W.setCell ⟨w.heap.size + 1, 0, none⟩ u0).setCell ⟨w.heap.size + 1, 1, none⟩ u1).setCell ⟨w.heap.size + 1, 2, none⟩ u2) (news w (((W.setCell ⟨w.heap.size + 1, 0, none⟩ u0).setCell ⟨w.heap.size + 1, 1, none⟩ u1).setCell ⟨w.heap.size + 1, 2, none⟩ u2)) [.slice A1 lo.length c1, .slice A2 up.length c2, .slice A3 us.length c3] (lo, (up, us)) ∧ Below w.heap.size w (((W.setCell ⟨w.heap.size + 1, 0, none⟩ u0).setCell ⟨w.heap.size + 1, 1, none⟩ u1).setCell ⟨w.heap.size + 1, 2, none⟩ u2) := by
  have far : ∀ k, w.heap.size + 1 < k → (((W.setCell ⟨w.heap.size + 1, 0, none⟩ u0).setCell ⟨w.heap.size + 1, 1, none⟩ u1).setCell ⟨w.heap.size + 1, 2, none⟩ u2).heap[k]? = W.heap[k]? := fun k hk =>
    (Below.heap_setCell _ _ _ _ (by simp; omega)).trans ((Below.heap_setCell _ _ _ _ (by simp; omega)).trans (Below.heap_setCell _ _ _ _ (by simp; omega)))
  have hsz : (((W.setCell ⟨w.heap.size + 1, 0, none⟩ u0).setCell ⟨w.heap.size + 1, 1, none⟩ u1).setCell ⟨w.heap.size + 1, 2, none⟩ u2).heap.size = W.heap.size := by simp [World.setCell]
  have t1 := fun k hk => (o1.lt k hk).1
  have t2 := fun k hk => (o2.lt k hk).1
  refine ⟨BatO.mk (S1 := fun k => blk A1 = some k) (S2 := fun k => blk A2 = some k) (S3 := fun k => l3 ≤ k ∧ k < h3) (fun q hq => hq.2) ⟨fun k hk => by rw [hsz]; have := e1 k hk; omega, fun k hk => hk, (o1.loc (fun k hk => far k (by have := t1 k hk; omega))).mono (Nat.zero_le _)⟩ ⟨fun k hk => by rw [hsz]; have := e2 k hk; omega, fun k hk => hk, (o2.loc (fun k hk => far k (by have := t2 k hk; omega))).mono (Nat.zero_le _)⟩ (SlOw.loc updO o3 (fun k hk => far k (by have := hk.1; omega)))
    (fun q hq => ⟨⟨by have := t1 q hq; omega, by rw [hsz]; have := e1 q hq; omega⟩, fun e => by have := t1 q hq; have := e1 q hq; have := t2 q e; have := e2 q e; omega, fun e => by have := t1 q hq; have := e1 q hq; have := e.1; have := e.2; omega⟩) (fun q hq => ⟨⟨by have := t2 q hq; omega, by rw [hsz]; have := e2 q hq; omega⟩, fun e => by have := t2 q hq; have := e2 q hq; have := e.1; have := e.2; omega⟩) (fun q hq => ⟨by have := hq.1; omega, by rw [hsz]; have := hq.2; omega⟩), bset (bset (bset b (by simp <;> omega) _) (by simp <;> omega) _) (by simp <;> omega) _⟩
end Go.Proofs.YtffgonddephkkaaGreat

/- HELPER, no statement of the seat: the program's AppendView. -/
namespace Go.Proofs.YtffgonddephkkaaGreat
open Go.RowKit Go.Sort
set_option linter.unusedSimpArgs false
set_option linter.unusedVariables false

/-- A slice that reads as us. -/
def UpsV (us : List Upd) (v : Value) (w : World) : Prop := ∃ A c, v = .slice A us.length c ∧ UpdsAt w A us
/-- A readable trace whose trace reads as us. -/
def RtrV (us : List Upd) (s u : Value) (v : Value) (w : World) : Prop := ∃ A c, v = .agg #[.slice A us.length c, s, u] ∧ UpdsAt w A us
theorem stable_upsV (us : List Upd) : Stable (UpsV us) := fun _ _ _ hb ⟨A, c, e, h⟩ => ⟨A, c, e, h.below updR hb⟩
theorem stable_rtrV (us : List Upd) (s u : Value) : Stable (RtrV us s u) := fun _ _ _ hb ⟨A, c, e, h⟩ => ⟨A, c, e, h.below updR hb⟩
theorem batO_zero (w : World) {S : Fp} (hS : ∀ q, S q → q < w.heap.size) : BatO w S [.slice none 0 0, .slice none 0 0, .slice none 0 0] (([] : List Tm), (([] : List Tm), ([] : List Upd))) := by
  have hn : ∀ S' : Fp, (∀ q, S' q → q < w.heap.size) → TmOwS w S' none 0 [] := fun S' h => ⟨h, fun k hk => by simp [blk] at hk, World.ownsRow_nil _ _ _ _⟩
  exact BatO.mk (S1 := fun _ => False) (S2 := fun _ => False) (S3 := fun _ => False) hS (hn _ (fun _ h => h.elim)) (hn _ (fun _ h => h.elim)) (SlOw.nil (fun _ h => h.elim)) (fun _ h => h.elim) (fun _ h => h.elim) (fun _ h => h.elim)
/-- A view that was made, behind the store of it into the cell of the result. -/
theorem batO_cell {w w3 W : World} {L1 U1 T1 : Option Addr} {d1 d2 d3 : Nat} {lo up : List Tm} {us : List Upd} (o : BatO W (news w3 W) [.slice L1 lo.length d1, .slice U1 up.length d2, .slice T1 us.length d3] (lo, (up, us))) (b : Below w.heap.size w W) (hs : w.heap.size + 1 < w3.heap.size) (u0 u1 u2 : Value) :
    BatO (((W.setCell ⟨w.heap.size + 1, 0, none⟩ u0).setCell ⟨w.heap.size + 1, 1, none⟩ u1).setCell ⟨w.heap.size + 1, 2, none⟩ u2) (news w (((W.setCell ⟨w.heap.size + 1, 0, none⟩ u0).setCell ⟨w.heap.size + 1, 1, none⟩ u1).setCell ⟨w.heap.size + 1, 2, none⟩ u2)) [.slice L1 lo.length d1, .slice U1 up.length d2, .slice T1 us.length d3] (lo, (up, us)) ∧ Below w.heap.size w (((W.setCell ⟨w.heap.size + 1, 0, none⟩ u0).setCell ⟨w.heap.size + 1, 1, none⟩ u1).setCell ⟨w.heap.size + 1, 2, none⟩ u2) := by
  have far : ∀ k, w3.heap.size ≤ k → (((W.setCell ⟨w.heap.size + 1, 0, none⟩ u0).setCell ⟨w.heap.size + 1, 1, none⟩ u1).setCell ⟨w.heap.size + 1, 2, none⟩ u2).heap[k]? = W.heap[k]? := fun k hk =>
    (Below.heap_setCell _ _ _ _ (by simp; omega)).trans ((Below.heap_setCell _ _ _ _ (by simp; omega)).trans (Below.heap_setCell _ _ _ _ (by simp; omega)))
  have hsz : (((W.setCell ⟨w.heap.size + 1, 0, none⟩ u0).setCell ⟨w.heap.size + 1, 1, none⟩ u1).setCell ⟨w.heap.size + 1, 2, none⟩ u2).heap.size = W.heap.size := by simp [World.setCell]
  exact ⟨batO.mono (batO.loc o (fun k hk => far k hk.1)) (fun k hk => ⟨by have := hk.1; omega, by rw [hsz]; exact hk.2⟩) (fun k hk => hk.2), bset (bset (bset b (by simp <;> omega) _) (by simp <;> omega) _) (by simp <;> omega) _⟩
end Go.Proofs.YtffgonddephkkaaGreat

/- HELPER, no statement of the seat: the program's CompactView. -/
namespace Go.Proofs.YtffgonddephkkaaGreat
open Go.RowKit Go.Sort
set_option linter.unusedSimpArgs false
set_option linter.unusedVariables false

end Go.Proofs.YtffgonddephkkaaGreat
