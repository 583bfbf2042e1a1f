/- HELPER, no statement of the seat: a region that draws its order, walked by facts, where it is told besides that no draw is taken back: then the world has some draws more and some blocks more. -/
import Derived.Test.YthefakiobpijiaaZba
import Derived.Test.YthefakiobpijiaaCmpE
namespace Go.Proofs.Ythefakiobpijiaa.Drn
open Go.RowKit Go.Sort Go.Proofs.Ythefakiobpijiaa
set_option linter.unusedSimpArgs false
set_option linter.unusedVariables false

/-- Nothing that was there has turned, and no draw is taken back. -/
def BelD (w w' : World) : Prop := Below w.heap.size w w' ∧ w.drawn ≤ w'.drawn
theorem BelD.refl (w : World) : BelD w w := ⟨Below.refl _ _, Nat.le_refl _⟩
theorem BelD.tr {a b c : World} (h : BelD a b) (k : BelD b c) : BelD a c := ⟨btr h.1 k.1, Nat.le_trans h.2 k.2⟩
theorem BelD.drew {a b : World} (h : BelD a b) : BelD a b.drew := ⟨h.1.drew, by show a.drawn ≤ b.drawn + 1; have := h.2; omega⟩
theorem BelD.alloc {a b : World} (h : BelD a b) (o : Obj) : BelD a (b.alloc o) := ⟨bal h.1 o, h.2⟩
theorem BelD.set_ {a b : World} (h : BelD a b) {p : Addr} (hp : a.heap.size ≤ p.block) (u : Value) : BelD a (b.setCell p u) := ⟨bset h.1 hp u, h.2⟩
theorem BelD.ofGrw {a b : World} (h : Grw a b) : BelD a b := ⟨h.below, by obtain ⟨q, os, rfl⟩ := h; show a.drawn ≤ a.drawn + q; omega⟩
theorem BelD.grw {a b : World} (h : BelD a b) : Grw a b := by
  obtain ⟨hb, hd⟩ := h
  refine ⟨b.drawn - a.drawn, b.heap.extract a.heap.size b.heap.size, ?_⟩
  have e1 : a.heap ++ b.heap.extract a.heap.size b.heap.size = b.heap := by
    apply Array.ext_getElem?
    intro i
    rw [Array.getElem?_append]
    split
    · rename_i hi; exact (hb.block i hi).symm
    · rename_i hi
      rw [Array.getElem?_extract]
      have := hb.size
      by_cases h2 : i < b.heap.size
      · rw [if_pos (by omega)]; congr 1; omega
      · rw [if_neg (by omega), Array.getElem?_eq_none (by omega)]
  have e2 : a.drawn + (b.drawn - a.drawn) = b.drawn := by omega
  show b = { heap := a.heap ++ b.heap.extract a.heap.size b.heap.size, tape := a.tape, drawn := a.drawn + (b.drawn - a.drawn), os := a.os, output := a.output }
  rw [e1, e2, ← hb.os, ← hb.tape, ← hb.output]
theorem BelD.same {a b : World} (h : a = b) : BelD a b := h ▸ BelD.refl _

/-- What one operation must come to: its value meets d, and nothing that was there has turned. -/
def OpPost (o : Oper) (a : Act) (d : Value → World → Prop) (w : World) (e : Exit) (a' : Act) (w' : World) : Prop :=
  e = .normal ∧ ∃ v, a' = a.put o.dst v ∧ BelD w w' ∧ d v w'

/-- The walk in the order of the text. -/
def wpFacts (P : Program) (ops : Array Oper) (w0 : World) (R : Act → World → Prop) : List (List Nat × (Value → World → Prop)) → List Oper → List (World → Prop) → Act → Prop
  | (p, d) :: Ds, o :: l, F, a => (∀ w, BelD w0 w → holds F w p → wpList P ops (OpPost o a d w) [o] a w) ∧ ∀ v, wpFacts P ops w0 R Ds l (F ++ [d v]) (a.put o.dst v)
  | _, _, F, a => ∀ w, BelD w0 w → allOf w F → R a w

section
variable {P : Program} {ops : Array Oper} {Q : Exit → Act → World → Prop} {w0 : World} {a0 : Act} {n : Nat} {D : Nat → Value → World → Prop}
theorem facts_sound {pre : List (List Nat)} (ht : TextOk ops pre n) (hD : ∀ k v w w', Below w.heap.size w w' → D k v w → D k v w')
    (step : ∀ k o, k < n → ops[k]? = some o → ∀ (vs : Nat → Value) w, BelD w0 w → (∀ j ∈ preOf pre n k, D j (vs j) w) → wpList P ops (OpPost o (lay ops a0 vs k) (D k) w) [o] (lay ops a0 vs k) w)
    (done : ∀ (vs : Nat → Value) w, BelD w0 w → (∀ k, k < n → D k (vs k) w) → wpList P ops Q (ops.toList.drop n) (lay ops a0 vs n) w) :
    ∀ (fuel : Nat) (listed : Array Bool) (vs : Nat → Value) (w : World), listed.size = ops.size → Closed ops pre n listed → (∀ k, n ≤ k → listed.getD k false = false) → BelD w0 w →
      (∀ k, k < n → listed.getD k false = true → D k (vs k) w) → cnt listed ops.size = fuel → wpAny P .any ops Q fuel listed (layL ops a0 listed vs n) w := by
  intro fuel
  induction fuel with
  | zero =>
    intro listed vs w hs hc hno hb hf hcnt
    have hall := cnt_zero _ hcnt
    have hn : n = ops.size := by
      rcases Nat.lt_or_ge n ops.size with h | h
      · have h1 := hall n h
        rw [hno n (Nat.le_refl _)] at h1; cases h1
      · have := ht.le; omega
    rw [layL_all n (fun k hk => hall k (by have := ht.le; omega))]
    exact tail_sound ht 0 n listed _ w (by omega) (Nat.le_refl _) hs hc (fun j => ⟨fun h => (by
      rcases Nat.lt_or_ge j n with h' | h'
      · exact h'
      · rw [hno j h'] at h; exact (Bool.noConfusion h)), fun h => hall j (by omega)⟩) (done vs w hb (fun k hk => hf k hk (hall k (by omega))))
  | succ fuel ih =>
    intro listed vs w hs hc hno hb hf hcnt
    by_cases hall : ∀ k, k < n → listed.getD k false = true
    · rw [layL_all n hall]
      have hcn : cnt listed ops.size = ops.size - n := by
        have : ∀ m, n ≤ m → cnt listed m = m - n := by
          intro m
          induction m with
          | zero => intro h; simp [cnt]
          | succ m ihm =>
            intro h
            rcases Nat.lt_or_ge n (m + 1) with h' | h'
            · unfold cnt
              rw [ihm (by omega), hno m (by omega)]
              simp; omega
            · rw [cnt_all (m + 1) (fun k hk => hall k (by omega))]; omega
        exact this _ ht.le
      refine tail_sound ht (fuel + 1) n listed _ w (by have h1 := ht.le; omega) (Nat.le_refl _) hs hc (fun j => ⟨fun h => ?_, fun h => hall j h⟩) (done vs w hb (fun k hk => hf k hk (hall k hk)))
      rcases Nat.lt_or_ge j n with h' | h'
      · exact h'
      · rw [hno j h'] at h; cases h
    · obtain ⟨k, hk, hkf, hkb⟩ := first_open ops.size (by omega : cnt listed ops.size ≠ 0)
      have hkr := ready_first ht hs hk hkf hkb
      refine ⟨fun h0 => (by rw [h0] at hkr; cases hkr), fun i hi => ?_⟩
      obtain ⟨hi0, o, ho, _⟩ := mem_ready.1 hi
      have hisz := (Array.getElem?_eq_some_iff.1 ho).1
      have hin : i < n := by
        rcases Nat.lt_or_ge i n with h | h
        · exact h
        · exact absurd (fun k hk => ready_pre ht hc hi k (by simp [preOf, show ¬ i < n by omega]; omega)) hall
      have hif : listed.getD i false = false := by simp [hs, hisz] at hi0 ⊢; exact hi0
      have hpre := ready_pre ht hc hi
      have hlt : ∀ j ∈ preOf pre n i, j < i := fun j hj => (ht.waits i o ho j hj).1
      have hst := step i o hin ho vs w hb (fun j hj => hf j (by have := hlt j hj; omega) (hpre j hj))
      have htmp : ∀ t ∈ o.looksAt ops, (layL ops a0 listed vs n).tmps[t]? = (lay ops a0 vs i).tmps[t]? := by
        intro t htl
        have := tmp_lay (a0 := a0) (vs := vs) (ops := ops) (n := n) (listed := listed) (t := t) (k := i) (fun j hj hd => by
          by_cases hji : j = i
          · subst hji
            have : o.dst = some t := by simpa [opDst, ho] using hd
            exact absurd htl (ht.own j o ho hin t this)
          · have hjp := (ht.dst i o ho hin j hj hji t hd).2 htl
            exact ⟨hlt j hjp, hpre j hjp⟩) n (Nat.le_refl _)
        rw [this, show min n i = i by omega]
      have hex : execOp (layL ops a0 listed vs n).eval o = execOp (lay ops a0 vs i).eval o :=
        execOp_congr o (fun cs b => Region.noSelect_spec ht.sel i o cs b ho) (fun x hx => by
          cases x with
          | tmp t =>
            have := htmp t (List.mem_append_left _ (List.mem_filterMap.2 ⟨.tmp t, by simpa using hx, rfl⟩))
            simp only [Act.eval, Array.getD_eq_getD_getElem?, this]
          | _ => rfl)
      have hwa : Region.wanted o (yielded ops (layL ops a0 listed vs n).tmps) = Region.wanted o (yielded ops (lay ops a0 vs i).tmps) := by
        unfold Region.wanted
        cases hg : o.guard with
        | none => rfl
        | some gw =>
          obtain ⟨g, want⟩ := gw
          have hy : yielded ops (layL ops a0 listed vs n).tmps g = yielded ops (lay ops a0 vs i).tmps g := by
            unfold yielded
            cases hd : (ops[g]?).bind (·.dst) with
            | none => rfl
            | some t =>
              have := htmp t (by simp [Oper.looksAt, hg, hd])
              simp only [Option.bind_some, this]
          simp only [hy]
      have hdst : opDst ops i = o.dst := by simp [opDst, ho]
      have go : ∀ v w', BelD w w' → D i v w' → wpAny P .any ops Q fuel (listed.setIfInBounds i true) ((layL ops a0 listed vs n).put o.dst v) w' := by
        intro v w' hb' hd'
        have hput := layL_put (ops := ops) (a0 := a0) (n := n) (listed := listed) (vs := vs) (vs' := fun j => if j = i then v else vs j) (i := i) hif (by omega) (fun k hk => by simp [hk])
          (fun j hj hji d hd => by rw [hdst]; exact (ht.dst i o ho hin j hj hji d hd).1) n (Nat.le_refl _) hin
        simp only [if_true, hdst] at hput
        rw [← hput]
        have hcnt' := cnt_set hi0 ops.size hisz
        refine ih _ _ w' (by simpa using hs) (closed_set ht hc hi) (fun k hk => ?_) (hb.tr hb') (fun k hk hl => ?_) (by omega)
        · rw [getD_set_ne false (by omega)]; exact hno k hk
        · by_cases hki : k = i
          · subst hki; simpa using hd'
          · rw [getD_set_ne false (Ne.symm hki)] at hl
            simp only [hki, if_false]
            exact hD k _ w w' hb'.1 (hf k hk hl)
      unfold wpOp
      simp only [ho]
      unfold wpList at hst
      rw [hwa]
      have fin : ∀ v w', OpPost o (lay ops a0 vs i) (D i) w .normal ((lay ops a0 vs i).put o.dst v) w' → wpAny P .any ops Q fuel (listed.setIfInBounds i true) ((layL ops a0 listed vs n).put o.dst v) w' := by
        intro v w' ⟨_, u, he, hb', hd'⟩
        have hu : (layL ops a0 listed vs n).put o.dst v = (layL ops a0 listed vs n).put o.dst u := by
          cases hd : o.dst with
          | none => rfl
          | some d =>
            rw [hd] at he
            have h1 : (lay ops a0 vs i).tmps.setIfInBounds d v = (lay ops a0 vs i).tmps.setIfInBounds d u := congrArg Act.tmps he
            have hsz : (lay ops a0 vs i).tmps.size = (layL ops a0 listed vs n).tmps.size := by
              have s1 : ∀ m, (lay ops a0 vs m).tmps.size = a0.tmps.size := by
                intro m
                induction m with
                | zero => rfl
                | succ m ih => unfold lay; cases opDst ops m <;> simpa [Act.put] using ih
              have s2 : ∀ m, (layL ops a0 listed vs m).tmps.size = a0.tmps.size := by
                intro m
                induction m with
                | zero => rfl
                | succ m ih =>
                  unfold layL
                  split
                  · cases opDst ops m <;> simpa [Act.put] using ih
                  · exact ih
              rw [s1, s2]
            by_cases hlt : d < (lay ops a0 vs i).tmps.size
            · have h2 : ((lay ops a0 vs i).tmps.setIfInBounds d v)[d]? = ((lay ops a0 vs i).tmps.setIfInBounds d u)[d]? := by rw [h1]
              simp only [Array.getElem?_setIfInBounds, hlt, if_true] at h2
              injection h2 with h2
              rw [h2]
            · simp only [Act.put]
              rw [Array.setIfInBounds_eq_of_size_le (by rw [← hsz]; exact Nat.le_of_not_lt hlt), Array.setIfInBounds_eq_of_size_le (by rw [← hsz]; exact Nat.le_of_not_lt hlt)]
        rw [hu]
        exact go u w' hb' hd'
      split
      · rename_i hwant
        rw [if_pos hwant] at hst
        rcases hst with hst | ⟨_, a', w', h, _⟩
        · left
          unfold Oper.wp at *
          rw [hex]
          generalize (execOp (lay ops a0 vs i).eval o).run P w = r at *
          cases r with
          | ok x w' =>
            cases x <;> simp only [Oper.upon] at hst ⊢
            case value u => exact fin u w' (by simpa [wpList] using hst)
            case skip => exact fin undef w' (by simpa [wpList] using hst)
            case defer d =>
              simp only [wpList, OpPost] at hst
              obtain ⟨_, v, he, _⟩ := hst
              exfalso
              have h1 := congrArg Act.defers he
              have h2 : ∀ (a : Act) (x : Option Tmp) (v : Value), (a.put x v).defers = a.defers := by intro a x v; cases x <;> rfl
              rw [h2, h2] at h1
              simp at h1
            case enter f args =>
              refine Calls.mono hst fun e w'' he => ?_
              cases e with
              | returned u => exact fin u w'' (by simpa [wpList] using he)
              | panicked c => exact absurd he.1 (by simp)
              | outgrown => obtain ⟨a', w3, h, _⟩ := he; cases h
            case row row args => exact Rows.mono hst fun u w'' he => fin u w'' (by simpa [wpList] using he)
          | halt x w' =>
            cases x <;> simp only [Oper.upon] at hst ⊢
            case panic u => exact absurd hst.1 (by simp)
        · cases h
      · rename_i hwant
        rw [if_neg hwant] at hst
        exact fin undef w (by simpa [wpList] using hst)

theorem wpFacts_spec {R : Act → World → Prop} {pr : Nat → List Nat} (hpr : ∀ k, ∀ j ∈ pr k, j < k) (vs : Nat → Value) :
    ∀ (Ds : List (List Nat × (Value → World → Prop))) (l : List Oper) (k : Nat) (F : List (World → Prop)) (a : Act), (∀ m p d, Ds[m]? = some (p, d) → p = pr (k + m) ∧ d = D (k + m)) →
      F = (List.range k).map (fun j => D j (vs j)) → a = lay ops a0 vs k → (∀ m, l[m]? = ops[k + m]?) → k + Ds.length ≤ ops.size → wpFacts P ops w0 R Ds l F a →
      (∀ m o, m < Ds.length → ops[k + m]? = some o → ∀ w, BelD w0 w → (∀ j ∈ pr (k + m), D j (vs j) w) → wpList P ops (OpPost o (lay ops a0 vs (k + m)) (D (k + m)) w) [o] (lay ops a0 vs (k + m)) w) ∧
      (∀ w, BelD w0 w → (∀ j, j < k + Ds.length → D j (vs j) w) → R (lay ops a0 vs (k + Ds.length)) w)
  | [], l, k, F, a, _, hF, ha, _, _, h => by
    subst hF; subst ha
    refine ⟨fun m o hm => absurd hm (by simp), fun w hb hf => ?_⟩
    have h' : ∀ w, BelD w0 w → allOf w ((List.range k).map (fun j => D j (vs j))) → R (lay ops a0 vs k) w := by cases l <;> exact h
    refine h' w hb (allOf_of (fun f hff => ?_))
    obtain ⟨j, hj, rfl⟩ := List.mem_map.1 hff
    exact hf j (by simpa using hj)
  | (p, d) :: Ds, l, k, F, a, hDs, hF, ha, hl, hk, h => by
    obtain ⟨rfl, rfl⟩ := hDs 0 p d rfl
    have hks : k < ops.size := by simp at hk; omega
    match l, hl 0 with
    | [], h0 => simp [hks] at h0
    | o :: l, h0 =>
      have ho : ops[k]? = some o := by simpa using h0.symm
      obtain ⟨h1, h2⟩ := h
      have ih := wpFacts_spec hpr vs Ds l (k + 1) (F ++ [D k (vs k)]) (a.put o.dst (vs k)) (fun m p d hm => by
          have := hDs (m + 1) p d (by simpa using hm)
          rwa [show k + (m + 1) = k + 1 + m by omega] at this)
        (by rw [hF, List.range_succ, List.map_append]; rfl) (by rw [ha]; simp [lay, opDst, ho]) (fun m => by
          have := hl (m + 1)
          rw [show k + (m + 1) = k + 1 + m by omega] at this
          simpa using this) (by simp at hk; omega) (h2 (vs k))
      refine ⟨fun m o' hm ho' w hb hf => ?_, fun w hb hf => ?_⟩
      · match m with
        | 0 =>
          have : o' = o := by rw [Nat.add_zero, ho] at ho'; injection ho' with h; exact h.symm
          subst this
          subst ha
          refine h1 w hb (holds_of (fun j hj => ?_))
          have hjk := hpr _ j hj
          subst hF
          rw [getD_range_map _ _ k j hjk]
          exact hf j hj
        | m + 1 =>
          have e : k + (m + 1) = k + 1 + m := by omega
          rw [e] at ho' hf ⊢
          exact ih.1 m o' (by simpa using hm) ho' w hb hf
      · have e : k + ((pr (k + 0), D (k + 0)) :: Ds).length = k + 1 + Ds.length := by simp; omega
        rw [e] at hf ⊢
        exact ih.2 w hb hf

/-- **A REGION THAT DRAWS ITS ORDER**: 'pre': which operations surely come before each; 'Ds': what the value of each comes to. -/
theorem wp_region_facts {id : Nat} {l : List Oper} {w : World} (pre : List (List Nat)) (Ds : List (Value → World → Prop)) (hm : P.follows .mixedOrders = true) (hB : factsB l.toArray pre pre.length = true) (hlen : pre.length = Ds.length) (hD : allStable Ds)
    (h : wpFacts P l.toArray w (fun a w => wpList P l.toArray Q (l.drop pre.length) a w) (pre.zip Ds) l [] a0) : (Code.region id l.toArray true).wp P Q a0 w := by
  have ht := textOk hB
  refine wp_region_any hm ?_
  have key : ∀ vs : Nat → Value, _ := fun vs => wpFacts_spec (P := P) (ops := l.toArray) (w0 := w) (a0 := a0) (D := fun k => Ds.getD k (fun _ _ => True)) (pr := fun k => if k < pre.length then pre.getD k [] else []) (by
      intro k j hj
      by_cases hk : k < pre.length
      · rw [if_pos hk] at hj
        have hks : k < l.toArray.size := Nat.lt_of_lt_of_le hk ht.le
        exact (ht.waits k _ (Array.getElem?_eq_getElem hks) j (by simpa [preOf, hk] using hj)).1
      · rw [if_neg hk] at hj; cases hj) vs (pre.zip Ds) l 0 [] a0 (by
      intro m p d hmd
      rw [List.getElem?_zip_eq_some] at hmd
      obtain ⟨h1, h2⟩ := hmd
      have hml : m < pre.length := (List.getElem?_eq_some_iff.1 h1).1
      simp [hml, List.getD, h1, h2] at *
      simp [h1]) rfl rfl (by simp) (by simp [List.length_zip, hlen]; have := ht.le; simp [hlen] at this; omega) h
  have hzl : (pre.zip Ds).length = pre.length := by simp [List.length_zip, hlen]
  have hlay : layL l.toArray a0 (Array.replicate l.toArray.size false) (fun _ => undef) pre.length = a0 := by
    have : ∀ m, layL l.toArray a0 (Array.replicate l.toArray.size false) (fun _ => undef) m = a0 := by
      intro m
      induction m with
      | zero => rfl
      | succ m ih =>
        unfold layL
        rw [if_neg (by simp [Array.getElem?_replicate]; split <;> simp), ih]
    exact this _
  have hno : ∀ k, (Array.replicate l.toArray.size false).getD k false = false := by
    intro k; simp [Array.getElem?_replicate]; split <;> simp
  have := facts_sound (P := P) (Q := Q) (ops := l.toArray) (w0 := w) (a0 := a0) (n := pre.length) (D := fun k => Ds.getD k (fun _ _ => True)) ht (fun k v w w' hb hd => allStable_get hD k v w w' hb hd)
    (fun k o hk ho vs w hb hf => by
      have := (key vs).1 k o (by rw [hzl]; exact hk) (by rw [Nat.zero_add]; exact ho) w hb (fun j hj => hf j (by simpa [preOf, hk] using hj))
      simpa using this)
    (fun vs w hb hf => by
      have := (key vs).2 w hb (fun j hj => hf j (by rw [hzl] at hj; omega))
      rw [hzl, Nat.zero_add] at this
      exact this)
    l.toArray.size (Array.replicate l.toArray.size false) (fun _ => undef) w.drew (by simp) (fun k _ hl => by rw [hno] at hl; cases hl) (fun k _ => hno k) (BelD.refl _).drew (fun k _ hl => by rw [hno] at hl; cases hl)
    (by
      have : ∀ m, cnt (Array.replicate l.toArray.size false) m = m := by
        intro m
        induction m with
        | zero => rfl
        | succ m ih => unfold cnt; rw [ih, hno]; simp
      exact this _)
  rw [hlay] at this
  exact this

theorem wf_step {R : Act → World → Prop} {p : List Nat} {pre : List (List Nat)} {d : Value → World → Prop} {Ds : List (Value → World → Prop)} {o : Oper} {l : List Oper} {F : List (World → Prop)} {a : Act}
    (h1 : ∀ w, BelD w0 w → holds F w p → wpList P ops (OpPost o a d w) [o] a w) (h2 : ∀ v, wpFacts P ops w0 R (pre.zip Ds) l (F ++ [d v]) (a.put o.dst v)) :
    wpFacts P ops w0 R ((p :: pre).zip (d :: Ds)) (o :: l) F a := ⟨h1, h2⟩
theorem wf_done {R : Act → World → Prop} {l : List Oper} {F : List (World → Prop)} {a : Act} (h : ∀ w, BelD w0 w → allOf w F → R a w) : wpFacts P ops w0 R (([] : List (List Nat)).zip ([] : List (Value → World → Prop))) l F a := by
  cases l <;> exact h

end
end Go.Proofs.Ythefakiobpijiaa.Drn
