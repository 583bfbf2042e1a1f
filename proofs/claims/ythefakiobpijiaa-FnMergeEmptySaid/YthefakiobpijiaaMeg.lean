/- HELPER, no statement of the seat: several texts in one file. -/
import Derived.Test.YthefakiobpijiaaZba
import Derived.Test.YthefakiobpijiaaGrf
import Derived.Test.YthefakiobpijiaaDrg
import Derived.Test.YthefakiobpijiaaDrh
/- HELPER, no statement of the seat: a region that draws its order, walked by facts, over any relation between worlds, and any property that each operation hands on (so that a reader may be called in it). -/
namespace Go.Proofs.Ythefakiobpijiaa.Rgn
open Go.RowKit Go.Sort Go.Proofs.Ythefakiobpijiaa
set_option linter.unusedSimpArgs false
set_option linter.unusedVariables false

/-- What one operation must come to. -/
def OpPost (Rl : World → World → Prop) (I : Nat → World → Prop) (f : Nat) (o : Oper) (a : Act) (d : Value → World → Prop) (w : World) (e : Exit) (a' : Act) (w' : World) : Prop :=
  e = .normal ∧ ∃ v, a' = a.put o.dst v ∧ Rl w w' ∧ I f w' ∧ d v w'

/-- The walk in the order of the text. -/
def wpFacts (P : Program) (ops : Array Oper) (Rl : World → World → Prop) (I : Nat → World → Prop) (R : Act → World → Prop) : List (List Nat × (Value → World → Prop)) → List Oper → List (World → Prop) → Act → Prop
  | (p, d) :: Ds, o :: l, F, a => (∀ f w, I (f + 1) w → holds F w p → wpList P ops (OpPost Rl I f o a d w) [o] a w) ∧ ∀ v, wpFacts P ops Rl I R Ds l (F ++ [d v]) (a.put o.dst v)
  | _, _, F, a => ∀ f w, I f w → allOf w F → R a w

section
variable {P : Program} {ops : Array Oper} {Q : Exit → Act → World → Prop} {Rl : World → World → Prop} {I : Nat → World → Prop} {a0 : Act} {n : Nat} {D : Nat → Value → World → Prop}
theorem facts_sound {pre : List (List Nat)} (ht : TextOk ops pre n) (hD : ∀ k v w w', Rl w w' → D k v w → D k v w')
    (step : ∀ k o, k < n → ops[k]? = some o → ∀ (vs : Nat → Value) f w, I (f + 1) w → (∀ j ∈ preOf pre n k, D j (vs j) w) → wpList P ops (OpPost Rl I f o (lay ops a0 vs k) (D k) w) [o] (lay ops a0 vs k) w)
    (done : ∀ (vs : Nat → Value) f w, I f w → (∀ k, k < n → D k (vs k) w) → wpList P ops Q (ops.toList.drop n) (lay ops a0 vs n) w) :
    ∀ (fuel : Nat) (listed : Array Bool) (vs : Nat → Value) (w : World), listed.size = ops.size → Closed ops pre n listed → (∀ k, n ≤ k → listed.getD k false = false) → I fuel w →
      (∀ k, k < n → listed.getD k false = true → D k (vs k) w) → cnt listed ops.size = fuel → wpAny P .any ops Q fuel listed (layL ops a0 listed vs n) w := by
  intro fuel
  induction fuel with
  | zero =>
    intro listed vs w hs hc hno hb hf hcnt
    have hall := cnt_zero _ hcnt
    have hn : n = ops.size := by
      rcases Nat.lt_or_ge n ops.size with h | h
      · have h1 := hall n h
        rw [hno n (Nat.le_refl _)] at h1; cases h1
      · have := ht.le; omega
    rw [layL_all n (fun k hk => hall k (by have := ht.le; omega))]
    exact tail_sound ht 0 n listed _ w (by omega) (Nat.le_refl _) hs hc (fun j => ⟨fun h => (by
      rcases Nat.lt_or_ge j n with h' | h'
      · exact h'
      · rw [hno j h'] at h; exact (Bool.noConfusion h)), fun h => hall j (by omega)⟩) (done vs _ w hb (fun k hk => hf k hk (hall k (by omega))))
  | succ fuel ih =>
    intro listed vs w hs hc hno hb hf hcnt
    by_cases hall : ∀ k, k < n → listed.getD k false = true
    · rw [layL_all n hall]
      have hcn : cnt listed ops.size = ops.size - n := by
        have : ∀ m, n ≤ m → cnt listed m = m - n := by
          intro m
          induction m with
          | zero => intro h; simp [cnt]
          | succ m ihm =>
            intro h
            rcases Nat.lt_or_ge n (m + 1) with h' | h'
            · unfold cnt
              rw [ihm (by omega), hno m (by omega)]
              simp; omega
            · rw [cnt_all (m + 1) (fun k hk => hall k (by omega))]; omega
        exact this _ ht.le
      refine tail_sound ht (fuel + 1) n listed _ w (by have h1 := ht.le; omega) (Nat.le_refl _) hs hc (fun j => ⟨fun h => ?_, fun h => hall j h⟩) (done vs _ w hb (fun k hk => hf k hk (hall k hk)))
      rcases Nat.lt_or_ge j n with h' | h'
      · exact h'
      · rw [hno j h'] at h; cases h
    · obtain ⟨k, hk, hkf, hkb⟩ := first_open ops.size (by omega : cnt listed ops.size ≠ 0)
      have hkr := ready_first ht hs hk hkf hkb
      refine ⟨fun h0 => (by rw [h0] at hkr; cases hkr), fun i hi => ?_⟩
      obtain ⟨hi0, o, ho, _⟩ := mem_ready.1 hi
      have hisz := (Array.getElem?_eq_some_iff.1 ho).1
      have hin : i < n := by
        rcases Nat.lt_or_ge i n with h | h
        · exact h
        · exact absurd (fun k hk => ready_pre ht hc hi k (by simp [preOf, show ¬ i < n by omega]; omega)) hall
      have hif : listed.getD i false = false := by simp [hs, hisz] at hi0 ⊢; exact hi0
      have hpre := ready_pre ht hc hi
      have hlt : ∀ j ∈ preOf pre n i, j < i := fun j hj => (ht.waits i o ho j hj).1
      have hst := step i o hin ho vs fuel w hb (fun j hj => hf j (by have := hlt j hj; omega) (hpre j hj))
      have htmp : ∀ t ∈ o.looksAt ops, (layL ops a0 listed vs n).tmps[t]? = (lay ops a0 vs i).tmps[t]? := by
        intro t htl
        have := tmp_lay (a0 := a0) (vs := vs) (ops := ops) (n := n) (listed := listed) (t := t) (k := i) (fun j hj hd => by
          by_cases hji : j = i
          · subst hji
            have : o.dst = some t := by simpa [opDst, ho] using hd
            exact absurd htl (ht.own j o ho hin t this)
          · have hjp := (ht.dst i o ho hin j hj hji t hd).2 htl
            exact ⟨hlt j hjp, hpre j hjp⟩) n (Nat.le_refl _)
        rw [this, show min n i = i by omega]
      have hex : execOp (layL ops a0 listed vs n).eval o = execOp (lay ops a0 vs i).eval o :=
        execOp_congr o (fun cs b => Region.noSelect_spec ht.sel i o cs b ho) (fun x hx => by
          cases x with
          | tmp t =>
            have := htmp t (List.mem_append_left _ (List.mem_filterMap.2 ⟨.tmp t, by simpa using hx, rfl⟩))
            simp only [Act.eval, Array.getD_eq_getD_getElem?, this]
          | _ => rfl)
      have hwa : Region.wanted o (yielded ops (layL ops a0 listed vs n).tmps) = Region.wanted o (yielded ops (lay ops a0 vs i).tmps) := by
        unfold Region.wanted
        cases hg : o.guard with
        | none => rfl
        | some gw =>
          obtain ⟨g, want⟩ := gw
          have hy : yielded ops (layL ops a0 listed vs n).tmps g = yielded ops (lay ops a0 vs i).tmps g := by
            unfold yielded
            cases hd : (ops[g]?).bind (·.dst) with
            | none => rfl
            | some t =>
              have := htmp t (by simp [Oper.looksAt, hg, hd])
              simp only [Option.bind_some, this]
          simp only [hy]
      have hdst : opDst ops i = o.dst := by simp [opDst, ho]
      have go : ∀ v w', Rl w w' → I fuel w' → D i v w' → wpAny P .any ops Q fuel (listed.setIfInBounds i true) ((layL ops a0 listed vs n).put o.dst v) w' := by
        intro v w' hb' hi' hd'
        have hput := layL_put (ops := ops) (a0 := a0) (n := n) (listed := listed) (vs := vs) (vs' := fun j => if j = i then v else vs j) (i := i) hif (by omega) (fun k hk => by simp [hk])
          (fun j hj hji d hd => by rw [hdst]; exact (ht.dst i o ho hin j hj hji d hd).1) n (Nat.le_refl _) hin
        simp only [if_true, hdst] at hput
        rw [← hput]
        have hcnt' := cnt_set hi0 ops.size hisz
        refine ih _ _ w' (by simpa using hs) (closed_set ht hc hi) (fun k hk => ?_) hi' (fun k hk hl => ?_) (by omega)
        · rw [getD_set_ne false (by omega)]; exact hno k hk
        · by_cases hki : k = i
          · subst hki; simpa using hd'
          · rw [getD_set_ne false (Ne.symm hki)] at hl
            simp only [hki, if_false]
            exact hD k _ w w' hb' (hf k hk hl)
      unfold wpOp
      simp only [ho]
      unfold wpList at hst
      rw [hwa]
      have fin : ∀ v w', OpPost Rl I fuel o (lay ops a0 vs i) (D i) w .normal ((lay ops a0 vs i).put o.dst v) w' → wpAny P .any ops Q fuel (listed.setIfInBounds i true) ((layL ops a0 listed vs n).put o.dst v) w' := by
        intro v w' ⟨_, u, he, hb', hi', hd'⟩
        have hu : (layL ops a0 listed vs n).put o.dst v = (layL ops a0 listed vs n).put o.dst u := by
          cases hd : o.dst with
          | none => rfl
          | some d =>
            rw [hd] at he
            have h1 : (lay ops a0 vs i).tmps.setIfInBounds d v = (lay ops a0 vs i).tmps.setIfInBounds d u := congrArg Act.tmps he
            have hsz : (lay ops a0 vs i).tmps.size = (layL ops a0 listed vs n).tmps.size := by
              have s1 : ∀ m, (lay ops a0 vs m).tmps.size = a0.tmps.size := by
                intro m
                induction m with
                | zero => rfl
                | succ m ih => unfold lay; cases opDst ops m <;> simpa [Act.put] using ih
              have s2 : ∀ m, (layL ops a0 listed vs m).tmps.size = a0.tmps.size := by
                intro m
                induction m with
                | zero => rfl
                | succ m ih =>
                  unfold layL
                  split
                  · cases opDst ops m <;> simpa [Act.put] using ih
                  · exact ih
              rw [s1, s2]
            by_cases hlt : d < (lay ops a0 vs i).tmps.size
            · have h2 : ((lay ops a0 vs i).tmps.setIfInBounds d v)[d]? = ((lay ops a0 vs i).tmps.setIfInBounds d u)[d]? := by rw [h1]
              simp only [Array.getElem?_setIfInBounds, hlt, if_true] at h2
              injection h2 with h2
              rw [h2]
            · simp only [Act.put]
              rw [Array.setIfInBounds_eq_of_size_le (by rw [← hsz]; exact Nat.le_of_not_lt hlt), Array.setIfInBounds_eq_of_size_le (by rw [← hsz]; exact Nat.le_of_not_lt hlt)]
        rw [hu]
        exact go u w' hb' hi' hd'
      split
      · rename_i hwant
        rw [if_pos hwant] at hst
        rcases hst with hst | ⟨_, a', w', h, _⟩
        · left
          unfold Oper.wp at *
          rw [hex]
          generalize (execOp (lay ops a0 vs i).eval o).run P w = r at *
          cases r with
          | ok x w' =>
            cases x <;> simp only [Oper.upon] at hst ⊢
            case value u => exact fin u w' (by simpa [wpList] using hst)
            case skip => exact fin undef w' (by simpa [wpList] using hst)
            case defer d =>
              simp only [wpList, OpPost] at hst
              obtain ⟨_, v, he, _⟩ := hst
              exfalso
              have h1 := congrArg Act.defers he
              have h2 : ∀ (a : Act) (x : Option Tmp) (v : Value), (a.put x v).defers = a.defers := by intro a x v; cases x <;> rfl
              rw [h2, h2] at h1
              simp at h1
            case enter f args =>
              refine Calls.mono hst fun e w'' he => ?_
              cases e with
              | returned u => exact fin u w'' (by simpa [wpList] using he)
              | panicked c => exact absurd he.1 (by simp)
              | outgrown => obtain ⟨a', w3, h, _⟩ := he; cases h
            case row row args => exact Rows.mono hst fun u w'' he => fin u w'' (by simpa [wpList] using he)
          | halt x w' =>
            cases x <;> simp only [Oper.upon] at hst ⊢
            case panic u => exact absurd hst.1 (by simp)
        · cases h
      · rename_i hwant
        rw [if_neg hwant] at hst
        exact fin undef w (by simpa [wpList] using hst)

theorem wpFacts_spec {R : Act → World → Prop} {pr : Nat → List Nat} (hpr : ∀ k, ∀ j ∈ pr k, j < k) (vs : Nat → Value) :
    ∀ (Ds : List (List Nat × (Value → World → Prop))) (l : List Oper) (k : Nat) (F : List (World → Prop)) (a : Act), (∀ m p d, Ds[m]? = some (p, d) → p = pr (k + m) ∧ d = D (k + m)) →
      F = (List.range k).map (fun j => D j (vs j)) → a = lay ops a0 vs k → (∀ m, l[m]? = ops[k + m]?) → k + Ds.length ≤ ops.size → wpFacts P ops Rl I R Ds l F a →
      (∀ m o, m < Ds.length → ops[k + m]? = some o → ∀ f w, I (f + 1) w → (∀ j ∈ pr (k + m), D j (vs j) w) → wpList P ops (OpPost Rl I f o (lay ops a0 vs (k + m)) (D (k + m)) w) [o] (lay ops a0 vs (k + m)) w) ∧
      (∀ f w, I f w → (∀ j, j < k + Ds.length → D j (vs j) w) → R (lay ops a0 vs (k + Ds.length)) w)
  | [], l, k, F, a, _, hF, ha, _, _, h => by
    subst hF; subst ha
    refine ⟨fun m o hm => absurd hm (by simp), fun f w hb hf => ?_⟩
    have h' : ∀ f w, I f w → allOf w ((List.range k).map (fun j => D j (vs j))) → R (lay ops a0 vs k) w := by cases l <;> exact h
    refine h' f w hb (allOf_of (fun ff hff => ?_))
    obtain ⟨j, hj, rfl⟩ := List.mem_map.1 hff
    exact hf j (by simpa using hj)
  | (p, d) :: Ds, l, k, F, a, hDs, hF, ha, hl, hk, h => by
    obtain ⟨rfl, rfl⟩ := hDs 0 p d rfl
    have hks : k < ops.size := by simp at hk; omega
    match l, hl 0 with
    | [], h0 => simp [hks] at h0
    | o :: l, h0 =>
      have ho : ops[k]? = some o := by simpa using h0.symm
      obtain ⟨h1, h2⟩ := h
      have ih := wpFacts_spec hpr vs Ds l (k + 1) (F ++ [D k (vs k)]) (a.put o.dst (vs k)) (fun m p d hm => by
          have := hDs (m + 1) p d (by simpa using hm)
          rwa [show k + (m + 1) = k + 1 + m by omega] at this)
        (by rw [hF, List.range_succ, List.map_append]; rfl) (by rw [ha]; simp [lay, opDst, ho]) (fun m => by
          have := hl (m + 1)
          rw [show k + (m + 1) = k + 1 + m by omega] at this
          simpa using this) (by simp at hk; omega) (h2 (vs k))
      refine ⟨fun m o' hm ho' f w hb hf => ?_, fun f w hb hf => ?_⟩
      · match m with
        | 0 =>
          have : o' = o := by rw [Nat.add_zero, ho] at ho'; injection ho' with h; exact h.symm
          subst this
          subst ha
          refine h1 f w hb (holds_of (fun j hj => ?_))
          have hjk := hpr _ j hj
          subst hF
          rw [getD_range_map _ _ k j hjk]
          exact hf j hj
        | m + 1 =>
          have e : k + (m + 1) = k + 1 + m := by omega
          rw [e] at ho' hf ⊢
          exact ih.1 m o' (by simpa using hm) ho' f w hb hf
      · have e : k + ((pr (k + 0), D (k + 0)) :: Ds).length = k + 1 + Ds.length := by simp; omega
        rw [e] at hf ⊢
        exact ih.2 f w hb hf

/-- Each fact stays true in a world that has only grown. -/
def Stable (Rl : World → World → Prop) (d : Value → World → Prop) : Prop := ∀ v w w', Rl w w' → d v w → d v w'
def allStable (Rl : World → World → Prop) : List (Value → World → Prop) → Prop
  | [] => True
  | d :: Ds => Stable Rl d ∧ allStable Rl Ds
theorem stable_pure (p : Value → Prop) : Stable Rl (fun v _ => p v) := fun _ _ _ _ h => h

theorem allStable_get : ∀ {Ds : List (Value → World → Prop)}, allStable Rl Ds → ∀ k, Stable Rl (Ds.getD k (fun _ _ => True))
  | [], _, k => by simp only [List.getD_nil]; exact stable_pure _
  | d :: Ds, h, 0 => h.1
  | d :: Ds, h, k + 1 => by simpa using allStable_get h.2 k

/-- **A REGION THAT DRAWS ITS ORDER**: 'pre': which operations surely come before each; 'Ds': what the value of each comes to. -/
theorem wp_region_facts {id : Nat} {l : List Oper} {w : World} (Rl : World → World → Prop) (I : Nat → World → Prop) (h0 : I l.toArray.size w.drew) (pre : List (List Nat)) (Ds : List (Value → World → Prop)) (hm : P.follows .mixedOrders = true) (hB : factsB l.toArray pre pre.length = true) (hlen : pre.length = Ds.length) (hD : allStable Rl Ds)
    (h : wpFacts P l.toArray Rl I (fun a w => wpList P l.toArray Q (l.drop pre.length) a w) (pre.zip Ds) l [] a0) : (Code.region id l.toArray true).wp P Q a0 w := by
  have ht := textOk hB
  refine wp_region_any hm ?_
  have key : ∀ vs : Nat → Value, _ := fun vs => wpFacts_spec (P := P) (ops := l.toArray) (Rl := Rl) (I := I) (a0 := a0) (D := fun k => Ds.getD k (fun _ _ => True)) (pr := fun k => if k < pre.length then pre.getD k [] else []) (by
      intro k j hj
      by_cases hk : k < pre.length
      · rw [if_pos hk] at hj
        have hks : k < l.toArray.size := Nat.lt_of_lt_of_le hk ht.le
        exact (ht.waits k _ (Array.getElem?_eq_getElem hks) j (by simpa [preOf, hk] using hj)).1
      · rw [if_neg hk] at hj; cases hj) vs (pre.zip Ds) l 0 [] a0 (by
      intro m p d hmd
      rw [List.getElem?_zip_eq_some] at hmd
      obtain ⟨h1, h2⟩ := hmd
      have hml : m < pre.length := (List.getElem?_eq_some_iff.1 h1).1
      simp [hml, List.getD, h1, h2] at *
      simp [h1]) rfl rfl (by simp) (by simp [List.length_zip, hlen]; have := ht.le; simp [hlen] at this; omega) h
  have hzl : (pre.zip Ds).length = pre.length := by simp [List.length_zip, hlen]
  have hlay : layL l.toArray a0 (Array.replicate l.toArray.size false) (fun _ => undef) pre.length = a0 := by
    have : ∀ m, layL l.toArray a0 (Array.replicate l.toArray.size false) (fun _ => undef) m = a0 := by
      intro m
      induction m with
      | zero => rfl
      | succ m ih =>
        unfold layL
        rw [if_neg (by simp [Array.getElem?_replicate]; split <;> simp), ih]
    exact this _
  have hno : ∀ k, (Array.replicate l.toArray.size false).getD k false = false := by
    intro k; simp [Array.getElem?_replicate]; split <;> simp
  have := facts_sound (P := P) (Q := Q) (ops := l.toArray) (Rl := Rl) (I := I) (a0 := a0) (n := pre.length) (D := fun k => Ds.getD k (fun _ _ => True)) ht (fun k v w w' hb hd => allStable_get hD k v w w' hb hd)
    (fun k o hk ho vs f w hb hf => by
      have := (key vs).1 k o (by rw [hzl]; exact hk) (by rw [Nat.zero_add]; exact ho) f w hb (fun j hj => hf j (by simpa [preOf, hk] using hj))
      simpa using this)
    (fun vs f w hb hf => by
      have := (key vs).2 f w hb (fun j hj => hf j (by rw [hzl] at hj; omega))
      rw [hzl, Nat.zero_add] at this
      exact this)
    l.toArray.size (Array.replicate l.toArray.size false) (fun _ => undef) w.drew (by simp) (fun k _ hl => by rw [hno] at hl; cases hl) (fun k _ => hno k) h0 (fun k _ hl => by rw [hno] at hl; cases hl)
    (by
      have : ∀ m, cnt (Array.replicate l.toArray.size false) m = m := by
        intro m
        induction m with
        | zero => rfl
        | succ m ih => unfold cnt; rw [ih, hno]; simp
      exact this _)
  rw [hlay] at this
  exact this

end
/-! ### The steps -/
section
variable {P : Program} {ops : Array Oper} {Rl : World → World → Prop} {I : Nat → World → Prop}
structure WfOp (P : Program) (ops : Array Oper) (Rl : World → World → Prop) (I : Nat → World → Prop) (f : Nat) (o : Oper) (a : Act) (d : Value → World → Prop) (w : World) : Prop where
  out : wpList P ops (OpPost Rl I f o a d w) [o] a w
theorem wf_stepK {R : Act → World → Prop} {p : List Nat} {pre : List (List Nat)} {d : Value → World → Prop} {Ds : List (Value → World → Prop)} {o : Oper} {l : List Oper} {F : List (World → Prop)} {a : Act}
    (sub : List Nat) (Fp : List (World → Prop)) (hs : (sub.all fun j => p.contains j) = true) (hF : (sub.map fun j => F.getD j (fun _ => True)) = Fp)
    (h1 : ∀ f w, I (f + 1) w → allOf w Fp → WfOp P ops Rl I f o a d w) (h2 : ∀ v, wpFacts P ops Rl I R (pre.zip Ds) l (F ++ [d v]) (a.put o.dst v)) :
    wpFacts P ops Rl I R ((p :: pre).zip (d :: Ds)) (o :: l) F a := ⟨fun f w hb hf => (h1 f w hb (hF ▸ allOf_map hf sub hs)).out, h2⟩
theorem wf_doneK {R : Act → World → Prop} {l : List Oper} {F : List (World → Prop)} {a : Act} (sub : List Nat) (Fp : List (World → Prop)) (hs : (sub.all fun j => decide (j < F.length)) = true) (hF : (sub.map fun j => F.getD j (fun _ => True)) = Fp)
    (h : ∀ f w, I f w → allOf w Fp → R a w) : wpFacts P ops Rl I R (([] : List (List Nat)).zip ([] : List (Value → World → Prop))) l F a := by
  have hp : ∀ (F : List (World → Prop)) w, allOf w F → ∀ j, j < F.length → (F.getD j (fun _ => True)) w := by
    intro F w
    induction F with
    | nil => intro _ j hj; cases hj
    | cons f F ih =>
      intro h j hj
      cases j with
      | zero => exact h.1
      | succ j => exact ih h.2 j (by simpa using hj)
  have key : ∀ f w, I f w → allOf w F → R a w := by
    intro f w hb hf
    refine h f w hb ?_
    rw [← hF]
    clear hF h
    induction sub with
    | nil => trivial
    | cons j sub ih =>
      simp only [List.all_cons, Bool.and_eq_true] at hs
      exact ⟨hp F w hf j (by simpa using hs.1), ih hs.2⟩
  cases l <;> exact key
/-- An operation that only lets grow. -/
theorem WfOp.ofB (hR : ∀ w w', Below w.heap.size w w' → Rl w w') (hI : ∀ f w w', Below w.heap.size w w' → I (f + 1) w → I f w') {f : Nat} {o : Oper} {a : Act} {d : Value → World → Prop} {w : World} (hi : I (f + 1) w) (h : Go.Proofs.Ythefakiobpijiaa.WfOp P ops o a d w) : WfOp P ops Rl I f o a d w :=
  ⟨wpList_norm (fun e a w h => h.1) (fun a' w' h => by
    obtain ⟨_, v, e, hb, hd⟩ := h
    exact ⟨rfl, v, e, hR _ _ hb, hI _ _ _ hb hi, hd⟩) _ _ _ h.out⟩
end
/-! ### A reader -/
def RR (g : Nat) (w w' : World) : Prop := w.grownBy w' (some g)
/-- The reader g, asked no more than 400 times for each operation that has come up. -/
def RI (w0 : World) (g : Nat) (A : Option Addr) (n c : Nat) (p0 P0 : Int) (f : Nat) (w : World) : Prop := w0.grownBy w (some g) ∧ ∃ q, Rdr w g A n c q ∧ p0 ≤ q ∧ q + 400 * (f : Int) ≤ P0
theorem RI.below {w0 : World} {g : Nat} {A : Option Addr} {n c : Nat} {p0 P0 : Int} : ∀ f w w', Below w.heap.size w w' → RI w0 g A n c p0 P0 (f + 1) w → RI w0 g A n c p0 P0 f w' := fun f w w' hb ⟨h, q, hr, h1, h2⟩ => ⟨h.trans (gbel hb), q, hr.below hb, h1, by omega⟩
theorem RR.ofB {g : Nat} : ∀ w w', Below w.heap.size w w' → RR g w w' := fun w w' h => gbel h
theorem RI.start {w0 : World} {g : Nat} {A : Option Addr} {n c : Nat} {p : Int} {k : Nat} (hr : Rdr w0 g A n c p) : RI w0 g A n c p (p + 400 * (k : Int)) k w0.drew := ⟨⟨rfl, rfl, rfl, Nat.le_refl _, fun _ _ _ => rfl⟩, p, hr, by omega, by omega⟩
theorem RI.op {P : Program} {ops : Array Oper} {w0 : World} {g : Nat} {A : Option Addr} {n c : Nat} {p0 P0 : Int} {f : Nat} {o : Oper} {a : Act} {d : Value → World → Prop} {w : World} (hi : RI w0 g A n c p0 P0 (f + 1) w)
    (h : ∀ q, Rdr w g A n c q → p0 ≤ q → q + 400 * (f : Int) + 400 ≤ P0 → w0.grownBy w (some g) → WfOp P ops (RR g) (RI w0 g A n c p0 P0) f o a d w) : WfOp P ops (RR g) (RI w0 g A n c p0 P0) f o a d w := by
  obtain ⟨hg, q, hr, h1, h2⟩ := hi
  exact h q hr h1 (by omega) hg
theorem stable_of {g : Nat} {d : Value → World → Prop} (h : ∀ v w w', w.grownBy w' (some g) → d v w → d v w') : Stable (RR g) d := h
end Go.Proofs.Ythefakiobpijiaa.Rgn

/- HELPER, no statement of the seat: the generators of rows that may be invalid, of two rows, of lists of entries. -/
namespace Go.Proofs.Ythefakiobpijiaa
open Go.RowKit Go.Sort
set_option linter.unusedSimpArgs false
set_option linter.unusedVariables false

theorem IntsOwn.keptG {w w' : World} {base g : Nat} {A : Option Addr} {c : Nat} {xs : List Int} (h : IntsOwn w base A c xs) (hg : w.grownBy w' (some g)) (hlt : g < base) : IntsOwn w' base A c xs := ownG h hg hlt
theorem IntsOwn.store {w : World} {base G c k : Nat} {xs : List Int} (h : IntsOwn w base (some ⟨G, 0, none⟩) c xs) (x : Int) : IntsOwn (w.setCell ⟨G, k, none⟩ (.int .i64 x)) base (some ⟨G, 0, none⟩) c (xs.set k x) := by
  have := (World.ownsRow.stored h k (.int .i64 x)).1
  rw [← List.map_set] at this
  simpa [IntsOwn] using this
def RowAny (w : World) (g : Nat) (A : Option Addr) (n c : Nat) (p : Int) (e : Ending) (w' : World) : Prop :=
  ∃ (xs : List Int) (A' : Option Addr) (c' : Nat) (q : Int), e = .returned (.slice A' xs.length c') ∧ xs.length ≤ 8 ∧ IntsOwn w' w.heap.size A' c' xs ∧ p ≤ q ∧ q ≤ p + 20 ∧ Rdr w' g A n c q ∧ w.grownBy w' (some g)
/-! ### Two rows -/
def TwoRows (w : World) (e : Ending) (w' : World) : Prop := ∃ (xs ys : List Int) (A1 A2 : Option Addr) (c1 c2 : Nat), e = .returned (.tuple #[.slice A1 xs.length c1, .slice A2 ys.length c2]) ∧ xs.length ≤ 10 ∧ ys.length ≤ 10 ∧ IntsAt w' A1 xs ∧ IntsAt w' A2 ys ∧ Below w.heap.size w w'
end Go.Proofs.Ythefakiobpijiaa
