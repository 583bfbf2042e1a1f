/- HELPER, no statement of the seat: slices.DeleteFunc at antichains, with Time.lessEqual bound to a time. -/
import Derived.Test.YtkonhjdfcfljpaaFrI
import Derived.Test.YtkonhjdfcfljpaaTmK
import Derived.Test.YtkonhjdfcfljpaaBldM
namespace Go.Proofs.Ytkonhjdfcfljpaa
open Go.RowKit Go.Sort
set_option linter.unusedSimpArgs false
set_option linter.unusedVariables false

/-- A beginning of a row is a row. -/
theorem ownsRow_take {w : World} {base : Nat} {E : TypeId} {sz : Nat} {A : Option Addr} {n c i : Nat} {vs : List Value} (h : w.ownsRow base E sz (.slice A n c) n vs) (hi : i ≤ n) : w.ownsRow base E sz (.slice A i c) i (vs.take (i * sz)) := by
  obtain ⟨hl, h⟩ := h
  have hm : i * sz ≤ n * sz := Nat.mul_le_mul_right _ hi
  refine ⟨by rw [List.length_take, hl]; omega, ?_⟩
  rcases h with ⟨e, h0⟩ | ⟨g, cap, cur, e, hb, hg, h1, h2, h3, h4⟩
  · injection e with e1 e2 e3
    subst e1; subst e3
    obtain rfl : i = 0 := by omega
    exact .inl ⟨rfl, rfl⟩
  · injection e with e1 e2 e3
    subst e1; subst e3
    exact .inr ⟨g, c, cur, rfl, hb, hg, by omega, h2, h3, by rw [← h4, List.take_take]; congr 1; omega⟩
theorem ownsRow_setCells {base : Nat} {E : TypeId} {sz g c n : Nat} : ∀ (vs : List Value) (o : Nat) (w : World) (xs : List Value), w.ownsRow base E sz (.slice (some ⟨g, 0, none⟩) n c) n xs → ∃ xs', (w.setCells g o vs).ownsRow base E sz (.slice (some ⟨g, 0, none⟩) n c) n xs' ∧ xs'.take o = xs.take o
  | [], _, _, xs, h => ⟨xs, h, rfl⟩
  | v :: r, o, w, xs, h => by
    obtain ⟨xs', h1, h2⟩ := ownsRow_setCells r (o + 1) _ _ (World.ownsRow.stored h o v).1
    refine ⟨xs', h1, ?_⟩
    have := congrArg (List.take o) h2
    rw [List.take_take, List.take_take, show min o (o + 1) = o by omega] at this
    rw [this, List.take_set_of_le (by omega)]
theorem grownS_setCells {a : World} {S : Fp} {b : Nat} (hS : S b) : ∀ (vs : List Value) (o : Nat) (w : World), GrownS a w S → GrownS a (w.setCells b o vs) S
  | [], _, _, h => h
  | v :: r, o, w, h => grownS_setCells hS r (o + 1) _ (h.set_ (p := ⟨b, o, none⟩) hS v)
theorem size_setCellsT (b : Nat) : ∀ (vs : List Value) (o : Nat) (w : World), (w.setCells b o vs).heap.size = w.heap.size
  | [], _, _ => rfl
  | v :: r, o, w => by rw [World.setCells, size_setCellsT b r]; simp

/-- How slices.DeleteFunc goes: D holds what was kept of the first j, then what was there. -/
structure DelT (p : Tm → Bool) (xs : List Tm) (j i : Nat) (D : List Tm) : Prop where
  len : D.length = xs.length
  lt : i < j
  cnt : i = ((xs.take j).filter p).length
  head : D.take i = (xs.take j).filter p
  tail : D.drop j = xs.drop j
theorem DelT.start {p : Tm → Bool} {xs : List Tm} {k : Nat} (hk : k < xs.length) (h : ∀ x ∈ xs.take k, p x = true) (hp : p xs[k] = false) : DelT p xs (k + 1) k xs := by
  have e : (xs.take (k + 1)).filter p = xs.take k := by
    rw [List.take_succ_eq_append_getElem hk, List.filter_append, List.filter_eq_self.2 h]
    simp [hp]
  exact ⟨rfl, by omega, by rw [e, List.length_take]; omega, e.symm, rfl⟩
theorem DelT.skip {p : Tm → Bool} {xs D : List Tm} {j i : Nat} (h : DelT p xs j i D) (hj : j < xs.length) (hp : p xs[j] = false) : DelT p xs (j + 1) i D := by
  have e : (xs.take (j + 1)).filter p = (xs.take j).filter p := by rw [List.take_succ_eq_append_getElem hj, List.filter_append]; simp [hp]
  refine ⟨h.len, by have := h.lt; omega, by rw [e]; exact h.cnt, by rw [e]; exact h.head, ?_⟩
  rw [← List.drop_drop, h.tail, List.drop_drop]
theorem DelT.keep {p : Tm → Bool} {xs D : List Tm} {j i : Nat} (h : DelT p xs j i D) (hj : j < xs.length) (hp : p xs[j] = true) : DelT p xs (j + 1) (i + 1) (D.set i xs[j]) := by
  have e : (xs.take (j + 1)).filter p = (xs.take j).filter p ++ [xs[j]] := by rw [List.take_succ_eq_append_getElem hj, List.filter_append]; simp [hp]
  have hl := h.lt
  have hD := h.len
  refine ⟨by simp [hD], by omega, by rw [e, List.length_append, ← h.cnt]; rfl, ?_, ?_⟩
  · rw [e, ← h.head, List.take_succ_eq_append_getElem (by simp; omega), List.getElem_set_self, List.take_set, List.set_eq_of_length_le (by simp; omega)]
  · rw [List.drop_set_of_lt (by omega), ← List.drop_drop, h.tail, List.drop_drop]
theorem DelT.at_ {p : Tm → Bool} {xs D : List Tm} {j i : Nat} (h : DelT p xs j i D) (hj : j < xs.length) : D.getD j (0, 0) = xs[j] := by
  have hD := h.len
  have e := congrArg (fun l => l[0]?) h.tail
  simp only [List.getElem?_drop, Nat.add_zero] at e
  rw [List.getElem?_eq_getElem hj] at e
  rw [List.getD_eq_getElem?_getD, e]
  rfl
theorem DelT.end_ {p : Tm → Bool} {xs D : List Tm} {i : Nat} (h : DelT p xs xs.length i D) : i = (xs.filter p).length ∧ D.take i = xs.filter p := by
  have h1 := h.cnt
  have h2 := h.head
  rw [List.take_length] at h1 h2
  exact ⟨h1, h2⟩
theorem timeL_take (l : List Tm) : ∀ i, (timeL l).take (i * 2) = timeL (l.take i) := by
  induction l with
  | nil => intro i; simp [timeL]
  | cons a l ih =>
    intro i
    cases i with
    | zero => simp [timeL]
    | succ i =>
      have := ih i
      rw [show (i + 1) * 2 = i * 2 + 1 + 1 by omega]
      simp only [timeL, List.flatMap_cons, List.take_succ_cons, List.cons_append, List.nil_append] at this ⊢
      rw [this]

abbrev leFn (x y : Int) : Value := .func (.func 102) #[.agg #[.int .i64 x, .int .i64 y]] #[]
def IdxT (p : Tm → Bool) (xs : List Tm) (e : Ending) : Prop := (e = .returned (.int .i64 (-1)) ∧ ∀ t ∈ xs, p t = true) ∨ ∃ (k : Nat) (hk : k < xs.length), e = .returned (.int .i64 (k : Int)) ∧ p xs[k] = false ∧ ∀ t ∈ xs.take k, p t = true
set_option maxHeartbeats 800000 in
theorem idxT_i (x y : Int) (A : Option Addr) (c : Nat) (xs : List Tm) (w : World) (hx : TimesAt w A xs) (hn : xs.length ≤ 4194304) :
    Calls Try.prog 173 #[.slice A xs.length c, leFn x y] w fun e w' => IdxT (fun t => !leB x y t.1 t.2) xs e ∧ Below w.heap.size w w' := by
  go_enter Try.func173, Try.ntmps173
  go_wp2
  go_loopw [5, 8] (fun _ i wr => ∃ k : Nat, k ≤ xs.length ∧ i = .int .i64 k ∧ Hid (∀ t ∈ xs.take k, (!leB x y t.1 t.2) = true) ∧ Below w.heap.size w wr) (fun _ i _ => xs.length - (intOf i).toNat)
  case atStart => exact ⟨0, by omega, rfl, fun t ht => by simp at ht, RowKit.Below.refl _ _⟩
  case round =>
    obtain ⟨k, hk, rfl, hall, hbel⟩ := hrel
    by_cases hlt : k < xs.length
    · obtain ⟨b, off, rfl, hbl, hc⟩ := hx (by omega)
      have q1 := (hbel.cell (p := ⟨b, off + k * 2, none⟩) hbl).trans (hc k hlt).1
      have q2 := (hbel.cell (p := ⟨b, off + k * 2 + 1, none⟩) hbl).trans (hc k hlt).2
      rw [getD_lt _ hlt] at q1 q2
      clear hc
      by_cases hz : leB x y xs[k].1 xs[k].2 = true
      · have hcon := fun W => timeLe_i x y xs[k].1 xs[k].2 W
        simp only [hz] at hcon
        have HP : Hid (IdxT (fun t => !leB x y t.1 t.2) xs (.returned (.int .i64 (k : Int)))) := .inr ⟨k, hlt, rfl, by simp [hz], hall.out⟩
        clear hz
        go_wp2_with (go_at_call 102; refine (hcon _).mono ?_; rintro e w1 ⟨rfl, hb⟩)
        go_ret
        exact ⟨HP.out, btr hbel (by assumption)⟩
      · have hz2 : leB x y xs[k].1 xs[k].2 = false := by simpa using hz
        have hcon := fun W => timeLe_i x y xs[k].1 xs[k].2 W
        simp only [hz2] at hcon
        have HA : Hid (∀ t ∈ xs.take (k + 1), (!leB x y t.1 t.2) = true) := fun t ht => by
          rw [List.take_succ_eq_append_getElem hlt] at ht
          rcases List.mem_append.1 ht with ht | ht
          · exact hall.out t ht
          · simp at ht; subst ht; simp [hz2]
        clear hz hz2
        go_wp2_with (go_at_call 102; refine (hcon _).mono ?_; rintro e w1 ⟨rfl, hb⟩)
        go_roundw
        case rel => exact ⟨k + 1, by omega, by go_num, HA, btr hbel (by assumption)⟩
        case measure => simp [intOf]; omega
    · obtain rfl : k = xs.length := by omega
      rw [List.take_length] at hall
      have HP : Hid (IdxT (fun t => !leB x y t.1 t.2) xs (.returned (.int .i64 (-1)))) := .inl ⟨rfl, hall.out⟩
      go_wp2
      go_ret
      exact ⟨HP.out, hbel⟩

theorem zero_time (w : World) : (zeroValue 52).run Try.prog w = .ok (.agg #[.int .i64 0, .int .i64 0]) w := by kernel_rfl
set_option maxRecDepth 100000 in
set_option maxHeartbeats 3200000 in
theorem delT_i (base : Nat) (A : Option Addr) (c : Nat) (xs : List Tm) (x y : Int) (w : World) (ho : TmOwn w base A c xs) (hn : xs.length ≤ 4194304) :
    Calls Try.prog 161 #[.slice A xs.length c, leFn x y] w fun e w' => e = .returned (.slice A (keepF (x, y) xs).length c) ∧ TmOwn w' base A c (keepF (x, y) xs) ∧ GrownS w w' (fun k => blk A = some k) := by
  have hat : TimesAt w A xs := ho.at_
  go_enter Try.func161, Try.ntmps161
  go_wp2_with fail
  refine (idxT_i x y A c xs w hat hn).mono ?_
  rintro e w1 ⟨hP, b1⟩
  have ho1 : TmOwn w1 base A c xs := ho.below b1
  rcases hP with ⟨rfl, hall⟩ | ⟨k0, hk0, rfl, hz0, hbef⟩
  · have hz : keepF (x, y) xs = xs := List.filter_eq_self.2 (fun t ht => hall t ht)
    have HZ := Lib.hid hz
    clear hz hall ho hat
    go_wp2_with fail
    go_ret
    exact ⟨by rw [HZ.out]; rfl, by rw [HZ.out]; exact ho1, GrownS.ofBelow b1⟩
  · have hpos : 0 < xs.length := by omega
    obtain ⟨g, hA, hbg, hgl, hnc, hcm⟩ : ∃ g, A = some ⟨g, 0, none⟩ ∧ base ≤ g ∧ g < w.heap.size ∧ xs.length ≤ c ∧ c ≤ maxLen := by
      rcases ownsRow_form ho with ⟨_, _, h⟩ | h
      · omega
      · exact h
    subst hA
    have hne1 : ((k0 : Int) == -1) = false := beq_eq_false_iff_ne.2 (by omega)
    have HD0 := Lib.hid (DelT.start hk0 hbef hz0)
    have hs1 : g < w1.heap.size := Nat.lt_of_lt_of_le hgl b1.size
    have HO1 := Lib.hid ho1
    have HG1 : Hid (GrownS w w1 (fun k => blk (some ⟨g, 0, none⟩) = some k)) := GrownS.ofBelow b1
    clear hbef ho ho1 hz0 hat b1
    go_wp2
    go_loopw [5, 6, 7] (fun si sj _ wr => ∃ (j i : Nat) (D : List Tm), sj = .int .i64 j ∧ si = .int .i64 i ∧ j ≤ xs.length ∧ Hid (DelT (fun t => !leB x y t.1 t.2) xs j i D) ∧ Hid (wr.ownsRow base 52 2 (.slice (some ⟨g, 0, none⟩) xs.length c) xs.length (timeL D)) ∧ Hid (GrownS w wr (fun k => blk (some ⟨g, 0, none⟩) = some k))) (fun _ sj _ _ => xs.length - (intOf sj).toNat)
    case atStart => exact ⟨k0 + 1, k0, xs, by go_num, rfl, by omega, HD0, HO1, HG1⟩
    case round =>
      obtain ⟨j, i, D, rfl, rfl, hj, HD, HO, HG⟩ := hrel
      have hij : i < j := HD.out.lt
      have hDlen : D.length = xs.length := HD.out.len
      have hDL := Lib.hid hDlen
      have hszr : w.heap.size ≤ wr.heap.size := HG.out.size
      by_cases hlt : j < xs.length
      · have hgd := HD.out.at_ hlt
        have hg2 := timeL_get D j (by omega)
        rw [hgd] at hg2
        have q0 := (World.ownsRow.cellAt HO.out (j * 2) (by omega)).trans hg2.1
        have q1 := (World.ownsRow.cellAt HO.out (j * 2 + 1) (by omega)).trans hg2.2
        clear hgd hg2 hDlen
        by_cases hz : leB x y xs[j].1 xs[j].2 = true
        · have hcon := fun W => timeLe_i x y xs[j].1 xs[j].2 W
          simp only [hz] at hcon
          have HD2 := Lib.hid (HD.out.skip hlt (by simp [hz]))
          clear hz
          go_wp2_with (go_at_call 102; refine (hcon _).mono ?_; rintro e w2 ⟨rfl, hb⟩)
          have hbb := btr (bal (RowKit.Below.refl _ _) _) hb
          go_roundw
          case rel => exact ⟨j + 1, i, D, by go_num, rfl, by omega, HD2, ownsRow_loc HO.out (fun k hk => hbb.block k (World.ownsRow.lt HO.out k (by rw [ownBlock_slice]; exact hk)).2), HG.out.trans (GrownS.ofBelow hbb)⟩
          case measure => simp [intOf]; omega
        · have hz2 : leB x y xs[j].1 xs[j].2 = false := by simpa using hz
          have hcon := fun W => timeLe_i x y xs[j].1 xs[j].2 W
          simp only [hz2] at hcon
          have HD2 := Lib.hid (HD.out.keep hlt (by simp [hz2]))
          have hi0 : (0 : Int) ≤ (i : Int) := by omega
          have hin : (i : Int) < xs.length := by omega
          clear hz hz2
          go_wp2_with fail
          refine (hcon _).mono ?_
          rintro e w2 ⟨rfl, hb⟩
          obtain ⟨hcl, hfr⟩ := bcell hb
          have hbb := btr (bal (RowKit.Below.refl _ _) _) hb
          have t0 : w2.cell? ⟨wr.heap.size, 0, none⟩ = some (.int .i64 xs[j].1) := by rw [hcl _ _ (by simp)]; simp
          have t1 : w2.cell? ⟨wr.heap.size, 1, none⟩ = some (.int .i64 xs[j].2) := by rw [hcl _ _ (by simp)]; simp
          have hown2 : w2.ownsRow base 52 2 (.slice (some ⟨g, 0, none⟩) xs.length c) xs.length (timeL D) := ownsRow_loc HO.out (fun k hk => hbb.block k (World.ownsRow.lt HO.out k (by rw [ownBlock_slice]; exact hk)).2)
          have hg3 := timeL_get D i (by rw [hDL.out]; omega)
          have v0 := (World.ownsRow.cellAt hown2 (i * 2) (by omega)).trans hg3.1
          have v1 := (World.ownsRow.cellAt hown2 (i * 2 + 1) (by omega)).trans hg3.2
          have f0 := World.ownsRow.frozenAt hown2 (i * 2)
          have f1 := World.ownsRow.frozenAt hown2 (i * 2 + 1)
          have hst := (World.ownsRow.stored (World.ownsRow.stored hown2 (i * 2) (.int .i64 xs[j].1)).1 (i * 2 + 1) (.int .i64 xs[j].2)).1
          rw [timeL_set _ _ _ (by rw [hDL.out]; omega)] at hst
          have HST := Lib.hid hst
          have HB := Lib.hid (HG.out.trans (GrownS.ofBelow hbb))
          clear hb hcl hfr hbb hown2 hst q0 q1 hg3
          go_wp2
          go_roundw
          case rel => exact ⟨j + 1, i + 1, _, by go_num, by go_num, by omega, HD2, HST, (HB.out.set_ (p := ⟨g, i * 2, none⟩) rfl _).set_ (p := ⟨g, i * 2 + 1, none⟩) rfl _⟩
          case measure => simp [intOf]; omega
      · obtain rfl : j = xs.length := by omega
        have hin : (i : Int) ≤ xs.length := by omega
        have hi0 : (0 : Int) ≤ (i : Int) := by omega
        have hic : ¬ c = i := by omega
        have hcm' : (c : Int) ≤ 9223372036854775807 := by unfold maxLen at hcm; omega
        have hic2 : (i : Int) ≤ c := by omega
        have hcl : ∀ ty, (Builtin.clear_ #[106] ty #[.slice (some ⟨g, i * 2, none⟩) (xs.length - i) (c - i)]).run Try.prog wr = .ok (.tuple #[]) (wr.setCells g (i * 2) (Builtin.zeroCells (Value.agg #[.int .i64 0, .int .i64 0]).cells (xs.length - i)).toList) :=
          fun ty => run_clear_k wr _ _ ty _ 2 Try.underlying106 zero_time rfl (fun u hu => by simp [Value.cells] at hu; rcases hu with rfl | rfl <;> rfl) g (i * 2) _ _ (by omega) (fun o ho => by
            rw [World.ownsRow.cellAt HO.out (i * 2 + o) (by omega), List.getElem?_eq_getElem (by rw [timeL_len, hDlen]; omega)]; rfl) (fun o ho => World.ownsRow.frozenAt HO.out _)
        have hZ : ∀ W : World, W = wr.setCells g (i * 2) (Builtin.zeroCells (Value.agg #[.int .i64 0, .int .i64 0]).cells (xs.length - i)).toList → TmOwn W base (some ⟨g, 0, none⟩) c (keepF (x, y) xs) ∧ GrownS w W (fun k => blk (some ⟨g, 0, none⟩) = some k) := by
          rintro W rfl
          obtain ⟨xs', h1, h2⟩ := ownsRow_setCells (Builtin.zeroCells (Value.agg #[.int .i64 0, .int .i64 0]).cells (xs.length - i)).toList (i * 2) wr _ HO.out
          have h3 := ownsRow_take h1 (show i ≤ xs.length by omega)
          rw [h2, timeL_take, HD.out.end_.2] at h3
          refine ⟨?_, grownS_setCells (S := fun k => blk (some ⟨g, 0, none⟩) = some k) rfl _ _ _ HG.out⟩
          have e := HD.out.end_.1
          unfold TmOwn keepF
          simp only
          rw [← e]
          exact h3
        have HZ := Lib.hid hZ
        have HL : Hid (i = (keepF (x, y) xs).length) := HD.out.end_.1
        clear hZ hDlen
        go_wp2
        go_ret
        exact ⟨by rw [← HL.out]; rfl, HZ.out _ rfl⟩
end Go.Proofs.Ytkonhjdfcfljpaa
