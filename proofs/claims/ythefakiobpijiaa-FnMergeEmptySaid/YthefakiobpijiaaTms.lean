/- HELPER, no statement of the seat: several texts in one file. -/
import Derived.Test.YthefakiobpijiaaFrt
import Derived.Test.YthefakiobpijiaaZba
import Derived.Test.YthefakiobpijiaaDrh
/- HELPER, no statement of the seat: lists of times of a call's own. -/
namespace Go.Proofs.Ythefakiobpijiaa
open Go.RowKit Go.Sort
set_option linter.unusedSimpArgs false
set_option linter.unusedVariables false

def timeL (l : List Tm) : List Value := l.flatMap fun t => [Value.int .i64 t.1, Value.int .i64 t.2]
theorem timeL_get (l : List Tm) (j : Nat) (hj : j < l.length) : (timeL l)[j * 2]? = some (.int .i64 (l.getD j (0, 0)).1) ∧ (timeL l)[j * 2 + 1]? = some (.int .i64 (l.getD j (0, 0)).2) := by
  have h := timeC_get l j hj
  have e : timeC l = (timeL l).toArray := rfl
  rw [e] at h
  simpa using h
theorem timeL_len (l : List Tm) : (timeL l).length = l.length * 2 := by
  have h := timeC_size l
  have e : timeC l = (timeL l).toArray := rfl
  rw [e] at h
  simpa using h
theorem timeL_append (l m : List Tm) : timeL (l ++ m) = timeL l ++ timeL m := by simp [timeL]
/-- The slice at A is the head of a row of a call's own, which reads as xs. -/
def TmOwn (w : World) (base : Nat) (A : Option Addr) (c : Nat) (xs : List Tm) : Prop := w.ownsRow base 117 2 (.slice A xs.length c) xs.length (timeL xs)
section
variable {w w' : World} {base : Nat} {A : Option Addr} {c : Nat} {xs : List Tm}
theorem TmOwn.at_ (h : TmOwn w base A c xs) : TimesAt w A xs := fun hn => by
  rcases ownsRow_form h with ⟨_, _, h0⟩ | ⟨g, rfl, _, hlt, _⟩
  · omega
  · refine ⟨g, 0, rfl, hlt, fun j hj => ?_⟩
    have hr : w.ownsRow base 117 2 (.slice (some ⟨g, 0, none⟩) xs.length c) xs.length (timeL xs) := h
    have c0 := World.ownsRow.cellAt hr (j * 2) (by omega)
    have c1 := World.ownsRow.cellAt hr (j * 2 + 1) (by omega)
    rw [Nat.zero_add]
    exact ⟨c0.trans (timeL_get xs j hj).1, c1.trans (timeL_get xs j hj).2⟩
theorem TmOwn.lt (h : TmOwn w base A c xs) : ∀ k, blk A = some k → base ≤ k ∧ k < w.heap.size := fun k hk => World.ownsRow.lt h k (by rw [ownBlock_slice]; exact hk)
theorem TmOwn.loc (h : TmOwn w base A c xs) (hq : ∀ k, blk A = some k → w'.heap[k]? = w.heap[k]?) : TmOwn w' base A c xs := ownsRow_loc h hq
theorem TmOwn.below (h : TmOwn w base A c xs) (hb : Below w.heap.size w w') : TmOwn w' base A c xs := h.loc (fun k hk => hb.block k (h.lt k hk).2)
theorem TmOwn.keptG {g : Nat} (h : TmOwn w base A c xs) (hg : w.grownBy w' (some g)) (hlt : g < base) : TmOwn w' base A c xs :=
  h.loc (fun k hk => hg.block k (h.lt k hk).2 (fun e => by injection e with e; have := (h.lt k hk).1; omega))
theorem TmOwn.mono {base' : Nat} (h : TmOwn w base A c xs) (hb : base' ≤ base) : TmOwn w base' A c xs := by
  refine ⟨h.1, ?_⟩
  rcases h.2 with h2 | ⟨g, cap, cur, e, hbg, r⟩
  · exact .inl h2
  · exact .inr ⟨g, cap, cur, e, Nat.le_trans hb hbg, r⟩
theorem TmOwn.push {v' : Value} {x y : Int} (h : w.ownsRow base 117 2 v' (xs.length + 1) (timeL xs ++ [.int .i64 x, .int .i64 y])) : ∃ A' c', v' = .slice A' (xs.length + 1) c' ∧ TmOwn w base A' c' (xs ++ [(x, y)]) := by
  obtain ⟨A', c', rfl⟩ := own_slice h
  refine ⟨A', c', rfl, ?_⟩
  rw [TmOwn, timeL_append, List.length_append]
  exact h
theorem TmOwn.lit (w : World) : TmOwn (w.alloc (.cells #[] 117)) w.heap.size (some ⟨w.heap.size, 0, none⟩) 0 [] := World.ownsRow_lit (base := w.heap.size) (size := 2) (e := 117) w #[] 0 (Nat.le_refl _) (by simp [maxLen]) (by simp)
theorem TmOwn.cap (h : TmOwn w base A c xs) : xs.length ≤ c ∧ c ≤ maxLen := by
  rcases ownsRow_form h with ⟨_, h1, h0⟩ | ⟨g, _, _, _, h1, h2⟩
  · rw [h1, h0]; exact ⟨Nat.le_refl _, by simp [maxLen]⟩
  · exact ⟨h1, h2⟩
end
theorem tm_srcs {w1 : World} {E : TypeId} (x y : Int) : ∀ a, some (⟨w1.heap.size, 0, none⟩ : Addr) = some a → ∀ j u, [Value.int .i64 x, .int .i64 y][j]? = some u → (w1.alloc (.cells #[.int .i64 x, .int .i64 y] E)).cell? (a.add j) = some u := by
  intro a e j u hu
  injection e with e
  subst e
  match j, hu with
  | 0, hu => simp at hu; subst hu; simp [Addr.add]
  | 1, hu => simp at hu; subst hu; simp [Addr.add]
theorem tm_ones (x y : Int) : ∀ u ∈ [Value.int .i64 x, .int .i64 y], u.oneCell' = true := by
  intro u hu
  simp at hu
  rcases hu with rfl | rfl <;> rfl
theorem tms_src {w : World} {A : Option Addr} {xs : List Tm} (h : TimesAt w A xs) :
    (A = none → xs.length = 0) ∧ ∀ a, A = some a → ∀ j u, (timeL xs)[j]? = some u → w.cell? (a.add j) = some u := by
  refine ⟨fun e => ?_, fun a e j u hu => ?_⟩
  · rcases Nat.eq_zero_or_pos xs.length with h0 | hp
    · exact h0
    · obtain ⟨b, off, e', _⟩ := h hp
      rw [e] at e'; cases e'
  · have hj : j < xs.length * 2 := by
      rcases Nat.lt_or_ge j (xs.length * 2) with hj | hj
      · exact hj
      · rw [List.getElem?_eq_none (by rw [timeL_len]; exact hj)] at hu; cases hu
    obtain ⟨b, off, e', _, hc⟩ := h (by omega)
    rw [e] at e'
    injection e' with e'
    subst e'
    have ha : (⟨b, off, none⟩ : Addr).add j = ⟨b, off + j, none⟩ := by unfold Addr.add; by_cases h0 : j = 0 <;> simp [h0]
    have h1 := hc (j / 2) (by omega)
    have h2 := timeL_get xs (j / 2) (by omega)
    rw [ha]
    rcases (show j = j / 2 * 2 ∨ j = j / 2 * 2 + 1 by omega) with h | h
    · rw [← h] at h1 h2
      rw [h1.1, ← hu, h2.1]
    · have h3 : off + j / 2 * 2 + 1 = off + j := by omega
      rw [h3] at h1
      rw [← h] at h2
      rw [h1.2, ← hu, h2.2]
theorem tms_one (xs : List Tm) : ∀ u ∈ timeL xs, u.oneCell' = true := by
  intro u hu
  obtain ⟨x, _, h⟩ := List.mem_flatMap.1 hu
  simp at h
  rcases h with rfl | rfl <;> rfl
end Go.Proofs.Ythefakiobpijiaa

/- HELPER, no statement of the seat: the model's lists of minimal times. -/
namespace Go.Proofs.Ythefakiobpijiaa
open Go.RowKit Go.Sort
set_option linter.unusedSimpArgs false
set_option linter.unusedVariables false

/-- What the model's insertion does with each element. -/
def insS (t : Tm) (s : List Tm × Bool) (e : Tm) : List Tm × Bool :=
  if leB t.1 t.2 e.1 e.2 = true then s else if s.2 = false ∧ bfB t.1 t.2 e.1 e.2 = true then (s.1 ++ [t] ++ [e], true) else (s.1 ++ [e], s.2)
def insE (t : Tm) (s : List Tm × Bool) : List Tm := if s.2 = true then s.1 else s.1 ++ [t]
def insT (f : List Tm) (t : Tm) : List Tm := if cvB f t.1 t.2 = true then f else insE t (f.foldl (insS t) ([], false))
def minT (l : List Tm) : List Tm := l.foldl insT []
theorem insS_take {f : List Tm} {t : Tm} {k : Nat} (h : k < f.length) {s : List Tm × Bool} (hs : (f.take k).foldl (insS t) ([], false) = s) : (f.take (k + 1)).foldl (insS t) ([], false) = insS t s f[k] := by
  rw [List.take_succ_eq_append_getElem h, List.foldl_append, hs]
  rfl
theorem insS_len (t : Tm) (s : List Tm × Bool) (e : Tm) (k : Nat) (h : s.1.length + (cond s.2 0 1) ≤ k + 1) : (insS t s e).1.length + (cond (insS t s e).2 0 1) ≤ k + 1 + 1 := by
  obtain ⟨l, d⟩ := s
  unfold insS
  split
  · simp only at h ⊢; omega
  · split
    · rename_i h1
      simp only at h1
      obtain ⟨rfl, _⟩ := h1
      simp at h ⊢
      omega
    · simp only [List.length_append, List.length_cons, List.length_nil] at h ⊢
      omega
theorem insT_fold_len (t : Tm) (f : List Tm) : ∀ (s : List Tm × Bool) (k : Nat), s.1.length + (cond s.2 0 1) ≤ k + 1 → (f.foldl (insS t) s).1.length + (cond (f.foldl (insS t) s).2 0 1) ≤ k + f.length + 1 := by
  induction f with
  | nil => intro s k h; simpa using h
  | cons e f ih =>
    intro s k h
    have := ih (insS t s e) (k + 1) (insS_len t s e k h)
    simp only [List.foldl_cons, List.length_cons]
    omega
theorem insT_len (f : List Tm) (t : Tm) : (insT f t).length ≤ f.length + 1 := by
  unfold insT
  split
  · omega
  · have h := insT_fold_len t f ([], false) 0 (by simp)
    unfold insE
    split
    · rename_i h2; rw [h2] at h; simp at h; omega
    · rename_i h2
      have h3 : (f.foldl (insS t) ([], false)).2 = false := by simpa using h2
      rw [h3] at h
      simp at h
      simp only [List.length_append, List.length_cons, List.length_nil]
      omega
theorem absI {P : Program} {f : FuncId} {args : Array Value} {w : World} {Q : Ending → World → Prop} (R : World → Prop) (h : R w) (k : ∀ W, R W → Calls P f args W Q) : Calls P f args w Q := k w h
set_option maxRecDepth 100000 in
set_option maxHeartbeats 6400000 in
theorem insertTime_s (B : Nat) (A : Option Addr) (c : Nat) (xs : List Tm) (t : Tm) (w : World) (ho : TmOwn w B A c xs) (hB : B ≤ w.heap.size) (hn : xs.length ≤ 4194300) :
    Calls Try.prog 154 #[.slice A xs.length c, .agg #[.int .i64 t.1, .int .i64 t.2]] w fun e w' => ∃ A' c', e = .returned (.slice A' (insT xs t).length c') ∧ TmOwn w' B A' c' (insT xs t) ∧ Below w.heap.size w w' := by
  obtain ⟨i0, hi, hz0, hz1, hz2⟩ := info_parts Try.infoTime
  obtain ⟨x, y⟩ := t
  simp only
  have hcv := fun W (h : TimesAt W A xs) => covers_s A c xs x y W h (by omega)
  have HX := Lib.hid ho
  clear ho
  cases hc : cvB xs x y
  · simp only [hc] at hcv
    have HR : Hid (insT xs (x, y) = insE (x, y) (xs.foldl (insS (x, y)) ([], false))) := by simp [Hid, insT, hc]
    clear hc
    go_enter Try.func154, Try.ntmps154
    go_wp2_with fail
    refine absI (fun W => Below w.heap.size w W ∧ Blk W w.heap.size 117 #[.int .i64 x, .int .i64 y]) ⟨bal (Below.refl _ _) _, Blk.newAt rfl⟩ ?_
    rintro W ⟨hB0, hk0⟩
    refine (hcv _ (HX.out.at_.below hB0)).mono ?_
    rintro e V ⟨rfl, b1⟩
    clear hcv
    have hbv := btr hB0 b1
    have hkv := hk0.below b1
    have hxv : TimesAt V A xs := HX.out.at_.below hbv
    have hsv := hbv.size
    have HL := Lib.hid (TmOwn.lit V)
    clear hB0 hk0 b1
    go_wp2
    go_loopw [5, 6, 7] (fun o d i wr => ∃ (k : Nat) (A' : Option Addr) (c' : Nat) (l : List Tm) (b : Bool), k ≤ xs.length ∧ i = .int .i64 (k : Nat) ∧ (xs.take k).foldl (insS (x, y)) ([], false) = (l, b) ∧ o = .slice A' l.length c' ∧ d = .bool b ∧ TmOwn wr V.heap.size A' c' l ∧ l.length + (cond b 0 1) ≤ k + 1 ∧ Below V.heap.size V wr) (fun _ _ i _ => xs.length - (intOf i).toNat)
    case atStart => exact ⟨0, _, 0, [], false, by omega, rfl, rfl, rfl, rfl, HL.out, by simp, bal (Below.refl _ _) _⟩
    case round =>
      obtain ⟨k, A', c', l, b, hk, rfl, hfold, rfl, rfl, hown, hll, hbel⟩ := hrel
      clear HL
      have hs1 := hbel.size
      by_cases hlt : k < xs.length
      · obtain ⟨bb, off, rfl, hbl, hc⟩ := hxv (by omega)
        have hcx := hc k hlt
        rw [show xs.getD k (0, 0) = xs[k] by simp [hlt]] at hcx
        have hst := insS_take hlt hfold
        have hln := insS_len (x, y) (l, b) xs[k] k hll
        have hlt' : (k : Int) < xs.length := by omega
        obtain ⟨u, v, huv⟩ : ∃ u v, xs[k] = (u, v) := ⟨xs[k].1, xs[k].2, rfl⟩
        rw [huv] at hcx hst hln
        simp only at hcx
        have q0 := (hbel.cell (p := ⟨bb, off + k * 2, none⟩) hbl).trans hcx.1
        have q1 := (hbel.cell (p := ⟨bb, off + k * 2 + 1, none⟩) hbl).trans hcx.2
        have p0 := (hkv.below hbel).cell 0
        have p1 := (hkv.below hbel).cell 1
        simp at p0 p1
        have q0' := cgrowT q0
        have q1' := cgrowT q1
        have p0' := cgrowT p0
        have p1' := cgrowT p1
        have hle := fun W => timeLe_s x y u v W
        have hbf := fun W => timeBefore_s x y u v W
        have HLN := Lib.hid hln
        have HCX := Lib.hid hcx
        have hbbl : bb < wr.heap.size := Nat.lt_of_lt_of_le hbl hs1
        have hgl : w.heap.size < wr.heap.size := (hkv.below hbel).lt
        have hlc := hown.cap
        have HF := Lib.hid hfold
        clear hc hcx hln hfold hll
        cases h1 : leB x y u v
        · simp only [h1] at hle
          have HOWN := Lib.hid hown
          clear hown
          go_wp2_with fail
          refine wp_region_quiet_below (by kernel_rfl) (by kernel_rfl) ?_
          repeat (go_big_quiet_step (exact Calls.regrown_of (hle _)))
          refine wpQuiet_nil ?_
          intro wq hwq
          obtain ⟨⟨dq, osq⟩, rfl⟩ := hwq
          have hbq := below_regrown wr dq osq
          have hown5 := HOWN.out.below hbq
          have hb5 := btr hbel hbq
          have q05 := (hbq.cell (p := ⟨bb, off + k * 2, none⟩) hbbl).trans q0
          have q15 := (hbq.cell (p := ⟨bb, off + k * 2 + 1, none⟩) hbbl).trans q1
          have p05 := (hbq.cell (p := ⟨w.heap.size, 0, none⟩) hgl).trans p0
          have p15 := (hbq.cell (p := ⟨w.heap.size, 1, none⟩) hgl).trans p1
          have hs5 := hbq.size
          generalize grow (redrawn wr dq) osq = w5 at hbq hown5 hb5 q05 q15 p05 p15 hs5
          have HO5 := Lib.hid hown5
          clear q0 q1 p0 p1 q0' q1' p0' p1' hbq hown5 HOWN hbel hle
          have q0' := cgrowT q05
          have q1' := cgrowT q15
          have p0' := cgrowT p05
          have p1' := cgrowT p15
          cases b
          · cases h2 : bfB x y u v
            · simp only [h2] at hbf
              have HST : Hid ((xs.take (k + 1)).foldl (insS (x, y)) ([], false) = (l ++ [(u, v)], false)) := by rw [Hid, hst]; simp [insS, h1, h2]
              have HL2 : Hid ((l ++ [(u, v)]).length + (cond false 0 1) ≤ k + 1 + 1) := by have := HLN.out; simp [insS, h1, h2] at this; simp [Hid]; omega
              clear hst h1 h2 HLN
              go_wp2_with fail
              refine wp_region_quiet_below (by kernel_rfl) (by kernel_rfl) ?_
              repeat (go_big_quiet_step (exact Calls.regrown_of (hbf _)))
              refine wpQuiet_nil ?_
              intro wq hwq
              obtain ⟨⟨dq, osq⟩, rfl⟩ := hwq
              have hbq := below_regrown w5 dq osq
              have hown7 := HO5.out.below hbq
              have hb7 := btr hb5 hbq
              have hbb5 : bb < w5.heap.size := by omega
              have hww5 : w.heap.size < w5.heap.size := by omega
              have q0 := (hbq.cell (p := ⟨bb, off + k * 2, none⟩) hbb5).trans q05
              have q1 := (hbq.cell (p := ⟨bb, off + k * 2 + 1, none⟩) hbb5).trans q15
              have p0 := (hbq.cell (p := ⟨w.heap.size, 0, none⟩) hww5).trans p05
              have p1 := (hbq.cell (p := ⟨w.heap.size, 1, none⟩) hww5).trans p15
              have hs7 := hbq.size
              generalize grow (redrawn w5 dq) osq = w7 at hbq hown7 hb7 q0 q1 p0 p1 hs7
              have hs7b := hb7.size
              clear q05 q15 p05 p15 q0' q1' p0' p1' hbq hbf HO5
              have hll2 := HL2.out
              simp at hll2
              go_wp2_with (at_builtin; refine wpList_append_src _ rfl _ _ 23 rfl V.heap.size 117 i0 (.agg #[.int .i64 0, .int .i64 0]) 2 16 Try.underlying23 hi hz0 hz1 hz2 rfl (by decide) _ _ _ rfl (World.ownsRow.alloc hown7 _) (some ⟨w7.heap.size, 0, none⟩) 1 1 [.int .i64 u, .int .i64 v] rfl rfl (fun h => by cases h) (tm_srcs _ _) (tm_ones _ _) (by unfold maxLen; omega) (by omega) (by simp; omega) ?_)
              intro v' w8 hown' hgrow hloc
              have hb8 : Below V.heap.size V w8 := (bal hb7 _).grown hgrow (by simp; omega) (fun q hq => (TmOwn.lt hown7 q (by rw [← ownBlock_slice]; exact hq)).1)
              obtain ⟨A8, c8, rfl, ho8⟩ := TmOwn.push hown'
              have hb8_ := hb8.size
              have HO := Lib.hid ho8
              have HB := Lib.hid hb8
              clear hown' hgrow hloc ho8 hb8
              go_wp2
              go_roundw
              case rel => exact ⟨k + 1, A8, c8, l ++ [(u, v)], false, by omega, by go_num, HST.out, by simp, rfl, HO.out, HL2.out, HB.out⟩
              case measure => simp [intOf]; omega
            · simp only [h2] at hbf
              have HST : Hid ((xs.take (k + 1)).foldl (insS (x, y)) ([], false) = (l ++ [(x, y)] ++ [(u, v)], true)) := by rw [Hid, hst]; simp [insS, h1, h2]
              have HL2 : Hid ((l ++ [(x, y)] ++ [(u, v)]).length + (cond true 0 1) ≤ k + 1 + 1) := by have := HLN.out; simp [insS, h1, h2] at this; simp [Hid]; omega
              clear hst h1 h2 HLN
              go_wp2_with fail
              refine wp_region_quiet_below (by kernel_rfl) (by kernel_rfl) ?_
              repeat (go_big_quiet_step (exact Calls.regrown_of (hbf _)))
              refine wpQuiet_nil ?_
              intro wq hwq
              obtain ⟨⟨dq, osq⟩, rfl⟩ := hwq
              have hbq := below_regrown w5 dq osq
              have hown7 := HO5.out.below hbq
              have hb7 := btr hb5 hbq
              have hbb5 : bb < w5.heap.size := by omega
              have hww5 : w.heap.size < w5.heap.size := by omega
              have q0 := (hbq.cell (p := ⟨bb, off + k * 2, none⟩) hbb5).trans q05
              have q1 := (hbq.cell (p := ⟨bb, off + k * 2 + 1, none⟩) hbb5).trans q15
              have p0 := (hbq.cell (p := ⟨w.heap.size, 0, none⟩) hww5).trans p05
              have p1 := (hbq.cell (p := ⟨w.heap.size, 1, none⟩) hww5).trans p15
              have hs7 := hbq.size
              generalize grow (redrawn w5 dq) osq = w7 at hbq hown7 hb7 q0 q1 p0 p1 hs7
              have hs7b := hb7.size
              clear q05 q15 p05 p15 q0' q1' p0' p1' hbq hbf HO5
              have hll2 := HL2.out
              simp at hll2
              have hsb : bb < V.heap.size := hbl
              go_wp2_with (at_builtin; refine wpList_append_src _ rfl _ _ 23 rfl V.heap.size 117 i0 (.agg #[.int .i64 0, .int .i64 0]) 2 16 Try.underlying23 hi hz0 hz1 hz2 rfl (by decide) _ _ _ rfl (World.ownsRow.alloc hown7 _) (some ⟨w7.heap.size, 0, none⟩) 1 1 [.int .i64 x, .int .i64 y] rfl rfl (fun h => by cases h) (tm_srcs _ _) (tm_ones _ _) (by unfold maxLen; omega) (by omega) (by simp; omega) ?_)
              intro v' w8 hown' hgrow hloc
              have hb8 : Below V.heap.size V w8 := (bal hb7 _).grown hgrow (by simp; omega) (fun q hq => (TmOwn.lt hown7 q (by rw [← ownBlock_slice]; exact hq)).1)
              obtain ⟨A8, c8, rfl, ho8⟩ := TmOwn.push hown'
              have hb8_ := hb8.size
              have q0 := (hb8.cell (p := ⟨bb, off + k * 2, none⟩) hbl).trans HCX.out.1
              have q1 := (hb8.cell (p := ⟨bb, off + k * 2 + 1, none⟩) hbl).trans HCX.out.2
              have hlx : (l ++ [(x, y)]).length = l.length + 1 := by simp
              have ho8' : World.ownsRow w8 V.heap.size 117 2 (.slice A8 (l.length + 1) c8) (l.length + 1) (timeL (l ++ [(x, y)])) := by rw [← hlx]; exact ho8
              have hcc := ho8.cap
              rw [hlx] at hcc
              clear hown' hgrow hloc
              go_wp2_with (at_builtin; refine wpList_append_src _ rfl _ _ 23 rfl V.heap.size 117 i0 (.agg #[.int .i64 0, .int .i64 0]) 2 16 Try.underlying23 hi hz0 hz1 hz2 rfl (by decide) _ _ _ rfl (World.ownsRow.alloc ho8' _) (some ⟨w8.heap.size, 0, none⟩) 1 1 [.int .i64 u, .int .i64 v] rfl rfl (fun h => by cases h) (tm_srcs _ _) (tm_ones _ _) (by unfold maxLen; omega) (by omega) (by simp; omega) ?_)
              intro v' w9 hown' hgrow hloc
              have hb9 : Below V.heap.size V w9 := (bal hb8 _).grown hgrow (by simp; omega) (fun q hq => (World.ownsRow.lt ho8' q hq).1)
              rw [← hlx] at hown'
              obtain ⟨A9, c9, rfl, ho9⟩ := TmOwn.push hown'
              rw [hlx]
              clear ho8 ho8' hb8 hb8_ hcc q0 q1 hlx
              have HO := Lib.hid ho9
              have HB := Lib.hid hb9
              clear hown' hgrow hloc ho9 hb9
              go_wp2
              go_roundw
              case rel => exact ⟨k + 1, A9, c9, l ++ [(x, y)] ++ [(u, v)], true, by omega, by go_num, HST.out, by simp, rfl, HO.out, HL2.out, HB.out⟩
              case measure => simp [intOf]; omega
          · have HST : Hid ((xs.take (k + 1)).foldl (insS (x, y)) ([], false) = (l ++ [(u, v)], true)) := by rw [Hid, hst]; simp [insS, h1]
            have HL2 : Hid ((l ++ [(u, v)]).length + (cond true 0 1) ≤ k + 1 + 1) := by have := HLN.out; simp [insS, h1] at this; simp [Hid]; omega
            clear hst h1 HLN
            go_wp2_with fail
            refine wp_region_quiet_below (by kernel_rfl) (by kernel_rfl) ?_
            repeat (go_big_quiet_step (fail))
            refine wpQuiet_nil ?_
            intro wq hwq
            obtain ⟨⟨dq, osq⟩, rfl⟩ := hwq
            have hbq := below_regrown w5 dq osq
            have hown7 := HO5.out.below hbq
            have hb7 := btr hb5 hbq
            have hbb5 : bb < w5.heap.size := by omega
            have hww5 : w.heap.size < w5.heap.size := by omega
            have q0 := (hbq.cell (p := ⟨bb, off + k * 2, none⟩) hbb5).trans q05
            have q1 := (hbq.cell (p := ⟨bb, off + k * 2 + 1, none⟩) hbb5).trans q15
            have p0 := (hbq.cell (p := ⟨w.heap.size, 0, none⟩) hww5).trans p05
            have p1 := (hbq.cell (p := ⟨w.heap.size, 1, none⟩) hww5).trans p15
            have hs7 := hbq.size
            generalize grow (redrawn w5 dq) osq = w7 at hbq hown7 hb7 q0 q1 p0 p1 hs7
            have hs7b := hb7.size
            clear q05 q15 p05 p15 q0' q1' p0' p1' hbq HO5
            have hll2 := HL2.out
            simp at hll2
            go_wp2_with (at_builtin; refine wpList_append_src _ rfl _ _ 23 rfl V.heap.size 117 i0 (.agg #[.int .i64 0, .int .i64 0]) 2 16 Try.underlying23 hi hz0 hz1 hz2 rfl (by decide) _ _ _ rfl (World.ownsRow.alloc hown7 _) (some ⟨w7.heap.size, 0, none⟩) 1 1 [.int .i64 u, .int .i64 v] rfl rfl (fun h => by cases h) (tm_srcs _ _) (tm_ones _ _) (by unfold maxLen; omega) (by omega) (by simp; omega) ?_)
            intro v' w8 hown' hgrow hloc
            have hb8 : Below V.heap.size V w8 := (bal hb7 _).grown hgrow (by simp; omega) (fun q hq => (TmOwn.lt hown7 q (by rw [← ownBlock_slice]; exact hq)).1)
            obtain ⟨A8, c8, rfl, ho8⟩ := TmOwn.push hown'
            have hb8_ := hb8.size
            have HO := Lib.hid ho8
            have HB := Lib.hid hb8
            clear hown' hgrow hloc ho8 hb8
            go_wp2
            go_roundw
            case rel => exact ⟨k + 1, A8, c8, l ++ [(u, v)], true, by omega, by go_num, HST.out, by simp, rfl, HO.out, HL2.out, HB.out⟩
            case measure => simp [intOf]; omega
        · simp only [h1] at hle
          have HST : Hid ((xs.take (k + 1)).foldl (insS (x, y)) ([], false) = (l, b)) := by rw [Hid, hst]; simp [insS, h1]
          have HL2 : Hid (l.length + (cond b 0 1) ≤ k + 1 + 1) := by have := HLN.out; simp [insS, h1] at this; exact this
          have HOWN := Lib.hid hown
          clear hst h1 HLN hown hbf
          go_wp2_with fail
          refine wp_region_quiet_below (by kernel_rfl) (by kernel_rfl) ?_
          repeat (go_big_quiet_step (exact Calls.regrown_of (hle _)))
          refine wpQuiet_nil ?_
          intro wq hwq
          obtain ⟨⟨dq, osq⟩, rfl⟩ := hwq
          have hbq := below_regrown wr dq osq
          have HO5 := Lib.hid (HOWN.out.below hbq)
          have HB5 := Lib.hid (btr hbel hbq)
          generalize grow (redrawn wr dq) osq = w5 at HO5 HB5
          clear q0 q1 p0 p1 q0' q1' p0' p1' hbq HOWN hbel hle
          go_wp2
          go_roundw
          case rel => exact ⟨k + 1, A', c', l, b, by omega, by go_num, HST.out, rfl, rfl, HO5.out, HL2.out, HB5.out⟩
          case measure => simp [intOf]; omega
      · obtain rfl : k = xs.length := by omega
        rw [List.take_length] at hfold
        have hlc := hown.cap
        have HOWN := Lib.hid hown
        have p0 := (hkv.below hbel).cell 0
        have p1 := (hkv.below hbel).cell 1
        simp at p0 p1
        cases b
        · have HR2 : Hid (insT xs (x, y) = l ++ [(x, y)]) := by rw [Hid, HR.out, hfold]; simp [insE]
          have hl2 : l.length ≤ xs.length := by simp at hll; omega
          clear hfold hown hll HR
          go_wp2_with (at_builtin; refine wpList_append_src _ rfl _ _ 23 rfl V.heap.size 117 i0 (.agg #[.int .i64 0, .int .i64 0]) 2 16 Try.underlying23 hi hz0 hz1 hz2 rfl (by decide) _ _ _ rfl (World.ownsRow.alloc HOWN.out _) (some ⟨wr.heap.size, 0, none⟩) 1 1 [.int .i64 x, .int .i64 y] rfl rfl (fun h => by cases h) (tm_srcs _ _) (tm_ones _ _) (by unfold maxLen; omega) (by omega) (by simp; omega) ?_)
          intro v' w6 hown' hgrow hloc
          have hb6v : Below V.heap.size V w6 := (bal hbel _).grown hgrow (by simp; omega) (fun q hq => (TmOwn.lt HOWN.out q (by rw [← ownBlock_slice]; exact hq)).1)
          obtain ⟨A6, c6, rfl, ho6⟩ := TmOwn.push hown'
          have hb6v_ := hb6v.size
          have HO6 := Lib.hid ho6
          clear hown' hgrow hloc ho6
          go_wp2
          go_ret
          have hL : (l ++ [(x, y)]).length = l.length + 1 := by simp
          exact ⟨A6, c6, by rw [HR2.out, hL]; rfl, by rw [HR2.out]; exact TmOwn.mono HO6.out (by omega), btr hbv hb6v⟩
        · have HR2 : Hid (insT xs (x, y) = l) := by rw [Hid, HR.out, hfold]; simp [insE]
          clear hfold hown hll HR
          go_wp2
          go_ret
          exact ⟨A', c', by rw [HR2.out]; rfl, by rw [HR2.out]; exact TmOwn.mono HOWN.out (by omega), btr hbv hbel⟩
  · simp only [hc] at hcv
    have HR : Hid (insT xs (x, y) = xs) := by simp [Hid, insT, hc]
    clear hc
    go_enter Try.func154, Try.ntmps154
    go_wp2_with fail
    refine absI (fun W => Below w.heap.size w W) (bal (Below.refl _ _) _) ?_
    intro W hB0
    refine (hcv _ (HX.out.at_.below hB0)).mono ?_
    rintro e V ⟨rfl, b1⟩
    clear hcv
    go_wp2
    go_ret
    exact ⟨A, c, by rw [HR.out]; rfl, by rw [HR.out]; exact HX.out.below (btr hB0 b1), btr hB0 b1⟩
set_option maxHeartbeats 1600000 in
theorem minimal_s (A : Option Addr) (c : Nat) (xs : List Tm) (w : World) (hx : TimesAt w A xs) (hn : xs.length ≤ 4194000) :
    Calls Try.prog 95 #[.slice A xs.length c] w fun e w' => ∃ A' c', e = .returned (.slice A' (minT xs).length c') ∧ TmOwn w' w.heap.size A' c' (minT xs) ∧ Below w.heap.size w w' := by
  have HL := Lib.hid (TmOwn.lit w)
  go_enter Try.func95, Try.ntmps95
  go_wp2
  go_loopw [3, 4] (fun o i wr => ∃ (k : Nat) (A' : Option Addr) (c' : Nat), k ≤ xs.length ∧ i = .int .i64 (k : Nat) ∧ o = .slice A' (minT (xs.take k)).length c' ∧ TmOwn wr w.heap.size A' c' (minT (xs.take k)) ∧ (minT (xs.take k)).length ≤ k ∧ Below w.heap.size w wr) (fun _ i _ => xs.length - (intOf i).toNat)
  case atStart => exact ⟨0, _, 0, by omega, rfl, rfl, HL.out, by simp [minT], bal (Below.refl _ _) _⟩
  case round =>
    obtain ⟨k, A', c', hk, rfl, rfl, hown, hll, hbel⟩ := hrel
    clear HL
    by_cases hlt : k < xs.length
    · obtain ⟨b, off, rfl, hbl, hc⟩ := hx (by omega)
      have hcx := hc k hlt
      rw [show xs.getD k (0, 0) = xs[k] by simp [hlt]] at hcx
      have q0 := (hbel.cell (p := ⟨b, off + k * 2, none⟩) hbl).trans hcx.1
      have q1 := (hbel.cell (p := ⟨b, off + k * 2 + 1, none⟩) hbl).trans hcx.2
      have hst : minT (xs.take (k + 1)) = insT (minT (xs.take k)) xs[k] := by
        rw [List.take_succ_eq_append_getElem hlt, minT, List.foldl_append]; rfl
      have HST := Lib.hid hst
      have hl1 := insT_len (minT (xs.take k)) xs[k]
      have hlt' : (k : Int) < xs.length := by omega
      have hs := hbel.size
      have HLN : Hid ((minT (xs.take (k + 1))).length ≤ k + 1) := by rw [Hid, hst]; omega
      have hcon := insertTime_s w.heap.size A' c' (minT (xs.take k)) xs[k] wr hown hs (by omega)
      clear hc hcx hst hl1 hown
      generalize minT (xs.take k) = M at *
      go_wp2_with fail
      refine hcon.mono ?_
      rintro e w2 ⟨A2, c2, rfl, ho2, b2⟩
      clear hcon q0 q1
      have HO := Lib.hid ho2
      have HB := Lib.hid (btr hbel b2)
      clear ho2 b2 hbel
      go_wp2
      go_roundw
      case rel => exact ⟨k + 1, A2, c2, by omega, by go_num, by rw [HST.out], by rw [HST.out]; exact HO.out, HLN.out, HB.out⟩
      case measure => simp [intOf]; omega
    · obtain rfl : k = xs.length := by omega
      rw [List.take_length] at hown
      have HT : Hid (minT (xs.take xs.length) = minT xs) := by rw [Hid, List.take_length]
      go_wp2
      go_ret
      exact ⟨A', c', by rw [HT.out]; rfl, hown, hbel⟩
theorem minT_len (l : List Tm) : (minT l).length ≤ l.length := by
  have : ∀ (l f : List Tm), (l.foldl insT f).length ≤ f.length + l.length := by
    intro l
    induction l with
    | nil => intro f; simp
    | cons t l ih => intro f; have h1 := ih (insT f t); have h2 := insT_len f t; simp only [List.foldl_cons, List.length_cons]; omega
  simpa [minT] using this l []
end Go.Proofs.Ythefakiobpijiaa
