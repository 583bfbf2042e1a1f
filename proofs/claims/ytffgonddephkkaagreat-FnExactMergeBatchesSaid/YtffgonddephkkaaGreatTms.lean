/- HELPER, no statement of the seat: several texts in one file. -/
import Derived.Test.YtffgonddephkkaaGreatFrt
import Derived.Test.YtffgonddephkkaaGreatZba
import Derived.Test.YtffgonddephkkaaGreatDrh
/- HELPER, no statement of the seat: lists of times of a call's own. -/
namespace Go.Proofs.YtffgonddephkkaaGreat
open Go.RowKit Go.Sort
set_option linter.unusedSimpArgs false
set_option linter.unusedVariables false

def timeL (l : List Tm) : List Value := l.flatMap fun t => [Value.int .i64 t.1, Value.int .i64 t.2]
theorem timeL_get (l : List Tm) (j : Nat) (hj : j < l.length) : (timeL l)[j * 2]? = some (.int .i64 (l.getD j (0, 0)).1) ∧ (timeL l)[j * 2 + 1]? = some (.int .i64 (l.getD j (0, 0)).2) := by
  have h := timeC_get l j hj
  have e : timeC l = (timeL l).toArray := rfl
  rw [e] at h
  simpa using h
theorem timeL_len (l : List Tm) : (timeL l).length = l.length * 2 := by
  have h := timeC_size l
  have e : timeC l = (timeL l).toArray := rfl
  rw [e] at h
  simpa using h
theorem timeL_append (l m : List Tm) : timeL (l ++ m) = timeL l ++ timeL m := by simp [timeL]
/-- The slice at A is the head of a row of a call's own, which reads as xs. -/
def TmOwn (w : World) (base : Nat) (A : Option Addr) (c : Nat) (xs : List Tm) : Prop := w.ownsRow base 64 2 (.slice A xs.length c) xs.length (timeL xs)
section
variable {w w' : World} {base : Nat} {A : Option Addr} {c : Nat} {xs : List Tm}
theorem TmOwn.at_ (h : TmOwn w base A c xs) : TimesAt w A xs := fun hn => by
  rcases ownsRow_form h with ⟨_, _, h0⟩ | ⟨g, rfl, _, hlt, _⟩
  · omega
  · refine ⟨g, 0, rfl, hlt, fun j hj => ?_⟩
    have hr : w.ownsRow base 64 2 (.slice (some ⟨g, 0, none⟩) xs.length c) xs.length (timeL xs) := h
    have c0 := World.ownsRow.cellAt hr (j * 2) (by omega)
    have c1 := World.ownsRow.cellAt hr (j * 2 + 1) (by omega)
    rw [Nat.zero_add]
    exact ⟨c0.trans (timeL_get xs j hj).1, c1.trans (timeL_get xs j hj).2⟩
theorem TmOwn.lt (h : TmOwn w base A c xs) : ∀ k, blk A = some k → base ≤ k ∧ k < w.heap.size := fun k hk => World.ownsRow.lt h k (by rw [ownBlock_slice]; exact hk)
theorem TmOwn.loc (h : TmOwn w base A c xs) (hq : ∀ k, blk A = some k → w'.heap[k]? = w.heap[k]?) : TmOwn w' base A c xs := ownsRow_loc h hq
theorem TmOwn.below (h : TmOwn w base A c xs) (hb : Below w.heap.size w w') : TmOwn w' base A c xs := h.loc (fun k hk => hb.block k (h.lt k hk).2)
theorem TmOwn.keptG {g : Nat} (h : TmOwn w base A c xs) (hg : w.grownBy w' (some g)) (hlt : g < base) : TmOwn w' base A c xs :=
  h.loc (fun k hk => hg.block k (h.lt k hk).2 (fun e => by injection e with e; have := (h.lt k hk).1; omega))
theorem TmOwn.mono {base' : Nat} (h : TmOwn w base A c xs) (hb : base' ≤ base) : TmOwn w base' A c xs := by
  refine ⟨h.1, ?_⟩
  rcases h.2 with h2 | ⟨g, cap, cur, e, hbg, r⟩
  · exact .inl h2
  · exact .inr ⟨g, cap, cur, e, Nat.le_trans hb hbg, r⟩
theorem TmOwn.push {v' : Value} {x y : Int} (h : w.ownsRow base 64 2 v' (xs.length + 1) (timeL xs ++ [.int .i64 x, .int .i64 y])) : ∃ A' c', v' = .slice A' (xs.length + 1) c' ∧ TmOwn w base A' c' (xs ++ [(x, y)]) := by
  obtain ⟨A', c', rfl⟩ := own_slice h
  refine ⟨A', c', rfl, ?_⟩
  rw [TmOwn, timeL_append, List.length_append]
  exact h
theorem TmOwn.lit (w : World) : TmOwn (w.alloc (.cells #[] 64)) w.heap.size (some ⟨w.heap.size, 0, none⟩) 0 [] := World.ownsRow_lit (base := w.heap.size) (size := 2) (e := 64) w #[] 0 (Nat.le_refl _) (by simp [maxLen]) (by simp)
theorem TmOwn.cap (h : TmOwn w base A c xs) : xs.length ≤ c ∧ c ≤ maxLen := by
  rcases ownsRow_form h with ⟨_, h1, h0⟩ | ⟨g, _, _, _, h1, h2⟩
  · rw [h1, h0]; exact ⟨Nat.le_refl _, by simp [maxLen]⟩
  · exact ⟨h1, h2⟩
end
theorem tm_srcs {w1 : World} {E : TypeId} (x y : Int) : ∀ a, some (⟨w1.heap.size, 0, none⟩ : Addr) = some a → ∀ j u, [Value.int .i64 x, .int .i64 y][j]? = some u → (w1.alloc (.cells #[.int .i64 x, .int .i64 y] E)).cell? (a.add j) = some u := by
  intro a e j u hu
  injection e with e
  subst e
  match j, hu with
  | 0, hu => simp at hu; subst hu; simp [Addr.add]
  | 1, hu => simp at hu; subst hu; simp [Addr.add]
theorem tm_ones (x y : Int) : ∀ u ∈ [Value.int .i64 x, .int .i64 y], u.oneCell' = true := by
  intro u hu
  simp at hu
  rcases hu with rfl | rfl <;> rfl
theorem tms_src {w : World} {A : Option Addr} {xs : List Tm} (h : TimesAt w A xs) :
    (A = none → xs.length = 0) ∧ ∀ a, A = some a → ∀ j u, (timeL xs)[j]? = some u → w.cell? (a.add j) = some u := by
  refine ⟨fun e => ?_, fun a e j u hu => ?_⟩
  · rcases Nat.eq_zero_or_pos xs.length with h0 | hp
    · exact h0
    · obtain ⟨b, off, e', _⟩ := h hp
      rw [e] at e'; cases e'
  · have hj : j < xs.length * 2 := by
      rcases Nat.lt_or_ge j (xs.length * 2) with hj | hj
      · exact hj
      · rw [List.getElem?_eq_none (by rw [timeL_len]; exact hj)] at hu; cases hu
    obtain ⟨b, off, e', _, hc⟩ := h (by omega)
    rw [e] at e'
    injection e' with e'
    subst e'
    have ha : (⟨b, off, none⟩ : Addr).add j = ⟨b, off + j, none⟩ := by unfold Addr.add; by_cases h0 : j = 0 <;> simp [h0]
    have h1 := hc (j / 2) (by omega)
    have h2 := timeL_get xs (j / 2) (by omega)
    rw [ha]
    rcases (show j = j / 2 * 2 ∨ j = j / 2 * 2 + 1 by omega) with h | h
    · rw [← h] at h1 h2
      rw [h1.1, ← hu, h2.1]
    · have h3 : off + j / 2 * 2 + 1 = off + j := by omega
      rw [h3] at h1
      rw [← h] at h2
      rw [h1.2, ← hu, h2.2]
theorem tms_one (xs : List Tm) : ∀ u ∈ timeL xs, u.oneCell' = true := by
  intro u hu
  obtain ⟨x, _, h⟩ := List.mem_flatMap.1 hu
  simp at h
  rcases h with rfl | rfl <;> rfl
end Go.Proofs.YtffgonddephkkaaGreat

/- HELPER, no statement of the seat: the model's lists of minimal times. -/
namespace Go.Proofs.YtffgonddephkkaaGreat
open Go.RowKit Go.Sort
set_option linter.unusedSimpArgs false
set_option linter.unusedVariables false

/-- What the model's insertion does with each element. -/
def insS (t : Tm) (s : List Tm × Bool) (e : Tm) : List Tm × Bool :=
  if leB t.1 t.2 e.1 e.2 = true then s else if s.2 = false ∧ bfB t.1 t.2 e.1 e.2 = true then (s.1 ++ [t] ++ [e], true) else (s.1 ++ [e], s.2)
def insE (t : Tm) (s : List Tm × Bool) : List Tm := if s.2 = true then s.1 else s.1 ++ [t]
def insT (f : List Tm) (t : Tm) : List Tm := if cvB f t.1 t.2 = true then f else insE t (f.foldl (insS t) ([], false))
def minT (l : List Tm) : List Tm := l.foldl insT []
theorem insS_take {f : List Tm} {t : Tm} {k : Nat} (h : k < f.length) {s : List Tm × Bool} (hs : (f.take k).foldl (insS t) ([], false) = s) : (f.take (k + 1)).foldl (insS t) ([], false) = insS t s f[k] := by
  rw [List.take_succ_eq_append_getElem h, List.foldl_append, hs]
  rfl
theorem insS_len (t : Tm) (s : List Tm × Bool) (e : Tm) (k : Nat) (h : s.1.length + (cond s.2 0 1) ≤ k + 1) : (insS t s e).1.length + (cond (insS t s e).2 0 1) ≤ k + 1 + 1 := by
  obtain ⟨l, d⟩ := s
  unfold insS
  split
  · simp only at h ⊢; omega
  · split
    · rename_i h1
      simp only at h1
      obtain ⟨rfl, _⟩ := h1
      simp at h ⊢
      omega
    · simp only [List.length_append, List.length_cons, List.length_nil] at h ⊢
      omega
theorem insT_fold_len (t : Tm) (f : List Tm) : ∀ (s : List Tm × Bool) (k : Nat), s.1.length + (cond s.2 0 1) ≤ k + 1 → (f.foldl (insS t) s).1.length + (cond (f.foldl (insS t) s).2 0 1) ≤ k + f.length + 1 := by
  induction f with
  | nil => intro s k h; simpa using h
  | cons e f ih =>
    intro s k h
    have := ih (insS t s e) (k + 1) (insS_len t s e k h)
    simp only [List.foldl_cons, List.length_cons]
    omega
theorem insT_len (f : List Tm) (t : Tm) : (insT f t).length ≤ f.length + 1 := by
  unfold insT
  split
  · omega
  · have h := insT_fold_len t f ([], false) 0 (by simp)
    unfold insE
    split
    · rename_i h2; rw [h2] at h; simp at h; omega
    · rename_i h2
      have h3 : (f.foldl (insS t) ([], false)).2 = false := by simpa using h2
      rw [h3] at h
      simp at h
      simp only [List.length_append, List.length_cons, List.length_nil]
      omega
theorem absI {P : Program} {f : FuncId} {args : Array Value} {w : World} {Q : Ending → World → Prop} (R : World → Prop) (h : R w) (k : ∀ W, R W → Calls P f args W Q) : Calls P f args w Q := k w h
theorem minT_len (l : List Tm) : (minT l).length ≤ l.length := by
  have : ∀ (l f : List Tm), (l.foldl insT f).length ≤ f.length + l.length := by
    intro l
    induction l with
    | nil => intro f; simp
    | cons t l ih => intro f; have h1 := ih (insT f t); have h2 := insT_len f t; simp only [List.foldl_cons, List.length_cons]; omega
  simpa [minT] using this l []
end Go.Proofs.YtffgonddephkkaaGreat
