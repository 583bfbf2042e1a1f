/- HELPER, no statement of the seat: several texts in one file. -/
import Derived.Test.YthefakiobpijiaaFru
import Derived.Laws.StructEq
import Derived.Test.YthefakiobpijiaaMee
import Derived.Test.YthefakiobpijiaaGrf
/- HELPER, no statement of the seat: AdvanceTime at any capacity. -/
namespace Go.Proofs.Ythefakiobpijiaa
open Go.RowKit Go.Sort
set_option linter.unusedSimpArgs false
set_option linter.unusedVariables false

end Go.Proofs.Ythefakiobpijiaa

/- HELPER, no statement of the seat: what AdvanceTime gives, and times that are one. -/
namespace Go.Proofs.Ythefakiobpijiaa
open Go.RowKit Go.Sort
set_option linter.unusedSimpArgs false
set_option linter.unusedVariables false

set_option maxRecDepth 100000 in
theorem timeIn_eqF (a b c d : Int) (w : World) : (Op.equalIn 10000 117 (.agg #[.int .i64 a, .int .i64 b]) (.agg #[.int .i64 c, .int .i64 d])).run Try.prog w = .ok (a == c && b == d) w := by
  have u3 := Try.underlying3
  have a3 := Try.isAgg3
  have z3 := Try.sizeOf3
  have hS : Try.prog.underlying 117 = some (.struct (Try.prog.fieldsOf 117)) := by kernel_rfl
  have hp : Try.prog.stoodInHeld 117 = false := by kernel_rfl
  rw [show (10000 : Nat) = 9999 + 1 from rfl, run_equalIn_agg w 9999 117 _ _ hS hp]
  simp only [Program.fieldsOf, Try.underlying117]
  go_simp
  by_cases h1 : a = c <;> by_cases h2 : b = d <;> simp [h1, h2]
theorem timeIn_yes (a b : Int) (w : World) : (Op.equalIn 10000 117 (.agg #[.int .i64 a, .int .i64 b]) (.agg #[.int .i64 a, .int .i64 b])).run Try.prog w = .ok true w := by rw [timeIn_eqF]; simp

/-! ### The meet of the joins -/
theorem advN_le (t : Tm) (xs : List Tm) : ∀ (n i : Nat), i ≤ n → (advN t xs n).1 ≤ max t.1 (tg xs i).1 ∧ (advN t xs n).2 ≤ max t.2 (tg xs i).2 := by
  intro n
  induction n with
  | zero =>
    intro i hi
    obtain rfl : i = 0 := by omega
    exact ⟨Int.le_refl _, Int.le_refl _⟩
  | succ n ih =>
    intro i hi
    rcases Nat.eq_or_lt_of_le hi with rfl | h
    · simp only [advN, mt, jn]; omega
    · have := ih i (by omega)
      simp only [advN, mt, jn]; omega
theorem advN_at1 (t : Tm) (xs : List Tm) : ∀ n : Nat, ∃ i, i ≤ n ∧ (advN t xs n).1 = max t.1 (tg xs i).1 := by
  intro n
  induction n with
  | zero => exact ⟨0, by omega, rfl⟩
  | succ n ih =>
    obtain ⟨i, hi, e⟩ := ih
    by_cases h : (advN t xs n).1 ≤ max t.1 (tg xs (n + 1)).1
    · exact ⟨i, by omega, by simp only [advN, mt, jn]; omega⟩
    · exact ⟨n + 1, by omega, by simp only [advN, mt, jn]; omega⟩
theorem advN_at2 (t : Tm) (xs : List Tm) : ∀ n : Nat, ∃ i, i ≤ n ∧ (advN t xs n).2 = max t.2 (tg xs i).2 := by
  intro n
  induction n with
  | zero => exact ⟨0, by omega, rfl⟩
  | succ n ih =>
    obtain ⟨i, hi, e⟩ := ih
    by_cases h : (advN t xs n).2 ≤ max t.2 (tg xs (n + 1)).2
    · exact ⟨i, by omega, by simp only [advN, mt, jn]; omega⟩
    · exact ⟨n + 1, by omega, by simp only [advN, mt, jn]; omega⟩
theorem advN_twice (t : Tm) (xs : List Tm) (n : Nat) : advN (advN t xs n) xs n = advN t xs n := by
  obtain ⟨i, hi, ei⟩ := advN_at1 t xs n
  obtain ⟨j, hj, ej⟩ := advN_at2 t xs n
  obtain ⟨p, hp, ep⟩ := advN_at1 (advN t xs n) xs n
  obtain ⟨q, hq, eq⟩ := advN_at2 (advN t xs n) xs n
  have h1 := (advN_le (advN t xs n) xs n i hi).1
  have h2 := (advN_le (advN t xs n) xs n j hj).2
  exact Prod.ext (by omega) (by omega)
theorem frB_gd {xs : List Tm} (h : frB xs = true) {i : Nat} (hi : i < xs.length) : vtB (tg xs i).1 (tg xs i).2 = true := by
  simp only [frB, Bool.and_eq_true, decide_eq_true_eq, List.all_eq_true, List.mem_range] at h
  exact gd_vt (h.2 i hi)
theorem advT_vt {t : Tm} {xs : List Tm} (hf : frB xs = true) (hv : vtB t.1 t.2 = true) : vtB (advT t xs).1 (advT t xs).2 = true := by
  unfold advT
  split
  · rename_i hp
    obtain ⟨i, hi, ei⟩ := advN_at1 t xs (xs.length - 1)
    obtain ⟨j, hj, ej⟩ := advN_at2 t xs (xs.length - 1)
    have h1 := frB_gd hf (i := i) (by omega)
    have h2 := frB_gd hf (i := j) (by omega)
    simp only [vtB, decide_eq_true_eq] at hv h1 h2 ⊢
    omega
  · exact hv
theorem advT_ge (t : Tm) (xs : List Tm) : leB t.1 t.2 (advT t xs).1 (advT t xs).2 = true := by
  unfold advT
  split
  · obtain ⟨i, hi, ei⟩ := advN_at1 t xs (xs.length - 1)
    obtain ⟨j, hj, ej⟩ := advN_at2 t xs (xs.length - 1)
    simp only [leB, decide_eq_true_eq]
    omega
  · simp only [leB, decide_eq_true_eq]; omega
theorem advT_twice (t : Tm) (xs : List Tm) : advT (advT t xs) xs = advT t xs := by
  unfold advT
  split
  · exact advN_twice t xs _
  · rfl
/-- Beyond the frontier an advanced time cannot be told from the time. -/
theorem advT_same {t : Tm} {xs : List Tm} {u v : Int} (h : cvB xs u v = true) : leB (advT t xs).1 (advT t xs).2 u v = leB t.1 t.2 u v := by
  obtain ⟨e, he, hle⟩ := List.any_eq_true.1 h
  obtain ⟨i, hi, rfl⟩ := List.getElem_of_mem he
  have hg := advT_ge t xs
  have hl := advN_le t xs (xs.length - 1) i (by omega)
  have hp : 0 < xs.length := by omega
  rw [tg_lt hi] at hl
  have ha : advT t xs = advN t xs (xs.length - 1) := by rw [advT, if_pos hp]
  rw [ha] at hg ⊢
  simp only [leB, decide_eq_true_eq] at hg hle
  simp only [leB]
  apply decide_eq_decide.2
  omega
theorem atR_twice {t : Tm} {xs : List Tm} (hf : frB xs = true) (hv : vtB t.1 t.2 = true) : atR (atR t xs) xs = atR t xs := by
  rw [atR_yes hf hv, atR_yes hf (advT_vt hf hv), advT_twice]
end Go.Proofs.Ythefakiobpijiaa

/- HELPER, no statement of the seat: CompactTrace of both sides. -/
namespace Go.Proofs.Ythefakiobpijiaa
open Go.RowKit Go.Sort
set_option linter.unusedSimpArgs false
set_option linter.unusedVariables false

def advU (fr : List Tm) (e : Upd) : Upd := ((e.1.1, advT e.1.2 fr), e.2)
def CptF (z : List Upd) (fr : List Tm) : List Upd := if (trB z && frB fr) = true then ConsF (z.map (advU fr)) else []
theorem CptF_len (z : List Upd) (fr : List Tm) : (CptF z fr).length ≤ 400 := by
  unfold CptF
  split
  · exact ConsF_len _
  · simp
theorem CptF_row (z : List Upd) (fr : List Tm) : rowsU (CptF z fr) 6 := by
  unfold CptF
  split
  · exact ConsF_row _
  · intro e he; cases he
theorem adv_sums {z : List Upd} {fr : List Tm} (h : trB z = true) (hf : frB fr = true) : sumsU (z.map (advU fr)) = true := allTo_iff.2 (fun k hk => by
  have hk' : k < z.length := by simpa using hk
  rw [nthU_get hk, List.getElem_map]
  have h1 := trB_sum h _ (List.getElem_mem hk')
  simp only [sumU, advU, Bool.and_eq_true] at h1 ⊢
  exact ⟨h1.1, advT_vt hf h1.2⟩)
theorem CptF_eq {z : List Upd} {fr : List Tm} (h : trB z = true) (hf : frB fr = true) : CptF z fr = chkT (nz (NormLU (z.map (advU fr)))) := by
  have h4 := (trB_parts h).1
  simp [CptF, h, hf, ConsF, adv_sums h hf, h4]
theorem adv_step {z : List Upd} {fr : List Tm} {k : Nat} (h : k < z.length) : (z.map (advU fr)).take (k + 1) = (z.map (advU fr)).take k ++ [advU fr z[k]] := by
  rw [List.take_succ_eq_append_getElem (by simpa using h), List.getElem_map]
theorem IntsOwn.offC {w : World} {base : Nat} {A : Option Addr} {c : Nat} {xs : List Int} (h : IntsOwn w base A c xs) {p : Addr} (hp : ∀ k, blk A = some k → k ≠ p.block) (u : Value) : IntsOwn (w.setCell p u) base A c xs :=
  ownsRow_loc (A := A) (c := c) h (fun k hk => Below.heap_setCell _ _ _ _ (hp k hk))
theorem updR_mkC {w : World} {A : Option Addr} {c : Nat} {xs : List Int} {p q x : Int} (hl : xs.length ≤ maxLen) (h : IntsAt w A xs) : UpdR w [.slice A xs.length c, .int .i64 p, .int .i64 q, .int .i64 x] ((xs, (p, q)), x) :=
  ⟨[_, _, _], [_], rfl, ⟨[_], [_, _], rfl, ⟨A, c, rfl, hl, h⟩, ⟨[_], [_], rfl, rfl, rfl⟩⟩, rfl⟩

theorem absE {P : Program} {f : FuncId} {args : Array Value} {w : World} {Q : Ending → World → Prop} (R : World → Prop) (h : R w) (k : ∀ W, R W → Calls P f args W Q) : Calls P f args w Q := k w h

/-! ### The program's -/
/-! ### The model's -/
end Go.Proofs.Ythefakiobpijiaa
