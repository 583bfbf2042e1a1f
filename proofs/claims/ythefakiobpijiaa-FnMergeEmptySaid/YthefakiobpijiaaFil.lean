/- HELPER, no statement of the seat: several texts in one file. -/
import Derived.Test.YthefakiobpijiaaZba
import Derived.Laws.ResultCell
import Derived.Test.YthefakiobpijiaaZbx
import Derived.Lib.QuietBelow
import Derived.Laws.EntriesVeiled
import Derived.Test.YthefakiobpijiaaBldM
import Derived.Test.YthefakiobpijiaaZbn
import Derived.Test.YthefakiobpijiaaBlu
/- HELPER, no statement of the seat: predicates. -/
namespace Go.Proofs.Ythefakiobpijiaa
open Go.RowKit
set_option linter.unusedSimpArgs false
set_option linter.unusedVariables false

abbrev prd (c k v : Int) : Value := .agg #[.int .i64 c, .int .i64 k, .int .i64 v]
def pvB (c k v n : Int) : Bool := inB n 1 6 && (inB c 0 (n - 1) && (inB k 1 4 && inB v (-9999) 9999))
theorem toPredicate_any (c k v : Int) (w : World) : Calls Try.prog 177 #[.agg #[.int .i64 c, .int .i64 k, .int .i64 v]] w fun e w' => e = .returned (.agg #[.int .i64 c, .int .i64 k, .int .i64 v]) ∧ Below w.heap.size w w' := by
  go_enter Try.func177, Try.ntmps177
  go_wp2
  exact bodyPost_ret (v := .agg #[.int .i64 c, .int .i64 k, .int .i64 v]) (by simp [results, Try.results177, go_sem]) rfl ⟨rfl, (by repeat (first | exact Below.refl _ _ | refine bal ?_ _ | refine bset ?_ (by simp) _ | refine Below.drew ?_))⟩
theorem inR_lit (n lo hi : Int) (b : Bool) (h : inB n lo hi = b) (w : World) : Calls Try.prog 118 #[.int .i64 n, .int .i64 lo, .int .i64 hi] w fun e w' => e = .returned (.bool b) ∧ w = w' :=
  (inRange_any n lo hi w).mono fun e w' ⟨he, hw⟩ => ⟨by rw [he, h], hw⟩

theorem validPredicate_s (c k v n : Int) (w : World) (h1 : 1 ≤ n) (h6 : n ≤ 6) :
    Calls Try.prog 203 #[.agg #[.int .i64 c, .int .i64 k, .int .i64 v], .int .i64 n] w fun e w' => e = .returned (.bool (inB c 0 (n - 1) && (inB k 1 4 && inB v (-9999) 9999))) ∧ Below w.heap.size w w' := by
  cases g1 : inB c 0 (n - 1)
  · have HC := fun w => inR_lit c 0 (n - 1) false g1 w
    clear g1
    go_enter Try.func203, Try.ntmps203
    go_wp2_with (go_at_call 118; refine (HC _).mono ?_; rintro e w1 ⟨rfl, rfl⟩)
    go_ret
    exact ⟨rfl, bal (Below.refl _ _) _⟩
  cases g2 : inB k 1 4
  · have HC := fun w => inR_lit c 0 (n - 1) true g1 w
    have HK := fun w => inR_lit k 1 4 false g2 w
    clear g1 g2
    go_enter Try.func203, Try.ntmps203
    go_wp2_with fail
    refine (HC _).mono ?_
    rintro e w1 ⟨rfl, rfl⟩
    go_wp2_with fail
    refine (HK _).mono ?_
    rintro e w1 ⟨rfl, rfl⟩
    go_wp2_with fail
    go_ret
    exact ⟨rfl, bal (Below.refl _ _) _⟩
  · have HC := fun w => inR_lit c 0 (n - 1) true g1 w
    have HK := fun w => inR_lit k 1 4 true g2 w
    clear g1 g2
    go_enter Try.func203, Try.ntmps203
    go_wp2_with fail
    refine (HC _).mono ?_
    rintro e w1 ⟨rfl, rfl⟩
    go_wp2_with fail
    refine (HK _).mono ?_
    rintro e w1 ⟨rfl, rfl⟩
    go_wp2_with fail
    refine (inRange_any _ _ _ _).mono ?_
    rintro e w1 ⟨rfl, rfl⟩
    go_wp2_with fail
    go_ret
    exact ⟨rfl, bal (Below.refl _ _) _⟩
theorem comparisonOf_yes (k : Int) (w : World) (h1 : 1 ≤ k) (h4 : k ≤ 4) : Calls Try.prog 268 #[.int .i64 k] w fun e w' => (∃ g, e = .returned (.func (.func g) #[] #[])) ∧ w = w' := by
  obtain h | h | h | h : k = 1 ∨ k = 2 ∨ k = 3 ∨ k = 4 := by omega
  all_goals
    subst h
    go_enter Try.func268, Try.ntmps268
    go_wp2
    go_ret
    exact ⟨⟨_, rfl⟩, rfl⟩
theorem comparisonOf_no (k : Int) (w : World) (h : k < 1 ∨ 4 < k) : Calls Try.prog 268 #[.int .i64 k] w fun e w' => e = .returned .nilFunc ∧ w = w' := by
  have e1 : (k == 1) = false := by rw [beq_eq_false_iff_ne]; omega
  have e2 : (k == 2) = false := by rw [beq_eq_false_iff_ne]; omega
  have e3 : (k == 3) = false := by rw [beq_eq_false_iff_ne]; omega
  have e4 : (k == 4) = false := by rw [beq_eq_false_iff_ne]; omega
  clear h
  go_enter Try.func268, Try.ntmps268
  go_wp2
  go_ret
  exact ⟨rfl, rfl⟩
theorem fn_neq (g : Nat) (w : World) : (binOp .neq 262 (.func (.func g) #[] #[]) .nilFunc).run Try.prog w = .ok (.bool true) w := by kernel_rfl
theorem fn_neq_nil (w : World) : (binOp .neq 262 .nilFunc .nilFunc).run Try.prog w = .ok (.bool false) w := by kernel_rfl

set_option maxHeartbeats 400000 in
theorem ValidPredicate_i (c k v n : Int) (w : World) :
    Calls Try.prog 264 #[.agg #[.int .i64 c, .int .i64 k, .int .i64 v], .int .i64 n] w fun e w' => e = .returned (.bool (pvB c k v n)) ∧ Below w.heap.size w w' := by
  have q1 := fn_neq
  have q2 := fn_neq_nil
  by_cases h1 : n < 1
  · have HR : Hid (pvB c k v n = false) := by simp [Hid, pvB, inB]; omega
    go_enter Try.func264, Try.ntmps264
    go_wp2
    go_ret
    exact ⟨ret_bool HR.out.symm, bal (Below.refl _ _) _⟩
  have g1 : 1 ≤ n := by omega
  by_cases h2 : 6 < n
  · have HR : Hid (pvB c k v n = false) := by simp [Hid, pvB, inB]; omega
    go_enter Try.func264, Try.ntmps264
    go_wp2
    go_ret
    exact ⟨ret_bool HR.out.symm, bal (Below.refl _ _) _⟩
  have g2 : n ≤ 6 := by omega
  by_cases h3 : c < 0
  · have HR : Hid (pvB c k v n = false) := by simp [Hid, pvB, inB]; omega
    go_enter Try.func264, Try.ntmps264
    go_wp2
    go_ret
    exact ⟨ret_bool HR.out.symm, bal (Below.refl _ _) _⟩
  have g3 : 0 ≤ c := by omega
  by_cases h4 : n ≤ c
  · have HR : Hid (pvB c k v n = false) := by simp [Hid, pvB, inB]; omega
    go_enter Try.func264, Try.ntmps264
    go_wp2
    go_ret
    exact ⟨ret_bool HR.out.symm, bal (Below.refl _ _) _⟩
  have g4 : c < n := by omega
  by_cases h5 : 1 ≤ k ∧ k ≤ 4
  · have HR : Hid (pvB c k v n = inB v (-9999) 9999) := by
      have a1 : inB n 1 6 = true := by simp [inB]; omega
      have a2 : inB c 0 (n - 1) = true := by simp [inB]; omega
      have a3 : inB k 1 4 = true := by simp [inB]; omega
      simp [Hid, pvB, a1, a2, a3]
    obtain ⟨k1, k4⟩ := h5
    clear h1 h2 h3 h4
    go_enter Try.func264, Try.ntmps264
    go_wp2_with fail
    refine (comparisonOf_yes _ _ k1 k4).mono ?_
    rintro e w1 ⟨⟨g, rfl⟩, rfl⟩
    go_wp2_with fail
    refine (isWithin_any _ _).mono ?_
    rintro e w1 ⟨rfl, rfl⟩
    go_wp2_with fail
    go_ret
    exact ⟨ret_bool HR.out.symm, bal (Below.refl _ _) _⟩
  · have hk : k < 1 ∨ 4 < k := by omega
    have HR : Hid (pvB c k v n = false) := by
      have a3 : inB k 1 4 = false := by simp [inB]; omega
      simp [Hid, pvB, a3]
    have hcon := fun w => comparisonOf_no k w hk
    clear h1 h2 h3 h4 h5 hk
    go_enter Try.func264, Try.ntmps264
    go_wp2_with fail
    refine (hcon _).mono ?_
    rintro e w1 ⟨rfl, rfl⟩
    go_wp2_with fail
    go_ret
    exact ⟨ret_bool HR.out.symm, bal (Below.refl _ _) _⟩
end Go.Proofs.Ythefakiobpijiaa

/- HELPER, no statement of the seat: predicates as tests of rows. -/
namespace Go.Proofs.Ythefakiobpijiaa
open Go.RowKit Go.Sort
set_option linter.unusedSimpArgs false
set_option linter.unusedVariables false


def cmpP (k x v : Int) : Bool := if k = 1 then x == v else if k = 2 then decide (x < v) else if k = 3 then decide (v < x) else x != v
/-- The row r satisfies the predicate of the column m, the kind k and the value v. -/
def holdP (m : Nat) (k v : Int) (r : List Int) : Bool := cmpP k (r.getD m 0) v
def cmpFn (k : Int) : Nat := if k = 1 then 270 else if k = 2 then 271 else if k = 3 then 272 else 273
theorem IntsAt.at {w : World} {A : Option Addr} {xs : List Int} (h : IntsAt w A xs) {m : Nat} (hm : m < xs.length) : ∃ b off, A = some ⟨b, off, none⟩ ∧ b < w.heap.size ∧ w.cell? ⟨b, off + m, none⟩ = some (.int .i64 xs[m]) := by
  obtain ⟨b, off, e, hlt, hc⟩ := h (by omega)
  exact ⟨b, off, e, hlt, by rw [hc m hm]; simp [hm]⟩
theorem getD_at {xs : List Int} {m : Nat} (h : m < xs.length) : xs.getD m 0 = xs[m] := by simp [h]

theorem cmp_c (k x v : Int) (w : World) (h1 : 1 ≤ k) (h4 : k ≤ 4) : Calls Try.prog (cmpFn k) #[.int .i64 x, .int .i64 v] w fun e w' => e = .returned (.bool (cmpP k x v)) ∧ Below w.heap.size w w' := by
  obtain rfl | rfl | rfl | rfl : k = 1 ∨ k = 2 ∨ k = 3 ∨ k = 4 := by omega
  · show Calls Try.prog 270 _ _ _
    go_enter Try.func270, Try.ntmps270
    go_wp2
    go_ret
    exact ⟨ret_bool (by simp [cmpP]), Below.refl _ _⟩
  · show Calls Try.prog 271 _ _ _
    go_enter Try.func271, Try.ntmps271
    go_wp2
    go_ret
    exact ⟨ret_bool (by simp [cmpP]), Below.refl _ _⟩
  · show Calls Try.prog 272 _ _ _
    go_enter Try.func272, Try.ntmps272
    go_wp2
    go_ret
    exact ⟨ret_bool (by simp [cmpP]), Below.refl _ _⟩
  · show Calls Try.prog 273 _ _ _
    go_enter Try.func273, Try.ntmps273
    go_wp2
    go_ret
    exact ⟨ret_bool (by simp [cmpP]), Below.refl _ _⟩
theorem comparisonOf_k (k : Int) (w : World) (h1 : 1 ≤ k) (h4 : k ≤ 4) : Calls Try.prog 268 #[.int .i64 k] w fun e w' => e = .returned (.func (.func (cmpFn k)) #[] #[]) ∧ w = w' := by
  obtain rfl | rfl | rfl | rfl : k = 1 ∨ k = 2 ∨ k = 3 ∨ k = 4 := by omega
  all_goals
    go_enter Try.func268, Try.ntmps268
    go_wp2
    go_ret
    exact ⟨rfl, rfl⟩

/-- The captured variables of a predicate's test. -/
structure TestAt (w : World) (B C : Nat) (m : Nat) (k v : Int) : Prop where
  p : Blk w B 74 #[.int .i64 m, .int .i64 k, .int .i64 v]
  f : Blk w C 262 #[.func (.func (cmpFn k)) #[] #[]]
theorem TestAt.below {w w' : World} {B C m : Nat} {k v : Int} (h : TestAt w B C m k v) (hb : Below w.heap.size w w') : TestAt w' B C m k v := ⟨h.p.below hb, h.f.below hb⟩
end Go.Proofs.Ythefakiobpijiaa

/- HELPER, no statement of the seat: Filter of both sides. -/
namespace Go.Proofs.Ythefakiobpijiaa
open Go.RowKit Go.Sort
set_option linter.unusedSimpArgs false
set_option linter.unusedVariables false


end Go.Proofs.Ythefakiobpijiaa

/- HELPER, no statement of the seat: Filter of both sides. -/
namespace Go.Proofs.Ythefakiobpijiaa
open Go.RowKit Go.Sort
set_option linter.unusedSimpArgs false
set_option linter.unusedVariables false


/-- What Filter gives. -/
def FilF (z : List Ent) (c k v : Int) : List Ent := if (zsB z && pvB c k v (wid z)) = true then z.filter (fun e => holdP c.toNat k v e.1) else []
theorem FilF_len (z : List Ent) (c k v : Int) : (FilF z c k v).length ≤ 400 := by
  unfold FilF
  split
  · rename_i h
    simp only [Bool.and_eq_true] at h
    exact Nat.le_trans (List.length_filter_le _ _) (zsB_len h.1)
  · simp
theorem FilF_row (z : List Ent) (c k v : Int) : rowsIn (FilF z c k v) 6 := by
  unfold FilF
  split
  · rename_i h
    simp only [Bool.and_eq_true] at h
    exact fun e he => zsB_row h.1 e (List.mem_filter.1 he).1
  · intro e he; cases he
theorem pvB_iff {c k v n : Int} : pvB c k v n = true ↔ (1 ≤ n ∧ n ≤ 6) ∧ (0 ≤ c ∧ c < n) ∧ (1 ≤ k ∧ k ≤ 4) ∧ (-9999 ≤ v ∧ v ≤ 9999) := by
  simp only [pvB, inB, Bool.and_eq_true, decide_eq_true_eq]
  constructor <;> (intro h; omega)

/-! ### The model's -/
end Go.Proofs.Ythefakiobpijiaa

/- HELPER, no statement of the seat: FilterTrace of both sides. -/
namespace Go.Proofs.Ythefakiobpijiaa
open Go.RowKit Go.Sort
set_option linter.unusedSimpArgs false
set_option linter.unusedVariables false

theorem trB_filter {l : List Upd} (p : Upd → Bool) (h : trB l = true) : trB (l.filter p) = true := trB_sub List.filter_sublist h
theorem chkT_filter {l : List Upd} (p : Upd → Bool) (h : trB l = true) : chkT (l.filter p) = l.filter p := by simp [chkT, trB_filter p h]
theorem widU_row {l : List Upd} (h : trB l = true) (hp : 0 < l.length) : 1 ≤ widU l ∧ widU l ≤ 6 := by
  have h1 := trB_wid h _ (List.getElem_mem hp)
  have h2 := (sumU_parts (trB_sum h _ (List.getElem_mem hp))).1
  rw [← h1]
  simp only [rowB, decide_eq_true_eq] at h2
  exact ⟨h2.1, h2.2.1⟩
/-- What FilterTrace gives. -/
def FilFU (z : List Upd) (c k v : Int) : List Upd := if (trB z && pvB c k v (widU z)) = true then z.filter (fun e => holdP c.toNat k v e.1.1) else []
theorem FilFU_len (z : List Upd) (c k v : Int) : (FilFU z c k v).length ≤ 400 := by
  unfold FilFU
  split
  · rename_i h
    simp only [Bool.and_eq_true] at h
    exact Nat.le_trans (List.length_filter_le _ _) ((trB_parts h.1).1)
  · simp
theorem FilFU_row (z : List Upd) (c k v : Int) : rowsU (FilFU z c k v) 6 := by
  unfold FilFU
  split
  · rename_i h
    simp only [Bool.and_eq_true] at h
    exact fun e he => trB_row h.1 e (List.mem_filter.1 he).1
  · intro e he; cases he
/-! ### The model's -/
end Go.Proofs.Ythefakiobpijiaa
