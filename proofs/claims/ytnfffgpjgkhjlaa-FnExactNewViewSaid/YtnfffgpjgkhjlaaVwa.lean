/- HELPER, no statement of the seat: several texts in one file. -/
import Derived.Test.YtnfffgpjgkhjlaaBtc
import Derived.Test.YtnfffgpjgkhjlaaMrg
import Derived.Test.YtnfffgpjgkhjlaaFro
import Derived.Test.YtnfffgpjgkhjlaaCpt
import Derived.Test.YtnfffgpjgkhjlaaBat
import Derived.Test.YtnfffgpjgkhjlaaTmH
/- HELPER, no statement of the seat: views as lists: what is valid, appended, compacted; no program. -/
namespace Go.Proofs.Ytnfffgpjgkhjlaa
open Go.RowKit Go.Sort
set_option linter.unusedSimpArgs false
set_option linter.unusedVariables false

/-- The view is valid. -/
def vewB (b : Bt) : Bool := flB b.1 b.2.1 && (trB b.2.2 && b.2.2.all fun e => !cvB b.2.1 e.1.2.1 e.1.2.2)
theorem vew_parts {b : Bt} (h : vewB b = true) : flB b.1 b.2.1 = true ∧ trB b.2.2 = true ∧ ∀ e ∈ b.2.2, cvB b.2.1 e.1.2.1 e.1.2.2 = false := by
  simp only [vewB, Bool.and_eq_true, List.all_eq_true] at h
  exact ⟨h.1, h.2.1, fun e he => by simpa using h.2.2 e he⟩
theorem bat_parts {b : Bt} (h : batB b = true) : flB b.1 b.2.1 = true ∧ trB b.2.2 = true ∧ ∀ e ∈ b.2.2, cvB b.1 e.1.2.1 e.1.2.2 = true ∧ cvB b.2.1 e.1.2.1 e.1.2.2 = false := by
  simp only [batB, inBt, Bool.and_eq_true, List.all_eq_true] at h
  exact ⟨h.1, h.2.1, fun e he => by have := h.2.2 e he; exact ⟨this.1, by simpa using this.2⟩⟩
theorem insK_new {κ : Type} [DecidableEq κ] {lt : κ → κ → Bool} {r : κ} {w : Int} : ∀ {l : List (κ × Int)}, (∀ y ∈ l, y.1 ≠ r) → (insK lt l r w).Perm ((r, w) :: l)
  | [], _ => .refl _
  | x :: l, h => by
    unfold insK
    split
    · exact ((insK_new (fun y hy => h y (by simp [hy]))).cons x).trans (List.Perm.swap _ _ _)
    · rw [if_neg (h x (by simp))]
theorem AddLU_new : ∀ {b a : List Upd}, (∀ x ∈ a, ∀ y ∈ b, x.1 ≠ y.1) → b.Pairwise (fun x y => x.1 ≠ y.1) → (AddLU a b).Perm (a ++ b)
  | [], a, _, _ => by simp [AddLU]
  | e :: b, a, h, hp => by
    have h1 : (insK ltU a e.1 e.2).Perm (e :: a) := insK_new (fun y hy => h y hy e (by simp))
    have h2 := AddLU_new (b := b) (a := insK ltU a e.1 e.2) (fun x hx y hy => by
      rcases List.mem_cons.1 (h1.mem_iff.1 hx) with rfl | hx
      · exact (List.pairwise_cons.1 hp).1 y hy
      · exact h x hx y (by simp [hy])) (List.pairwise_cons.1 hp).2
    show (AddLU (insK ltU a e.1 e.2) b).Perm (a ++ e :: b)
    exact h2.trans ((h1.append_right b).trans (List.perm_middle.symm))
/-- Two traces put together. -/
def mrgT (us tr : List Upd) : List Upd := nz (AddLU us tr)
theorem mrg_norm {us tr : List Upd} (hu : trB us = true) : nz (NormLU (us ++ tr)) = mrgT us tr :=
  nz_ext updTot (NormLU_asc _) (AddLU_asc (trB_asc hu) tr) (fun r => by rw [NormLU_wsum, AddLU_wsum, wsum_append])
theorem mrg_perm {us tr : List Upd} (hu : trB us = true) (ht : trB tr = true) (h : ∀ x ∈ us, ∀ y ∈ tr, x.1 ≠ y.1) : (mrgT us tr).Perm (us ++ tr) := by
  have h1 := AddLU_new (a := us) (b := tr) h (List.Pairwise.imp (fun h => updTot.ne h) (trB_asc ht))
  have h2 : mrgT us tr = AddLU us tr := List.filter_eq_self.2 (fun e he => by
    rcases List.mem_append.1 (h1.mem_iff.1 he) with he | he
    · simp [trB_ne hu e he]
    · simp [trB_ne ht e he])
  rw [h2]
  exact h1
theorem mrg_rows {us tr : List Upd} {n : Nat} (h1 : rowsU us n) (h2 : rowsU tr n) : rowsU (mrgT us tr) n := fun e he =>
  AddLU_all (p := fun r : KeyU => r.1.length ≤ n) tr us h1 h2 e (List.mem_filter.1 he).1
theorem mrg_len (us tr : List Upd) : (mrgT us tr).length ≤ us.length + tr.length :=
  Nat.le_trans (List.length_filter_le _ _) (AddLU_length tr us)
theorem fl_trans {xs ys zs : List Tm} (h1 : flB xs ys = true) (h2 : flB ys zs = true) : flB xs zs = true := by
  obtain ⟨a1, a2, a3⟩ := fl_parts h1
  obtain ⟨b1, b2, b3⟩ := fl_parts h2
  simp only [flB, Bool.and_eq_true, List.all_eq_true]
  refine ⟨⟨a1, b2⟩, fun e he => ?_⟩
  obtain ⟨f, hf, hl⟩ := cv_iff.1 (b3 e he)
  obtain ⟨g, hg, hm⟩ := cv_iff.1 (a3 f hf)
  exact cv_iff.2 ⟨g, hg, leB_tr hm hl⟩
theorem fl_cv {xs ys : List Tm} {u v : Int} (h : flB xs ys = true) (hc : cvB ys u v = true) : cvB xs u v = true := by
  obtain ⟨a1, a2, a3⟩ := fl_parts h
  obtain ⟨f, hf, hl⟩ := cv_iff.1 hc
  obtain ⟨g, hg, hm⟩ := cv_iff.1 (a3 f hf)
  exact cv_iff.2 ⟨g, hg, leB_tr hm hl⟩
theorem apart_cv {up : List Tm} {us tr : List Upd} (h1 : ∀ e ∈ us, cvB up e.1.2.1 e.1.2.2 = false) (h2 : ∀ e ∈ tr, cvB up e.1.2.1 e.1.2.2 = true) : ∀ x ∈ us, ∀ y ∈ tr, x.1 ≠ y.1 := fun x hx y hy e => by
  have a := h1 x hx
  have b := h2 y hy
  rw [e, b] at a
  cases a
/-! ### Appending -/
def appOk (b : Bt) (tr : List Upd) (u : List Tm) : Bool := vewB b && (batB (b.2.1, (u, tr)) && trB (mrgT b.2.2 tr))
def appV (b : Bt) (tr : List Upd) (u : List Tm) : Bt := if appOk b tr u = true then (b.1, (u, mrgT b.2.2 tr)) else ([], ([], []))
theorem app_perm {b : Bt} {tr : List Upd} {u : List Tm} (h1 : vewB b = true) (h2 : batB (b.2.1, (u, tr)) = true) : (mrgT b.2.2 tr).Perm (b.2.2 ++ tr) := by
  obtain ⟨a1, a2, a3⟩ := vew_parts h1
  obtain ⟨b1, b2, b3⟩ := bat_parts h2
  exact mrg_perm a2 b2 (apart_cv a3 (fun e he => (b3 e he).1))
theorem app_vew {b : Bt} {tr : List Upd} {u : List Tm} (h1 : vewB b = true) (h2 : batB (b.2.1, (u, tr)) = true) : vewB (b.1, (u, mrgT b.2.2 tr)) = trB (mrgT b.2.2 tr) := by
  have hp := app_perm h1 h2
  obtain ⟨a1, a2, a3⟩ := vew_parts h1
  obtain ⟨b1, b2, b3⟩ := bat_parts h2
  have hn : (mrgT b.2.2 tr).all (fun e => !cvB u e.1.2.1 e.1.2.2) = true := by
    rw [List.all_eq_true]
    intro e he
    rcases List.mem_append.1 (hp.mem_iff.1 he) with he | he
    · cases hc : cvB u e.1.2.1 e.1.2.2 with
      | false => rfl
      | true => have := a3 e he; rw [fl_cv b1 hc] at this; cases this
    · simp [(b3 e he).2]
  simp only [vewB, fl_trans a1 b1, hn, Bool.true_and, Bool.and_true]
theorem app_len {b : Bt} {tr : List Upd} {u : List Tm} (h1 : vewB b = true) (h2 : batB (b.2.1, (u, tr)) = true) : (mrgT b.2.2 tr).length = b.2.2.length + tr.length := by
  rw [(app_perm h1 h2).length_eq, List.length_append]
/-- What the model asks of the length. -/
theorem app_many {b : Bt} {tr : List Upd} {u : List Tm} (h1 : vewB b = true) (h2 : batB (b.2.1, (u, tr)) = true) : decide ((chkT (mrgT b.2.2 tr)).length = b.2.2.length + tr.length) = trB (mrgT b.2.2 tr) := by
  have hl := app_len h1 h2
  cases h : trB (mrgT b.2.2 tr) with
  | true => simp [chkT, h, hl]
  | false =>
    rw [decide_eq_false_iff_not]
    intro e
    simp only [chkT, h] at e
    have h0 : mrgT b.2.2 tr = [] := List.eq_nil_of_length_eq_zero (by simp at e; omega)
    rw [h0] at h
    revert h
    decide
theorem appV_len (b : Bt) (tr : List Upd) (u : List Tm) (n1 : b.1.length ≤ 4194304) (n2 : u.length ≤ 4194304) : (appV b tr u).1.length ≤ 4194304 ∧ (appV b tr u).2.1.length ≤ 4194304 ∧ (appV b tr u).2.2.length ≤ 400 ∧ rowsU (appV b tr u).2.2 6 := by
  unfold appV
  split
  · rename_i h
    simp only [appOk, Bool.and_eq_true] at h
    exact ⟨n1, n2, (trB_parts h.2.2).1, trB_row h.2.2⟩
  · exact ⟨by simp, by simp, by simp, fun e he => by cases he⟩
/-! ### Compacting -/
def cpvOk (b : Bt) (s : List Tm) : Bool := vewB b && (flB b.1 s && vewB (s, (b.2.1, CptF b.2.2 s)))
def cpvV (b : Bt) (s : List Tm) : Bt := if cpvOk b s = true then (s, (b.2.1, CptF b.2.2 s)) else ([], ([], []))
theorem cpvV_len (b : Bt) (s : List Tm) (n1 : s.length ≤ 4194304) (n2 : b.2.1.length ≤ 4194304) : (cpvV b s).1.length ≤ 4194304 ∧ (cpvV b s).2.1.length ≤ 4194304 ∧ (cpvV b s).2.2.length ≤ 400 ∧ rowsU (cpvV b s).2.2 6 := by
  unfold cpvV
  split
  · exact ⟨n1, n2, CptF_len _ _, CptF_row _ _⟩
  · exact ⟨by simp, by simp, by simp, fun e he => by cases he⟩
/-! ### Reading -/
def redN (b : Bt) (x y : Int) : Int := if (vewB b && vtB x y) = false then 0 else if cvB b.1 x y = false then 2 else if cvB b.2.1 x y = true then 3 else 1
def redF (b : Bt) (x y : Int) : List Ent := if redN b x y = 1 then AsOfF b.2.2 x y else []
theorem redF_len (b : Bt) (x y : Int) : (redF b x y).length ≤ 400 := by
  unfold redF
  split
  · exact AsOfF_len _ _ _
  · simp
theorem redF_row (b : Bt) (x y : Int) : rowsIn (redF b x y) 6 := by
  unfold redF
  split
  · exact AsOfF_row _ _ _
  · intro e he; cases he
end Go.Proofs.Ytnfffgpjgkhjlaa

/- HELPER, no statement of the seat: views as data: the laws' measure, copy, comparison and marks of a view. -/
namespace Go.Proofs.Ytnfffgpjgkhjlaa
open Go.RowKit Go.Sort
set_option linter.unusedSimpArgs false
set_option linter.unusedVariables false

section
variable {H : Type} {enc : TypeId × Value → H} {W : World}
theorem opens_view : Opens enc Try.prog W 25 BatR 3 := opens_struct3 Try.underlying25 (by kernel_rfl) rfl rfl rfl opens_tms opens_tms opens_ups
end
/-! ### The measure -/
set_option maxHeartbeats 1600000 in
theorem szView_yes (LA UA TA : Option Addr) (lc uc tc : Nat) (lo up : List Tm) (us : List Upd) (left : Int) (w : World) (h3 : UpdsAt w TA us) (m1 : lo.length ≤ maxLen) (m2 : up.length ≤ maxLen) (m3 : us.length ≤ maxLen) (h0 : 0 ≤ left) (h1 : left ≤ 1048576) (h : batSz (lo, (up, us)) ≤ left) :
    Calls Try.prog 6 #[.agg #[.slice LA lo.length lc, .slice UA up.length uc, .slice TA us.length tc], .int .i64 left] w fun e w' => e = .returned (.int .i64 (left - batSz (lo, (up, us)))) ∧ Below w.heap.size w w' := by
  have hu := updSz_nn us
  have HS : Hid (left - batSz (lo, (up, us)) = left - lo.length - up.length - updSz us) := by simp only [Hid, batSz]; omega
  have hle : (lo.length : Int) + up.length + updSz us ≤ left := h
  clear h
  have hsz := fun W (hx : UpdsAt W TA us) => szUpdateS_yes TA tc us (left - lo.length - up.length) W hx (by omega) (by omega) m3 (by omega)
  go_enter Try.func6, Try.ntmps6
  go_wp2_with fail
  refine (szTimeS_yes _ _ lo.length _ _ h0 h1 m1 (by omega)).mono ?_
  rintro e w1 ⟨rfl, rfl⟩
  have n1 : ¬ left - (lo.length : Int) < 0 := by omega
  go_wp2_with fail
  refine (szTimeS_yes _ _ up.length _ _ (by omega) (by omega) m2 (by omega)).mono ?_
  rintro e w2 ⟨rfl, rfl⟩
  have n2 : ¬ left - (lo.length : Int) - (up.length : Int) < 0 := by omega
  have hB0 : Below w.heap.size w (w.alloc (.cells #[.slice LA lo.length lc, .slice UA up.length uc, .slice TA us.length tc] 25)) := bal (Below.refl _ _) _
  go_wp2_with fail
  refine (hsz _ (h3.below updR hB0)).mono ?_
  rintro e w3 ⟨rfl, b3⟩
  have n3 : ¬ left - (lo.length : Int) - (up.length : Int) - updSz us < 0 := by omega
  have HB := Lib.hid (btr hB0 b3)
  clear b3 hsz
  go_wp2
  go_ret
  exact ⟨ret_int (by rw [HS.out]), HB.out⟩
set_option maxHeartbeats 1600000 in
theorem szView_no (LA UA TA : Option Addr) (lc uc tc : Nat) (lo up : List Tm) (us : List Upd) (left : Int) (w : World) (h3 : UpdsAt w TA us) (m1 : lo.length ≤ maxLen) (m2 : up.length ≤ maxLen) (m3 : us.length ≤ maxLen) (h0 : 0 ≤ left) (h1 : left ≤ 1048576) (h : left < batSz (lo, (up, us))) :
    Calls Try.prog 6 #[.agg #[.slice LA lo.length lc, .slice UA up.length uc, .slice TA us.length tc], .int .i64 left] w fun e w' => e = .returned (.int .i64 (-1)) ∧ Below w.heap.size w w' := by
  have hu := updSz_nn us
  have hle : left < (lo.length : Int) + up.length + updSz us := h
  clear h
  by_cases c1 : left < (lo.length : Int)
  · go_enter Try.func6, Try.ntmps6
    go_wp2_with fail
    refine (szTimeS_no _ _ lo.length _ _ h0 h1 m1 c1).mono ?_
    rintro e w1 ⟨rfl, rfl⟩
    have HB : Hid (Below w.heap.size w (w.alloc (.cells #[.slice LA lo.length lc, .slice UA up.length uc, .slice TA us.length tc] 25))) := bal (Below.refl _ _) _
    go_wp2
    go_ret
    exact ⟨rfl, HB.out⟩
  by_cases c2 : left - (lo.length : Int) < (up.length : Int)
  · go_enter Try.func6, Try.ntmps6
    go_wp2_with fail
    refine (szTimeS_yes _ _ lo.length _ _ h0 h1 m1 (by omega)).mono ?_
    rintro e w1 ⟨rfl, rfl⟩
    have n1 : ¬ left - (lo.length : Int) < 0 := by omega
    go_wp2_with fail
    refine (szTimeS_no _ _ up.length _ _ (by omega) (by omega) m2 c2).mono ?_
    rintro e w2 ⟨rfl, rfl⟩
    have HB : Hid (Below w.heap.size w (w.alloc (.cells #[.slice LA lo.length lc, .slice UA up.length uc, .slice TA us.length tc] 25))) := bal (Below.refl _ _) _
    go_wp2
    go_ret
    exact ⟨rfl, HB.out⟩
  have hsz := fun W (hx : UpdsAt W TA us) => szUpdateS_no TA tc us (left - lo.length - up.length) W hx (by omega) (by omega) m3 (by omega)
  go_enter Try.func6, Try.ntmps6
  go_wp2_with fail
  refine (szTimeS_yes _ _ lo.length _ _ h0 h1 m1 (by omega)).mono ?_
  rintro e w1 ⟨rfl, rfl⟩
  have n1 : ¬ left - (lo.length : Int) < 0 := by omega
  go_wp2_with fail
  refine (szTimeS_yes _ _ up.length _ _ (by omega) (by omega) m2 (by omega)).mono ?_
  rintro e w2 ⟨rfl, rfl⟩
  have n2 : ¬ left - (lo.length : Int) - (up.length : Int) < 0 := by omega
  have hB0 : Below w.heap.size w (w.alloc (.cells #[.slice LA lo.length lc, .slice UA up.length uc, .slice TA us.length tc] 25)) := bal (Below.refl _ _) _
  go_wp2_with fail
  refine (hsz _ (h3.below updR hB0)).mono ?_
  rintro e w3 ⟨rfl, b3⟩
  have HB := Lib.hid (btr hB0 b3)
  clear b3 hsz
  go_wp2
  go_ret
  exact ⟨rfl, HB.out⟩
/-! ### The comparison -/
set_option maxHeartbeats 1600000 in
theorem eqView_yes (LA UA TA LB UB TB : Option Addr) (lc uc tc ld ud td : Nat) (lo up : List Tm) (us : List Upd) (w : World) (h1 : TimesAt w LA lo) (h2 : TimesAt w UA up) (h3 : UpdsAt w TA us) (k1 : TimesAt w LB lo) (k2 : TimesAt w UB up) (k3 : UpdsAt w TB us)
    (n1 : lo.length ≤ 4194304) (n2 : up.length ≤ 4194304) (n3 : us.length ≤ 4194304) (r3 : rowsU us 4194304) :
    Calls Try.prog 10 #[.agg #[.slice LA lo.length lc, .slice UA up.length uc, .slice TA us.length tc], .agg #[.slice LB lo.length ld, .slice UB up.length ud, .slice TB us.length td]] w fun e w' => e = .returned (.bool true) ∧ Below w.heap.size w w' := by
  have t1 : decide (lo = lo) = true := decide_eq_true rfl
  have t2 : decide (up = up) = true := decide_eq_true rfl
  have t3 : decide (us = us) = true := decide_eq_true rfl
  have c1 := fun W (a : TimesAt W LA lo) (b : TimesAt W LB lo) => eqTimeS_any LA LB lc ld lo lo W a b n1 n1
  have c2 := fun W (a : TimesAt W UA up) (b : TimesAt W UB up) => eqTimeS_any UA UB uc ud up up W a b n2 n2
  have c3 := fun W (a : UpdsAt W TA us) (b : UpdsAt W TB us) => eqUpdateS_any TA TB tc td us us W a b n3 n3 r3 r3
  rw [t1] at c1
  rw [t2] at c2
  rw [t3] at c3
  clear t1 t2 t3
  have hB0 : Hid (Below w.heap.size w ((w.alloc (.cells #[.slice LA lo.length lc, .slice UA up.length uc, .slice TA us.length tc] 31)).alloc (.cells #[.slice LB lo.length ld, .slice UB up.length ud, .slice TB us.length td] 31))) := bal (bal (Below.refl _ _) _) _
  go_enter Try.func10, Try.ntmps10
  go_wp2_with fail
  refine absI (fun W => Below w.heap.size w W ∧ Blk W w.heap.size 31 #[.slice LA lo.length lc, .slice UA up.length uc, .slice TA us.length tc] ∧ Blk W (w.heap.size + 1) 31 #[.slice LB lo.length ld, .slice UB up.length ud, .slice TB us.length td])
    ⟨hB0.out, (Blk.newAt rfl).alloc _, Blk.newAt (by simp)⟩ ?_
  rintro W0 ⟨B0, kA, kB⟩
  refine (c1 W0 (h1.below B0) (k1.below B0)).mono ?_
  rintro e w1 ⟨rfl, b1⟩
  have B1 := btr B0 b1
  have kA1 := kA.below b1
  have kB1 := kB.below b1
  have a1 := kA1.cell 1
  have a2 := kB1.cell 1
  simp at a1 a2
  clear c1 B0 kA kB b1
  go_wp2_with fail
  refine (c2 w1 (h2.below B1) (k2.below B1)).mono ?_
  rintro e w2 ⟨rfl, b2⟩
  have B2 := btr B1 b2
  have a3 := (kA1.below b2).cell 2
  have a4 := (kB1.below b2).cell 2
  simp at a3 a4
  clear c2 B1 kA1 kB1 b2 a1 a2
  go_wp2_with fail
  refine (c3 w2 (h3.below updR B2) (k3.below updR B2)).mono ?_
  rintro e w3 ⟨rfl, b3⟩
  have HB := Lib.hid (btr B2 b3)
  clear c3 B2 b3 a3 a4
  go_wp2
  go_ret
  exact ⟨rfl, HB.out⟩
/-! ### The copy -/
set_option maxRecDepth 100000 in
set_option maxHeartbeats 1600000 in
theorem toView_any (LA UA TA : Option Addr) (lc uc tc : Nat) (lo up : List Tm) (us : List Upd) (w : World) (h1 : TimesAt w LA lo) (h2 : TimesAt w UA up) (h3 : UpdsAt w TA us) (n1 : lo.length ≤ 4194304) (n2 : up.length ≤ 4194304) (n3 : us.length ≤ 2097152) (r3 : rowsU us 4194304) :
    Calls Try.prog 8 #[.agg #[.slice LA lo.length lc, .slice UA up.length uc, .slice TA us.length tc]] w fun e w' => ∃ L1 U1 T1, e = .returned (.agg #[.slice L1 lo.length lo.length, .slice U1 up.length up.length, .slice T1 us.length us.length]) ∧ BatO w' (news w w') [.slice L1 lo.length lo.length, .slice U1 up.length up.length, .slice T1 us.length us.length] (lo, (up, us)) ∧ Below w.heap.size w w' := by
  have c1 := fun W (a : TimesAt W LA lo) => toTimeS_any LA lc lo W a n1
  have c2 := fun W (a : TimesAt W UA up) => toTimeS_any UA uc up W a n2
  have c3 := fun W (a : UpdsAt W TA us) => toUpdateS_any TA tc us W a n3 r3
  have hB0 : Hid (Below w.heap.size w (((w.alloc (.cells #[.slice LA lo.length lc, .slice UA up.length uc, .slice TA us.length tc] 25)).alloc (.cells #[.slice none 0 0, .slice none 0 0, .slice none 0 0] 31)).alloc (.cells #[.slice none 0 0, .slice none 0 0, .slice none 0 0] 31))) := bal (bal (bal (Below.refl _ _) _) _) _
  go_enter Try.func8, Try.ntmps8
  go_wp2_with fail
  refine absI (fun W => Below w.heap.size w W ∧ w.heap.size + 3 ≤ W.heap.size ∧ Blk W w.heap.size 25 #[.slice LA lo.length lc, .slice UA up.length uc, .slice TA us.length tc] ∧ Blk W (w.heap.size + 1) 31 #[.slice none 0 0, .slice none 0 0, .slice none 0 0] ∧ Blk W (w.heap.size + 2) 31 #[.slice none 0 0, .slice none 0 0, .slice none 0 0])
    ⟨hB0.out, by simp, ((Blk.newAt rfl).alloc _).alloc _, (Blk.newAt (by simp)).alloc _, Blk.newAt (by simp)⟩ ?_
  rintro W0 ⟨B0, hs0, kA, kR, kX⟩
  clear hB0
  refine (c1 W0 (h1.below B0)).mono ?_
  rintro e w1 ⟨rfl, d1, b1⟩
  have hs1 := b1.size
  have B1 := btr B0 b1
  have x0 := (kX.below b1).cell 0
  have x1 := (kX.below b1).frozen 0
  simp at x0
  have H1 : Hid (Below w.heap.size w w1 ∧ W0.heap.size < w1.heap.size ∧ Blk w1 w.heap.size 25 #[.slice LA lo.length lc, .slice UA up.length uc, .slice TA us.length tc] ∧ Blk w1 (w.heap.size + 1) 31 #[.slice none 0 0, .slice none 0 0, .slice none 0 0] ∧ Blk w1 (w.heap.size + 2) 31 #[.slice none 0 0, .slice none 0 0, .slice none 0 0] ∧ Blk w1 W0.heap.size 56 (timeC lo)) :=
    ⟨B1, d1.lt, kA.below b1, kR.below b1, kX.below b1, d1⟩
  have a1 := (kA.below b1).cell 1
  simp at a1
  have q1 : ∀ v, (w1.setCell ⟨w.heap.size + 2, 0, none⟩ v).cell? ⟨w.heap.size, 1, none⟩ = some (.slice UA up.length uc) := fun v => ((kA.below b1).far (p := ⟨w.heap.size + 2, 0, none⟩) (by simp) v).cell 1
  clear c1 kA kR kX d1 b1 B0 B1
  go_wp2_with fail
  refine absI (fun W => Below w.heap.size w W ∧ w1.heap.size ≤ W.heap.size ∧ Blk W w.heap.size 25 #[.slice LA lo.length lc, .slice UA up.length uc, .slice TA us.length tc] ∧ Blk W (w.heap.size + 1) 31 #[.slice none 0 0, .slice none 0 0, .slice none 0 0] ∧ Blk W (w.heap.size + 2) 31 #[.slice (some ⟨W0.heap.size, 0, none⟩) lo.length lo.length, .slice none 0 0, .slice none 0 0] ∧ Blk W W0.heap.size 56 (timeC lo))
    ⟨bset (p := ⟨w.heap.size + 2, 0, none⟩) H1.out.1 (by simp) _, by simp [World.setCell], H1.out.2.2.1.far (p := ⟨w.heap.size + 2, 0, none⟩) (by simp) _, H1.out.2.2.2.1.far (p := ⟨w.heap.size + 2, 0, none⟩) (by simp) _, H1.out.2.2.2.2.1.set_ 0 _, H1.out.2.2.2.2.2.far (p := ⟨w.heap.size + 2, 0, none⟩) (by simp; omega) _⟩ ?_
  rintro W1 ⟨B1, hz1, kA, kR, kX, d1⟩
  have hlt1 := H1.out.2.1
  clear H1 x0 x1 a1 q1
  refine (c2 W1 (h2.below B1)).mono ?_
  rintro e w2 ⟨rfl, d2, b2⟩
  have hs2 := b2.size
  have B2 := btr B1 b2
  have x0 := (kX.below b2).cell 1
  have x1 := (kX.below b2).frozen 1
  simp at x0
  have H2 : Hid (Below w.heap.size w w2 ∧ W1.heap.size < w2.heap.size ∧ Blk w2 w.heap.size 25 #[.slice LA lo.length lc, .slice UA up.length uc, .slice TA us.length tc] ∧ Blk w2 (w.heap.size + 1) 31 #[.slice none 0 0, .slice none 0 0, .slice none 0 0] ∧ Blk w2 (w.heap.size + 2) 31 #[.slice (some ⟨W0.heap.size, 0, none⟩) lo.length lo.length, .slice none 0 0, .slice none 0 0] ∧ Blk w2 W0.heap.size 56 (timeC lo) ∧ Blk w2 W1.heap.size 56 (timeC up)) :=
    ⟨B2, d2.lt, kA.below b2, kR.below b2, kX.below b2, d1.below b2, d2⟩
  have q1 : ∀ v, (w2.setCell ⟨w.heap.size + 2, 1, none⟩ v).cell? ⟨w.heap.size, 2, none⟩ = some (.slice TA us.length tc) := fun v => ((kA.below b2).far (p := ⟨w.heap.size + 2, 1, none⟩) (by simp) v).cell 2
  clear c2 kA kR kX d1 d2 b2 B1 B2
  go_wp2_with fail
  refine absI (fun W => Below w.heap.size w W ∧ w2.heap.size ≤ W.heap.size ∧ Blk W (w.heap.size + 1) 31 #[.slice none 0 0, .slice none 0 0, .slice none 0 0] ∧ Blk W (w.heap.size + 2) 31 #[.slice (some ⟨W0.heap.size, 0, none⟩) lo.length lo.length, .slice (some ⟨W1.heap.size, 0, none⟩) up.length up.length, .slice none 0 0] ∧ Blk W W0.heap.size 56 (timeC lo) ∧ Blk W W1.heap.size 56 (timeC up))
    ⟨bset (p := ⟨w.heap.size + 2, 1, none⟩) H2.out.1 (by simp) _, by simp [World.setCell], H2.out.2.2.2.1.far (p := ⟨w.heap.size + 2, 1, none⟩) (by simp) _, H2.out.2.2.2.2.1.set_ 1 _, H2.out.2.2.2.2.2.1.far (p := ⟨w.heap.size + 2, 1, none⟩) (by simp; omega) _, H2.out.2.2.2.2.2.2.far (p := ⟨w.heap.size + 2, 1, none⟩) (by simp; omega) _⟩ ?_
  rintro W2 ⟨B2, hz2, kR, kX, d1, d2⟩
  have hlt2 := H2.out.2.1
  clear H2 x0 x1 q1
  refine (c3 W2 (h3.below updR B2)).mono ?_
  rintro e w3 ⟨rfl, d3, b3⟩
  have hs3 := b3.size
  have B3 := btr B2 b3
  have kX3 := kX.below b3
  have kR3 := kR.below b3
  have x0 := kX3.cell 2
  have x1 := kX3.frozen 2
  simp at x0
  have y0 := (kX3.set_ 2 (.slice (some ⟨W2.heap.size, 0, none⟩) us.length us.length)).cell 0
  have y1 := (kX3.set_ 2 (.slice (some ⟨W2.heap.size, 0, none⟩) us.length us.length)).cell 1
  have y2 := (kX3.set_ 2 (.slice (some ⟨W2.heap.size, 0, none⟩) us.length us.length)).cell 2
  simp at y0 y1 y2
  have kR4 := kR3.far (p := ⟨w.heap.size + 2, 2, none⟩) (by simp) (.slice (some ⟨W2.heap.size, 0, none⟩) us.length us.length)
  have g0 := kR4.cell 0
  have g1 := kR4.cell 1
  have g2 := kR4.cell 2
  have f0 := kR4.frozen 0
  have f1 := kR4.frozen 1
  have f2 := kR4.frozen 2
  simp at g0 g1 g2
  have kR5 := ((kR4.set_ 0 (.slice (some ⟨W0.heap.size, 0, none⟩) lo.length lo.length)).set_ 1 (.slice (some ⟨W1.heap.size, 0, none⟩) up.length up.length)).set_ 2 (.slice (some ⟨W2.heap.size, 0, none⟩) us.length us.length)
  have r0 := kR5.cell 0
  have r1 := kR5.cell 1
  have r2 := kR5.cell 2
  simp at r0 r1 r2
  have HR0 := Lib.hid r0
  have HR1 := Lib.hid r1
  have HR2 := Lib.hid r2
  have HD : Hid (TmOwS w3 (fun q => q = W0.heap.size) (some ⟨W0.heap.size, 0, none⟩) lo.length lo ∧ TmOwS w3 (fun q => q = W1.heap.size) (some ⟨W1.heap.size, 0, none⟩) up.length up ∧ UpdsOw w3 (news W2 w3) (some ⟨W2.heap.size, 0, none⟩) us.length us ∧ Below w.heap.size w w3) :=
    ⟨⟨fun q hq => by omega, fun q hq => by simp [blk] at hq; exact hq.symm, TmOwn.ofBlk (d1.below b3) (Nat.zero_le _) (by unfold maxLen; omega)⟩, ⟨fun q hq => by omega, fun q hq => by simp [blk] at hq; exact hq.symm, TmOwn.ofBlk (d2.below b3) (Nat.zero_le _) (by unfold maxLen; omega)⟩, d3, B3⟩
  clear c3 kX kR d1 d2 d3 b3 B2 B3 kX3 kR3 kR4 kR5 r0 r1 r2
  go_wp2
  refine bodyPost_ret (v := .agg #[.slice (some ⟨W0.heap.size, 0, none⟩) lo.length lo.length, .slice (some ⟨W1.heap.size, 0, none⟩) up.length up.length, .slice (some ⟨W2.heap.size, 0, none⟩) us.length us.length]) (by simp [results, Try.results8, go_sem, HR0.out, HR1.out, HR2.out]) rfl ⟨_, _, _, rfl, ?_, bset (bset (bset (bset HD.out.2.2.2 (by simp <;> omega) _) (by simp <;> omega) _) (by simp <;> omega) _) (by simp <;> omega) _⟩
  have far : ∀ q, w.heap.size + 3 ≤ q → ((((w3.setCell ⟨w.heap.size + 2, 2, none⟩ (.slice (some ⟨W2.heap.size, 0, none⟩) us.length us.length)).setCell ⟨w.heap.size + 1, 0, none⟩ (.slice (some ⟨W0.heap.size, 0, none⟩) lo.length lo.length)).setCell ⟨w.heap.size + 1, 1, none⟩ (.slice (some ⟨W1.heap.size, 0, none⟩) up.length up.length)).setCell ⟨w.heap.size + 1, 2, none⟩ (.slice (some ⟨W2.heap.size, 0, none⟩) us.length us.length)).heap[q]? = w3.heap[q]? := fun q hq =>
    (Below.heap_setCell _ _ _ _ (by simp; omega)).trans ((Below.heap_setCell _ _ _ _ (by simp; omega)).trans ((Below.heap_setCell _ _ _ _ (by simp; omega)).trans (Below.heap_setCell _ _ _ _ (by simp; omega))))
  refine BatO.mk (fun q hq => hq.2) (HD.out.1.loc (fun q hq => far q (by omega))) (HD.out.2.1.loc (fun q hq => far q (by omega))) (SlOw.loc updO HD.out.2.2.1 (fun q hq => far q (by have := hq.1; omega))) (fun q hq => ⟨⟨by omega, by simp [World.setCell]; omega⟩, by omega, fun h => by have := h.1; omega⟩) (fun q hq => ⟨⟨by omega, by simp [World.setCell]; omega⟩, fun h => by have := h.1; omega⟩) (fun q hq => ⟨by have := hq.1; omega, by have := hq.2; simp [World.setCell]; omega⟩)
/-! ### Marks -/
def cntV (b : Bt) : Nat := 2 * b.1.length + 2 * b.2.1.length + cntL cntU b.2.2
def mkV (k : Int) (b : Bt) : Bt := (marksT k b.1.length, (marksT (k + 2 * (b.1.length : Int)) b.2.1.length, mkL cntU mkU (k + 2 * (b.1.length : Int) + 2 * (b.2.1.length : Int)) b.2.2))
set_option maxRecDepth 100000 in
set_option maxHeartbeats 1600000 in
theorem markView_any (S : Fp) (LA UA TA : Option Addr) (lc uc tc : Nat) (lo up : List Tm) (us : List Upd) (k : Int) (w : World) (hx : BatO w S [.slice LA lo.length lc, .slice UA up.length uc, .slice TA us.length tc] (lo, (up, us))) (n1 : lo.length ≤ 4194304) (n2 : up.length ≤ 4194304) (n3 : us.length ≤ 4194304) (r3 : rowsU us 4194304)
    (hk0 : 0 ≤ k) (hk1 : k + 16777216 + cntL cntU us ≤ 4611686018427387904) :
    Calls Try.prog 13 #[.agg #[.slice LA lo.length lc, .slice UA up.length uc, .slice TA us.length tc], .int .i64 k] w fun e w' => e = .returned (.int .i64 (k + cntV (lo, (up, us)))) ∧ BatO w' S [.slice LA lo.length lc, .slice UA up.length uc, .slice TA us.length tc] (mkV k (lo, (up, us))) ∧ GrownS w w' S := by
  obtain ⟨LA', lc', UA', uc', TA', tc', S1, S2, S3, e, t1, t2, t3, i1, i2, i3⟩ := hx.form
  simp only [List.cons.injEq, Value.slice.injEq, and_true, true_and] at e
  obtain ⟨⟨rfl, rfl⟩, ⟨rfl, rfl⟩, ⟨rfl, rfl⟩⟩ := e
  have hSl := batO.lt hx
  have hB0 : Below w.heap.size w (w.alloc (.cells #[.slice LA lo.length lc, .slice UA up.length uc, .slice TA us.length tc] 31)) := bal (Below.refl _ _) _
  have T1 := t1.below hB0
  have T2 := t2.below hB0
  have T3 := SlOw.below updO t3 hB0
  have HG0 : Hid (GrownS w (w.alloc (.cells #[.slice LA lo.length lc, .slice UA up.length uc, .slice TA us.length tc] 31)) S) := GrownS.ofBelow hB0
  have kA : Blk (w.alloc (.cells #[.slice LA lo.length lc, .slice UA up.length uc, .slice TA us.length tc] 31)) w.heap.size 31 #[.slice LA lo.length lc, .slice UA up.length uc, .slice TA us.length tc] := Blk.newAt rfl
  have hnew : ∀ q, S q → q ≠ w.heap.size := fun q hq e => by have := hSl q hq; omega
  have HL : Hid (∀ q, S q → q < w.heap.size) := hSl
  have HI := Lib.hid (And.intro i1 (And.intro i2 i3))
  have HC : Hid (k + 2 * (lo.length : Int) + 2 * (up.length : Int) + cntL cntU us = k + cntV (lo, (up, us))) := by simp only [Hid, cntV]; push_cast; omega
  clear hx t1 t2 t3 hSl
  go_enter Try.func13, Try.ntmps13
  go_wp2_with fail
  refine absI (fun W => W = w.alloc (.cells #[.slice LA lo.length lc, .slice UA up.length uc, .slice TA us.length tc] 31)) rfl ?_
  intro W0 hW0
  rw [← hW0] at T1 T2 T3 HG0 kA
  clear hW0 hB0
  refine (markTimeS_any S1 _ _ lo k W0 T1 n1 hk0 (by omega)).mono ?_
  rintro e w1 ⟨rfl, u1, g1⟩
  have T2' := T2.kept g1 (fun q h2 h1 => (i1 q h1).2.1 h2)
  have T3' : UpdsOw w1 S3 TA tc us := SlOw.loc updO T3 (fun q hq => g1.block q (SlOw.lt T3 q hq) (fun h => (i1 q h).2.2 hq))
  have kA1 : Blk w1 w.heap.size 31 #[.slice LA lo.length lc, .slice UA up.length uc, .slice TA us.length tc] := (g1.block _ kA.lt (fun h => hnew _ (i1 _ h).1 rfl)).trans kA
  have HG1 := Lib.hid (HG0.out.trans (g1.mono (fun q hq => (i1 q hq).1)))
  have a1 := kA1.cell 1
  simp at a1
  clear g1 T1 T2 T3 kA HG0
  go_wp2_with fail
  refine (markTimeS_any S2 _ _ up (k + 2 * (lo.length : Int)) w1 T2' n2 (by omega) (by omega)).mono ?_
  rintro e w2 ⟨rfl, u2, g2⟩
  have T3 : UpdsOw w2 S3 TA tc us := SlOw.loc updO T3' (fun q hq => g2.block q (SlOw.lt T3' q hq) (fun h => (i2 q h).2 hq))
  have V1 := u1.kept g2 (fun q h1 h2 => (i1 q h1).2.1 h2)
  have kA2 : Blk w2 w.heap.size 31 #[.slice LA lo.length lc, .slice UA up.length uc, .slice TA us.length tc] := (g2.block _ kA1.lt (fun h => hnew _ (i2 _ h).1 rfl)).trans kA1
  have HG2 := Lib.hid (HG1.out.trans (g2.mono (fun q hq => (i2 q hq).1)))
  have a2 := kA2.cell 2
  simp at a2
  clear g2 T2' T3' kA1 HG1 a1 u1
  go_wp2_with fail
  refine (markUpdateS_any S3 _ _ us (k + 2 * (lo.length : Int) + 2 * (up.length : Int)) w2 T3 n3 r3 (by omega) (by omega)).mono ?_
  rintro e w3 ⟨rfl, u3, g3⟩
  have W1 := V1.kept g3 (fun q h1 h3 => (i1 q h1).2.2 h3)
  have W2 := u2.kept g3 (fun q h2 h3 => (i2 q h2).2 h3)
  have HG3 := Lib.hid (HG2.out.trans (g3.mono (fun q hq => i3 q hq)))
  have hsl : ∀ q, S q → q < w3.heap.size := fun q hq => Nat.lt_of_lt_of_le (HL.out q hq) HG3.out.size
  have HO : Hid (BatO w3 S [.slice LA lo.length lc, .slice UA up.length uc, .slice TA us.length tc] (mkV k (lo, (up, us)))) := by
    have h0 := BatO.mk (lc := lc) (uc := uc) (tc := tc) (LA := LA) (UA := UA) (TA := TA) hsl W1 W2 u3 HI.out.1 HI.out.2.1 HI.out.2.2
    rw [marksT_length, marksT_length, mkL_length] at h0
    exact h0
  clear g3 T3 kA2 HG2 a2 W1 W2 V1 u2 u3 hsl
  go_wp2
  go_ret
  exact ⟨ret_int HC.out, HO.out, HG3.out⟩
set_option maxRecDepth 100000 in
set_option maxHeartbeats 1600000 in
theorem heldView_any (S : Fp) (LA UA TA : Option Addr) (lc uc tc : Nat) (lo up : List Tm) (us : List Upd) (k : Int) (w : World) (hx : BatO w S [.slice LA lo.length lc, .slice UA up.length uc, .slice TA us.length tc] (mkV k (lo, (up, us)))) (n1 : lo.length ≤ 4194304) (n2 : up.length ≤ 4194304) (n3 : us.length ≤ 4194304) (r3 : rowsU us 4194304)
    (hk0 : 0 ≤ k) (hk1 : k + 16777216 + cntL cntU us ≤ 4611686018427387904) :
    Calls Try.prog 14 #[.agg #[.slice LA lo.length lc, .slice UA up.length uc, .slice TA us.length tc], .int .i64 k] w fun e w' => e = .returned (.int .i64 (k + cntV (lo, (up, us)))) ∧ Below w.heap.size w w' := by
  obtain ⟨LA', lc', UA', uc', TA', tc', S1, S2, S3, e, t1, t2, t3, i1, i2, i3⟩ := hx.form
  simp only [List.cons.injEq, Value.slice.injEq, and_true, true_and] at e
  obtain ⟨⟨rfl, -, rfl⟩, ⟨rfl, -, rfl⟩, ⟨rfl, -, rfl⟩⟩ := e
  have hB0 : Below w.heap.size w (w.alloc (.cells #[.slice LA lo.length lc, .slice UA up.length uc, .slice TA us.length tc] 31)) := bal (Below.refl _ _) _
  have T1 : TimesAt _ LA (marksT k lo.length) := t1.at_.below hB0
  have T2 : TimesAt _ UA (marksT (k + 2 * (lo.length : Int)) up.length) := t2.at_.below hB0
  have T3 : UpdsAt _ TA (mkL cntU mkU (k + 2 * (lo.length : Int) + 2 * (up.length : Int)) us) := (SlOw.at_ updO t3).below updR hB0
  have HB : Hid (Below w.heap.size w (w.alloc (.cells #[.slice LA lo.length lc, .slice UA up.length uc, .slice TA us.length tc] 31))) := hB0
  have HC : Hid (k + 2 * (lo.length : Int) + 2 * (up.length : Int) + cntL cntU us = k + cntV (lo, (up, us))) := by simp only [Hid, cntV]; push_cast; omega
  have hh1 := heldTimeS_any LA lc lo.length k _ T1 n1 hk0 (by omega)
  have hh2 := heldTimeS_any UA uc up.length (k + 2 * (lo.length : Int)) _ T2 n2 (by omega) (by omega)
  have hh3 := heldUpdateS_any TA tc us (k + 2 * (lo.length : Int) + 2 * (up.length : Int)) _ T3 n3 r3 (by omega) (by omega)
  have n1' : ¬ (k + 2 * (lo.length : Int)) < 0 := by omega
  have n2' : ¬ (k + 2 * (lo.length : Int) + 2 * (up.length : Int)) < 0 := by omega
  have n3' : ¬ (k + 2 * (lo.length : Int) + 2 * (up.length : Int) + cntL cntU us) < 0 := by omega
  clear hx t1 t2 t3 hB0 T1 T2 T3 i1 i2 i3
  go_enter Try.func14, Try.ntmps14
  go_wp2_with fail
  refine hh1.mono ?_
  rintro e w1 ⟨rfl, rfl⟩
  go_wp2_with fail
  refine hh2.mono ?_
  rintro e w2 ⟨rfl, rfl⟩
  go_wp2_with fail
  refine hh3.mono ?_
  rintro e w3 ⟨rfl, rfl⟩
  clear hh1 hh2 hh3
  go_wp2
  go_ret
  exact ⟨ret_int HC.out, HB.out⟩
end Go.Proofs.Ytnfffgpjgkhjlaa

/- HELPER, no statement of the seat: the model's valid views. -/
namespace Go.Proofs.Ytnfffgpjgkhjlaa
open Go.RowKit Go.Sort
set_option linter.unusedSimpArgs false
set_option linter.unusedVariables false

theorem all_uptoV {us : List Upd} {f : Upd → Bool} {k : Nat} (hk : k < us.length) (h : f us[k] = false) : us.all f = false := by
  rw [List.all_eq_false]
  exact ⟨us[k], List.getElem_mem hk, by simp [h]⟩
set_option maxRecDepth 100000 in
set_option maxHeartbeats 3200000 in
theorem validView_s (LA UA TA : Option Addr) (lc uc tc : Nat) (lo up : List Tm) (us : List Upd) (w : World) (h1 : TimesAt w LA lo) (h2 : TimesAt w UA up) (h3 : UpdsAt w TA us) (n1 : lo.length ≤ 4194304) (n2 : up.length ≤ 4194304) (n3 : us.length ≤ 4194304) (r3 : rowsU us 4194304) :
    Calls Try.prog 21 #[.agg #[.slice LA lo.length lc, .slice UA up.length uc, .slice TA us.length tc]] w fun e w' => e = .returned (.bool (vewB (lo, (up, us)))) ∧ Below w.heap.size w w' := by
  have c1 := fun W (h : TimesAt W LA lo) => validFrontier_s LA lc lo W h n1
  have c2 := fun W (h : TimesAt W UA up) => validFrontier_s UA uc up W h n2
  have c3 := fun W (h : TimesAt W LA lo) (k : TimesAt W UA up) => frontierLessEqual_s LA lc lo UA uc up W h n1 k n2
  have c4 := fun W (h : UpdsAt W TA us) => validTrace_s TA tc us W h n3 r3
  have hB0 : Below w.heap.size w (w.alloc (.cells #[.slice LA lo.length lc, .slice UA up.length uc, .slice TA us.length tc] 31)) := bal (Below.refl _ _) _
  have kA : Blk (w.alloc (.cells #[.slice LA lo.length lc, .slice UA up.length uc, .slice TA us.length tc] 31)) w.heap.size 31 #[.slice LA lo.length lc, .slice UA up.length uc, .slice TA us.length tc] := Blk.newAt rfl
  cases e1 : frB lo
  · rw [e1] at c1
    have HF : Hid (vewB (lo, (up, us)) = false) := by simp [Hid, vewB, flB, e1]
    clear e1 c2 c3 c4 kA
    go_enter Try.func21, Try.ntmps21
    go_wp2_with fail
    refine (c1 _ (h1.below hB0)).mono ?_
    rintro e w1 ⟨rfl, b1⟩
    have HB := Lib.hid (btr hB0 b1)
    clear hB0 b1 c1
    go_wp2
    go_ret
    exact ⟨ret_bool HF.out.symm, HB.out⟩
  rw [e1] at c1
  cases e2 : frB up
  · rw [e2] at c2
    have HF : Hid (vewB (lo, (up, us)) = false) := by simp [Hid, vewB, flB, e2]
    clear e1 e2 c3 c4
    go_enter Try.func21, Try.ntmps21
    go_wp2_with fail
    refine (c1 _ (h1.below hB0)).mono ?_
    rintro e w1 ⟨rfl, b1⟩
    have B1 := btr hB0 b1
    have p1 := (kA.below b1).cell 1
    simp at p1
    clear hB0 b1 c1 kA
    go_wp2_with fail
    refine (c2 _ (h2.below B1)).mono ?_
    rintro e w2 ⟨rfl, b2⟩
    have HB := Lib.hid (btr B1 b2)
    clear B1 b2 c2 p1
    go_wp2
    go_ret
    exact ⟨ret_bool HF.out.symm, HB.out⟩
  rw [e2] at c2
  cases e3 : (up.all fun e => cvB lo e.1 e.2)
  · rw [e3] at c3
    have HF : Hid (vewB (lo, (up, us)) = false) := by simp only [Hid, vewB, flB, e1, e2, e3]; rfl
    clear e1 e2 e3 c4
    go_enter Try.func21, Try.ntmps21
    go_wp2_with fail
    refine (c1 _ (h1.below hB0)).mono ?_
    rintro e w1 ⟨rfl, b1⟩
    have B1 := btr hB0 b1
    have k1 := kA.below b1
    have p1 := k1.cell 1
    simp at p1
    clear hB0 b1 c1 kA
    go_wp2_with fail
    refine (c2 _ (h2.below B1)).mono ?_
    rintro e w2 ⟨rfl, b2⟩
    have B2 := btr B1 b2
    have p0 := (k1.below b2).cell 0
    have p1' := (k1.below b2).cell 1
    simp at p0 p1'
    clear B1 b2 c2 p1 k1
    go_wp2_with fail
    refine (c3 _ (h1.below B2) (h2.below B2)).mono ?_
    rintro e w3 ⟨rfl, b3⟩
    have HB := Lib.hid (btr B2 b3)
    clear B2 b3 c3 p0 p1'
    go_wp2
    go_ret
    exact ⟨ret_bool HF.out.symm, HB.out⟩
  rw [e3] at c3
  have HFL : flB lo up = true := by simp only [flB, e1, e2, e3]; rfl
  have HR : Hid (vewB (lo, (up, us)) = (trB us && us.all fun e => !cvB up e.1.2.1 e.1.2.2)) := by simp only [Hid, vewB, HFL]; rfl
  clear HFL e1 e2 e3
  cases e4 : trB us
  all_goals
    rw [e4] at c4
    have E4 := Lib.hid e4
    clear e4
    go_enter Try.func21, Try.ntmps21
    go_wp2_with fail
    refine (c1 _ (h1.below hB0)).mono ?_
    rintro e w1 ⟨rfl, b1⟩
    have B1 := btr hB0 b1
    have k1 := kA.below b1
    have p1 := k1.cell 1
    simp at p1
    clear hB0 b1 c1 kA
    go_wp2_with fail
    refine (c2 _ (h2.below B1)).mono ?_
    rintro e w2 ⟨rfl, b2⟩
    have B2 := btr B1 b2
    have k2 := k1.below b2
    have p0 := k2.cell 0
    have p1' := k2.cell 1
    simp at p0 p1'
    clear B1 b2 c2 p1 k1
    go_wp2_with fail
    refine (c3 _ (h1.below B2) (h2.below B2)).mono ?_
    rintro e w3 ⟨rfl, b3⟩
    have B3 := btr B2 b3
    have k3 := k2.below b3
    have p2 := k3.cell 2
    simp at p2
    clear B2 b3 c3 p0 p1' k2
    go_wp2_with fail
    refine (c4 _ (h3.below updR B3)).mono ?_
    rintro e w4 ⟨rfl, b4⟩
    have B4 := btr B3 b4
    have k4 := k3.below b4
    clear B3 b4 c4 p2 k3
  · have HF : Hid (vewB (lo, (up, us)) = false) := by rw [Hid, HR.out, E4.out]; rfl
    have HB := Lib.hid B4
    clear B4 k4
    go_wp2
    go_ret
    exact ⟨ret_bool HF.out.symm, HB.out⟩
  · have hc := fun W x y (h : Below w.heap.size w W) => covers_s UA uc up x y W (h2.below h) n2
    have HB4 := Lib.hid B4
    have HK4 := Lib.hid k4
    clear B4 k4
    go_wp2
    go_loopw [3] (fun i wr => ∃ k : Nat, k ≤ us.length ∧ i = .int .i64 (k : Nat) ∧ Hid (∀ j (h : j < us.length), j < k → cvB up us[j].1.2.1 us[j].1.2.2 = false) ∧ Blk wr w.heap.size 31 #[.slice LA lo.length lc, .slice UA up.length uc, .slice TA us.length tc] ∧ Below w.heap.size w wr) (fun i _ => us.length - (intOf i).toNat)
    case atStart => exact ⟨0, by omega, rfl, fun j h h0 => absurd h0 (by omega), HK4.out, HB4.out⟩
    case round =>
      obtain ⟨k, hk, rfl, hall, kr, hbel⟩ := hrel
      clear HK4 HB4
      have p0 := kr.cell 0
      have p1 := kr.cell 1
      have p2 := kr.cell 2
      simp at p0 p1 p2
      by_cases hlt : k < us.length
      · obtain ⟨b, off, RA, rc, rfl, hbl, hc0, hc1, hc2, hc3, hml, hrow⟩ := h3.get k hlt
        have q1 := (hbel.cell (p := ⟨b, off + k * 4 + 1, none⟩) hbl).trans hc1
        have q2 := (hbel.cell (p := ⟨b, off + k * 4 + 2, none⟩) hbl).trans hc2
        have r0 := cgrow p0
        have r1 := cgrow p1
        have r2 := cgrow p2
        have r3 := cgrow q1
        have r4 := cgrow q2
        have hlt' : (k : Int) < us.length := by omega
        have hcon := fun W (hW : Below wr.heap.size wr W) => hc W us[k].1.2.1 us[k].1.2.2 (btr hbel hW)
        clear hc0 hc1 hc2 hc3 hrow hml hc
        cases hi : cvB up us[k].1.2.1 us[k].1.2.2
        · have HA : Hid (∀ j (h : j < us.length), j < k + 1 → cvB up us[j].1.2.1 us[j].1.2.2 = false) := fun j h hj => by
            rcases Nat.lt_or_ge j k with h' | h'
            · exact hall.out j h h'
            · obtain rfl : j = k := by omega
              exact hi
          rw [hi] at hcon
          clear hi
          go_wp2_with fail
          refine wp_region_quiet_below (by kernel_rfl) (by kernel_rfl) ?_
          repeat (go_big_quiet_step (exact Calls.regrown_of (hcon _ (below_regrown _ _ _))))
          refine wpQuiet_nil ?_
          intro wq hwq
          obtain ⟨⟨dq, osq⟩, rfl⟩ := hwq
          have hbq := below_regrown wr dq osq
          have HB := Lib.hid (btr hbel hbq)
          have HK := Lib.hid (kr.below hbq)
          clear p0 p1 p2 q1 q2 r0 r1 r2 r3 r4 hcon hbq kr hbel
          go_wp2
          go_roundw
          case rel => exact ⟨k + 1, by omega, by go_num, HA, HK.out, HB.out⟩
          case measure => simp [intOf]; omega
        · have HF : Hid (vewB (lo, (up, us)) = false) := by
            rw [Hid, HR.out, all_uptoV (f := fun e : Upd => !cvB up e.1.2.1 e.1.2.2) hlt (by simp only [hi]; rfl)]
            simp
          rw [hi] at hcon
          clear hi
          go_wp2_with fail
          refine wp_region_quiet_below (by kernel_rfl) (by kernel_rfl) ?_
          repeat (go_big_quiet_step (exact Calls.regrown_of (hcon _ (below_regrown _ _ _))))
          refine wpQuiet_nil ?_
          intro wq hwq
          obtain ⟨⟨dq, osq⟩, rfl⟩ := hwq
          have HB := Lib.hid (btr hbel (below_regrown wr dq osq))
          clear p0 p1 p2 q1 q2 r0 r1 r2 r3 r4 hcon
          go_wp2
          go_ret
          exact ⟨ret_bool HF.out.symm, HB.out⟩
      · obtain rfl : k = us.length := by omega
        have HF : Hid (vewB (lo, (up, us)) = true) := by
          rw [Hid, HR.out, E4.out, Bool.true_and, List.all_eq_true]
          intro x hx
          obtain ⟨j, hj, rfl⟩ := List.getElem_of_mem hx
          have := hall.out j hj hj; simp only [this]; rfl
        go_wp2
        go_ret
        exact ⟨ret_bool HF.out.symm, hbel⟩
set_option maxHeartbeats 1600000 in
theorem ValidView_s (LA UA TA : Option Addr) (lc uc tc : Nat) (lo up : List Tm) (us : List Upd) (w : World) (h1 : TimesAt w LA lo) (h2 : TimesAt w UA up) (h3 : UpdsAt w TA us) (n1 : lo.length ≤ 4194304) (n2 : up.length ≤ 4194304) (n3 : us.length ≤ 4194304) (r3 : rowsU us 4194304) :
    Calls Try.prog 7 #[.agg #[.slice LA lo.length lc, .slice UA up.length uc, .slice TA us.length tc]] w fun e w' => e = .returned (.bool (vewB (lo, (up, us)))) ∧ Below w.heap.size w w' := by
  have hB0 : Below w.heap.size w (w.alloc (.cells #[.slice LA lo.length lc, .slice UA up.length uc, .slice TA us.length tc] 31)) := bal (Below.refl _ _) _
  go_enter Try.func7, Try.ntmps7
  go_wp2_with fail
  refine (validView_s LA UA TA lc uc tc lo up us _ (h1.below hB0) (h2.below hB0) (h3.below updR hB0) n1 n2 n3 r3).mono ?_
  rintro e w1 ⟨rfl, b1⟩
  have HB := Lib.hid (btr hB0 b1)
  clear b1 hB0
  go_wp2
  go_ret
  exact ⟨rfl, HB.out⟩
end Go.Proofs.Ytnfffgpjgkhjlaa
