/- HELPER, no statement of the seat: several texts in one file. -/
import Derived.Test.YthefakiobpijiaaBtc
import Derived.Test.YthefakiobpijiaaMee
import Derived.Test.YthefakiobpijiaaFro
import Derived.Test.YthefakiobpijiaaMeh
import Derived.Test.YthefakiobpijiaaBat
import Derived.Test.YthefakiobpijiaaMef
import Derived.Test.YthefakiobpijiaaGrf
import Derived.Test.YthefakiobpijiaaBlu
/- HELPER, no statement of the seat: views as lists: what is valid, appended, compacted; no program. -/
namespace Go.Proofs.Ythefakiobpijiaa
open Go.RowKit Go.Sort
set_option linter.unusedSimpArgs false
set_option linter.unusedVariables false

/-- The view is valid. -/
def vewB (b : Bt) : Bool := flB b.1 b.2.1 && (trB b.2.2 && b.2.2.all fun e => !cvB b.2.1 e.1.2.1 e.1.2.2)
theorem vew_parts {b : Bt} (h : vewB b = true) : flB b.1 b.2.1 = true ∧ trB b.2.2 = true ∧ ∀ e ∈ b.2.2, cvB b.2.1 e.1.2.1 e.1.2.2 = false := by
  simp only [vewB, Bool.and_eq_true, List.all_eq_true] at h
  exact ⟨h.1, h.2.1, fun e he => by simpa using h.2.2 e he⟩
theorem bat_parts {b : Bt} (h : batB b = true) : flB b.1 b.2.1 = true ∧ trB b.2.2 = true ∧ ∀ e ∈ b.2.2, cvB b.1 e.1.2.1 e.1.2.2 = true ∧ cvB b.2.1 e.1.2.1 e.1.2.2 = false := by
  simp only [batB, inBt, Bool.and_eq_true, List.all_eq_true] at h
  exact ⟨h.1, h.2.1, fun e he => by have := h.2.2 e he; exact ⟨this.1, by simpa using this.2⟩⟩
theorem insK_new {κ : Type} [DecidableEq κ] {lt : κ → κ → Bool} {r : κ} {w : Int} : ∀ {l : List (κ × Int)}, (∀ y ∈ l, y.1 ≠ r) → (insK lt l r w).Perm ((r, w) :: l)
  | [], _ => .refl _
  | x :: l, h => by
    unfold insK
    split
    · exact ((insK_new (fun y hy => h y (by simp [hy]))).cons x).trans (List.Perm.swap _ _ _)
    · rw [if_neg (h x (by simp))]
theorem AddLU_new : ∀ {b a : List Upd}, (∀ x ∈ a, ∀ y ∈ b, x.1 ≠ y.1) → b.Pairwise (fun x y => x.1 ≠ y.1) → (AddLU a b).Perm (a ++ b)
  | [], a, _, _ => by simp [AddLU]
  | e :: b, a, h, hp => by
    have h1 : (insK ltU a e.1 e.2).Perm (e :: a) := insK_new (fun y hy => h y hy e (by simp))
    have h2 := AddLU_new (b := b) (a := insK ltU a e.1 e.2) (fun x hx y hy => by
      rcases List.mem_cons.1 (h1.mem_iff.1 hx) with rfl | hx
      · exact (List.pairwise_cons.1 hp).1 y hy
      · exact h x hx y (by simp [hy])) (List.pairwise_cons.1 hp).2
    show (AddLU (insK ltU a e.1 e.2) b).Perm (a ++ e :: b)
    exact h2.trans ((h1.append_right b).trans (List.perm_middle.symm))
/-- Two traces put together. -/
def mrgT (us tr : List Upd) : List Upd := nz (AddLU us tr)
theorem mrg_norm {us tr : List Upd} (hu : trB us = true) : nz (NormLU (us ++ tr)) = mrgT us tr :=
  nz_ext updTot (NormLU_asc _) (AddLU_asc (trB_asc hu) tr) (fun r => by rw [NormLU_wsum, AddLU_wsum, wsum_append])
theorem mrg_perm {us tr : List Upd} (hu : trB us = true) (ht : trB tr = true) (h : ∀ x ∈ us, ∀ y ∈ tr, x.1 ≠ y.1) : (mrgT us tr).Perm (us ++ tr) := by
  have h1 := AddLU_new (a := us) (b := tr) h (List.Pairwise.imp (fun h => updTot.ne h) (trB_asc ht))
  have h2 : mrgT us tr = AddLU us tr := List.filter_eq_self.2 (fun e he => by
    rcases List.mem_append.1 (h1.mem_iff.1 he) with he | he
    · simp [trB_ne hu e he]
    · simp [trB_ne ht e he])
  rw [h2]
  exact h1
theorem mrg_rows {us tr : List Upd} {n : Nat} (h1 : rowsU us n) (h2 : rowsU tr n) : rowsU (mrgT us tr) n := fun e he =>
  AddLU_all (p := fun r : KeyU => r.1.length ≤ n) tr us h1 h2 e (List.mem_filter.1 he).1
theorem mrg_len (us tr : List Upd) : (mrgT us tr).length ≤ us.length + tr.length :=
  Nat.le_trans (List.length_filter_le _ _) (AddLU_length tr us)
theorem fl_trans {xs ys zs : List Tm} (h1 : flB xs ys = true) (h2 : flB ys zs = true) : flB xs zs = true := by
  obtain ⟨a1, a2, a3⟩ := fl_parts h1
  obtain ⟨b1, b2, b3⟩ := fl_parts h2
  simp only [flB, Bool.and_eq_true, List.all_eq_true]
  refine ⟨⟨a1, b2⟩, fun e he => ?_⟩
  obtain ⟨f, hf, hl⟩ := cv_iff.1 (b3 e he)
  obtain ⟨g, hg, hm⟩ := cv_iff.1 (a3 f hf)
  exact cv_iff.2 ⟨g, hg, leB_tr hm hl⟩
theorem fl_cv {xs ys : List Tm} {u v : Int} (h : flB xs ys = true) (hc : cvB ys u v = true) : cvB xs u v = true := by
  obtain ⟨a1, a2, a3⟩ := fl_parts h
  obtain ⟨f, hf, hl⟩ := cv_iff.1 hc
  obtain ⟨g, hg, hm⟩ := cv_iff.1 (a3 f hf)
  exact cv_iff.2 ⟨g, hg, leB_tr hm hl⟩
theorem apart_cv {up : List Tm} {us tr : List Upd} (h1 : ∀ e ∈ us, cvB up e.1.2.1 e.1.2.2 = false) (h2 : ∀ e ∈ tr, cvB up e.1.2.1 e.1.2.2 = true) : ∀ x ∈ us, ∀ y ∈ tr, x.1 ≠ y.1 := fun x hx y hy e => by
  have a := h1 x hx
  have b := h2 y hy
  rw [e, b] at a
  cases a
/-! ### Appending -/
def appOk (b : Bt) (tr : List Upd) (u : List Tm) : Bool := vewB b && (batB (b.2.1, (u, tr)) && trB (mrgT b.2.2 tr))
def appV (b : Bt) (tr : List Upd) (u : List Tm) : Bt := if appOk b tr u = true then (b.1, (u, mrgT b.2.2 tr)) else ([], ([], []))
theorem app_perm {b : Bt} {tr : List Upd} {u : List Tm} (h1 : vewB b = true) (h2 : batB (b.2.1, (u, tr)) = true) : (mrgT b.2.2 tr).Perm (b.2.2 ++ tr) := by
  obtain ⟨a1, a2, a3⟩ := vew_parts h1
  obtain ⟨b1, b2, b3⟩ := bat_parts h2
  exact mrg_perm a2 b2 (apart_cv a3 (fun e he => (b3 e he).1))
theorem app_vew {b : Bt} {tr : List Upd} {u : List Tm} (h1 : vewB b = true) (h2 : batB (b.2.1, (u, tr)) = true) : vewB (b.1, (u, mrgT b.2.2 tr)) = trB (mrgT b.2.2 tr) := by
  have hp := app_perm h1 h2
  obtain ⟨a1, a2, a3⟩ := vew_parts h1
  obtain ⟨b1, b2, b3⟩ := bat_parts h2
  have hn : (mrgT b.2.2 tr).all (fun e => !cvB u e.1.2.1 e.1.2.2) = true := by
    rw [List.all_eq_true]
    intro e he
    rcases List.mem_append.1 (hp.mem_iff.1 he) with he | he
    · cases hc : cvB u e.1.2.1 e.1.2.2 with
      | false => rfl
      | true => have := a3 e he; rw [fl_cv b1 hc] at this; cases this
    · simp [(b3 e he).2]
  simp only [vewB, fl_trans a1 b1, hn, Bool.true_and, Bool.and_true]
theorem app_len {b : Bt} {tr : List Upd} {u : List Tm} (h1 : vewB b = true) (h2 : batB (b.2.1, (u, tr)) = true) : (mrgT b.2.2 tr).length = b.2.2.length + tr.length := by
  rw [(app_perm h1 h2).length_eq, List.length_append]
/-- What the model asks of the length. -/
theorem app_many {b : Bt} {tr : List Upd} {u : List Tm} (h1 : vewB b = true) (h2 : batB (b.2.1, (u, tr)) = true) : decide ((chkT (mrgT b.2.2 tr)).length = b.2.2.length + tr.length) = trB (mrgT b.2.2 tr) := by
  have hl := app_len h1 h2
  cases h : trB (mrgT b.2.2 tr) with
  | true => simp [chkT, h, hl]
  | false =>
    rw [decide_eq_false_iff_not]
    intro e
    simp only [chkT, h] at e
    have h0 : mrgT b.2.2 tr = [] := List.eq_nil_of_length_eq_zero (by simp at e; omega)
    rw [h0] at h
    revert h
    decide
theorem appV_len (b : Bt) (tr : List Upd) (u : List Tm) (n1 : b.1.length ≤ 4194304) (n2 : u.length ≤ 4194304) : (appV b tr u).1.length ≤ 4194304 ∧ (appV b tr u).2.1.length ≤ 4194304 ∧ (appV b tr u).2.2.length ≤ 400 ∧ rowsU (appV b tr u).2.2 6 := by
  unfold appV
  split
  · rename_i h
    simp only [appOk, Bool.and_eq_true] at h
    exact ⟨n1, n2, (trB_parts h.2.2).1, trB_row h.2.2⟩
  · exact ⟨by simp, by simp, by simp, fun e he => by cases he⟩
/-! ### Compacting -/
def cpvOk (b : Bt) (s : List Tm) : Bool := vewB b && (flB b.1 s && vewB (s, (b.2.1, CptF b.2.2 s)))
def cpvV (b : Bt) (s : List Tm) : Bt := if cpvOk b s = true then (s, (b.2.1, CptF b.2.2 s)) else ([], ([], []))
theorem cpvV_len (b : Bt) (s : List Tm) (n1 : s.length ≤ 4194304) (n2 : b.2.1.length ≤ 4194304) : (cpvV b s).1.length ≤ 4194304 ∧ (cpvV b s).2.1.length ≤ 4194304 ∧ (cpvV b s).2.2.length ≤ 400 ∧ rowsU (cpvV b s).2.2 6 := by
  unfold cpvV
  split
  · exact ⟨n1, n2, CptF_len _ _, CptF_row _ _⟩
  · exact ⟨by simp, by simp, by simp, fun e he => by cases he⟩
/-! ### Reading -/
def redN (b : Bt) (x y : Int) : Int := if (vewB b && vtB x y) = false then 0 else if cvB b.1 x y = false then 2 else if cvB b.2.1 x y = true then 3 else 1
def redF (b : Bt) (x y : Int) : List Ent := if redN b x y = 1 then AsOfF b.2.2 x y else []
theorem redF_len (b : Bt) (x y : Int) : (redF b x y).length ≤ 400 := by
  unfold redF
  split
  · exact AsOfF_len _ _ _
  · simp
theorem redF_row (b : Bt) (x y : Int) : rowsIn (redF b x y) 6 := by
  unfold redF
  split
  · exact AsOfF_row _ _ _
  · intro e he; cases he
end Go.Proofs.Ythefakiobpijiaa

/- HELPER, no statement of the seat: views as data: the laws' measure, copy, comparison and marks of a view. -/
namespace Go.Proofs.Ythefakiobpijiaa
open Go.RowKit Go.Sort
set_option linter.unusedSimpArgs false
set_option linter.unusedVariables false

section
variable {H : Type} {enc : TypeId × Value → H} {W : World}
end
/-! ### The measure -/
/-! ### The comparison -/
/-! ### The copy -/
/-! ### Marks -/
def cntV (b : Bt) : Nat := 2 * b.1.length + 2 * b.2.1.length + cntL cntU b.2.2
def mkV (k : Int) (b : Bt) : Bt := (marksT k b.1.length, (marksT (k + 2 * (b.1.length : Int)) b.2.1.length, mkL cntU mkU (k + 2 * (b.1.length : Int) + 2 * (b.2.1.length : Int)) b.2.2))
end Go.Proofs.Ythefakiobpijiaa

/- HELPER, no statement of the seat: the model's valid views. -/
namespace Go.Proofs.Ythefakiobpijiaa
open Go.RowKit Go.Sort
set_option linter.unusedSimpArgs false
set_option linter.unusedVariables false

theorem all_uptoV {us : List Upd} {f : Upd → Bool} {k : Nat} (hk : k < us.length) (h : f us[k] = false) : us.all f = false := by
  rw [List.all_eq_false]
  exact ⟨us[k], List.getElem_mem hk, by simp [h]⟩
set_option maxRecDepth 100000 in
set_option maxHeartbeats 3200000 in
theorem validView_s (LA UA TA : Option Addr) (lc uc tc : Nat) (lo up : List Tm) (us : List Upd) (w : World) (h1 : TimesAt w LA lo) (h2 : TimesAt w UA up) (h3 : UpdsAt w TA us) (n1 : lo.length ≤ 4194304) (n2 : up.length ≤ 4194304) (n3 : us.length ≤ 4194304) (r3 : rowsU us 4194304) :
    Calls Try.prog 100 #[.agg #[.slice LA lo.length lc, .slice UA up.length uc, .slice TA us.length tc]] w fun e w' => e = .returned (.bool (vewB (lo, (up, us)))) ∧ Below w.heap.size w w' := by
  have c1 := fun W (h : TimesAt W LA lo) => validFrontier_s LA lc lo W h n1
  have c2 := fun W (h : TimesAt W UA up) => validFrontier_s UA uc up W h n2
  have c3 := fun W (h : TimesAt W LA lo) (k : TimesAt W UA up) => frontierLessEqual_s LA lc lo UA uc up W h n1 k n2
  have c4 := fun W (h : UpdsAt W TA us) => validTrace_s TA tc us W h n3 r3
  have hB0 : Below w.heap.size w (w.alloc (.cells #[.slice LA lo.length lc, .slice UA up.length uc, .slice TA us.length tc] 52)) := bal (Below.refl _ _) _
  have kA : Blk (w.alloc (.cells #[.slice LA lo.length lc, .slice UA up.length uc, .slice TA us.length tc] 52)) w.heap.size 52 #[.slice LA lo.length lc, .slice UA up.length uc, .slice TA us.length tc] := Blk.newAt rfl
  cases e1 : frB lo
  · rw [e1] at c1
    have HF : Hid (vewB (lo, (up, us)) = false) := by simp [Hid, vewB, flB, e1]
    clear e1 c2 c3 c4 kA
    go_enter Try.func100, Try.ntmps100
    go_wp2_with fail
    refine (c1 _ (h1.below hB0)).mono ?_
    rintro e w1 ⟨rfl, b1⟩
    have HB := Lib.hid (btr hB0 b1)
    clear hB0 b1 c1
    go_wp2
    go_ret
    exact ⟨ret_bool HF.out.symm, HB.out⟩
  rw [e1] at c1
  cases e2 : frB up
  · rw [e2] at c2
    have HF : Hid (vewB (lo, (up, us)) = false) := by simp [Hid, vewB, flB, e2]
    clear e1 e2 c3 c4
    go_enter Try.func100, Try.ntmps100
    go_wp2_with fail
    refine (c1 _ (h1.below hB0)).mono ?_
    rintro e w1 ⟨rfl, b1⟩
    have B1 := btr hB0 b1
    have p1 := (kA.below b1).cell 1
    simp at p1
    clear hB0 b1 c1 kA
    go_wp2_with fail
    refine (c2 _ (h2.below B1)).mono ?_
    rintro e w2 ⟨rfl, b2⟩
    have HB := Lib.hid (btr B1 b2)
    clear B1 b2 c2 p1
    go_wp2
    go_ret
    exact ⟨ret_bool HF.out.symm, HB.out⟩
  rw [e2] at c2
  cases e3 : (up.all fun e => cvB lo e.1 e.2)
  · rw [e3] at c3
    have HF : Hid (vewB (lo, (up, us)) = false) := by simp only [Hid, vewB, flB, e1, e2, e3]; rfl
    clear e1 e2 e3 c4
    go_enter Try.func100, Try.ntmps100
    go_wp2_with fail
    refine (c1 _ (h1.below hB0)).mono ?_
    rintro e w1 ⟨rfl, b1⟩
    have B1 := btr hB0 b1
    have k1 := kA.below b1
    have p1 := k1.cell 1
    simp at p1
    clear hB0 b1 c1 kA
    go_wp2_with fail
    refine (c2 _ (h2.below B1)).mono ?_
    rintro e w2 ⟨rfl, b2⟩
    have B2 := btr B1 b2
    have p0 := (k1.below b2).cell 0
    have p1' := (k1.below b2).cell 1
    simp at p0 p1'
    clear B1 b2 c2 p1 k1
    go_wp2_with fail
    refine (c3 _ (h1.below B2) (h2.below B2)).mono ?_
    rintro e w3 ⟨rfl, b3⟩
    have HB := Lib.hid (btr B2 b3)
    clear B2 b3 c3 p0 p1'
    go_wp2
    go_ret
    exact ⟨ret_bool HF.out.symm, HB.out⟩
  rw [e3] at c3
  have HFL : flB lo up = true := by simp only [flB, e1, e2, e3]; rfl
  have HR : Hid (vewB (lo, (up, us)) = (trB us && us.all fun e => !cvB up e.1.2.1 e.1.2.2)) := by simp only [Hid, vewB, HFL]; rfl
  clear HFL e1 e2 e3
  cases e4 : trB us
  all_goals
    rw [e4] at c4
    have E4 := Lib.hid e4
    clear e4
    go_enter Try.func100, Try.ntmps100
    go_wp2_with fail
    refine (c1 _ (h1.below hB0)).mono ?_
    rintro e w1 ⟨rfl, b1⟩
    have B1 := btr hB0 b1
    have k1 := kA.below b1
    have p1 := k1.cell 1
    simp at p1
    clear hB0 b1 c1 kA
    go_wp2_with fail
    refine (c2 _ (h2.below B1)).mono ?_
    rintro e w2 ⟨rfl, b2⟩
    have B2 := btr B1 b2
    have k2 := k1.below b2
    have p0 := k2.cell 0
    have p1' := k2.cell 1
    simp at p0 p1'
    clear B1 b2 c2 p1 k1
    go_wp2_with fail
    refine (c3 _ (h1.below B2) (h2.below B2)).mono ?_
    rintro e w3 ⟨rfl, b3⟩
    have B3 := btr B2 b3
    have k3 := k2.below b3
    have p2 := k3.cell 2
    simp at p2
    clear B2 b3 c3 p0 p1' k2
    go_wp2_with fail
    refine (c4 _ (h3.below updR B3)).mono ?_
    rintro e w4 ⟨rfl, b4⟩
    have B4 := btr B3 b4
    have k4 := k3.below b4
    clear B3 b4 c4 p2 k3
  · have HF : Hid (vewB (lo, (up, us)) = false) := by rw [Hid, HR.out, E4.out]; rfl
    have HB := Lib.hid B4
    clear B4 k4
    go_wp2
    go_ret
    exact ⟨ret_bool HF.out.symm, HB.out⟩
  · have hc := fun W x y (h : Below w.heap.size w W) => covers_s UA uc up x y W (h2.below h) n2
    have HB4 := Lib.hid B4
    have HK4 := Lib.hid k4
    clear B4 k4
    go_wp2
    go_loopw [3] (fun i wr => ∃ k : Nat, k ≤ us.length ∧ i = .int .i64 (k : Nat) ∧ Hid (∀ j (h : j < us.length), j < k → cvB up us[j].1.2.1 us[j].1.2.2 = false) ∧ Blk wr w.heap.size 52 #[.slice LA lo.length lc, .slice UA up.length uc, .slice TA us.length tc] ∧ Below w.heap.size w wr) (fun i _ => us.length - (intOf i).toNat)
    case atStart => exact ⟨0, by omega, rfl, fun j h h0 => absurd h0 (by omega), HK4.out, HB4.out⟩
    case round =>
      obtain ⟨k, hk, rfl, hall, kr, hbel⟩ := hrel
      clear HK4 HB4
      have p0 := kr.cell 0
      have p1 := kr.cell 1
      have p2 := kr.cell 2
      simp at p0 p1 p2
      by_cases hlt : k < us.length
      · obtain ⟨b, off, RA, rc, rfl, hbl, hc0, hc1, hc2, hc3, hml, hrow⟩ := h3.get k hlt
        have q1 := (hbel.cell (p := ⟨b, off + k * 4 + 1, none⟩) hbl).trans hc1
        have q2 := (hbel.cell (p := ⟨b, off + k * 4 + 2, none⟩) hbl).trans hc2
        have r0 := cgrow p0
        have r1 := cgrow p1
        have r2 := cgrow p2
        have r3 := cgrow q1
        have r4 := cgrow q2
        have hlt' : (k : Int) < us.length := by omega
        have hcon := fun W (hW : Below wr.heap.size wr W) => hc W us[k].1.2.1 us[k].1.2.2 (btr hbel hW)
        clear hc0 hc1 hc2 hc3 hrow hml hc
        cases hi : cvB up us[k].1.2.1 us[k].1.2.2
        · have HA : Hid (∀ j (h : j < us.length), j < k + 1 → cvB up us[j].1.2.1 us[j].1.2.2 = false) := fun j h hj => by
            rcases Nat.lt_or_ge j k with h' | h'
            · exact hall.out j h h'
            · obtain rfl : j = k := by omega
              exact hi
          rw [hi] at hcon
          clear hi
          go_wp2_with fail
          refine wp_region_quiet_below (by kernel_rfl) (by kernel_rfl) ?_
          repeat (go_big_quiet_step (exact Calls.regrown_of (hcon _ (below_regrown _ _ _))))
          refine wpQuiet_nil ?_
          intro wq hwq
          obtain ⟨⟨dq, osq⟩, rfl⟩ := hwq
          have hbq := below_regrown wr dq osq
          have HB := Lib.hid (btr hbel hbq)
          have HK := Lib.hid (kr.below hbq)
          clear p0 p1 p2 q1 q2 r0 r1 r2 r3 r4 hcon hbq kr hbel
          go_wp2
          go_roundw
          case rel => exact ⟨k + 1, by omega, by go_num, HA, HK.out, HB.out⟩
          case measure => simp [intOf]; omega
        · have HF : Hid (vewB (lo, (up, us)) = false) := by
            rw [Hid, HR.out, all_uptoV (f := fun e : Upd => !cvB up e.1.2.1 e.1.2.2) hlt (by simp only [hi]; rfl)]
            simp
          rw [hi] at hcon
          clear hi
          go_wp2_with fail
          refine wp_region_quiet_below (by kernel_rfl) (by kernel_rfl) ?_
          repeat (go_big_quiet_step (exact Calls.regrown_of (hcon _ (below_regrown _ _ _))))
          refine wpQuiet_nil ?_
          intro wq hwq
          obtain ⟨⟨dq, osq⟩, rfl⟩ := hwq
          have HB := Lib.hid (btr hbel (below_regrown wr dq osq))
          clear p0 p1 p2 q1 q2 r0 r1 r2 r3 r4 hcon
          go_wp2
          go_ret
          exact ⟨ret_bool HF.out.symm, HB.out⟩
      · obtain rfl : k = us.length := by omega
        have HF : Hid (vewB (lo, (up, us)) = true) := by
          rw [Hid, HR.out, E4.out, Bool.true_and, List.all_eq_true]
          intro x hx
          obtain ⟨j, hj, rfl⟩ := List.getElem_of_mem hx
          have := hall.out j hj hj; simp only [this]; rfl
        go_wp2
        go_ret
        exact ⟨ret_bool HF.out.symm, hbel⟩
end Go.Proofs.Ythefakiobpijiaa

/- HELPER, no statement of the seat: drawn regions in which operations make memory that must be told apart: each operation has a birth interval (the heap's size before it and behind it), and the intervals do not overlap. -/
namespace Go.Proofs.Ythefakiobpijiaa
namespace Rgo
open Go.RowKit
set_option linter.unusedSimpArgs false
set_option linter.unusedVariables false

def Ap (x y : Nat × Nat) : Prop := x.2 ≤ y.1 ∨ y.2 ≤ x.1
def ApartB (B : List (Nat × Nat)) : Prop := ∀ i j, i < j → j < B.length → Ap (B.getD i (0, 0)) (B.getD j (0, 0))
def BornB (w0 w : World) (B : List (Nat × Nat)) : Prop := ∀ i, i < B.length → w0.heap.size ≤ (B.getD i (0, 0)).1 ∧ (B.getD i (0, 0)).1 ≤ (B.getD i (0, 0)).2 ∧ (B.getD i (0, 0)).2 ≤ w.heap.size
theorem apartB_of {bl bh : Nat → Nat} {n : Nat} (h : ∀ i j, i < n → j < n → i ≠ j → bh i ≤ bl j ∨ bh j ≤ bl i) : ApartB ((List.range n).map (fun j => (bl j, bh j))) := fun i j hij hj => by
  have hj' : j < n := by simpa using hj
  have h1 := getD_range_map (fun j => (bl j, bh j)) (0, 0) n i (by omega)
  have h2 := getD_range_map (fun j => (bl j, bh j)) (0, 0) n j hj'
  rw [h1, h2]
  exact h i j (by omega) hj' (by omega)
theorem bornB_of {w0 w : World} {bl bh : Nat → Nat} {n : Nat} (h : ∀ k, k < n → w0.heap.size ≤ bl k ∧ bl k ≤ bh k ∧ bh k ≤ w.heap.size) : BornB w0 w ((List.range n).map (fun j => (bl j, bh j))) := fun i hi => by
  have hi' : i < n := by simpa using hi
  rw [getD_range_map (fun j => (bl j, bh j)) (0, 0) n i hi']
  exact h i hi'
/-- The walk in the order of the text. -/
def wpFacts (P : Program) (ops : Array Oper) (w0 : World) (R : Act → World → Prop) : List (List Nat × (Nat → Nat → Value → World → Prop)) → List Oper → List (World → Prop) → List (Nat × Nat) → Act → Prop
  | (p, d) :: Ds, o :: l, F, B, a => (∀ w, Below w0.heap.size w0 w → holds F w p → wpList P ops (OpPost o a (fun v w' => d w.heap.size w'.heap.size v w') w) [o] a w) ∧ ∀ v lo hi, wpFacts P ops w0 R Ds l (F ++ [d lo hi v]) (B ++ [(lo, hi)]) (a.put o.dst v)
  | _, _, F, B, a => ∀ w, Below w0.heap.size w0 w → allOf w F → ApartB B → BornB w0 w B → R a w
section
variable {P : Program} {ops : Array Oper} {Q : Exit → Act → World → Prop} {w0 : World} {a0 : Act} {n : Nat} {D : Nat → Nat → Nat → Value → World → Prop}
theorem facts_sound {pre : List (List Nat)} (ht : TextOk ops pre n) (hD : ∀ k lo hi v w w', Below w.heap.size w w' → D k lo hi v w → D k lo hi v w')
    (step : ∀ k o, k < n → ops[k]? = some o → ∀ (vs : Nat → Value) (bl bh : Nat → Nat) w, Below w0.heap.size w0 w → (∀ j ∈ preOf pre n k, D j (bl j) (bh j) (vs j) w) → wpList P ops (OpPost o (lay ops a0 vs k) (fun v w' => D k w.heap.size w'.heap.size v w') w) [o] (lay ops a0 vs k) w)
    (done : ∀ (vs : Nat → Value) (bl bh : Nat → Nat) w, Below w0.heap.size w0 w → (∀ k, k < n → D k (bl k) (bh k) (vs k) w) → (∀ k, k < n → w0.heap.size ≤ bl k ∧ bl k ≤ bh k ∧ bh k ≤ w.heap.size) → (∀ i j, i < n → j < n → i ≠ j → bh i ≤ bl j ∨ bh j ≤ bl i) → wpList P ops Q (ops.toList.drop n) (lay ops a0 vs n) w) :
    ∀ (fuel : Nat) (listed : Array Bool) (vs : Nat → Value) (bl bh : Nat → Nat) (w : World), listed.size = ops.size → Closed ops pre n listed → (∀ k, n ≤ k → listed.getD k false = false) → Below w0.heap.size w0 w →
      (∀ k, k < n → listed.getD k false = true → D k (bl k) (bh k) (vs k) w) → (∀ k, k < n → listed.getD k false = true → w0.heap.size ≤ bl k ∧ bl k ≤ bh k ∧ bh k ≤ w.heap.size) → (∀ i j, i < n → j < n → listed.getD i false = true → listed.getD j false = true → i ≠ j → bh i ≤ bl j ∨ bh j ≤ bl i) → cnt listed ops.size = fuel → wpAny P .any ops Q fuel listed (layL ops a0 listed vs n) w := by
  intro fuel
  induction fuel with
  | zero =>
    intro listed vs bl bh w hs hc hno hb hf hgg hqq hcnt
    have hall := cnt_zero _ hcnt
    have hn : n = ops.size := by
      rcases Nat.lt_or_ge n ops.size with h | h
      · have h1 := hall n h
        rw [hno n (Nat.le_refl _)] at h1; cases h1
      · have := ht.le; omega
    rw [layL_all n (fun k hk => hall k (by have := ht.le; omega))]
    exact tail_sound ht 0 n listed _ w (by omega) (Nat.le_refl _) hs hc (fun j => ⟨fun h => (by
      rcases Nat.lt_or_ge j n with h' | h'
      · exact h'
      · rw [hno j h'] at h; exact (Bool.noConfusion h)), fun h => hall j (by omega)⟩) (done vs bl bh w hb (fun k hk => hf k hk (hall k (by omega))) (fun k hk => hgg k hk (hall k (by omega))) (fun i j hi hj => hqq i j hi hj (hall i (by omega)) (hall j (by omega))))
  | succ fuel ih =>
    intro listed vs bl bh w hs hc hno hb hf hgg hqq hcnt
    by_cases hall : ∀ k, k < n → listed.getD k false = true
    · rw [layL_all n hall]
      have hcn : cnt listed ops.size = ops.size - n := by
        have : ∀ m, n ≤ m → cnt listed m = m - n := by
          intro m
          induction m with
          | zero => intro h; simp [cnt]
          | succ m ihm =>
            intro h
            rcases Nat.lt_or_ge n (m + 1) with h' | h'
            · unfold cnt
              rw [ihm (by omega), hno m (by omega)]
              simp; omega
            · rw [cnt_all (m + 1) (fun k hk => hall k (by omega))]; omega
        exact this _ ht.le
      refine tail_sound ht (fuel + 1) n listed _ w (by have h1 := ht.le; omega) (Nat.le_refl _) hs hc (fun j => ⟨fun h => ?_, fun h => hall j h⟩) (done vs bl bh w hb (fun k hk => hf k hk (hall k hk)) (fun k hk => hgg k hk (hall k hk)) (fun i j hi hj => hqq i j hi hj (hall i hi) (hall j hj)))
      rcases Nat.lt_or_ge j n with h' | h'
      · exact h'
      · rw [hno j h'] at h; cases h
    · obtain ⟨k, hk, hkf, hkb⟩ := first_open ops.size (by omega : cnt listed ops.size ≠ 0)
      have hkr := ready_first ht hs hk hkf hkb
      refine ⟨fun h0 => (by rw [h0] at hkr; cases hkr), fun i hi => ?_⟩
      obtain ⟨hi0, o, ho, _⟩ := mem_ready.1 hi
      have hisz := (Array.getElem?_eq_some_iff.1 ho).1
      have hin : i < n := by
        rcases Nat.lt_or_ge i n with h | h
        · exact h
        · exact absurd (fun k hk => ready_pre ht hc hi k (by simp [preOf, show ¬ i < n by omega]; omega)) hall
      have hif : listed.getD i false = false := by simp [hs, hisz] at hi0 ⊢; exact hi0
      have hpre := ready_pre ht hc hi
      have hlt : ∀ j ∈ preOf pre n i, j < i := fun j hj => (ht.waits i o ho j hj).1
      have hst := step i o hin ho vs bl bh w hb (fun j hj => hf j (by have := hlt j hj; omega) (hpre j hj))
      have htmp : ∀ t ∈ o.looksAt ops, (layL ops a0 listed vs n).tmps[t]? = (lay ops a0 vs i).tmps[t]? := by
        intro t htl
        have := tmp_lay (a0 := a0) (vs := vs) (ops := ops) (n := n) (listed := listed) (t := t) (k := i) (fun j hj hd => by
          by_cases hji : j = i
          · subst hji
            have : o.dst = some t := by simpa [opDst, ho] using hd
            exact absurd htl (ht.own j o ho hin t this)
          · have hjp := (ht.dst i o ho hin j hj hji t hd).2 htl
            exact ⟨hlt j hjp, hpre j hjp⟩) n (Nat.le_refl _)
        rw [this, show min n i = i by omega]
      have hex : execOp (layL ops a0 listed vs n).eval o = execOp (lay ops a0 vs i).eval o :=
        execOp_congr o (fun cs b => Region.noSelect_spec ht.sel i o cs b ho) (fun x hx => by
          cases x with
          | tmp t =>
            have := htmp t (List.mem_append_left _ (List.mem_filterMap.2 ⟨.tmp t, by simpa using hx, rfl⟩))
            simp only [Act.eval, Array.getD_eq_getD_getElem?, this]
          | _ => rfl)
      have hwa : Region.wanted o (yielded ops (layL ops a0 listed vs n).tmps) = Region.wanted o (yielded ops (lay ops a0 vs i).tmps) := by
        unfold Region.wanted
        cases hg : o.guard with
        | none => rfl
        | some gw =>
          obtain ⟨g, want⟩ := gw
          have hy : yielded ops (layL ops a0 listed vs n).tmps g = yielded ops (lay ops a0 vs i).tmps g := by
            unfold yielded
            cases hd : (ops[g]?).bind (·.dst) with
            | none => rfl
            | some t =>
              have := htmp t (by simp [Oper.looksAt, hg, hd])
              simp only [Option.bind_some, this]
          simp only [hy]
      have hdst : opDst ops i = o.dst := by simp [opDst, ho]
      have go : ∀ v w', Below w.heap.size w w' → D i w.heap.size w'.heap.size v w' → wpAny P .any ops Q fuel (listed.setIfInBounds i true) ((layL ops a0 listed vs n).put o.dst v) w' := by
        intro v w' hb' hd'
        have hput := layL_put (ops := ops) (a0 := a0) (n := n) (listed := listed) (vs := vs) (vs' := fun j => if j = i then v else vs j) (i := i) hif (by omega) (fun k hk => by simp [hk])
          (fun j hj hji d hd => by rw [hdst]; exact (ht.dst i o ho hin j hj hji d hd).1) n (Nat.le_refl _) hin
        simp only [if_true, hdst] at hput
        rw [← hput]
        have hcnt' := cnt_set hi0 ops.size hisz
        refine ih _ _ (fun j => if j = i then w.heap.size else bl j) (fun j => if j = i then w'.heap.size else bh j) w' (by simpa using hs) (closed_set ht hc hi) (fun k hk => ?_) (hb.trans (hb'.mono hb.size)) (fun k hk hl => ?_) (fun k hk hl => ?_) (fun k m hk hm hkl hml hne => ?_) (by omega)
        · rw [getD_set_ne false (by omega)]; exact hno k hk
        · by_cases hki : k = i
          · subst hki; simpa using hd'
          · rw [getD_set_ne false (Ne.symm hki)] at hl
            simp only [hki, if_false]
            exact hD k _ _ _ w w' hb' (hf k hk hl)
        · by_cases hki : k = i
          · subst hki
            simp only [if_true]
            exact ⟨hb.size, hb'.size, Nat.le_refl _⟩
          · rw [getD_set_ne false (Ne.symm hki)] at hl
            simp only [hki, if_false]
            have h1 := hgg k hk hl
            have h2 := hb'.size
            omega
        · by_cases hki : k = i
          · subst hki
            have hmk : ¬ m = k := fun e => hne e.symm
            rw [getD_set_ne false (Ne.symm hmk)] at hml
            simp only [if_true, hmk, if_false]
            have h1 := hgg m hm hml
            omega
          · rw [getD_set_ne false (Ne.symm hki)] at hkl
            by_cases hmi : m = i
            · subst hmi
              simp only [if_true, hki, if_false]
              have h1 := hgg k hk hkl
              omega
            · rw [getD_set_ne false (Ne.symm hmi)] at hml
              simp only [hki, hmi, if_false]
              exact hqq k m hk hm hkl hml hne
      unfold wpOp
      simp only [ho]
      unfold wpList at hst
      rw [hwa]
      have fin : ∀ v w', OpPost o (lay ops a0 vs i) (fun v w' => D i w.heap.size w'.heap.size v w') w .normal ((lay ops a0 vs i).put o.dst v) w' → wpAny P .any ops Q fuel (listed.setIfInBounds i true) ((layL ops a0 listed vs n).put o.dst v) w' := by
        intro v w' ⟨_, u, he, hb', hd'⟩
        have hu : (layL ops a0 listed vs n).put o.dst v = (layL ops a0 listed vs n).put o.dst u := by
          cases hd : o.dst with
          | none => rfl
          | some d =>
            rw [hd] at he
            have h1 : (lay ops a0 vs i).tmps.setIfInBounds d v = (lay ops a0 vs i).tmps.setIfInBounds d u := congrArg Act.tmps he
            have hsz : (lay ops a0 vs i).tmps.size = (layL ops a0 listed vs n).tmps.size := by
              have s1 : ∀ m, (lay ops a0 vs m).tmps.size = a0.tmps.size := by
                intro m
                induction m with
                | zero => rfl
                | succ m ih => unfold lay; cases opDst ops m <;> simpa [Act.put] using ih
              have s2 : ∀ m, (layL ops a0 listed vs m).tmps.size = a0.tmps.size := by
                intro m
                induction m with
                | zero => rfl
                | succ m ih =>
                  unfold layL
                  split
                  · cases opDst ops m <;> simpa [Act.put] using ih
                  · exact ih
              rw [s1, s2]
            by_cases hlt : d < (lay ops a0 vs i).tmps.size
            · have h2 : ((lay ops a0 vs i).tmps.setIfInBounds d v)[d]? = ((lay ops a0 vs i).tmps.setIfInBounds d u)[d]? := by rw [h1]
              simp only [Array.getElem?_setIfInBounds, hlt, if_true] at h2
              injection h2 with h2
              rw [h2]
            · simp only [Act.put]
              rw [Array.setIfInBounds_eq_of_size_le (by rw [← hsz]; exact Nat.le_of_not_lt hlt), Array.setIfInBounds_eq_of_size_le (by rw [← hsz]; exact Nat.le_of_not_lt hlt)]
        rw [hu]
        exact go u w' hb' hd'
      split
      · rename_i hwant
        rw [if_pos hwant] at hst
        rcases hst with hst | ⟨_, a', w', h, _⟩
        · left
          unfold Oper.wp at *
          rw [hex]
          generalize (execOp (lay ops a0 vs i).eval o).run P w = r at *
          cases r with
          | ok x w' =>
            cases x <;> simp only [Oper.upon] at hst ⊢
            case value u => exact fin u w' (by simpa [wpList] using hst)
            case skip => exact fin undef w' (by simpa [wpList] using hst)
            case defer d =>
              simp only [wpList, OpPost] at hst
              obtain ⟨_, v, he, _⟩ := hst
              exfalso
              have h1 := congrArg Act.defers he
              have h2 : ∀ (a : Act) (x : Option Tmp) (v : Value), (a.put x v).defers = a.defers := by intro a x v; cases x <;> rfl
              rw [h2, h2] at h1
              simp at h1
            case enter f args =>
              refine Calls.mono hst fun e w'' he => ?_
              cases e with
              | returned u => exact fin u w'' (by simpa [wpList] using he)
              | panicked c => exact absurd he.1 (by simp)
              | outgrown => obtain ⟨a', w3, h, _⟩ := he; cases h
            case row row args => exact Rows.mono hst fun u w'' he => fin u w'' (by simpa [wpList] using he)
          | halt x w' =>
            cases x <;> simp only [Oper.upon] at hst ⊢
            case panic u => exact absurd hst.1 (by simp)
        · cases h
      · rename_i hwant
        rw [if_neg hwant] at hst
        exact fin undef w (by simpa [wpList] using hst)

theorem wpFacts_spec {R : Act → World → Prop} {pr : Nat → List Nat} (hpr : ∀ k, ∀ j ∈ pr k, j < k) (vs : Nat → Value) (bl bh : Nat → Nat) :
    ∀ (Ds : List (List Nat × (Nat → Nat → Value → World → Prop))) (l : List Oper) (k : Nat) (F : List (World → Prop)) (B : List (Nat × Nat)) (a : Act), (∀ m p d, Ds[m]? = some (p, d) → p = pr (k + m) ∧ d = D (k + m)) →
      F = (List.range k).map (fun j => D j (bl j) (bh j) (vs j)) → B = (List.range k).map (fun j => (bl j, bh j)) → a = lay ops a0 vs k → (∀ m, l[m]? = ops[k + m]?) → k + Ds.length ≤ ops.size → wpFacts P ops w0 R Ds l F B a →
      (∀ m o, m < Ds.length → ops[k + m]? = some o → ∀ w, Below w0.heap.size w0 w → (∀ j ∈ pr (k + m), D j (bl j) (bh j) (vs j) w) → wpList P ops (OpPost o (lay ops a0 vs (k + m)) (fun v w' => D (k + m) w.heap.size w'.heap.size v w') w) [o] (lay ops a0 vs (k + m)) w) ∧
      (∀ w, Below w0.heap.size w0 w → (∀ j, j < k + Ds.length → D j (bl j) (bh j) (vs j) w) → ApartB ((List.range (k + Ds.length)).map (fun j => (bl j, bh j))) → BornB w0 w ((List.range (k + Ds.length)).map (fun j => (bl j, bh j))) → R (lay ops a0 vs (k + Ds.length)) w)
  | [], l, k, F, B, a, _, hF, hB, ha, _, _, h => by
    subst hF; subst hB; subst ha
    refine ⟨fun m o hm => absurd hm (by simp), fun w hb hf hap hbo => ?_⟩
    have h' : ∀ w, Below w0.heap.size w0 w → allOf w ((List.range k).map (fun j => D j (bl j) (bh j) (vs j))) → ApartB ((List.range k).map (fun j => (bl j, bh j))) → BornB w0 w ((List.range k).map (fun j => (bl j, bh j))) → R (lay ops a0 vs k) w := by cases l <;> exact h
    refine h' w hb (allOf_of (fun f hff => ?_)) hap hbo
    obtain ⟨j, hj, rfl⟩ := List.mem_map.1 hff
    exact hf j (by simpa using hj)
  | (p, d) :: Ds, l, k, F, B, a, hDs, hF, hB, ha, hl, hk, h => by
    obtain ⟨rfl, rfl⟩ := hDs 0 p d rfl
    have hks : k < ops.size := by simp at hk; omega
    match l, hl 0 with
    | [], h0 => simp [hks] at h0
    | o :: l, h0 =>
      have ho : ops[k]? = some o := by simpa using h0.symm
      obtain ⟨h1, h2⟩ := h
      have ih := wpFacts_spec hpr vs bl bh Ds l (k + 1) (F ++ [D k (bl k) (bh k) (vs k)]) (B ++ [(bl k, bh k)]) (a.put o.dst (vs k)) (fun m p d hm => by
          have := hDs (m + 1) p d (by simpa using hm)
          rwa [show k + (m + 1) = k + 1 + m by omega] at this)
        (by rw [hF, List.range_succ, List.map_append]; rfl) (by rw [hB, List.range_succ, List.map_append]; rfl) (by rw [ha]; simp [lay, opDst, ho]) (fun m => by
          have := hl (m + 1)
          rw [show k + (m + 1) = k + 1 + m by omega] at this
          simpa using this) (by simp at hk; omega) (h2 (vs k) (bl k) (bh k))
      refine ⟨fun m o' hm ho' w hb hf => ?_, fun w hb hf hap hbo => ?_⟩
      · match m with
        | 0 =>
          have : o' = o := by rw [Nat.add_zero, ho] at ho'; injection ho' with h; exact h.symm
          subst this
          subst ha
          refine h1 w hb (holds_of (fun j hj => ?_))
          have hjk := hpr _ j hj
          subst hF
          rw [getD_range_map _ _ k j hjk]
          exact hf j hj
        | m + 1 =>
          have e : k + (m + 1) = k + 1 + m := by omega
          rw [e] at ho' hf ⊢
          exact ih.1 m o' (by simpa using hm) ho' w hb hf
      · have e : k + ((pr (k + 0), D (k + 0)) :: Ds).length = k + 1 + Ds.length := by simp; omega
        rw [e] at hf hap hbo ⊢
        exact ih.2 w hb hf hap hbo

/-- Each fact stays true in a world that has only grown. -/
def Stable (d : Nat → Nat → Value → World → Prop) : Prop := ∀ lo hi v w w', Below w.heap.size w w' → d lo hi v w → d lo hi v w'
def allStable : List (Nat → Nat → Value → World → Prop) → Prop
  | [] => True
  | d :: Ds => Stable d ∧ allStable Ds
theorem stable_pure (p : Value → Prop) : Stable (fun _ _ v _ => p v) := fun _ _ _ _ _ _ h => h

theorem allStable_get : ∀ {Ds : List (Nat → Nat → Value → World → Prop)}, allStable Ds → ∀ k, Stable (Ds.getD k (fun _ _ _ _ => True))
  | [], _, k => by simp only [List.getD_nil]; exact stable_pure _
  | d :: Ds, h, 0 => h.1
  | d :: Ds, h, k + 1 => by simpa using allStable_get h.2 k

/-- **A REGION THAT DRAWS ITS ORDER**: 'pre': which operations surely come before each; 'Ds': what the value of each comes to. -/
theorem wp_region_facts {id : Nat} {l : List Oper} {w : World} (pre : List (List Nat)) (Ds : List (Nat → Nat → Value → World → Prop)) (hm : P.follows .mixedOrders = true) (hB : factsB l.toArray pre pre.length = true) (hlen : pre.length = Ds.length) (hD : allStable Ds)
    (h : wpFacts P l.toArray w (fun a w => wpList P l.toArray Q (l.drop pre.length) a w) (pre.zip Ds) l [] [] a0) : (Code.region id l.toArray true).wp P Q a0 w := by
  have ht := textOk hB
  refine wp_region_any hm ?_
  have key : ∀ (vs : Nat → Value) (bl bh : Nat → Nat), _ := fun vs bl bh => wpFacts_spec (P := P) (ops := l.toArray) (w0 := w) (a0 := a0) (D := fun k => Ds.getD k (fun _ _ _ _ => True)) (pr := fun k => if k < pre.length then pre.getD k [] else []) (by
      intro k j hj
      by_cases hk : k < pre.length
      · rw [if_pos hk] at hj
        have hks : k < l.toArray.size := Nat.lt_of_lt_of_le hk ht.le
        exact (ht.waits k _ (Array.getElem?_eq_getElem hks) j (by simpa [preOf, hk] using hj)).1
      · rw [if_neg hk] at hj; cases hj) vs bl bh (pre.zip Ds) l 0 [] [] a0 (by
      intro m p d hmd
      rw [List.getElem?_zip_eq_some] at hmd
      obtain ⟨h1, h2⟩ := hmd
      have hml : m < pre.length := (List.getElem?_eq_some_iff.1 h1).1
      simp [hml, List.getD, h1, h2] at *
      simp [h1]) rfl rfl rfl (by simp) (by simp [List.length_zip, hlen]; have := ht.le; simp [hlen] at this; omega) h
  have hzl : (pre.zip Ds).length = pre.length := by simp [List.length_zip, hlen]
  have hlay : layL l.toArray a0 (Array.replicate l.toArray.size false) (fun _ => undef) pre.length = a0 := by
    have : ∀ m, layL l.toArray a0 (Array.replicate l.toArray.size false) (fun _ => undef) m = a0 := by
      intro m
      induction m with
      | zero => rfl
      | succ m ih =>
        unfold layL
        rw [if_neg (by simp [Array.getElem?_replicate]; split <;> simp), ih]
    exact this _
  have hno : ∀ k, (Array.replicate l.toArray.size false).getD k false = false := by
    intro k; simp [Array.getElem?_replicate]; split <;> simp
  have := facts_sound (P := P) (Q := Q) (ops := l.toArray) (w0 := w) (a0 := a0) (n := pre.length) (D := fun k => Ds.getD k (fun _ _ _ _ => True)) ht (fun k lo hi v w w' hb hd => allStable_get hD k lo hi v w w' hb hd)
    (fun k o hk ho vs bl bh w hb hf => by
      have := (key vs bl bh).1 k o (by rw [hzl]; exact hk) (by rw [Nat.zero_add]; exact ho) w hb (fun j hj => hf j (by simpa [preOf, hk] using hj))
      simpa using this)
    (fun vs bl bh w hb hf hgg hqq => by
      have := (key vs bl bh).2 w hb (fun j hj => hf j (by rw [hzl] at hj; omega)) (apartB_of (fun i j hi hj => hqq i j (by rw [hzl] at hi; omega) (by rw [hzl] at hj; omega))) (bornB_of (fun i hi => hgg i (by rw [hzl] at hi; omega)))
      rw [hzl, Nat.zero_add] at this
      exact this)
    l.toArray.size (Array.replicate l.toArray.size false) (fun _ => undef) (fun _ => 0) (fun _ => 0) w.drew (by simp) (fun k _ hl => by rw [hno] at hl; cases hl) (fun k _ => hno k) (Below.refl _ _).drew (fun k _ hl => by rw [hno] at hl; cases hl) (fun k _ hl => by rw [hno] at hl; cases hl) (fun i j _ _ hl => by rw [hno] at hl; cases hl)
    (by
      have : ∀ m, cnt (Array.replicate l.toArray.size false) m = m := by
        intro m
        induction m with
        | zero => rfl
        | succ m ih => unfold cnt; rw [ih, hno]; simp
      exact this _)
  rw [hlay] at this
  exact this

theorem wf_stepK {R : Act → World → Prop} {p : List Nat} {pre : List (List Nat)} {d : Nat → Nat → Value → World → Prop} {Ds : List (Nat → Nat → Value → World → Prop)} {o : Oper} {l : List Oper} {F : List (World → Prop)} {B : List (Nat × Nat)} {a : Act}
    (sub : List Nat) (Fp : List (World → Prop)) (hs : (sub.all fun j => p.contains j) = true) (hF : (sub.map fun j => F.getD j (fun _ => True)) = Fp)
    (h1 : ∀ w, Below w0.heap.size w0 w → allOf w Fp → WfOp P ops o a (fun v w' => d w.heap.size w'.heap.size v w') w) (h2 : ∀ v lo hi, wpFacts P ops w0 R (pre.zip Ds) l (F ++ [d lo hi v]) (B ++ [(lo, hi)]) (a.put o.dst v)) :
    wpFacts P ops w0 R ((p :: pre).zip (d :: Ds)) (o :: l) F B a := ⟨fun w hb hf => (h1 w hb (hF ▸ allOf_map hf sub hs)).out, h2⟩
theorem wf_doneK {R : Act → World → Prop} {l : List Oper} {F : List (World → Prop)} {B : List (Nat × Nat)} {a : Act} (sub : List Nat) (Fp : List (World → Prop)) (hs : (sub.all fun j => decide (j < F.length)) = true) (hF : (sub.map fun j => F.getD j (fun _ => True)) = Fp)
    (h : ∀ w, Below w0.heap.size w0 w → allOf w Fp → ApartB B → BornB w0 w B → R a w) : wpFacts P ops w0 R (([] : List (List Nat)).zip ([] : List (Nat → Nat → Value → World → Prop))) l F B a := by
  have key : ∀ w, Below w0.heap.size w0 w → allOf w F → ApartB B → BornB w0 w B → R a w := fun w hb hf hap hbo => h w hb (by
    rw [← hF]
    have hp : ∀ (F : List (World → Prop)), allOf w F → ∀ j, j < F.length → (F.getD j (fun _ => True)) w := by
      intro F
      induction F with
      | nil => intro _ j hj; cases hj
      | cons f F ih =>
        intro h j hj
        cases j with
        | zero => exact h.1
        | succ j => exact ih h.2 j (by simpa using hj)
    clear hF h
    induction sub with
    | nil => trivial
    | cons j sub ih =>
      simp only [List.all_cons, Bool.and_eq_true] at hs
      exact ⟨hp F hf j (by simpa using hs.1), ih hs.2⟩) hap hbo
  cases l <;> exact key
end
end Rgo
end Go.Proofs.Ythefakiobpijiaa

/- HELPER, no statement of the seat: slices.Clone at lists of times (a named list), and the model's copy of a list of times. -/
namespace Go.Proofs.Ythefakiobpijiaa
open Go.RowKit Go.Sort
set_option linter.unusedSimpArgs false
set_option linter.unusedVariables false

set_option maxHeartbeats 800000 in
theorem cloneT_i (A : Option Addr) (c : Nat) (xs : List Tm) (w : World) (hx : TimesAt w A xs) (hn : xs.length ≤ 4194304) :
    Calls Try.prog 141 #[.slice A xs.length c] w fun e w' => ∃ A' c', e = .returned (.slice A' xs.length c') ∧ TmOwn w' w.heap.size A' c' xs ∧ Below w.heap.size w w' := by
  have qT : ∀ (w : World) (a : Option Addr) (n c n' c' : Nat), (binOp .eql 98 (.slice a n c) (.slice none n' c')).run Try.prog w = .ok (.bool a.isNone) w := fun w a n c n' c' => Lib.run_eql_slice_nil w _ _ a n c n' c' Try.underlying98
  obtain ⟨h0, hsrc⟩ := tms_src hx
  cases A with
  | none =>
    obtain rfl := List.eq_nil_of_length_eq_zero (h0 rfl)
    clear hx h0 hsrc
    go_enter Try.func141, Try.ntmps141
    go_wp2
    go_ret
    exact ⟨none, 0, rfl, World.ownsRow_nil _ _ _ _, Below.refl _ _⟩
  | some a =>
    obtain ⟨i0, hi, hz0, hz1, hz2⟩ := info_parts Try.infoTime
    have hb0 : Below w.heap.size w (w.alloc (.cells #[] 117)) := bal (Below.refl _ _) _
    have hs : ∀ b, some a = some b → ∀ j u, (timeL xs)[j]? = some u → (w.alloc (.cells #[] 117)).cell? (b.add j) = some u := fun b e j u hu => by
      have := hsrc b e j u hu
      rw [hb0.cell (block_lt_of_cell this)]
      exact this
    have HFL := Lib.hid (timeL_len xs)
    have hown := TmOwn.lit w
    have hone := tms_one xs
    go_enter Try.func141, Try.ntmps141
    go_wp2_with (at_builtin; refine wpList_append_src _ rfl _ _ 98 rfl w.heap.size 117 i0 (.agg #[.int .i64 0, .int .i64 0]) 2 16 Try.underlying98 hi hz0 hz1 hz2 rfl (by decide) _ _ _ rfl hown (some a) xs.length c (timeL xs) rfl HFL.out (fun e => by cases e) hs hone (by simp [maxLen]; omega) (by simp; omega) (by simp) ?_)
    intro v' w1 hown' hgrow _
    obtain ⟨A', c', hv⟩ := own_slice hown'
    have HO : Hid (TmOwn w1 w.heap.size A' c' xs) := by rw [hv] at hown'; unfold TmOwn; simpa [Hid, timeL] using hown'
    have HB := Lib.hid (hb0.grown hgrow (by simp) (fun k hk => by simp [Value.ownBlock] at hk; omega))
    have HV := Lib.hid hv
    clear hown' hgrow hv hown hs hb0 hsrc hone h0
    go_wp2
    go_ret
    exact ⟨A', c', by rw [HV.out]; simp, HO.out, HB.out⟩
end Go.Proofs.Ythefakiobpijiaa

/- HELPER, no statement of the seat: a store into a box of slices leaves lists of numbers and of updates as they are. -/
namespace Go.Proofs.Ythefakiobpijiaa
open Go.RowKit
set_option linter.unusedSimpArgs false
set_option linter.unusedVariables false

theorem cell_heapB {w w' : World} {b o : Nat} (h : w'.heap[b]? = w.heap[b]?) : w'.cell? ⟨b, o, none⟩ = w.cell? ⟨b, o, none⟩ := by unfold World.cell?; simp only [h]
/-- No cell of these is a number. -/
def NoInt (cs : Array Value) : Prop := ∀ (i : Nat) (x : Int), cs[i]? ≠ some (.int .i64 x)
section
variable {w w' : World} {g : Nat} {t : TypeId} {cs : Array Value} (kG : Blk w g t cs) (hc : NoInt cs) (hg : GrownS w w' (fun k => k = g))
include kG hc hg
theorem IntsAt.box {A : Option Addr} {xs : List Int} (h : IntsAt w A xs) : IntsAt w' A xs := fun hn => by
  obtain ⟨b, off, e, hlt, hcell⟩ := h hn
  have hne : b ≠ g := fun e' => by
    subst e'
    have h0 := hcell 0 hn
    rw [kG.cell] at h0
    exact hc _ _ h0
  exact ⟨b, off, e, Nat.lt_of_lt_of_le hlt hg.size, fun j hj => (cell_heapB (hg.block b hlt hne)).trans (hcell j hj)⟩
theorem UpdsAt.box {A : Option Addr} {es : List Upd} (h : UpdsAt w A es) : UpdsAt w' A es := fun hn => by
  obtain ⟨b, off, e, hlt, hcell⟩ := h hn
  have hne : b ≠ g := fun e' => by
    subst e'
    obtain ⟨cs0, hl0, hc0, hr0⟩ := hcell 0 hn
    obtain ⟨RA, rc, rfl, l, hi⟩ := hr0.form
    have h0 := hc0 1 (by omega)
    rw [kG.cell] at h0
    exact hc _ _ h0
  refine ⟨b, off, e, Nat.lt_of_lt_of_le hlt hg.size, fun j hj => ?_⟩
  obtain ⟨cs0, hl0, hc0, hr0⟩ := hcell j hj
  obtain ⟨RA, rc, rfl, l, hi⟩ := hr0.form
  exact ⟨_, hl0, fun i hi0 => (cell_heapB (hg.block b hlt hne)).trans (hc0 i hi0), UpdR.of es[j] l (hi.box kG hc hg)⟩
end
theorem noInt3 {a b c : Option Addr} {n1 m1 n2 m2 n3 m3 : Nat} : NoInt #[.slice a n1 m1, .slice b n2 m2, .slice c n3 m3] := fun i x h => by
  match i, h with
  | 0, h => simp at h
  | 1, h => simp at h
  | 2, h => simp at h
  | i + 3, h => simp at h
end Go.Proofs.Ythefakiobpijiaa

/- HELPER, no statement of the seat: views of the program: whether a view is valid. -/
namespace Go.Proofs.Ythefakiobpijiaa
open Go.RowKit Go.Sort
set_option linter.unusedSimpArgs false
set_option linter.unusedVariables false

set_option maxHeartbeats 1600000 in
theorem with1C_c (C : Nat) (TA LA UA : Option Addr) (tn tc lc uc : Nat) (lo up : List Tm) (u : Upd) (VA : Option Addr) (vn vc : Nat) (w : World) (h1 : TimesAt w LA lo) (h2 : TimesAt w UA up) (n1 : lo.length ≤ 4194304) (n2 : up.length ≤ 4194304)
    (hC : Blk w C 181 #[.func (.func 185) #[.slice UA up.length uc] #[]]) :
    Calls Try.prog 190 #[.agg #[.slice VA vn vc, .int .i64 u.1.2.1, .int .i64 u.1.2.2, .int .i64 u.2], .pointer (some ⟨C, 0, none⟩)] w fun e w' => e = .returned (.bool (!cvB up u.1.2.1 u.1.2.2)) ∧ Below w.heap.size w w' := by
  have hB0 : Below w.heap.size w (w.alloc (.cells #[.slice VA vn vc, .int .i64 u.1.2.1, .int .i64 u.1.2.2, .int .i64 u.2] 119)) := bal (Below.refl _ _) _
  have hcon := covers_i UA uc up u.1.2.1 u.1.2.2 _ (h2.below hB0) n2
  have c0 := hC.cell 0
  simp at c0
  have hl := hC.lt
  go_enter Try.func190, Try.ntmps190
  go_wp2_with fail
  refine hcon.mono ?_
  rintro e w1 ⟨rfl, b1⟩
  have HB := Lib.hid (btr hB0 b1)
  clear hcon hB0 b1
  go_wp2
  go_ret
  exact ⟨ret_bool (show (!cvB up u.1.2.1 u.1.2.2) = (!cvB up u.1.2.1 u.1.2.2) from rfl), HB.out⟩
set_option maxHeartbeats 1600000 in
theorem withC_i (A : Option Addr) (c : Nat) (es : List Upd) (TA LA UA : Option Addr) (tn tc lc uc : Nat) (lo up : List Tm) (w : World) (hx : UpdsAt w A es) (hn : es.length ≤ 4194304) (h1 : TimesAt w LA lo) (h2 : TimesAt w UA up) (n1 : lo.length ≤ 4194304) (n2 : up.length ≤ 4194304) :
    Calls Try.prog 145 #[.slice A es.length c, .func (.func 185) #[.slice UA up.length uc] #[]] w fun e w' => ∃ A' c', e = .returned (.slice A' (es.filter (fun e => cvB up e.1.2.1 e.1.2.2)).length c') ∧ UpdsAt w' A' (es.filter (fun e => cvB up e.1.2.1 e.1.2.2)) ∧ Below w.heap.size w w' := by
  have hB0 : Below w.heap.size w (w.alloc (.cells #[.func (.func 185) #[.slice UA up.length uc] #[]] 181)) := bal (Below.refl _ _) _
  have kC : Blk (w.alloc (.cells #[.func (.func 185) #[.slice UA up.length uc] #[]] 181)) w.heap.size 181 #[.func (.func 185) #[.slice UA up.length uc] #[]] := Blk.newAt rfl
  have HCON : Hid (∀ W, Below (w.alloc (.cells #[.func (.func 185) #[.slice UA up.length uc] #[]] 181)).heap.size (w.alloc (.cells #[.func (.func 185) #[.slice UA up.length uc] #[]] 181)) W → ∀ (u : Upd) (VA : Option Addr) (vn vc : Nat), Calls Try.prog 190 #[.agg #[.slice VA vn vc, .int .i64 u.1.2.1, .int .i64 u.1.2.2, .int .i64 u.2], .pointer (some ⟨w.heap.size, 0, none⟩)] W fun e w' => e = .returned (.bool (!cvB up u.1.2.1 u.1.2.2)) ∧ Below W.heap.size W w') := fun W hW u VA vn vc =>
    with1C_c w.heap.size TA LA UA tn tc lc uc lo up u VA vn vc W ((h1.below hB0).below hW) ((h2.below hB0).below hW) n1 n2 (kC.below hW)
  have hx0 := hx.below updR hB0
  go_enter Try.func145, Try.ntmps145
  go_wp2_with fail
  refine absI (fun W => W = w.alloc (.cells #[.func (.func 185) #[.slice UA up.length uc] #[]] 181)) rfl ?_
  intro W0 hW0
  rw [← hW0] at HCON hx0 hB0
  clear hW0 kC
  refine (cloneW_u A c es W0 hx0 hn).mono ?_
  rintro e w1 ⟨A1, c1, css, rfl, ho1, rd1, b1⟩
  have hdel := delW_u W0 w1 w.heap.size (fun t => cvB up t.1 t.2) HCON W0.heap.size A1 c1 es css b1 (Nat.le_refl _) ho1 rd1 hn
  go_wp2_with fail
  refine hdel.mono ?_
  rintro e w2 ⟨A2, c2, rfl, hx2, b2⟩
  have HX := Lib.hid hx2
  have HB := Lib.hid (btr hB0 b2)
  clear hdel hx2 b2 ho1 rd1 b1
  go_wp2
  go_ret
  exact ⟨A2, c2, rfl, HX.out, HB.out⟩
set_option maxHeartbeats 1600000 in
theorem readableOf_i (LA UA TA : Option Addr) (lc uc tc ln un tn : Nat) (w : World) :
    Calls Try.prog 97 #[.agg #[.slice LA ln lc, .slice UA un uc, .slice TA tn tc]] w fun e w' => e = .returned (.agg #[.slice TA tn tc, .slice LA ln lc, .slice UA un uc]) ∧ Below w.heap.size w w' := by
  go_enter Try.func97, Try.ntmps97
  go_wp2
  exact bodyPost_ret (v := .agg #[.slice TA tn tc, .slice LA ln lc, .slice UA un uc]) (by simp [results, Try.results97, go_sem]) rfl ⟨rfl, by repeat (first | exact Below.refl _ _ | refine bset ?_ (by simp) _ | refine bal ?_ _)⟩
set_option maxRecDepth 100000 in
set_option maxHeartbeats 3200000 in
theorem isValidR_i (LA UA TA : Option Addr) (lc uc tc : Nat) (lo up : List Tm) (us : List Upd) (w : World) (h1 : TimesAt w LA lo) (h2 : TimesAt w UA up) (h3 : UpdsAt w TA us) (n1 : lo.length ≤ 4194304) (n2 : up.length ≤ 4194304) (n3 : us.length ≤ 4194304) (r3 : rowsU us 4194304) :
    Calls Try.prog 156 #[.agg #[.slice TA us.length tc, .slice LA lo.length lc, .slice UA up.length uc]] w fun e w' => e = .returned (.bool (vewB (lo, (up, us)))) ∧ Below w.heap.size w w' := by
  have c1 := fun W (a : TimesAt W LA lo) (b : TimesAt W UA up) => FrontierLessEqual_i LA lc lo UA uc up W a n1 b n2
  have c2 := fun W (a : UpdsAt W TA us) => ValidTrace_i TA tc us W a n3 r3
  have c3 := fun W (a : UpdsAt W TA us) (b : TimesAt W LA lo) (c : TimesAt W UA up) => withC_i TA tc us TA LA UA us.length tc lc uc lo up W a n3 b c n1 n2
  have hB0 : Below w.heap.size w (w.alloc (.cells #[.slice TA us.length tc, .slice LA lo.length lc, .slice UA up.length uc] 129)) := bal (Below.refl _ _) _
  have kA : Blk (w.alloc (.cells #[.slice TA us.length tc, .slice LA lo.length lc, .slice UA up.length uc] 129)) w.heap.size 129 #[.slice TA us.length tc, .slice LA lo.length lc, .slice UA up.length uc] := Blk.newAt rfl
  cases e1 : flB lo up
  · have HF : Hid (vewB (lo, (up, us)) = false) := by simp [Hid, vewB, e1]
    rw [e1] at c1
    clear e1 c2 c3 kA
    go_enter Try.func156, Try.ntmps156
    go_wp2_with fail
    refine (c1 _ (h1.below hB0) (h2.below hB0)).mono ?_
    rintro e w1 ⟨rfl, b1⟩
    have HB := Lib.hid (btr hB0 b1)
    clear hB0 b1 c1
    go_wp2
    go_ret
    exact ⟨ret_bool HF.out.symm, HB.out⟩
  rw [e1] at c1
  cases e2 : trB us
  · have HF : Hid (vewB (lo, (up, us)) = false) := by simp [Hid, vewB, e2]
    rw [e2] at c2
    clear e1 e2 c3
    go_enter Try.func156, Try.ntmps156
    go_wp2_with fail
    refine (c1 _ (h1.below hB0) (h2.below hB0)).mono ?_
    rintro e w1 ⟨rfl, b1⟩
    have B1 := btr hB0 b1
    have p0 := (kA.below b1).cell 0
    simp at p0
    clear hB0 b1 c1 kA
    go_wp2_with fail
    refine (c2 _ (h3.below updR B1)).mono ?_
    rintro e w2 ⟨rfl, b2⟩
    have HB := Lib.hid (btr B1 b2)
    clear B1 b2 c2 p0
    go_wp2
    go_ret
    exact ⟨ret_bool HF.out.symm, HB.out⟩
  have HF : Hid (((((us.filter (fun e => cvB up e.1.2.1 e.1.2.2)).length : Nat) : Int) == 0) = vewB (lo, (up, us))) := by
    have h0 : vewB (lo, (up, us)) = us.all fun e => !cvB up e.1.2.1 e.1.2.2 := by simp only [vewB, e1, e2, Bool.true_and]
    rw [Hid, h0]
    cases e3 : us.all fun e => !cvB up e.1.2.1 e.1.2.2
    · obtain ⟨x, hx, hc⟩ := List.all_eq_false.1 e3
      have : 0 < (us.filter (fun e => cvB up e.1.2.1 e.1.2.2)).length := List.length_pos_of_mem (List.mem_filter.2 ⟨hx, by simpa using hc⟩)
      simp only [beq_eq_false_iff_ne]
      omega
    · have h2 : us.filter (fun e => cvB up e.1.2.1 e.1.2.2) = [] := List.filter_eq_nil_iff.2 (fun x hx => by have := List.all_eq_true.1 e3 x hx; simpa using this)
      simp only [h2]
      rfl
  rw [e2] at c2
  generalize (us.filter (fun e => cvB up e.1.2.1 e.1.2.2)).length = nW at c3 HF
  clear e1 e2
  go_enter Try.func156, Try.ntmps156
  go_wp2_with fail
  refine (c1 _ (h1.below hB0) (h2.below hB0)).mono ?_
  rintro e w1 ⟨rfl, b1⟩
  have B1 := btr hB0 b1
  have k1 := kA.below b1
  have p0 := k1.cell 0
  simp at p0
  clear hB0 b1 c1 kA
  go_wp2_with fail
  refine (c2 _ (h3.below updR B1)).mono ?_
  rintro e w2 ⟨rfl, b2⟩
  have B2 := btr B1 b2
  have k2 := k1.below b2
  have q0 := k2.cell 0
  have q2 := k2.cell 2
  simp at q0 q2
  clear B1 b2 c2 p0 k1
  go_wp2_with fail
  refine (c3 _ (h3.below updR B2) (h1.below B2) (h2.below B2)).mono ?_
  rintro e w3 ⟨A3, c3', rfl, -, b3⟩
  have HB := Lib.hid (btr B2 b3)
  clear B2 b3 c3 q0 q2 k2
  go_wp2
  go_ret
  exact ⟨ret_bool HF.out, HB.out⟩
end Go.Proofs.Ythefakiobpijiaa

/- HELPER, no statement of the seat: views of the program: copied (view), extended, compacted. -/
namespace Go.Proofs.Ythefakiobpijiaa
open Go.RowKit Go.Sort
set_option linter.unusedSimpArgs false
set_option linter.unusedVariables false

/-- A list of times made in the blocks from bl up to bh. -/
def TmB (xs : List Tm) (bl bh : Nat) (v : Value) (w : World) : Prop := ∃ A c, v = .slice A xs.length c ∧ TmOwn w bl A c xs ∧ ∀ k, blk A = some k → k < bh
def UpB (us : List Upd) (bl bh : Nat) (v : Value) (w : World) : Prop := ∃ A c, v = .slice A us.length c ∧ UpdsOw w (fun k => bl ≤ k ∧ k < bh) A c us
theorem stable_tmB (xs : List Tm) : Rgo.Stable (TmB xs) := fun _ _ _ _ _ hb ⟨A, c, e, h, l⟩ => ⟨A, c, e, h.below hb, l⟩
theorem stable_upB (us : List Upd) : Rgo.Stable (UpB us) := fun _ _ _ _ _ hb ⟨A, c, e, h⟩ => ⟨A, c, e, SlOw.below updO h hb⟩
theorem view_end {w W : World} {A1 A2 A3 : Option Addr} {c1 c2 c3 l1 h1 l2 h2 l3 h3 : Nat} {lo up : List Tm} {us : List Upd} (o1 : TmOwn W l1 A1 c1 lo) (e1 : ∀ k, blk A1 = some k → k < h1) (o2 : TmOwn W l2 A2 c2 up) (e2 : ∀ k, blk A2 = some k → k < h2) (o3 : UpdsOw W (fun k => l3 ≤ k ∧ k < h3) A3 c3 us) (b : Below w.heap.size w W)
    (q1 : w.heap.size + 2 ≤ l1 ∧ l1 ≤ h1 ∧ h1 ≤ W.heap.size) (q2 : w.heap.size + 2 ≤ l2 ∧ l2 ≤ h2 ∧ h2 ≤ W.heap.size) (q3 : w.heap.size + 2 ≤ l3 ∧ l3 ≤ h3 ∧ h3 ≤ W.heap.size) (a12 : h1 ≤ l2 ∨ h2 ≤ l1) (a13 : h1 ≤ l3 ∨ h3 ≤ l1) (a23 : h2 ≤ l3 ∨ h3 ≤ l2) (u0 u1 u2 : Value) :
    BatO (((W.setCell ⟨w.heap.size + 1, 0, none⟩ u0).setCell ⟨w.heap.size + 1, 1, none⟩ u1).setCell ⟨w.heap.size + 1, 2, none⟩ u2) (news w (((W.setCell ⟨w.heap.size + 1, 0, none⟩ u0).setCell ⟨w.heap.size + 1, 1, none⟩ u1).setCell ⟨w.heap.size + 1, 2, none⟩ u2)) [.slice A1 lo.length c1, .slice A2 up.length c2, .slice A3 us.length c3] (lo, (up, us)) ∧ Below w.heap.size w (((W.setCell ⟨w.heap.size + 1, 0, none⟩ u0).setCell ⟨w.heap.size + 1, 1, none⟩ u1).setCell ⟨w.heap.size + 1, 2, none⟩ u2) := by
  have far : ∀ k, w.heap.size + 1 < k → (((W.setCell ⟨w.heap.size + 1, 0, none⟩ u0).setCell ⟨w.heap.size + 1, 1, none⟩ u1).setCell ⟨w.heap.size + 1, 2, none⟩ u2).heap[k]? = W.heap[k]? := fun k hk =>
    (Below.heap_setCell _ _ _ _ (by simp; omega)).trans ((Below.heap_setCell _ _ _ _ (by simp; omega)).trans (Below.heap_setCell _ _ _ _ (by simp; omega)))
  have hsz : (((W.setCell ⟨w.heap.size + 1, 0, none⟩ u0).setCell ⟨w.heap.size + 1, 1, none⟩ u1).setCell ⟨w.heap.size + 1, 2, none⟩ u2).heap.size = W.heap.size := by simp [World.setCell]
  have t1 := fun k hk => (o1.lt k hk).1
  have t2 := fun k hk => (o2.lt k hk).1
  refine ⟨BatO.mk (S1 := fun k => blk A1 = some k) (S2 := fun k => blk A2 = some k) (S3 := fun k => l3 ≤ k ∧ k < h3) (fun q hq => hq.2) ⟨fun k hk => by rw [hsz]; have := e1 k hk; omega, fun k hk => hk, (o1.loc (fun k hk => far k (by have := t1 k hk; omega))).mono (Nat.zero_le _)⟩ ⟨fun k hk => by rw [hsz]; have := e2 k hk; omega, fun k hk => hk, (o2.loc (fun k hk => far k (by have := t2 k hk; omega))).mono (Nat.zero_le _)⟩ (SlOw.loc updO o3 (fun k hk => far k (by have := hk.1; omega)))
    (fun q hq => ⟨⟨by have := t1 q hq; omega, by rw [hsz]; have := e1 q hq; omega⟩, fun e => by have := t1 q hq; have := e1 q hq; have := t2 q e; have := e2 q e; omega, fun e => by have := t1 q hq; have := e1 q hq; have := e.1; have := e.2; omega⟩) (fun q hq => ⟨⟨by have := t2 q hq; omega, by rw [hsz]; have := e2 q hq; omega⟩, fun e => by have := t2 q hq; have := e2 q hq; have := e.1; have := e.2; omega⟩) (fun q hq => ⟨by have := hq.1; omega, by rw [hsz]; have := hq.2; omega⟩), bset (bset (bset b (by simp <;> omega) _) (by simp <;> omega) _) (by simp <;> omega) _⟩
set_option maxRecDepth 100000 in
set_option maxHeartbeats 3200000 in
theorem view_i (LA UA TA : Option Addr) (lc uc tc : Nat) (lo up : List Tm) (us : List Upd) (w : World) (h1 : TimesAt w LA lo) (h2 : TimesAt w UA up) (h3 : UpdsAt w TA us) (n1 : lo.length ≤ 4194304) (n2 : up.length ≤ 4194304) (n3 : us.length ≤ 4194304) (r3 : rowsU us 4194304) :
    Calls Try.prog 99 #[.agg #[.slice TA us.length tc, .slice LA lo.length lc, .slice UA up.length uc]] w fun e w' => ∃ L1 d1 U1 d2 T1 d3, e = .returned (.agg #[.slice L1 lo.length d1, .slice U1 up.length d2, .slice T1 us.length d3]) ∧ BatO w' (news w w') [.slice L1 lo.length d1, .slice U1 up.length d2, .slice T1 us.length d3] (lo, (up, us)) ∧ Below w.heap.size w w' := by
  go_enter Try.func99, Try.ntmps99
  go_wp2_with fail
  refine abs_world (fun W => Below w.heap.size w W ∧ W.heap.size = w.heap.size + 2 ∧ Blk W w.heap.size 129 #[.slice TA us.length tc, .slice LA lo.length lc, .slice UA up.length uc] ∧ Blk W (w.heap.size + 1) 52 #[.slice none 0 0, .slice none 0 0, .slice none 0 0]) ⟨bal (bal (Below.refl _ _) _) _, by simp, (Blk.newAt rfl).alloc _, Blk.newAt (by simp)⟩ ?_
  rintro W0 ⟨hB0, hsz, kA, kR⟩
  have g1 := h1.below hB0
  have g2 := h2.below hB0
  have g3 := h3.below updR hB0
  have cl := fun W (hW : Below W0.heap.size W0 W) => cloneT_i LA lc lo W (g1.below hW) n1
  have cu := fun W (hW : Below W0.heap.size W0 W) => cloneT_i UA uc up W (g2.below hW) n2
  have ci := fun W (hW : Below W0.heap.size W0 W) => copyItems_u TA tc us W (g3.below updR hW) n3 r3
  clear g1 g2 g3 h1 h2 h3
  refine Rgo.wp_region_facts [[], [0], [0, 1], [], [3], [3, 4], [], [6], [6, 7]]
    [fun _ _ v' _ => v' = .pointer (some ⟨w.heap.size, 1, none⟩), fun _ _ v' _ => v' = .slice LA lo.length lc, TmB lo, fun _ _ v' _ => v' = .pointer (some ⟨w.heap.size, 2, none⟩), fun _ _ v' _ => v' = .slice UA up.length uc, TmB up, fun _ _ v' _ => v' = .pointer (some ⟨w.heap.size, 0, none⟩), fun _ _ v' _ => v' = .slice TA us.length tc, UpB us]
    (by kernel_rfl) (by kernel_rfl) rfl ⟨Rgo.stable_pure _, Rgo.stable_pure _, stable_tmB _, Rgo.stable_pure _, Rgo.stable_pure _, stable_tmB _, Rgo.stable_pure _, Rgo.stable_pure _, stable_upB _, trivial⟩ ?_
  refine Rgo.wf_stepK [] [] (by kernel_rfl) (by kernel_rfl) (fun wf hb hf => ?_) (fun t0 l0 h0 => ?_)
  · refine ⟨?_⟩
    go_wp2
    exact ⟨rfl, .pointer (some ⟨w.heap.size, 1, none⟩), by kernel_rfl, Below.refl _ _, rfl⟩
  refine Rgo.wf_stepK [0] [fun _ => t0 = .pointer (some ⟨w.heap.size, 1, none⟩)] (by kernel_rfl) (by kernel_rfl) (fun wf hb hf => ?_) (fun t1 l1 h1 => ?_)
  · obtain ⟨rfl, -⟩ := hf
    refine ⟨?_⟩
    have p0 := (kA.below hb).cell 1
    simp at p0
    go_wp2
    exact ⟨rfl, .slice LA lo.length lc, by kernel_rfl, Below.refl _ _, rfl⟩
  refine Rgo.wf_stepK [1] [fun _ => t1 = .slice LA lo.length lc] (by kernel_rfl) (by kernel_rfl) (fun wf hb hf => ?_) (fun t2 l2 h2 => ?_)
  · obtain ⟨rfl, -⟩ := hf
    refine ⟨?_⟩
    go_wp2_with (go_at_call 141; refine (cl _ hb).mono ?_; rintro e w2 ⟨A', c', rfl, ho, hb2⟩)
    exact ⟨rfl, .slice A' lo.length c', by kernel_rfl, hb2, A', c', rfl, ho, fun k hk => (ho.lt k hk).2⟩
  refine Rgo.wf_stepK [] [] (by kernel_rfl) (by kernel_rfl) (fun wf hb hf => ?_) (fun t3 l3 h3 => ?_)
  · refine ⟨?_⟩
    go_wp2
    exact ⟨rfl, .pointer (some ⟨w.heap.size, 2, none⟩), by kernel_rfl, Below.refl _ _, rfl⟩
  refine Rgo.wf_stepK [3] [fun _ => t3 = .pointer (some ⟨w.heap.size, 2, none⟩)] (by kernel_rfl) (by kernel_rfl) (fun wf hb hf => ?_) (fun t4 l4 h4 => ?_)
  · obtain ⟨rfl, -⟩ := hf
    refine ⟨?_⟩
    have p0 := (kA.below hb).cell 2
    simp at p0
    go_wp2
    exact ⟨rfl, .slice UA up.length uc, by kernel_rfl, Below.refl _ _, rfl⟩
  refine Rgo.wf_stepK [4] [fun _ => t4 = .slice UA up.length uc] (by kernel_rfl) (by kernel_rfl) (fun wf hb hf => ?_) (fun t5 l5 h5 => ?_)
  · obtain ⟨rfl, -⟩ := hf
    refine ⟨?_⟩
    go_wp2_with (go_at_call 141; refine (cu _ hb).mono ?_; rintro e w2 ⟨A', c', rfl, ho, hb2⟩)
    exact ⟨rfl, .slice A' up.length c', by kernel_rfl, hb2, A', c', rfl, ho, fun k hk => (ho.lt k hk).2⟩
  refine Rgo.wf_stepK [] [] (by kernel_rfl) (by kernel_rfl) (fun wf hb hf => ?_) (fun t6 l6 h6 => ?_)
  · refine ⟨?_⟩
    go_wp2
    exact ⟨rfl, .pointer (some ⟨w.heap.size, 0, none⟩), by kernel_rfl, Below.refl _ _, rfl⟩
  refine Rgo.wf_stepK [6] [fun _ => t6 = .pointer (some ⟨w.heap.size, 0, none⟩)] (by kernel_rfl) (by kernel_rfl) (fun wf hb hf => ?_) (fun t7 l7 h7 => ?_)
  · obtain ⟨rfl, -⟩ := hf
    refine ⟨?_⟩
    have p0 := (kA.below hb).cell 0
    simp at p0
    go_wp2
    exact ⟨rfl, .slice TA us.length tc, by kernel_rfl, Below.refl _ _, rfl⟩
  refine Rgo.wf_stepK [7] [fun _ => t7 = .slice TA us.length tc] (by kernel_rfl) (by kernel_rfl) (fun wf hb hf => ?_) (fun t8 l8 h8 => ?_)
  · obtain ⟨rfl, -⟩ := hf
    refine ⟨?_⟩
    go_wp2_with (go_at_call 142; refine (ci _ hb).mono ?_; rintro e w2 ⟨A', c', rfl, ho, hb2⟩)
    exact ⟨rfl, .slice A' us.length c', by kernel_rfl, hb2, A', c', rfl, ho⟩
  refine Rgo.wf_doneK [2, 5, 8] [TmB lo l2 h2 t2, TmB up l5 h5 t5, UpB us l8 h8 t8] (by kernel_rfl) (by kernel_rfl) (fun w9 b9 hf hap hbo => ?_)
  obtain ⟨⟨A1, c1, rfl, o1, e1⟩, ⟨A2, c2, rfl, o2, e2⟩, ⟨A3, c3, rfl, o3⟩, -⟩ := hf
  have a12 : h2 ≤ l5 ∨ h5 ≤ l2 := hap 2 5 (by omega) (by simp)
  have a13 : h2 ≤ l8 ∨ h8 ≤ l2 := hap 2 8 (by omega) (by simp)
  have a23 : h5 ≤ l8 ∨ h8 ≤ l5 := hap 5 8 (by omega) (by simp)
  have q1 : W0.heap.size ≤ l2 ∧ l2 ≤ h2 ∧ h2 ≤ w9.heap.size := hbo 2 (by simp)
  have q2 : W0.heap.size ≤ l5 ∧ l5 ≤ h5 ∧ h5 ≤ w9.heap.size := hbo 5 (by simp)
  have q3 : W0.heap.size ≤ l8 ∧ l8 ≤ h8 ∧ h8 ≤ w9.heap.size := hbo 8 (by simp)
  rw [hsz] at q1 q2 q3
  show wpList _ _ _ [_, _] _ _
  refine wpList_frame (by simp [Act.put]; rfl) ?_
  have HE := Lib.hid (view_end o1 e1 o2 e2 o3 (btr hB0 b9) q1 q2 q3 a12 a13 a23 (.slice A1 lo.length c1) (.slice A2 up.length c2) (.slice A3 us.length c3))
  have kR9 := kR.below b9
  have g0 := kR9.cell 0
  have g1 := kR9.cell 1
  have g2 := kR9.cell 2
  have f0 := kR9.frozen 0
  have f1 := kR9.frozen 1
  have f2 := kR9.frozen 2
  simp at g0 g1 g2
  have kR5 := ((kR9.set_ 0 (.slice A1 lo.length c1)).set_ 1 (.slice A2 up.length c2)).set_ 2 (.slice A3 us.length c3)
  have r0 := kR5.cell 0
  have r1 := kR5.cell 1
  have r2 := kR5.cell 2
  simp at r0 r1 r2
  have HR0 := Lib.hid r0
  have HR1 := Lib.hid r1
  have HR2 := Lib.hid r2
  clear r0 r1 r2 kR5 kR9 kR kA cl cu ci o1 o2 o3 e1 e2 a12 a13 a23 q1 q2 q3 hap hbo b9 hB0 hsz
  go_wp2
  exact bodyPost_ret (v := .agg #[.slice A1 lo.length c1, .slice A2 up.length c2, .slice A3 us.length c3]) (by simp [results, Try.results99, go_sem, HR0.out, HR1.out, HR2.out]) rfl ⟨_, _, _, _, _, _, rfl, HE.out.1, HE.out.2⟩
end Go.Proofs.Ythefakiobpijiaa

/- HELPER, no statement of the seat: the program's AppendView. -/
namespace Go.Proofs.Ythefakiobpijiaa
open Go.RowKit Go.Sort
set_option linter.unusedSimpArgs false
set_option linter.unusedVariables false

/-- A slice that reads as us. -/
def UpsV (us : List Upd) (v : Value) (w : World) : Prop := ∃ A c, v = .slice A us.length c ∧ UpdsAt w A us
/-- A readable trace whose trace reads as us. -/
def RtrV (us : List Upd) (s u : Value) (v : Value) (w : World) : Prop := ∃ A c, v = .agg #[.slice A us.length c, s, u] ∧ UpdsAt w A us
theorem stable_upsV (us : List Upd) : Stable (UpsV us) := fun _ _ _ hb ⟨A, c, e, h⟩ => ⟨A, c, e, h.below updR hb⟩
theorem stable_rtrV (us : List Upd) (s u : Value) : Stable (RtrV us s u) := fun _ _ _ hb ⟨A, c, e, h⟩ => ⟨A, c, e, h.below updR hb⟩
set_option maxRecDepth 100000 in
set_option maxHeartbeats 6400000 in
theorem extended_i (LA UA TA RA VA : Option Addr) (lc uc tc rc vc : Nat) (lo up : List Tm) (us tr : List Upd) (u : List Tm) (w : World) (h1 : TimesAt w LA lo) (h2 : TimesAt w UA up) (h3 : UpdsAt w TA us) (h4 : UpdsAt w RA tr) (h5 : TimesAt w VA u) (k3 : us.length ≤ tc) (k4 : tr.length ≤ rc)
    (n1 : lo.length ≤ 4194304) (n2 : up.length ≤ 4194304) (n3 : us.length ≤ 4194304) (r3 : rowsU us 4194304) (n4 : tr.length ≤ 4194304) (r4 : rowsU tr 4194304) (n5 : u.length ≤ 4194304) :
    Calls Try.prog 98 #[.agg #[.slice TA us.length tc, .slice LA lo.length lc, .slice UA up.length uc], .slice RA tr.length rc, .slice VA u.length vc] w fun e w' => ∃ A1 m1 c1 A2 m2 c2 A3 m3 c3, e = .returned (.tuple #[.agg #[.slice A1 m1 c1, .slice A2 m2 c2, .slice A3 m3 c3], .bool (appOk (lo, (up, us)) tr u)]) ∧
      (appOk (lo, (up, us)) tr u = true → m1 = (mrgT us tr).length ∧ UpdsAt w' A1 (mrgT us tr) ∧ A2 = LA ∧ m2 = lo.length ∧ c2 = lc ∧ A3 = VA ∧ m3 = u.length ∧ c3 = vc) ∧ Below w.heap.size w w' := by
  have cv := fun W (hW : Below w.heap.size w W) => isValidR_i LA UA TA lc uc tc lo up us W (h1.below hW) (h2.below hW) (h3.below updR hW) n1 n2 n3 r3
  have cb := fun W (hW : Below w.heap.size w W) => isValidB_i UA VA RA uc vc rc up u tr W (h2.below hW) (h5.below hW) (h4.below updR hW) n2 n5 n4 r4
  have hB0 : Below w.heap.size w (((w.alloc (.cells #[.slice TA us.length tc, .slice LA lo.length lc, .slice UA up.length uc] 129)).alloc (.cells #[.slice none 0 0, .slice none 0 0, .slice none 0 0] 129)).alloc (.cells #[.slice RA tr.length rc, .slice UA up.length uc, .slice VA u.length vc] 100)) := bal (bal (bal (Below.refl _ _) _) _) _
  have kA : Blk (((w.alloc (.cells #[.slice TA us.length tc, .slice LA lo.length lc, .slice UA up.length uc] 129)).alloc (.cells #[.slice none 0 0, .slice none 0 0, .slice none 0 0] 129)).alloc (.cells #[.slice RA tr.length rc, .slice UA up.length uc, .slice VA u.length vc] 100)) w.heap.size 129 #[.slice TA us.length tc, .slice LA lo.length lc, .slice UA up.length uc] := ((Blk.newAt rfl).alloc _).alloc _
  have kR : Blk (((w.alloc (.cells #[.slice TA us.length tc, .slice LA lo.length lc, .slice UA up.length uc] 129)).alloc (.cells #[.slice none 0 0, .slice none 0 0, .slice none 0 0] 129)).alloc (.cells #[.slice RA tr.length rc, .slice UA up.length uc, .slice VA u.length vc] 100)) (w.heap.size + 1) 129 #[.slice none 0 0, .slice none 0 0, .slice none 0 0] := (Blk.newAt (by simp)).alloc _
  have kM : Blk (((w.alloc (.cells #[.slice TA us.length tc, .slice LA lo.length lc, .slice UA up.length uc] 129)).alloc (.cells #[.slice none 0 0, .slice none 0 0, .slice none 0 0] 129)).alloc (.cells #[.slice RA tr.length rc, .slice UA up.length uc, .slice VA u.length vc] 100)) (w.heap.size + 2) 100 #[.slice RA tr.length rc, .slice UA up.length uc, .slice VA u.length vc] := Blk.newAt (by simp)
  cases e1 : vewB (lo, (up, us))
  · have cv1 := cv _ hB0
    rw [e1] at cv1
    have HF : Hid (appOk (lo, (up, us)) tr u = false) := by simp [Hid, appOk, e1]
    clear e1 cb cv kA kM
    go_enter Try.func98, Try.ntmps98
    go_wp2_with fail
    refine cv1.mono ?_
    rintro e w1 ⟨rfl, b1⟩
    have kR1 := kR.below b1
    have g0 := kR1.cell 0
    have g1 := kR1.cell 1
    have g2 := kR1.cell 2
    have f0 := kR1.frozen 0
    have f1 := kR1.frozen 1
    have f2 := kR1.frozen 2
    simp at g0 g1 g2
    have kR5 := ((kR1.set_ 0 (.slice none 0 0)).set_ 1 (.slice none 0 0)).set_ 2 (.slice none 0 0)
    have r0 := kR5.cell 0
    have r1 := kR5.cell 1
    have r2 := kR5.cell 2
    simp at r0 r1 r2
    have HR := Lib.hid (And.intro r0 (And.intro r1 r2))
    have HB := Lib.hid (btr hB0 b1)
    clear cv1 b1 kR kR1 kR5 r0 r1 r2 hB0
    go_wp2
    refine bodyPost_ret (v := .tuple #[.agg #[.slice none 0 0, .slice none 0 0, .slice none 0 0], .bool false]) (by simp [results, Try.results98, go_sem, HR.out.1, HR.out.2.1, HR.out.2.2]) rfl ⟨none, 0, 0, none, 0, 0, none, 0, 0, by rw [HF.out], (fun h => by rw [HF.out] at h; cases h), bset (bset (bset HB.out (by simp <;> omega) _) (by simp <;> omega) _) (by simp <;> omega) _⟩
  have cv1 := cv _ hB0
  rw [e1] at cv1
  cases e2 : batB (up, (u, tr))
  · have cb1 := fun W (hW : Below w.heap.size w W) => cb W hW
    rw [e2] at cb1
    have HF : Hid (appOk (lo, (up, us)) tr u = false) := by simp [Hid, appOk, e2]
    clear e1 e2 cb cv kA
    go_enter Try.func98, Try.ntmps98
    go_wp2_with fail
    refine cv1.mono ?_
    rintro e w1 ⟨rfl, b1⟩
    have B1 := btr hB0 b1
    have m0 := (kM.below b1).cell 0
    have m1 := (kM.below b1).cell 1
    have m2 := (kM.below b1).cell 2
    simp at m0 m1 m2
    clear cv1 hB0
    go_wp2_with fail
    refine (cb1 _ B1).mono ?_
    rintro e w2 ⟨rfl, b2⟩
    have kR1 := kR.below (btr b1 b2)
    have g0 := kR1.cell 0
    have g1 := kR1.cell 1
    have g2 := kR1.cell 2
    have f0 := kR1.frozen 0
    have f1 := kR1.frozen 1
    have f2 := kR1.frozen 2
    simp at g0 g1 g2
    have kR5 := ((kR1.set_ 0 (.slice none 0 0)).set_ 1 (.slice none 0 0)).set_ 2 (.slice none 0 0)
    have r0 := kR5.cell 0
    have r1 := kR5.cell 1
    have r2 := kR5.cell 2
    simp at r0 r1 r2
    have HR := Lib.hid (And.intro r0 (And.intro r1 r2))
    have HB := Lib.hid (btr B1 b2)
    clear cb1 b1 b2 kR kR1 kR5 r0 r1 r2 B1 m0 m1 m2 kM
    go_wp2
    refine bodyPost_ret (v := .tuple #[.agg #[.slice none 0 0, .slice none 0 0, .slice none 0 0], .bool false]) (by simp [results, Try.results98, go_sem, HR.out.1, HR.out.2.1, HR.out.2.2]) rfl ⟨none, 0, 0, none, 0, 0, none, 0, 0, by rw [HF.out], (fun h => by rw [HF.out] at h; cases h), bset (bset (bset HB.out (by simp <;> omega) _) (by simp <;> omega) _) (by simp <;> omega) _⟩
  have hva := app_vew (b := (lo, (up, us))) (tr := tr) (u := u) e1 e2
  have HOK : Hid (appOk (lo, (up, us)) tr u = vewB (lo, (u, mrgT us tr))) := by
    rw [Hid, appOk, e1, e2]
    exact hva.symm
  have hlen := mrg_len us tr
  have HZ := Lib.hid (And.intro (vew_parts e1).2.1 (bat_parts e2).2.1)
  have hl1 : us.length ≤ 400 := trB_len HZ.out.1
  have hl2 : tr.length ≤ 400 := trB_len HZ.out.2
  have hmr : rowsU (mrgT us tr) 4194304 := mrg_rows r3 r4
  have hml : (mrgT us tr).length ≤ 4194304 := by omega
  have cb1 := fun W (hW : Below w.heap.size w W) => cb W hW
  rw [e2] at cb1
  have cm := fun W (hW : Below w.heap.size w W) => sumOfSorted_u TA tc us RA rc tr W (h3.below updR hW) (h4.below updR hW) k3 k4 HZ.out.1 HZ.out.2
  have cw := fun A c W (hW : Below w.heap.size w W) (hx : UpdsAt W A (mrgT us tr)) => isValidR_i LA VA A lc vc c lo u (mrgT us tr) W (h1.below hW) (h5.below hW) hx n1 n5 hml hmr
  have hcm : nz (AddLU us tr) = mrgT us tr := rfl
  rw [hcm] at cm
  clear hva hlen hcm e1 e2 cv cb hl1 hl2
  generalize mrgT us tr = M at *
  generalize appOk (lo, (up, us)) tr u = ok at *
  generalize vewB (lo, (u, M)) = vm at *
  go_enter Try.func98, Try.ntmps98
  go_wp2_with fail
  refine cv1.mono ?_
  rintro e w1 ⟨rfl, b1⟩
  have B1 := btr hB0 b1
  have m0 := (kM.below b1).cell 0
  have m1 := (kM.below b1).cell 1
  have m2 := (kM.below b1).cell 2
  simp at m0 m1 m2
  clear cv1 hB0
  go_wp2_with fail
  refine (cb1 _ B1).mono ?_
  rintro e w2 ⟨rfl, b2⟩
  have B2 := btr B1 b2
  have kA2 := kA.below (btr b1 b2)
  have kR2 := kR.below (btr b1 b2)
  have kM2 := kM.below (btr b1 b2)
  clear b1 b2 kA kR kM m0 m1 m2 B1 cb1
  go_wp2_with fail
  refine wp_region_facts [[], [0], [], [2], [0, 1, 2, 3], [], [5], [], [0, 1, 2, 3, 4, 5, 6, 7], []]
    [fun v' _ => v' = .pointer (some ⟨w.heap.size, 0, none⟩), fun v' _ => v' = .slice TA us.length tc, fun v' _ => v' = .pointer (some ⟨w.heap.size + 2, 0, none⟩), fun v' _ => v' = .slice RA tr.length rc, UpsV M, fun v' _ => v' = .pointer (some ⟨w.heap.size, 1, none⟩), fun v' _ => v' = .slice LA lo.length lc, fun v' _ => v' = .slice VA u.length vc, RtrV M (.slice LA lo.length lc) (.slice VA u.length vc), AtBlk w2.heap.size 129 #[.slice none 0 0, .slice none 0 0, .slice none 0 0]]
    (by kernel_rfl) (by kernel_rfl) rfl ⟨stable_pure _, stable_pure _, stable_pure _, stable_pure _, stable_upsV _, stable_pure _, stable_pure _, stable_pure _, stable_rtrV _ _ _, stable_atBlk _ _ _, trivial⟩ ?_
  refine wf_stepK [] [] (by kernel_rfl) (by kernel_rfl) (fun wf hb hf => ?_) (fun t0 => ?_)
  · refine ⟨?_⟩
    go_wp2
    exact ⟨rfl, .pointer (some ⟨w.heap.size, 0, none⟩), by kernel_rfl, Below.refl _ _, rfl⟩
  refine wf_stepK [0] [fun _ => t0 = .pointer (some ⟨w.heap.size, 0, none⟩)] (by kernel_rfl) (by kernel_rfl) (fun wf hb hf => ?_) (fun t1 => ?_)
  · obtain ⟨rfl, -⟩ := hf
    refine ⟨?_⟩
    have p0 := (kA2.below hb).cell 0
    simp at p0
    go_wp2
    exact ⟨rfl, .slice TA us.length tc, by kernel_rfl, Below.refl _ _, rfl⟩
  refine wf_stepK [] [] (by kernel_rfl) (by kernel_rfl) (fun wf hb hf => ?_) (fun t2 => ?_)
  · refine ⟨?_⟩
    go_wp2
    exact ⟨rfl, .pointer (some ⟨w.heap.size + 2, 0, none⟩), by kernel_rfl, Below.refl _ _, rfl⟩
  refine wf_stepK [2] [fun _ => t2 = .pointer (some ⟨w.heap.size + 2, 0, none⟩)] (by kernel_rfl) (by kernel_rfl) (fun wf hb hf => ?_) (fun t3 => ?_)
  · obtain ⟨rfl, -⟩ := hf
    refine ⟨?_⟩
    have p0 := (kM2.below hb).cell 0
    simp at p0
    go_wp2
    exact ⟨rfl, .slice RA tr.length rc, by kernel_rfl, Below.refl _ _, rfl⟩
  refine wf_stepK [1, 3] [fun _ => t1 = .slice TA us.length tc, fun _ => t3 = .slice RA tr.length rc] (by kernel_rfl) (by kernel_rfl) (fun wf hb hf => ?_) (fun t4 => ?_)
  · obtain ⟨rfl, rfl, -⟩ := hf
    refine ⟨?_⟩
    go_wp2_with (go_at_call 140; refine (cm _ (btr B2 hb)).mono ?_; rintro e w3 ⟨A', c', rfl, hx, hb2⟩)
    exact ⟨rfl, .slice A' M.length c', by kernel_rfl, hb2, A', c', rfl, hx⟩
  refine wf_stepK [] [] (by kernel_rfl) (by kernel_rfl) (fun wf hb hf => ?_) (fun t5 => ?_)
  · refine ⟨?_⟩
    go_wp2
    exact ⟨rfl, .pointer (some ⟨w.heap.size, 1, none⟩), by kernel_rfl, Below.refl _ _, rfl⟩
  refine wf_stepK [5] [fun _ => t5 = .pointer (some ⟨w.heap.size, 1, none⟩)] (by kernel_rfl) (by kernel_rfl) (fun wf hb hf => ?_) (fun t6 => ?_)
  · obtain ⟨rfl, -⟩ := hf
    refine ⟨?_⟩
    have p0 := (kA2.below hb).cell 1
    simp at p0
    go_wp2
    exact ⟨rfl, .slice LA lo.length lc, by kernel_rfl, Below.refl _ _, rfl⟩
  refine wf_stepK [] [] (by kernel_rfl) (by kernel_rfl) (fun wf hb hf => ?_) (fun t7 => ?_)
  · refine ⟨?_⟩
    go_wp2
    exact ⟨rfl, .slice VA u.length vc, by kernel_rfl, Below.refl _ _, rfl⟩
  refine wf_stepK [4, 6, 7] [UpsV M t4, fun _ => t6 = .slice LA lo.length lc, fun _ => t7 = .slice VA u.length vc] (by kernel_rfl) (by kernel_rfl) (fun wf hb hf => ?_) (fun t8 => ?_)
  · obtain ⟨⟨A', c', rfl, hx⟩, rfl, rfl, -⟩ := hf
    refine ⟨?_⟩
    go_wp2
    exact ⟨rfl, .agg #[.slice A' M.length c', .slice LA lo.length lc, .slice VA u.length vc], by kernel_rfl, Below.refl _ _, A', c', rfl, hx⟩
  refine wf_stepK [] [] (by kernel_rfl) (by kernel_rfl) (fun wf hb hf => ?_) (fun t9 => ?_)
  · refine ⟨?_⟩
    have hs := hb.size
    go_wp2
    exact ⟨rfl, .pointer (some ⟨wf.heap.size, 0, none⟩), by kernel_rfl, bal (Below.refl _ _) _, wf.heap.size, rfl, hs, Blk.newAt rfl⟩
  refine wf_doneK [8, 9] [RtrV M (.slice LA lo.length lc) (.slice VA u.length vc) t8, AtBlk w2.heap.size 129 #[.slice none 0 0, .slice none 0 0, .slice none 0 0] t9] (by kernel_rfl) (by kernel_rfl) (fun w9 b9 hf => ?_)
  obtain ⟨⟨A, c, rfl, hx⟩, ⟨g, rfl, hg, kG⟩, -⟩ := hf
  show wpList _ _ _ [_] _ _
  refine wpList_frame (by simp [Act.put]; rfl) ?_
  have g0 := kG.cell 0
  have g1 := kG.cell 1
  have g2 := kG.cell 2
  have f0 := kG.frozen 0
  have f1 := kG.frozen 1
  have f2 := kG.frozen 2
  simp at g0 g1 g2
  have hgB : w.heap.size + 3 ≤ g := by have := B2.size; have h9 := kR2.lt; have h8 := kM2.lt; omega
  have hx3 : UpdsAt (((w9.setCell ⟨g, 0, none⟩ (.slice A M.length c)).setCell ⟨g, 1, none⟩ (.slice LA lo.length lc)).setCell ⟨g, 2, none⟩ (.slice VA u.length vc)) A M :=
    hx.box kG noInt3 ((((GrownS.refl w9 (fun k => k = g)).set_ rfl _).set_ rfl _).set_ rfl _)
  have kG3 := ((kG.set_ 0 (.slice A M.length c)).set_ 1 (.slice LA lo.length lc)).set_ 2 (.slice VA u.length vc)
  have kR3 := (((kR2.below b9).far (p := ⟨g, 0, none⟩) (by simp; omega) (.slice A M.length c)).far (p := ⟨g, 1, none⟩) (by simp; omega) (.slice LA lo.length lc)).far (p := ⟨g, 2, none⟩) (by simp; omega) (.slice VA u.length vc)
  have B3 := bset (bset (bset (btr B2 b9) (p := ⟨g, 0, none⟩) (by simp; omega) (.slice A M.length c)) (p := ⟨g, 1, none⟩) (by simp; omega) (.slice LA lo.length lc)) (p := ⟨g, 2, none⟩) (by simp; omega) (.slice VA u.length vc)
  have H3 := Lib.hid (And.intro B3 (And.intro kG3 (And.intro kR3 hx3)))
  clear hx3 kG3 kR3 B3 hx kG kR2 kA2 kM2 B2 b9 cm
  go_wp2_with fail
  refine abs_world (fun W => Below w.heap.size w W ∧ Blk W g 129 #[.slice A M.length c, .slice LA lo.length lc, .slice VA u.length vc] ∧ Blk W (w.heap.size + 1) 129 #[.slice none 0 0, .slice none 0 0, .slice none 0 0] ∧ UpdsAt W A M) (by simpa using H3.out) ?_
  rintro w4 ⟨B4, kG, kR, hx⟩
  have cx := fun W (hW : Below w4.heap.size w4 W) => cw A c W (btr B4 hW) (hx.below updR hW)
  clear H3 g0 g1 g2 f0 f1 f2 cw
  refine wp_region_facts [[], [], [1]] [fun v' _ => v' = .agg #[.slice A M.length c, .slice LA lo.length lc, .slice VA u.length vc], fun v' _ => v' = .agg #[.slice A M.length c, .slice LA lo.length lc, .slice VA u.length vc], fun v' _ => v' = .bool vm]
    (by kernel_rfl) (by kernel_rfl) rfl ⟨stable_pure _, stable_pure _, stable_pure _, trivial⟩ ?_
  refine wf_stepK [] [] (by kernel_rfl) (by kernel_rfl) (fun wf hb hf => ?_) (fun t0 => ?_)
  · refine ⟨?_⟩
    have p0 := (kG.below hb).cell 0
    have p1 := (kG.below hb).cell 1
    have p2 := (kG.below hb).cell 2
    simp at p0 p1 p2
    go_wp2
    exact ⟨rfl, .agg #[.slice A M.length c, .slice LA lo.length lc, .slice VA u.length vc], by kernel_rfl, Below.refl _ _, rfl⟩
  refine wf_stepK [] [] (by kernel_rfl) (by kernel_rfl) (fun wf hb hf => ?_) (fun t1 => ?_)
  · refine ⟨?_⟩
    have p0 := (kG.below hb).cell 0
    have p1 := (kG.below hb).cell 1
    have p2 := (kG.below hb).cell 2
    simp at p0 p1 p2
    go_wp2
    exact ⟨rfl, .agg #[.slice A M.length c, .slice LA lo.length lc, .slice VA u.length vc], by kernel_rfl, Below.refl _ _, rfl⟩
  refine wf_stepK [1] [fun _ => t1 = .agg #[.slice A M.length c, .slice LA lo.length lc, .slice VA u.length vc]] (by kernel_rfl) (by kernel_rfl) (fun wf hb hf => ?_) (fun t2 => ?_)
  · obtain ⟨rfl, -⟩ := hf
    refine ⟨?_⟩
    go_wp2_with (go_at_call 156; refine (cx _ hb).mono ?_; rintro e w3 ⟨rfl, hb2⟩)
    exact ⟨rfl, .bool vm, by kernel_rfl, hb2, rfl⟩
  refine wf_doneK [0, 2] [fun _ => t0 = .agg #[.slice A M.length c, .slice LA lo.length lc, .slice VA u.length vc], fun _ => t2 = .bool vm] (by kernel_rfl) (by kernel_rfl) (fun w9 b9 hf => ?_)
  obtain ⟨rfl, rfl, -⟩ := hf
  show wpList _ _ _ [_, _] _ _
  refine wpList_frame (by simp [Act.put]; rfl) ?_
  have kR9 := kR.below b9
  have g0 := kR9.cell 0
  have g1 := kR9.cell 1
  have g2 := kR9.cell 2
  have f0 := kR9.frozen 0
  have f1 := kR9.frozen 1
  have f2 := kR9.frozen 2
  simp at g0 g1 g2
  have kR5 := ((kR9.set_ 0 (.slice A M.length c)).set_ 1 (.slice LA lo.length lc)).set_ 2 (.slice VA u.length vc)
  have r0 := kR5.cell 0
  have r1 := kR5.cell 1
  have r2 := kR5.cell 2
  simp at r0 r1 r2
  have HR := Lib.hid (And.intro r0 (And.intro r1 r2))
  have HB := Lib.hid (btr B4 b9)
  have HX : Hid (UpdsAt (((w9.setCell ⟨w.heap.size + 1, 0, none⟩ (.slice A M.length c)).setCell ⟨w.heap.size + 1, 1, none⟩ (.slice LA lo.length lc)).setCell ⟨w.heap.size + 1, 2, none⟩ (.slice VA u.length vc)) A M) :=
    UpdsAt.box kR9 noInt3 ((((GrownS.refl w9 (fun k => k = w.heap.size + 1)).set_ rfl _).set_ rfl _).set_ rfl _) (hx.below updR b9)
  clear kG kR kR9 kR5 r0 r1 r2 hx cx b9 B4
  go_wp2
  exact bodyPost_ret (v := .tuple #[.agg #[.slice A M.length c, .slice LA lo.length lc, .slice VA u.length vc], .bool vm]) (by simp [results, Try.results98, go_sem, HR.out.1, HR.out.2.1, HR.out.2.2]) rfl ⟨A, _, c, LA, _, lc, VA, _, vc, by rw [HOK.out], (fun _ => ⟨rfl, HX.out, rfl, rfl, rfl, rfl, rfl, rfl⟩), bset (bset (bset HB.out (by simp <;> omega) _) (by simp <;> omega) _) (by simp <;> omega) _⟩
theorem batO_zero (w : World) {S : Fp} (hS : ∀ q, S q → q < w.heap.size) : BatO w S [.slice none 0 0, .slice none 0 0, .slice none 0 0] (([] : List Tm), (([] : List Tm), ([] : List Upd))) := by
  have hn : ∀ S' : Fp, (∀ q, S' q → q < w.heap.size) → TmOwS w S' none 0 [] := fun S' h => ⟨h, fun k hk => by simp [blk] at hk, World.ownsRow_nil _ _ _ _⟩
  exact BatO.mk (S1 := fun _ => False) (S2 := fun _ => False) (S3 := fun _ => False) hS (hn _ (fun _ h => h.elim)) (hn _ (fun _ h => h.elim)) (SlOw.nil (fun _ h => h.elim)) (fun _ h => h.elim) (fun _ h => h.elim) (fun _ h => h.elim)
/-- A view that was made, behind the store of it into the cell of the result. -/
theorem batO_cell {w w3 W : World} {L1 U1 T1 : Option Addr} {d1 d2 d3 : Nat} {lo up : List Tm} {us : List Upd} (o : BatO W (news w3 W) [.slice L1 lo.length d1, .slice U1 up.length d2, .slice T1 us.length d3] (lo, (up, us))) (b : Below w.heap.size w W) (hs : w.heap.size + 1 < w3.heap.size) (u0 u1 u2 : Value) :
    BatO (((W.setCell ⟨w.heap.size + 1, 0, none⟩ u0).setCell ⟨w.heap.size + 1, 1, none⟩ u1).setCell ⟨w.heap.size + 1, 2, none⟩ u2) (news w (((W.setCell ⟨w.heap.size + 1, 0, none⟩ u0).setCell ⟨w.heap.size + 1, 1, none⟩ u1).setCell ⟨w.heap.size + 1, 2, none⟩ u2)) [.slice L1 lo.length d1, .slice U1 up.length d2, .slice T1 us.length d3] (lo, (up, us)) ∧ Below w.heap.size w (((W.setCell ⟨w.heap.size + 1, 0, none⟩ u0).setCell ⟨w.heap.size + 1, 1, none⟩ u1).setCell ⟨w.heap.size + 1, 2, none⟩ u2) := by
  have far : ∀ k, w3.heap.size ≤ k → (((W.setCell ⟨w.heap.size + 1, 0, none⟩ u0).setCell ⟨w.heap.size + 1, 1, none⟩ u1).setCell ⟨w.heap.size + 1, 2, none⟩ u2).heap[k]? = W.heap[k]? := fun k hk =>
    (Below.heap_setCell _ _ _ _ (by simp; omega)).trans ((Below.heap_setCell _ _ _ _ (by simp; omega)).trans (Below.heap_setCell _ _ _ _ (by simp; omega)))
  have hsz : (((W.setCell ⟨w.heap.size + 1, 0, none⟩ u0).setCell ⟨w.heap.size + 1, 1, none⟩ u1).setCell ⟨w.heap.size + 1, 2, none⟩ u2).heap.size = W.heap.size := by simp [World.setCell]
  exact ⟨batO.mono (batO.loc o (fun k hk => far k hk.1)) (fun k hk => ⟨by have := hk.1; omega, by rw [hsz]; exact hk.2⟩) (fun k hk => hk.2), bset (bset (bset b (by simp <;> omega) _) (by simp <;> omega) _) (by simp <;> omega) _⟩
set_option maxRecDepth 100000 in
set_option maxHeartbeats 3200000 in
theorem AppendView_i (LA UA TA RA VA : Option Addr) (lc uc tc rc vc : Nat) (lo up : List Tm) (us tr : List Upd) (u : List Tm) (w : World) (h1 : TimesAt w LA lo) (h2 : TimesAt w UA up) (h3 : UpdsAt w TA us) (h4 : UpdsAt w RA tr) (h5 : TimesAt w VA u) (k3 : us.length ≤ tc) (k4 : tr.length ≤ rc)
    (n1 : lo.length ≤ 4194304) (n2 : up.length ≤ 4194304) (n3 : us.length ≤ 4194304) (r3 : rowsU us 4194304) (n4 : tr.length ≤ 4194304) (r4 : rowsU tr 4194304) (n5 : u.length ≤ 4194304) :
    Calls Try.prog 31 #[.agg #[.slice LA lo.length lc, .slice UA up.length uc, .slice TA us.length tc], .slice RA tr.length rc, .slice VA u.length vc] w fun e w' => ∃ L1 d1 U1 d2 T1 d3, e = .returned (.tuple #[.agg #[.slice L1 (appV (lo, (up, us)) tr u).1.length d1, .slice U1 (appV (lo, (up, us)) tr u).2.1.length d2, .slice T1 (appV (lo, (up, us)) tr u).2.2.length d3], .bool (appOk (lo, (up, us)) tr u)]) ∧
      BatO w' (news w w') [.slice L1 (appV (lo, (up, us)) tr u).1.length d1, .slice U1 (appV (lo, (up, us)) tr u).2.1.length d2, .slice T1 (appV (lo, (up, us)) tr u).2.2.length d3] (appV (lo, (up, us)) tr u) ∧ Below w.heap.size w w' := by
  have hB0 : Below w.heap.size w ((w.alloc (.cells #[.slice LA lo.length lc, .slice UA up.length uc, .slice TA us.length tc] 52)).alloc (.cells #[.slice none 0 0, .slice none 0 0, .slice none 0 0] 52)) := bal (bal (Below.refl _ _) _) _
  have kR : Blk ((w.alloc (.cells #[.slice LA lo.length lc, .slice UA up.length uc, .slice TA us.length tc] 52)).alloc (.cells #[.slice none 0 0, .slice none 0 0, .slice none 0 0] 52)) (w.heap.size + 1) 52 #[.slice none 0 0, .slice none 0 0, .slice none 0 0] := Blk.newAt (by simp)
  have cx := fun W (hW : Below w.heap.size w W) => extended_i LA UA TA RA VA lc uc tc rc vc lo up us tr u W (h1.below hW) (h2.below hW) (h3.below updR hW) (h4.below updR hW) (h5.below hW) k3 k4 n1 n2 n3 r3 n4 r4 n5
  have hml : appOk (lo, (up, us)) tr u = true → (mrgT us tr).length ≤ 4194304 := fun h => by
    simp only [appOk, Bool.and_eq_true] at h
    have := (trB_parts h.2.2).1
    omega
  have hmr : rowsU (mrgT us tr) 4194304 := mrg_rows r3 r4
  have cy := fun (h : appOk (lo, (up, us)) tr u = true) A c W (hW : Below w.heap.size w W) (hx : UpdsAt W A (mrgT us tr)) => view_i LA VA A lc vc c lo u (mrgT us tr) W (h1.below hW) (h5.below hW) hx n1 n5 (hml h) hmr
  cases hok : appOk (lo, (up, us)) tr u
  · have HV : Hid (appV (lo, (up, us)) tr u = ([], ([], []))) := by simp [Hid, appV, hok]
    rw [hok] at cx
    clear hok cy hml hmr
    rw [HV.out]
    go_enter Try.func31, Try.ntmps31
    go_wp2_with fail
    refine (readableOf_i _ _ _ _ _ _ _ _ _ _).mono ?_
    rintro e w1 ⟨rfl, b1⟩
    have B1 := btr hB0 b1
    go_wp2_with fail
    refine (cx _ B1).mono ?_
    rintro e w2 ⟨A1, m1, c1, A2, m2, c2, A3, m3, c3, rfl, -, b2⟩
    have kR2 := kR.below (btr b1 b2)
    have B2 := btr B1 b2
    have g0 := kR2.cell 0
    have g1 := kR2.cell 1
    have g2 := kR2.cell 2
    have f0 := kR2.frozen 0
    have f1 := kR2.frozen 1
    have f2 := kR2.frozen 2
    simp at g0 g1 g2
    have hlt := kR2.lt
    have kR5 := (((kR2.set_ 0 (.slice none 0 0)).set_ 1 (.slice none 0 0)).set_ 2 (.slice none 0 0)).alloc (.cells #[.slice A1 m1 c1, .slice A2 m2 c2, .slice A3 m3 c3] 129)
    have r0 := kR5.cell 0
    have r1 := kR5.cell 1
    have r2 := kR5.cell 2
    simp at r0 r1 r2
    have HR := Lib.hid (And.intro r0 (And.intro r1 r2))
    have HB := Lib.hid (bal (bset (bset (bset B2 (p := ⟨w.heap.size + 1, 0, none⟩) (by simp <;> omega) (.slice none 0 0)) (p := ⟨w.heap.size + 1, 1, none⟩) (by simp <;> omega) (.slice none 0 0)) (p := ⟨w.heap.size + 1, 2, none⟩) (by simp <;> omega) (.slice none 0 0)) (.cells #[.slice A1 m1 c1, .slice A2 m2 c2, .slice A3 m3 c3] 129))
    clear cx b1 b2 kR kR2 kR5 r0 r1 r2 B1 B2 hB0
    go_wp2
    exact bodyPost_ret (v := .tuple #[.agg #[.slice none 0 0, .slice none 0 0, .slice none 0 0], .bool false]) (by simp [results, Try.results31, go_sem, HR.out.1, HR.out.2.1, HR.out.2.2]) rfl ⟨none, 0, none, 0, none, 0, rfl, batO_zero _ (fun q hq => hq.2), HB.out⟩
  · have HV : Hid (appV (lo, (up, us)) tr u = (lo, (u, mrgT us tr))) := by simp [Hid, appV, hok]
    have cy1 := cy hok
    rw [hok] at cx
    clear hok cy hml hmr
    rw [HV.out]
    go_enter Try.func31, Try.ntmps31
    go_wp2_with fail
    refine (readableOf_i _ _ _ _ _ _ _ _ _ _).mono ?_
    rintro e w1 ⟨rfl, b1⟩
    have B1 := btr hB0 b1
    go_wp2_with fail
    refine (cx _ B1).mono ?_
    rintro e w2 ⟨A1, m1, c1, A2, m2, c2, A3, m3, c3, rfl, hX, b2⟩
    obtain ⟨rfl, hx, rfl, rfl, rfl, rfl, rfl, rfl⟩ := hX (by simp)
    have kR2 := kR.below (btr b1 b2)
    have B2 := btr B1 b2
    have kR3 := kR2.alloc (.cells #[.slice A1 (mrgT us tr).length c1, .slice A2 lo.length c2, .slice A3 u.length c3] 129)
    have HB3 := Lib.hid (bal B2 (.cells #[.slice A1 (mrgT us tr).length c1, .slice A2 lo.length c2, .slice A3 u.length c3] 129))
    have HX3 := Lib.hid (hx.below updR (bal (Below.refl w2.heap.size w2) (.cells #[.slice A1 (mrgT us tr).length c1, .slice A2 lo.length c2, .slice A3 u.length c3] 129)))
    clear cx b1 b2 kR kR2 B1 B2 hB0 hx
    go_wp2_with fail
    refine absI (fun W => Below w.heap.size w W ∧ Blk W (w.heap.size + 1) 52 #[.slice none 0 0, .slice none 0 0, .slice none 0 0] ∧ UpdsAt W A1 (mrgT us tr)) ⟨HB3.out, kR3, HX3.out⟩ ?_
    rintro w3 ⟨B3, kR4, hx⟩
    refine (cy1 A1 c1 w3 B3 hx).mono ?_
    rintro e w4 ⟨L1, d1, U1, d2, T1, d3, rfl, o4, b4⟩
    have kR9 := kR4.below b4
    have g0 := kR9.cell 0
    have g1 := kR9.cell 1
    have g2 := kR9.cell 2
    have f0 := kR9.frozen 0
    have f1 := kR9.frozen 1
    have f2 := kR9.frozen 2
    simp at g0 g1 g2
    have kR5 := ((kR9.set_ 0 (.slice L1 lo.length d1)).set_ 1 (.slice U1 u.length d2)).set_ 2 (.slice T1 (mrgT us tr).length d3)
    have r0 := kR5.cell 0
    have r1 := kR5.cell 1
    have r2 := kR5.cell 2
    simp at r0 r1 r2
    have HR := Lib.hid (And.intro r0 (And.intro r1 r2))
    have HO := Lib.hid (batO_cell (lo := lo) (up := u) (us := mrgT us tr) o4 (btr B3 b4) (by have := B3.size; have := kR4.lt; omega) (.slice L1 lo.length d1) (.slice U1 u.length d2) (.slice T1 (mrgT us tr).length d3))
    clear kR9 kR4 kR5 kR3 r0 r1 r2 o4 b4 B3 hx cy1 HB3 HX3
    go_wp2
    exact bodyPost_ret (v := .tuple #[.agg #[.slice L1 lo.length d1, .slice U1 u.length d2, .slice T1 (mrgT us tr).length d3], .bool true]) (by simp [results, Try.results31, go_sem, HR.out.1, HR.out.2.1, HR.out.2.2]) rfl ⟨L1, d1, U1, d2, T1, d3, rfl, HO.out.1, HO.out.2⟩
end Go.Proofs.Ythefakiobpijiaa

/- HELPER, no statement of the seat: the program's CompactView. -/
namespace Go.Proofs.Ythefakiobpijiaa
open Go.RowKit Go.Sort
set_option linter.unusedSimpArgs false
set_option linter.unusedVariables false

end Go.Proofs.Ythefakiobpijiaa
