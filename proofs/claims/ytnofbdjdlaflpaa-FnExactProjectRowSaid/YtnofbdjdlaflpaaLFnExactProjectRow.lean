/- The law FnExactProjectRow returns true at every two lists of numbers; no condition. -/
import Derived.Test.YtnofbdjdlaflpaaIntOwn
import Derived.Carry
import Derived.ChangeOld
import Derived.Lib.SmallJoins
namespace Go.Proofs.Ytnofbdjdlaflpaa
open Go.ChangeShapes Go.WideShapes Go.ChangeAt Go.RowKit
set_option linter.unusedVariables false
set_option linter.unusedSimpArgs false

theorem Blk.kept {w w' : World} {g : Nat} {t : TypeId} {cs : Array Value} {row : Option Nat} (h : Blk w g t cs) (hg : w.grownBy w' row) (hne : row ≠ some g) : Blk w' g t cs := (hg.block g h.lt (fun e => hne e.symm)).trans h
theorem projR_le {xs cols : List Int} : (projR xs cols).length ≤ cols.length := by
  unfold projR
  split
  · simp [projL]
  · simp
set_option maxRecDepth 100000 in
set_option maxHeartbeats 4000000 in
theorem FnExactProjectRow_walk (A : Option Addr) (c : Nat) (xs : List Int) (B : Option Addr) (d : Nat) (cols : List Int) (w : World) (hx : IntsAt w A xs) (hy : IntsAt w B cols) :
    Calls Try.prog 11 #[.slice A xs.length c, .slice B cols.length d] w fun e w' => e = .returned (.bool true) ∧ Below w.heap.size w w' := by
  by_cases hbig : 1048576 < xs.length
  · have hb' : (1048576 : Int) < xs.length := by omega
    go_enter Try.func11, Try.ntmps11
    go_wp2
    go_ret
    exact ⟨rfl, Below.refl _ _⟩
  by_cases hbig2 : 1048576 < cols.length
  · have hb0 : (xs.length : Int) ≤ 1048576 := by omega
    have hb' : (1048576 : Int) < cols.length := by omega
    go_enter Try.func11, Try.ntmps11
    go_wp2
    go_ret
    exact ⟨rfl, Below.refl _ _⟩
  have hb' : (xs.length : Int) ≤ 1048576 := by omega
  have hb2 : (cols.length : Int) ≤ 1048576 := by omega
  have hn : xs.length * 8 ≤ 140737488351232 := by omega
  have hm : cols.length * 8 ≤ 140737488351232 := by omega
  have hrl := projR_le (xs := xs) (cols := cols)
  have hr : (projR xs cols).length * 8 ≤ 140737488351232 := by omega
  have ht : decide (projR xs cols = projR xs cols) = true := by simp
  have htx : decide (xs = xs) = true := by simp
  have hty : decide (cols = cols) = true := by simp
  have hpb : (projB xs cols != projB xs cols) = false := by simp
  have hq : ((1 + ((projR xs cols).length : Int)) != (1 + ((projR xs cols).length : Int))) = false := by simp
  go_enter Try.func11, Try.ntmps11
  go_wp2_with fail
  refine (toIntS_any _ _ _ _ hx hn).mono ?_
  rintro e w1 ⟨rfl, k1, b1⟩
  go_wp2_with fail
  refine (toIntS_any _ _ _ _ (hy.below b1) hm).mono ?_
  rintro e w2 ⟨rfl, k2, b2⟩
  have B2 := btr b1 b2
  go_wp2_with fail
  refine (ProjectRow_s _ _ _ _ _ _ _ (.ofBlk (k1.below b2)) (.ofBlk k2) (by omega) (by omega)).mono ?_
  rintro e w3 ⟨A0, c0, rfl, o3, b3⟩
  have B3 := btr B2 b3
  go_wp2_with fail
  refine (toIntS_any _ _ _ _ (hx.below B3) hn).mono ?_
  rintro e w4 ⟨rfl, k4, b4⟩
  have B4 := btr B3 b4
  go_wp2_with fail
  refine (toIntS_any _ _ _ _ (hy.below B4) hm).mono ?_
  rintro e w5 ⟨rfl, k5, b5⟩
  have B5 := btr B4 b5
  go_wp2_with fail
  refine (ProjectRow_i _ _ _ _ _ _ _ (.ofBlk (k4.below b5)) (.ofBlk k5) (by omega) (by omega)).mono ?_
  rintro e w6 ⟨A6, c6, rfl, o6, b6⟩
  have B6 := btr B5 b6
  go_wp2_with fail
  refine (eqIntS_any _ _ _ _ _ _ _ o6.at_ (o3.below (btr (btr b4 b5) b6)).at_ hr hr).mono ?_
  rintro e w7 ⟨rfl, b7⟩
  have B7 := btr B6 b7
  go_wp2_with fail
  refine (toIntS_any _ _ _ _ (hx.below B7) hn).mono ?_
  rintro e w8 ⟨rfl, k8, b8⟩
  have B8 := btr B7 b8
  go_wp2_with fail
  refine (eqIntS_any _ _ _ _ _ _ _ (.ofBlk (k4.below (btr (btr (btr b5 b6) b7) b8))) (.ofBlk k8) hn hn).mono ?_
  rintro e w9 ⟨rfl, b9⟩
  have B9 := btr B8 b9
  go_wp2_with fail
  refine (toIntS_any _ _ _ _ (hy.below B9) hm).mono ?_
  rintro e w10 ⟨rfl, k10, b10⟩
  have B10 := btr B9 b10
  go_wp2_with fail
  refine (eqIntS_any _ _ _ _ _ _ _ (.ofBlk (k5.below (btr (btr (btr (btr b6 b7) b8) b9) b10))) (.ofBlk k10) hm hm).mono ?_
  rintro e w11 ⟨rfl, b11⟩
  have B11 := btr B10 b11
  have t11 := btr (btr (btr (btr (btr b6 b7) b8) b9) b10) b11
  have f0 := o3.below (btr (btr b4 b5) t11)
  have fx := k4.below (btr b5 t11)
  have fy := k5.below t11
  have fg := o6.below (btr (btr (btr (btr b7 b8) b9) b10) b11)
  have s23 := b3.size
  have s34 := k4.lt
  have s35 := b5.size
  have s45 := k5.lt
  have s56 := b6.size
  have s1 := B2.size
  have hw0 : ∀ a, A0 = some a → a.block < w3.heap.size := fun a e => by
    rcases o3.form with ⟨e1, _⟩ | ⟨g, e1, h1, h2⟩
    · rw [e1] at e; cases e
    · rw [e1] at e; injection e with e; subst e; exact h2
  have hg0 : ∀ a, A6 = some a → w5.heap.size ≤ a.block := fun a e => by
    rcases o6.form with ⟨e1, _⟩ | ⟨g, e1, h1, h2⟩
    · rw [e1] at e; cases e
    · rw [e1] at e; injection e with e; subst e; exact h1
  clear k1 k2 k4 k5 k8 k10 o3 o6
  go_wp2_with fail
  refine (markIntS_any 0 _ _ _ 1 _ (IntsOwn.ofBlk fx (Nat.zero_le _) (by unfold maxLen; omega)) (by omega) (by omega) (by omega)).mono ?_
  rintro e w12 ⟨rfl, o12, g12⟩
  have g12' : w11.grownBy w12 (some w3.heap.size) := g12
  have B12 := below_of_grown B11 g12' (fun j e => by injection e with e; omega)
  have f0' := f0.kept g12' (fun a e h => by have := hw0 a e; injection h with h; omega)
  have fy' := fy.kept g12' (by intro h; injection h with h; omega)
  have fg' := fg.kept g12' (fun a e h => by have := hg0 a e; injection h with h; omega)
  clear f0 fx fy fg o12 g12 g12'
  go_wp2_with fail
  refine (markIntS_any 0 _ _ _ _ _ (IntsOwn.ofBlk fy' (Nat.zero_le _) (by unfold maxLen; omega)) (by omega) (by omega) (by omega)).mono ?_
  rintro e w13 ⟨rfl, o13, g13⟩
  have g13' : w12.grownBy w13 (some w4.heap.size) := g13
  have B13 := below_of_grown B12 g13' (fun j e => by injection e with e; omega)
  have f0 := f0'.kept g13' (fun a e h => by have := hw0 a e; injection h with h; omega)
  have fg := fg'.kept g13' (fun a e h => by have := hg0 a e; injection h with h; omega)
  clear f0' fy' fg' o13 g13 g13'
  go_wp2_with fail
  refine (eqIntS_any _ _ _ _ _ _ _ fg.at_ f0.at_ hr hr).mono ?_
  rintro e w14 ⟨rfl, b14⟩
  have B14 := btr B13 b14
  go_wp2_with fail
  refine (markIntS_any _ _ _ _ _ _ (fg.below b14) (by omega) (by omega) (by omega)).mono ?_
  rintro e w15 ⟨rfl, o15, g15⟩
  have B15 := below_of_grown B14 g15 (fun j e => by
    cases hA : A6 with
    | none => rw [hA] at e; cases e
    | some a => rw [hA] at e; simp only [Option.map_some, Option.some.injEq] at e; have := hg0 a hA; omega)
  have f15 := (f0.below b14).kept g15 (fun a e h => by
    have h0 := hw0 a e
    cases hA : A6 with
    | none => rw [hA] at h; cases h
    | some a' => rw [hA] at h; simp only [Option.map_some, Option.some.injEq] at h; have := hg0 a' hA; omega)
  clear f0 fg g15
  have h15 : IntsAt w15 A6 (marks 1 (projR xs cols).length) := by have := o15.at_; exact this
  go_wp2_with fail
  refine (heldIntS_any _ _ _ _ _ h15 (by omega) (by omega) (by omega)).mono ?_
  rintro e w16 ⟨rfl, rfl⟩
  go_wp2_with fail
  refine (toIntS_any _ _ _ _ (hx.below B15) hn).mono ?_
  rintro e w17 ⟨rfl, k17, b17⟩
  have B17 := btr B15 b17
  go_wp2_with fail
  refine (toIntS_any _ _ _ _ (hy.below B17) hm).mono ?_
  rintro e w18 ⟨rfl, k18, b18⟩
  have B18 := btr B17 b18
  go_wp2_with fail
  refine (ProjectRow_i _ _ _ _ _ _ _ (.ofBlk (k17.below b18)) (.ofBlk k18) (by omega) (by omega)).mono ?_
  rintro e w19 ⟨A9, c9, rfl, o19, b19⟩
  have B19 := btr B18 b19
  go_wp2_with fail
  refine (eqIntS_any _ _ _ _ _ _ _ o19.at_ (f15.below (btr (btr b17 b18) b19)).at_ hr hr).mono ?_
  rintro e w20 ⟨rfl, b20⟩
  have B20 := btr B19 b20
  go_wp2_with fail
  refine (heldIntS_any _ _ _ _ _ (h15.below (btr (btr (btr b17 b18) b19) b20)) (by omega) (by omega) (by omega)).mono ?_
  rintro e w21 ⟨rfl, rfl⟩
  go_wp2_with fail
  go_ret
  exact ⟨rfl, B20⟩

namespace lawFnExactProjectRow
theorem own : ownKnob Try.prog.godebug = none := by kernel_rfl
theorem laidOut : laidOutB Try.prog = true := by kernel_rfl
set_option maxRecDepth 100000 in
theorem lifted (os : Os) (started : os.Started) (H : Type) (enc : TypeId × Value → H) :
    ReturnsInHanded {} Try.checked os 11 .any (Rows.fnExactProjectRowSpec.pre6 enc Try.prog Try.f11 Rows.fnExactProjectRowRow.domain false) (Rows.fnExactProjectRowSpec.post enc Try.prog Try.f11 false true false false) := by
  refine returnsInHanded_of_change (C := Try.checked) own started (by kernel_rfl) Try.func11
    (ChangeSpec.witness6 (enc := enc) (C := Try.checked) false ⟨#[], #[.slice none 0 0, .slice none 0 0], []⟩ 8 (by kernel_rfl) (by kernel_rfl) (by kernel_rfl) (by kernel_rfl)) ?_
  intro W base args ds gs before hval0 hW hcnd _
  have hval : ∀ (j : Nat) t v, Try.f11.params[j]? = some t → args[j]? = some v → Value.okWide Try.prog W .any base t v := hval0
  have hW' := hW
  obtain ⟨p, q, hA0, hV, rfl, hfz, hnd⟩ := hW
  have hA : DataW.TrodAll enc Try.prog W 0 (fun _ => true) true Try.f11.params.toList args.toList ds p := hA0
  rw [Try.params11] at hA hval
  obtain ⟨v0, vs0, d0, ds0, p0, q0, hargs, rfl, rfl, h0, r0⟩ := trodAll_cons hA
  obtain ⟨v1, vs1, d1, ds1, p1, q1, rfl, rfl, rfl, h1, r1⟩ := trodAll_cons r0
  obtain ⟨rfl, rfl, rfl⟩ := trodAll_nil r1
  obtain rfl : args = #[v0, v1] := by cases args; simp_all
  obtain ⟨rfl, rfl⟩ := trodVars_none hV
  have k0 := h0
  have lt0 : ∀ x ∈ p0, x.block < W.heap.size := by obtain ⟨m, hm⟩ := k0; exact DataW.trod_lt m _ _ _ hm
  obtain ⟨a0, len0, cap0, rfl⟩ := okWide_slice Try.underlying40 (hval 0 40 v0 rfl rfl)
  obtain ⟨z0, rfl, w0⟩ := ints_of Try.underlying40 Try.underlying3 (by kernel_rfl) h0
  have k1 := h1
  have lt1 : ∀ x ∈ p1, x.block < W.heap.size := by obtain ⟨m, hm⟩ := k1; exact DataW.trod_lt m _ _ _ hm
  obtain ⟨a1, len1, cap1, rfl⟩ := okWide_slice Try.underlying40 (hval 1 40 v1 rfl rfl)
  obtain ⟨z1, rfl, w1⟩ := ints_of Try.underlying40 Try.underlying3 (by kernel_rfl) h1
  clear hA0 hval0
  refine (FnExactProjectRow_walk a0 cap0 z0 a1 cap1 z1 W w0 w1).mono fun e W' ⟨he, bel⟩ => ?_
  subst he
  exact ⟨_, rfl, _, _, _, [], _, [], hW', trodAll_mk1 (shut_bool Try.underlying4 _), (trodAll_cons_mk (Below.trod laidOut (by kernel_rfl) (of_decide_eq_true (by kernel_rfl)) k0 bel lt0) (trodAll_cons_mk (Below.trod laidOut (by kernel_rfl) (of_decide_eq_true (by kernel_rfl)) k1 bel lt1) trodAll_mk0)), rfl, bel.frame _, fun h => by cases h⟩

theorem over : Rows.fnExactProjectRowRow.holds Try.pinned (OpenSpec.ofChange Rows.fnExactProjectRowSpec) :=
  OpenClaim.holds_of_wide 11 Try.f11 rfl rfl rfl rfl rfl rfl rfl ⟨rfl, rfl, rfl, rfl, rfl⟩ rfl rfl rfl rfl rfl (by kernel_rfl) Try.func11 (by kernel_rfl)
    (of_decide_eq_true (by kernel_rfl)) (by unfold Func.isWrapper; first | (rw [if_pos (by decide +kernel)]; kernel_rfl) | (rw [if_neg (by decide +kernel)]; exact ⟨rfl, rfl⟩))
    (fun os started H enc _ => lifted os started H enc)

/-- THE STATEMENT. -/
theorem proved : Rows.FnExactProjectRowSaid := over
end lawFnExactProjectRow
end Go.Proofs.Ytnofbdjdlaflpaa
