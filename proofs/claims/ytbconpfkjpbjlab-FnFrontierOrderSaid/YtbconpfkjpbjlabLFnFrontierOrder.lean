/- The law FnFrontierOrder returns true at every two codes; no condition. -/
import Derived.Test.YtbconpfkjpbjlabDrawH
import Derived.Test.YtbconpfkjpbjlabEqM
import Derived.Test.YtbconpfkjpbjlabFrO
import Derived.Test.YtbconpfkjpbjlabClo
import Derived.Carry
import Derived.ChangeOld
import Derived.Lib.SmallJoins
import Derived.Lib.QuietBelow
namespace Go.Proofs.Ytbconpfkjpbjlab
open Go.ChangeShapes Go.WideShapes Go.ChangeAt Go.RowKit Go.Sort
set_option linter.unusedVariables false
set_option linter.unusedSimpArgs false

theorem absCF {P : Program} {f : FuncId} {args : Array Value} {w : World} {Q : Ending → World → Prop} (R : World → Prop) (h : R w) (k : ∀ W, R W → Calls P f args W Q) : Calls P f args w Q := k w h
theorem validO {A : Option Addr} {c : Nat} {fr : List Tm} {w : World} (r : Bool) (he : frB fr = r) (hx : TimesAt w A fr) (hn : fr.length ≤ 4194304) :
    Calls Try.prog 7 #[.slice A fr.length c] w fun e w' => e = .returned (.bool r) ∧ Below w.heap.size w w' := he ▸ ValidFrontier_i A c fr w hx hn
theorem coversO {A : Option Addr} {c : Nat} {fr : List Tm} {u v : Int} {w : World} (r : Bool) (he : fcB fr u v = r) (hx : TimesAt w A fr) (hn : fr.length ≤ 4194304) :
    Calls Try.prog 10 #[.slice A fr.length c, .agg #[.int .i64 u, .int .i64 v]] w fun e w' => e = .returned (.bool r) ∧ Below w.heap.size w w' := he ▸ FrontierCovers_i A c fr u v w hx hn
theorem leqO {A B : Option Addr} {c d : Nat} {x y : List Tm} {w : World} (r : Bool) (he : flB x y = r) (hx : TimesAt w A x) (hy : TimesAt w B y) (hn : x.length ≤ 4194304) (hm : y.length ≤ 4194304) :
    Calls Try.prog 5 #[.slice A x.length c, .slice B y.length d] w fun e w' => e = .returned (.bool r) ∧ Below w.heap.size w w' := he ▸ FrontierLessEqual_i A c x B d y w hx hn hy hm
theorem leqO_s {A B : Option Addr} {c d : Nat} {x y : List Tm} {w : World} (r : Bool) (he : flB x y = r) (hx : TimesAt w A x) (hy : TimesAt w B y) (hn : x.length ≤ 4194304) (hm : y.length ≤ 4194304) :
    Calls Try.prog 6 #[.slice A x.length c, .slice B y.length d] w fun e w' => e = .returned (.bool r) ∧ Below w.heap.size w w' := he ▸ FrontierLessEqual_s A c x B d y w hx hn hy hm

set_option maxRecDepth 100000 in
set_option maxHeartbeats 6400000 in
theorem FnFrontierOrder_walk (A : Option Addr) (n c : Nat) (AA : Option Addr) (nn cc : Nat) (w : World) (hc : n ≤ c) (hl : n ≤ maxLen) (hb : BytesAt w w.heap.size A n) (hcc : nn ≤ cc) (hll : nn ≤ maxLen) (hbb : BytesAt w w.heap.size AA nn) :
    Calls Try.prog 3 #[.slice A n c, .slice AA nn cc] w fun e w' => e = .returned (.bool true) ∧ Below w.heap.size w w' := by
  unfold maxLen at hl hll
  by_cases hbign : 1048576 < n
  · have hb' : (1048576 : Int) < n := by omega
    go_enter Try.func3, Try.ntmps3
    go_wp2
    go_ret
    exact ⟨rfl, Below.refl _ _⟩
  have hbn' : (n : Int) ≤ 1048576 := by omega
  by_cases hbignn : 1048576 < nn
  · have hb' : (1048576 : Int) < nn := by omega
    go_enter Try.func3, Try.ntmps3
    go_wp2
    go_ret
    exact ⟨rfl, Below.refl _ _⟩
  have hbnn' : (nn : Int) ≤ 1048576 := by omega
  have HB := Lib.hid hb
  clear hb hbign
  have HBB := Lib.hid hbb
  clear hbb hbignn
  go_enter Try.func3, Try.ntmps3
  go_wp2_with fail
  refine (DrawFrontierLessEqual_r _ _ _ _ HB.out hc (by omega)).mono ?_
  rintro e w1 ⟨x, y, Ax, Ay, cx, cy, rfl, hox, hoy, hxl, hyl, B1⟩
  have nx : x.length ≤ 4194304 := by omega
  have ny : y.length ≤ 4194304 := by omega
  have hx1 := hox.at_
  have hy1 := hoy.at_
  clear hox hoy
  obtain ⟨L, hL⟩ : ∃ L, flB x y = L := ⟨_, rfl⟩
  have HLL := Lib.hid hL
  clear hL
  go_wp2_with fail
  refine (leqO L HLL.out hx1 hy1 nx ny).mono ?_
  rintro e w2 ⟨rfl, b2⟩
  have B2 := btr B1 b2
  have hx2 := hx1.below b2
  have hy2 := hy1.below b2
  clear hx1 hy1 b2
  go_wp2_with fail
  refine (leqO_s L HLL.out hx2 hy2 nx ny).mono ?_
  rintro e w3 ⟨rfl, b3⟩
  have B3 := btr B2 b3
  have hx3 := hx2.below b3
  have hy3 := hy2.below b3
  clear hx2 hy2 b3
  have hLL : (L != L) = false := by simp
  have hLE : (L == L) = true := by simp
  cases hF : frB x
  · have HF := Lib.hid hF
    clear hF
    go_wp2_with fail
    refine (validO false HF.out hx3 nx).mono ?_
    rintro e w4 ⟨rfl, b4⟩
    have B4 := btr B3 b4
    have hx4 := hx3.below b4
    have hy4 := hy3.below b4
    clear hx3 hy3 b4
    go_wp2_with fail
    refine (leqO_s L HLL.out hx4 hy4 nx ny).mono ?_
    rintro e w5 ⟨rfl, b5⟩
    have B5 := btr B4 b5
    have hx5 := hx4.below b5
    have hy5 := hy4.below b5
    clear hx4 hy4 b5
    go_wp2_with fail
    go_ret
    exact ⟨rfl, B5⟩
  have HF := Lib.hid hF
  clear hF
  cases hG : frB y
  · have HG := Lib.hid hG
    clear hG
    go_wp2_with fail
    refine (validO true HF.out hx3 nx).mono ?_
    rintro e w4 ⟨rfl, b4⟩
    have B4 := btr B3 b4
    have hx4 := hx3.below b4
    have hy4 := hy3.below b4
    clear hx3 hy3 b4
    go_wp2_with fail
    refine (validO false HG.out hy4 ny).mono ?_
    rintro e w5 ⟨rfl, b5⟩
    have B5 := btr B4 b5
    have hx5 := hx4.below b5
    have hy5 := hy4.below b5
    clear hx4 hy4 b5
    go_wp2_with fail
    refine (leqO_s L HLL.out hx5 hy5 nx ny).mono ?_
    rintro e w6 ⟨rfl, b6⟩
    have B6 := btr B5 b6
    have hx6 := hx5.below b6
    have hy6 := hy5.below b6
    clear hx5 hy5 b6
    go_wp2_with fail
    go_ret
    exact ⟨rfl, B6⟩
  have HG := Lib.hid hG
  clear hG
  go_wp2_with fail
  refine (validO true HF.out hx3 nx).mono ?_
  rintro e w4 ⟨rfl, b4⟩
  have B4 := btr B3 b4
  have hx4 := hx3.below b4
  have hy4 := hy3.below b4
  clear hx3 hy3 b4
  go_wp2_with fail
  refine (validO true HG.out hy4 ny).mono ?_
  rintro e w5 ⟨rfl, b5⟩
  have B5 := btr B4 b5
  have hx5 := hx4.below b5
  have hy5 := hy4.below b5
  clear hx4 hy4 b5
  have hbb : BytesAt w5 w5.heap.size AA nn := fun hp => by
    obtain ⟨b, off, e, h1, h2⟩ := (HBB.out.below B5 (Nat.le_refl _)) hp
    exact ⟨b, off, e, by have := B5.size; omega, h2⟩
  go_wp2_with fail
  refine (DrawVT_r _ _ _ _ hbb hcc (by omega)).mono ?_
  rintro e w6 ⟨tx, ty, rfl, b6⟩
  clear hbb
  have B6 := btr B5 b6
  have hx6 := hx5.below b6
  have hy6 := hy5.below b6
  clear hx5 hy5 b6
  go_wp2_with fail
  refine absCF (fun W => Below w6.heap.size w6 W ∧ Blk W w6.heap.size 29 #[.int .i64 tx, .int .i64 ty]) ⟨bal (Below.refl _ _) _, Blk.newAt rfl⟩ ?_
  rintro w7 ⟨b7, hk7⟩
  have B7 := btr B6 b7
  have hx7 := hx6.below b7
  have hy7 := hy6.below b7
  clear hx6 hy6 b7
  cases L
  · refine (leqO true (fl_refl HF.out) hx7 hx7 nx nx).mono ?_
    rintro e w8 ⟨rfl, b8⟩
    have B8 := btr B7 b8
    have hx8 := hx7.below b8
    have hy8 := hy7.below b8
    have hk8 := hk7.below b8
    clear hx7 hy7 hk7 b8
    go_wp2_with fail
    go_ret
    exact ⟨rfl, B8⟩
  cases hR : flB y x
  · have HR := Lib.hid hR
    clear hR
    cases hC : fcB y tx ty
    · have HC := Lib.hid hC
      clear hC
      refine (leqO true (fl_refl HF.out) hx7 hx7 nx nx).mono ?_
      rintro e w8 ⟨rfl, b8⟩
      have B8 := btr B7 b8
      have hx8 := hx7.below b8
      have hy8 := hy7.below b8
      have hk8 := hk7.below b8
      clear hx7 hy7 hk7 b8
      have t0 := hk8.cell 0
      have t1 := hk8.cell 1
      simp at t0 t1
      go_wp2_with fail
      refine (leqO false HR.out hy8 hx8 ny nx).mono ?_
      rintro e w9 ⟨rfl, b9⟩
      have B9 := btr B8 b9
      have hx9 := hx8.below b9
      have hy9 := hy8.below b9
      have hk9 := hk8.below b9
      clear hx8 hy8 hk8 b9
      clear t0 t1
      have t0 := hk9.cell 0
      have t1 := hk9.cell 1
      simp at t0 t1
      go_wp2_with fail
      refine (coversO false HC.out hy9 ny).mono ?_
      rintro e w10 ⟨rfl, b10⟩
      have B10 := btr B9 b10
      have hx10 := hx9.below b10
      have hy10 := hy9.below b10
      have hk10 := hk9.below b10
      clear hx9 hy9 hk9 b10
      clear t0 t1
      go_wp2_with fail
      go_ret
      exact ⟨rfl, B10⟩
    · have HC := Lib.hid hC
      clear hC
      refine (leqO true (fl_refl HF.out) hx7 hx7 nx nx).mono ?_
      rintro e w8 ⟨rfl, b8⟩
      have B8 := btr B7 b8
      have hx8 := hx7.below b8
      have hy8 := hy7.below b8
      have hk8 := hk7.below b8
      clear hx7 hy7 hk7 b8
      have t0 := hk8.cell 0
      have t1 := hk8.cell 1
      simp at t0 t1
      go_wp2_with fail
      refine (leqO false HR.out hy8 hx8 ny nx).mono ?_
      rintro e w9 ⟨rfl, b9⟩
      have B9 := btr B8 b9
      have hx9 := hx8.below b9
      have hy9 := hy8.below b9
      have hk9 := hk8.below b9
      clear hx8 hy8 hk8 b9
      clear t0 t1
      have t0 := hk9.cell 0
      have t1 := hk9.cell 1
      simp at t0 t1
      go_wp2_with fail
      refine (coversO true HC.out hy9 ny).mono ?_
      rintro e w10 ⟨rfl, b10⟩
      have B10 := btr B9 b10
      have hx10 := hx9.below b10
      have hy10 := hy9.below b10
      have hk10 := hk9.below b10
      clear hx9 hy9 hk9 b10
      clear t0 t1
      have t0 := hk10.cell 0
      have t1 := hk10.cell 1
      simp at t0 t1
      go_wp2_with fail
      refine (coversO true (fl_covers HLL.out HC.out) hx10 nx).mono ?_
      rintro e w11 ⟨rfl, b11⟩
      have B11 := btr B10 b11
      have hx11 := hx10.below b11
      have hy11 := hy10.below b11
      have hk11 := hk10.below b11
      clear hx10 hy10 hk10 b11
      clear t0 t1
      go_wp2_with fail
      go_ret
      exact ⟨rfl, B11⟩
  · have HR := Lib.hid hR
    clear hR
    cases hC : fcB y tx ty
    · have HC := Lib.hid hC
      clear hC
      refine (leqO true (fl_refl HF.out) hx7 hx7 nx nx).mono ?_
      rintro e w8 ⟨rfl, b8⟩
      have B8 := btr B7 b8
      have hx8 := hx7.below b8
      have hy8 := hy7.below b8
      have hk8 := hk7.below b8
      clear hx7 hy7 hk7 b8
      have t0 := hk8.cell 0
      have t1 := hk8.cell 1
      simp at t0 t1
      go_wp2_with fail
      refine (leqO true HR.out hy8 hx8 ny nx).mono ?_
      rintro e w9 ⟨rfl, b9⟩
      have B9 := btr B8 b9
      have hx9 := hx8.below b9
      have hy9 := hy8.below b9
      have hk9 := hk8.below b9
      clear hx8 hy8 hk8 b9
      clear t0 t1
      have t0 := hk9.cell 0
      have t1 := hk9.cell 1
      simp at t0 t1
      go_wp2_with fail
      refine (equalM true (decide_eq_true (fl_antisymm HLL.out HR.out)) hx9 hy9 nx ny).mono ?_
      rintro e w10 ⟨rfl, b10⟩
      have B10 := btr B9 b10
      have hx10 := hx9.below b10
      have hy10 := hy9.below b10
      have hk10 := hk9.below b10
      clear hx9 hy9 hk9 b10
      clear t0 t1
      have t0 := hk10.cell 0
      have t1 := hk10.cell 1
      simp at t0 t1
      go_wp2_with fail
      refine (coversO false HC.out hy10 ny).mono ?_
      rintro e w11 ⟨rfl, b11⟩
      have B11 := btr B10 b11
      have hx11 := hx10.below b11
      have hy11 := hy10.below b11
      have hk11 := hk10.below b11
      clear hx10 hy10 hk10 b11
      clear t0 t1
      go_wp2_with fail
      go_ret
      exact ⟨rfl, B11⟩
    · have HC := Lib.hid hC
      clear hC
      refine (leqO true (fl_refl HF.out) hx7 hx7 nx nx).mono ?_
      rintro e w8 ⟨rfl, b8⟩
      have B8 := btr B7 b8
      have hx8 := hx7.below b8
      have hy8 := hy7.below b8
      have hk8 := hk7.below b8
      clear hx7 hy7 hk7 b8
      have t0 := hk8.cell 0
      have t1 := hk8.cell 1
      simp at t0 t1
      go_wp2_with fail
      refine (leqO true HR.out hy8 hx8 ny nx).mono ?_
      rintro e w9 ⟨rfl, b9⟩
      have B9 := btr B8 b9
      have hx9 := hx8.below b9
      have hy9 := hy8.below b9
      have hk9 := hk8.below b9
      clear hx8 hy8 hk8 b9
      clear t0 t1
      have t0 := hk9.cell 0
      have t1 := hk9.cell 1
      simp at t0 t1
      go_wp2_with fail
      refine (equalM true (decide_eq_true (fl_antisymm HLL.out HR.out)) hx9 hy9 nx ny).mono ?_
      rintro e w10 ⟨rfl, b10⟩
      have B10 := btr B9 b10
      have hx10 := hx9.below b10
      have hy10 := hy9.below b10
      have hk10 := hk9.below b10
      clear hx9 hy9 hk9 b10
      clear t0 t1
      have t0 := hk10.cell 0
      have t1 := hk10.cell 1
      simp at t0 t1
      go_wp2_with fail
      refine (coversO true HC.out hy10 ny).mono ?_
      rintro e w11 ⟨rfl, b11⟩
      have B11 := btr B10 b11
      have hx11 := hx10.below b11
      have hy11 := hy10.below b11
      have hk11 := hk10.below b11
      clear hx10 hy10 hk10 b11
      clear t0 t1
      have t0 := hk11.cell 0
      have t1 := hk11.cell 1
      simp at t0 t1
      go_wp2_with fail
      refine (coversO true (fl_covers HLL.out HC.out) hx11 nx).mono ?_
      rintro e w12 ⟨rfl, b12⟩
      have B12 := btr B11 b12
      have hx12 := hx11.below b12
      have hy12 := hy11.below b12
      have hk12 := hk11.below b12
      clear hx11 hy11 hk11 b12
      clear t0 t1
      go_wp2_with fail
      go_ret
      exact ⟨rfl, B12⟩

namespace lawFnFrontierOrder
theorem own : ownKnob Try.prog.godebug = none := by kernel_rfl
theorem laidOut : laidOutB Try.prog = true := clo_laid
set_option maxRecDepth 100000 in
theorem lifted (os : Os) (started : os.Started) (H : Type) (enc : TypeId × Value → H) :
    ReturnsInHanded {} Try.checked os 3 .any (Rows.fnFrontierOrderSpec.pre6 enc Try.prog Try.f3 Rows.fnFrontierOrderRow.domain false) (Rows.fnFrontierOrderSpec.post enc Try.prog Try.f3 false true false false) := by
  refine returnsInHanded_of_change (C := Try.checked) own started (by kernel_rfl) Try.func3
    (ChangeSpec.witness6 (enc := enc) (C := Try.checked) false ⟨#[], #[.slice none 0 0, .slice none 0 0], []⟩ 8 (by kernel_rfl) (by kernel_rfl) (by kernel_rfl) (by kernel_rfl)) ?_
  intro W base args ds gs before hval0 hW hcnd _
  have hval : ∀ (j : Nat) t v, Try.f3.params[j]? = some t → args[j]? = some v → Value.okWide Try.prog W .any base t v := hval0
  have hW' := hW
  obtain ⟨p, q, hA0, hV, rfl, hfz, hnd⟩ := hW
  have hA : DataW.TrodAll enc Try.prog W 0 (fun _ => true) true Try.f3.params.toList args.toList ds p := hA0
  rw [Try.params3] at hA hval
  obtain ⟨v0, vs0, d0, ds0, p0, q0, hargs, rfl, rfl, h0, r0⟩ := trodAll_cons hA
  obtain ⟨v1, vs1, d1, ds1, p1, q1, rfl, rfl, rfl, h1, r1⟩ := trodAll_cons r0
  obtain ⟨rfl, rfl, rfl⟩ := trodAll_nil r1
  obtain rfl : args = #[v0, v1] := by cases args; simp_all
  obtain ⟨rfl, rfl⟩ := trodVars_none hV
  have k0 := h0
  have lt0 : ∀ x ∈ p0, x.block < W.heap.size := by obtain ⟨m, hm⟩ := k0; exact DataW.trod_lt m _ _ _ hm
  obtain ⟨a0, len0, cap0, rfl⟩ := okWide_slice Try.underlying22 (hval 0 22 v0 rfl rfl)
  obtain ⟨l0, m0, w0⟩ := bytes_of Try.underlying22 Try.underlying5 (by kernel_rfl) h0
  have k1 := h1
  have lt1 : ∀ x ∈ p1, x.block < W.heap.size := by obtain ⟨m, hm⟩ := k1; exact DataW.trod_lt m _ _ _ hm
  obtain ⟨a1, len1, cap1, rfl⟩ := okWide_slice Try.underlying22 (hval 1 22 v1 rfl rfl)
  obtain ⟨l1, m1, w1⟩ := bytes_of Try.underlying22 Try.underlying5 (by kernel_rfl) h1
  clear hA0 hval0
  refine (FnFrontierOrder_walk a0 len0 cap0 a1 len1 cap1 W l0 m0 w0 l1 m1 w1).mono fun e W' ⟨he, bel⟩ => ?_
  subst he
  exact ⟨_, rfl, _, _, _, [], _, [], hW', trodAll_mk1 (shut_bool Try.underlying4 _), (trodAll_cons_mk (Below.trod laidOut (by kernel_rfl) (of_decide_eq_true (by kernel_rfl)) k0 bel lt0) (trodAll_cons_mk (Below.trod laidOut (by kernel_rfl) (of_decide_eq_true (by kernel_rfl)) k1 bel lt1) trodAll_mk0)), rfl, bel.frame _, fun h => by cases h⟩
theorem andTT {a b : Bool} (h1 : a = true) (h2 : b = true) : (a && b) = true := by rw [h1, h2]; rfl
set_option maxHeartbeats 8000000 in
theorem closed : joinedFacts Try.prog 3 Try.f3 Rows.fnFrontierOrderSpec Rows.fnFrontierOrderRow = true := by
  unfold joinedFacts
  repeat' (with_reducible refine andTT ?_ ?_)
  all_goals (first | (with_reducible exact clo_laid) | (with_reducible exact clo_maps) | (with_reducible exact clo_heard) | (with_reducible exact clo_enter) | ((with_reducible refine clo_plain _ ?_); rfl) | ((with_reducible refine clo_lifts _ ?_); rfl) | (as_aux_lemma => kernel_rfl))

theorem over : Rows.fnFrontierOrderRow.holds Try.pinned (OpenSpec.ofChange Rows.fnFrontierOrderSpec) :=
  OpenClaim.holds_of_wide 3 Try.f3 rfl rfl rfl rfl rfl rfl rfl ⟨rfl, rfl, rfl, rfl, rfl⟩ rfl rfl rfl rfl rfl (by kernel_rfl) Try.func3 closed
    (of_decide_eq_true (by kernel_rfl)) (by unfold Func.isWrapper; first | (rw [if_pos (by decide +kernel)]; kernel_rfl) | (rw [if_neg (by decide +kernel)]; exact ⟨rfl, rfl⟩))
    (fun os started H enc _ => lifted os started H enc)

/-- THE STATEMENT. -/
theorem proved : Rows.FnFrontierOrderSaid := over
end lawFnFrontierOrder
end Go.Proofs.Ytbconpfkjpbjlab
