/- The law FnExactNewView returns true at every argument; no condition. -/
import Derived.Test.YtnfffgpjgkhjlaaNewV
import Derived.Test.YtnfffgpjgkhjlaaVwa
import Derived.Test.YtnfffgpjgkhjlaaEntM
import Derived.Test.YtnfffgpjgkhjlaaClo
import Derived.Carry
import Derived.ChangeOld
import Derived.Lib.SmallJoins
namespace Go.Proofs.Ytnfffgpjgkhjlaa
open Go.ChangeShapes Go.WideShapes Go.ChangeAt Go.RowKit Go.Sort
set_option linter.unusedVariables false
set_option linter.unusedSimpArgs false

set_option maxRecDepth 100000 in
set_option maxHeartbeats 25600000 in
theorem FnExactNewView_walk (wz : World) :
    Calls Try.prog 4 #[] wz fun e w' => e = .returned (.bool true) ∧ Below wz.heap.size wz w' := by
  have conW := fun (W : World) => NewView_s W
  have conG := fun (W : World) => NewView_i W
  have ⟨fa0, fb0, fc0, fr0⟩ := nvB_len
  have fd0 : (nvB).2.2.length ≤ 4194304 := by omega
  have fs0 : rowsU (nvB).2.2 4194304 := fun e he => by have := fr0 e he; omega
  have fz0 := cntU_bd fd0 fs0
  have fy0 : (cntV (nvB) : Int) ≤ 1099511627776000 := by unfold cntV; push_cast; omega
  generalize nvB = Z0 at *
  obtain ⟨P0, Q0, R0⟩ := Z0
  dsimp only at *
  go_enter Try.func4, Try.ntmps4
  go_wp2_with fail
  refine (conW  _ ).mono ?_
  rintro e w1 ⟨LW0, d1W0, UW0, d2W0, TW0, d3W0, rfl, y1W0, y2W0, y3W0, b1⟩
  have B1 := b1
  go_wp2_with fail
  refine absI (fun W => Below w1.heap.size w1 W ∧ Blk W w1.heap.size 31 #[.slice LW0 P0.length d1W0, .slice UW0 Q0.length d2W0, .slice TW0 R0.length d3W0]) ⟨(bal (Below.refl _ _) _), (Blk.newAt rfl)⟩ ?_
  rintro w2 ⟨b2, kW0⟩
  have B2 := btr B1 b2
  obtain ⟨bW0, hbW0⟩ : ∃ bW0, bW0 = w1.heap.size := ⟨_, rfl⟩
  rw [← hbW0] at kW0 ⊢
  have HbW0 := Lib.hid hbW0
  clear hbW0
  refine (conG  _ ).mono ?_
  rintro e w3 ⟨LG0, d1G0, UG0, d2G0, TG0, d3G0, rfl, oG0, b3⟩
  have B3 := btr B2 b3
  have pcW00 := (kW0.below b3).cell 0
  have pcW01 := (kW0.below b3).cell 1
  have pcW02 := (kW0.below b3).cell 2
  simp at pcW00 pcW01 pcW02
  have plW0 := (kW0.below b3).lt
  go_wp2_with fail
  refine absI (fun W => Below w3.heap.size w3 W ∧ Blk W w3.heap.size 31 #[.slice LG0 P0.length d1G0, .slice UG0 Q0.length d2G0, .slice TG0 R0.length d3G0]) ⟨(bal (Below.refl _ _) _), (Blk.newAt rfl)⟩ ?_
  rintro w4 ⟨b4, kG0⟩
  have B4 := btr B3 b4
  obtain ⟨bG0, hbG0⟩ : ∃ bG0, bG0 = w3.heap.size := ⟨_, rfl⟩
  rw [← hbG0] at kG0 ⊢
  have HbG0 := Lib.hid hbG0
  clear hbG0
  obtain ⟨v1a, v1b, v1c⟩ := batO_rd (batO.below oG0 b4)
  refine (eqView_yes _ _ _ _ _ _ _ _ _ _ _ _ P0 Q0 R0 _ v1a v1b v1c (y1W0.below (btr (btr b2 b3) b4)) (y2W0.below (btr (btr b2 b3) b4)) (y3W0.below updR (btr (btr b2 b3) b4)) fa0 fb0 fd0 fs0).mono ?_
  rintro e w5 ⟨rfl, b5⟩
  have B5 := btr B4 b5
  clear pcW00 pcW01 pcW02 plW0
  have pcG00 := (kG0.below b5).cell 0
  have pcG01 := (kG0.below b5).cell 1
  have pcG02 := (kG0.below b5).cell 2
  simp at pcG00 pcG01 pcG02
  go_wp2_with fail
  refine (markView_any _ _ _ _ _ _ _ P0 Q0 R0 1 _ (batO.below oG0 (btr b4 b5)) fa0 fb0 fd0 fs0 (by omega) (by omega)).mono ?_
  rintro e w6 ⟨rfl, kM0, g6⟩
  have D0_6 : Below wz.heap.size wz w6 := g6.below (btr (btr (btr (btr b1 b2) b3) b4) b5) (fun q hq => Nat.le_trans ((btr b1 b2)).size hq.1)
  have D1_6 : Below w1.heap.size w1 w6 := g6.below (btr (btr (btr b2 b3) b4) b5) (fun q hq => Nat.le_trans (b2).size hq.1)
  have D2_6 : Below w2.heap.size w2 w6 := g6.below (btr (btr b3 b4) b5) (fun q hq => Nat.le_trans (Nat.le_refl w2.heap.size) hq.1)
  have kG0_6 : Blk w6 bG0 31 #[.slice LG0 P0.length d1G0, .slice UG0 Q0.length d2G0, .slice TG0 R0.length d3G0] := (g6.block _ (Blk.lt (kG0.below b5)) (fun hq => by have h3 := (Nat.le_refl w3.heap.size); have h1 := hq.2; have h4 := HbG0.out; omega)).trans (kG0.below b5)
  have B6 := D0_6
  clear pcG00 pcG01 pcG02
  have pcG00 := kG0_6.cell 0
  have pcG01 := kG0_6.cell 1
  have pcG02 := kG0_6.cell 2
  simp at pcG00 pcG01 pcG02
  go_wp2_with fail
  refine (heldView_any _ _ _ _ _ _ _ P0 Q0 R0 1 _ kM0 fa0 fb0 fd0 fs0 (by omega) (by omega)).mono ?_
  rintro e w7 ⟨rfl, b7⟩
  have B7 := btr B6 b7
  clear pcG00 pcG01 pcG02
  go_wp2_with fail
  refine (conG  _ ).mono ?_
  rintro e w8 ⟨LH0, d1H0, UH0, d2H0, TH0, d3H0, rfl, oH0, b8⟩
  have B8 := btr B7 b8
  have pcW00 := (kW0.below (btr (btr D2_6 b7) b8)).cell 0
  have pcW01 := (kW0.below (btr (btr D2_6 b7) b8)).cell 1
  have pcW02 := (kW0.below (btr (btr D2_6 b7) b8)).cell 2
  simp at pcW00 pcW01 pcW02
  have plW0 := (kW0.below (btr (btr D2_6 b7) b8)).lt
  go_wp2_with fail
  refine absI (fun W => Below w8.heap.size w8 W ∧ Blk W w8.heap.size 31 #[.slice LH0 P0.length d1H0, .slice UH0 Q0.length d2H0, .slice TH0 R0.length d3H0]) ⟨(bal (Below.refl _ _) _), (Blk.newAt rfl)⟩ ?_
  rintro w9 ⟨b9, kH0⟩
  have B9 := btr B8 b9
  obtain ⟨bH0, hbH0⟩ : ∃ bH0, bH0 = w8.heap.size := ⟨_, rfl⟩
  rw [← hbH0] at kH0 ⊢
  have HbH0 := Lib.hid hbH0
  clear hbH0
  obtain ⟨v2a, v2b, v2c⟩ := batO_rd (batO.below oH0 b9)
  refine (eqView_yes _ _ _ _ _ _ _ _ _ _ _ _ P0 Q0 R0 _ v2a v2b v2c (y1W0.below (btr (btr (btr D1_6 b7) b8) b9)) (y2W0.below (btr (btr (btr D1_6 b7) b8) b9)) (y3W0.below updR (btr (btr (btr D1_6 b7) b8) b9)) fa0 fb0 fd0 fs0).mono ?_
  rintro e w10 ⟨rfl, b10⟩
  have B10 := btr B9 b10
  clear pcW00 pcW01 pcW02 plW0
  have pcG00 := (kG0_6.below (btr (btr (btr b7 b8) b9) b10)).cell 0
  have pcG01 := (kG0_6.below (btr (btr (btr b7 b8) b9) b10)).cell 1
  have pcG02 := (kG0_6.below (btr (btr (btr b7 b8) b9) b10)).cell 2
  simp at pcG00 pcG01 pcG02
  go_wp2_with fail
  refine (heldView_any _ _ _ _ _ _ _ P0 Q0 R0 1 _ (batO.below kM0 (btr (btr (btr b7 b8) b9) b10)) fa0 fb0 fd0 fs0 (by omega) (by omega)).mono ?_
  rintro e w11 ⟨rfl, b11⟩
  have B11 := btr B10 b11
  clear pcG00 pcG01 pcG02
  go_wp2_with fail
  go_ret
  exact ⟨rfl, B11⟩

namespace lawFnExactNewView
theorem own : ownKnob Try.prog.godebug = none := by kernel_rfl
theorem laidOut : laidOutB Try.prog = true := clo_laid
set_option maxRecDepth 100000 in
theorem lifted (os : Os) (started : os.Started) (H : Type) (enc : TypeId × Value → H) :
    ReturnsInHanded {} Try.checked os 4 .any (Rows.fnExactNewViewSpec.pre6 enc Try.prog Try.f4 Rows.fnExactNewViewRow.domain false) (Rows.fnExactNewViewSpec.post enc Try.prog Try.f4 false true false false) := by
  refine returnsInHanded_of_change (C := Try.checked) own started (by kernel_rfl) Try.func4
    (ChangeSpec.witness6 (enc := enc) (C := Try.checked) false ⟨#[], #[], []⟩ 8 (by kernel_rfl) (by kernel_rfl) (by kernel_rfl) (by kernel_rfl)) ?_
  intro W base args ds gs before hval0 hW hcnd _
  have hval : ∀ (j : Nat) t v, Try.f4.params[j]? = some t → args[j]? = some v → Value.okWide Try.prog W .any base t v := hval0
  have hW' := hW
  obtain ⟨p, q, hA0, hV, rfl, hfz, hnd⟩ := hW
  have hA : DataW.TrodAll enc Try.prog W 0 (fun _ => true) true Try.f4.params.toList args.toList ds p := hA0
  rw [Try.params4] at hA hval
  obtain ⟨hargs, rfl, rfl⟩ := trodAll_nil hA
  obtain rfl : args = #[] := by cases args; simp_all
  obtain ⟨rfl, rfl⟩ := trodVars_none hV
  clear hA0 hval0
  refine (FnExactNewView_walk  W).mono fun e W' ⟨he, bel⟩ => ?_
  subst he
  exact ⟨_, rfl, _, _, _, [], _, [], hW', trodAll_mk1 (shut_bool Try.underlying4 _), trodAll_mk0, rfl, bel.frame _, fun h => by cases h⟩
theorem andTT {a b : Bool} (h1 : a = true) (h2 : b = true) : (a && b) = true := by rw [h1, h2]; rfl
set_option maxHeartbeats 8000000 in
theorem closed : joinedFacts Try.prog 4 Try.f4 Rows.fnExactNewViewSpec Rows.fnExactNewViewRow = true := by
  unfold joinedFacts
  repeat' (with_reducible refine andTT ?_ ?_)
  all_goals (first | (with_reducible exact clo_laid) | (with_reducible exact clo_maps) | (with_reducible exact clo_heard) | (with_reducible exact clo_enter) | ((with_reducible refine clo_plain _ ?_); rfl) | ((with_reducible refine clo_lifts _ ?_); rfl) | (as_aux_lemma => kernel_rfl))

theorem over : Rows.fnExactNewViewRow.holds Try.pinned (OpenSpec.ofChange Rows.fnExactNewViewSpec) :=
  OpenClaim.holds_of_wide 4 Try.f4 rfl rfl rfl rfl rfl rfl rfl ⟨rfl, rfl, rfl, rfl, rfl⟩ rfl rfl rfl rfl rfl (by kernel_rfl) Try.func4 closed
    (of_decide_eq_true (by kernel_rfl)) (by unfold Func.isWrapper; first | (rw [if_pos (by decide +kernel)]; kernel_rfl) | (rw [if_neg (by decide +kernel)]; exact ⟨rfl, rfl⟩))
    (fun os started H enc _ => lifted os started H enc)

/-- THE STATEMENT. -/
theorem proved : Rows.FnExactNewViewSaid := over
end lawFnExactNewView
end Go.Proofs.Ytnfffgpjgkhjlaa
