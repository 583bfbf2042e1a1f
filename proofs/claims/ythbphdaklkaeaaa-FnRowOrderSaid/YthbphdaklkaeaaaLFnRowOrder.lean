/- The law FnRowOrder returns true at every code; no condition. -/
import Derived.Test.YthbphdaklkaeaaaDrawN
import Derived.Test.YthbphdaklkaeaaaEqR
import Derived.Test.YthbphdaklkaeaaaSumsE
import Derived.Test.YthbphdaklkaeaaaClo
import Derived.Carry
import Derived.ChangeOld
import Derived.Lib.SmallJoins
import Derived.Lib.QuietBelow
namespace Go.Proofs.Ythbphdaklkaeaaa
open Go.ChangeShapes Go.WideShapes Go.ChangeAt Go.RowKit Go.Sort
set_option linter.unusedVariables false
set_option linter.unusedSimpArgs false

set_option maxRecDepth 100000 in
set_option maxHeartbeats 6400000 in
theorem FnRowOrder_walk (A : Option Addr) (n c : Nat) (w : World) (hc : n ≤ c) (hl : n ≤ maxLen) (hb : BytesAt w w.heap.size A n) :
    Calls Try.prog 14 #[.slice A n c] w fun e w' => e = .returned (.bool true) ∧ Below w.heap.size w w' := by
  unfold maxLen at hl
  by_cases hbign : 1048576 < n
  · have hb' : (1048576 : Int) < n := by omega
    go_enter Try.func14, Try.ntmps14
    go_wp2
    go_ret
    exact ⟨rfl, Below.refl _ _⟩
  have hbn' : (n : Int) ≤ 1048576 := by omega
  have HB := Lib.hid hb
  clear hb hbign
  go_enter Try.func14, Try.ntmps14
  go_wp2_with fail
  refine (DrawRowLess_r _ _ _ _ HB.out hc (by omega)).mono ?_
  rintro e w1 ⟨x, y, Ax, Ay, cx, cy, rfl, hxl, hyl, hx, hy, B1⟩
  obtain ⟨i0, hi, hz0, hz1, hz2⟩ := info_parts Try.infoInt
  have hirr := rowTot.irrefl x
  have hext := less_snoc x
  rcases less_cases x y with ⟨h1, h2, h3⟩ | ⟨h1, h2, h3⟩ | ⟨h1, h2, h3⟩
  · have H1 := Lib.hid h1
    have H2 := Lib.hid h2
    have H3 := Lib.hid h3
    have HI := Lib.hid hirr
    have HE := Lib.hid hext
    clear h1 h2 h3 hirr hext
    go_wp2_with fail
    refine (rowLessI true H1.out hx hy (by omega) (by omega)).mono ?_
    rintro e w2 ⟨rfl, b2⟩
    have B2 := btr B1 b2
    go_wp2_with fail
    refine (rowLessS true H1.out (hx.below b2) (hy.below b2) (by omega) (by omega)).mono ?_
    rintro e w3 ⟨rfl, b3⟩
    have B3 := btr B2 b3
    have hxk : IntsAt w3 Ax x := (hx.below (btr b2 b3))
    have hb0 : Below w3.heap.size w3 (w3.alloc (.cells #[] 3)) := bal (Below.refl _ _) _
    have hs := ints_src (hxk.below hb0)
    have hown := World.ownsRow_lit (base := w3.heap.size) (size := 1) (e := 3) w3 #[] 0 (Nat.le_refl _) (by simp [maxLen]) (by simp)
    go_wp2_with (at_builtin; refine wpList_append_src _ rfl _ _ 31 rfl w3.heap.size 3 i0 (.int .i64 0) 1 8 Try.underlying31 hi hz0 hz1 hz2 rfl (by decide) _ _ _ rfl hown Ax x.length cx (x.map (Value.int .i64)) rfl (by simp) hs.1 hs.2 (ints_one x) (by unfold maxLen; omega) (by omega) (by simp) ?_)
    intro v' wA hownA hgrowA _
    obtain ⟨A', c', rfl⟩ := own_slice hownA
    have hbA : Below w3.heap.size w3 wA := hb0.grown hgrowA (by simp) (fun q hq => by simp [Value.ownBlock] at hq; omega)
    have hownA2 : wA.ownsRow w3.heap.size 3 1 (.slice A' x.length c') x.length (x.map (Value.int .i64)) := by simpa using hownA
    have hsA := hbA.size
    clear hownA hgrowA hown hs hb0
    go_wp2_with (at_builtin; refine wpList_append_src _ rfl _ _ 31 rfl w3.heap.size 3 i0 (.int .i64 0) 1 8 Try.underlying31 hi hz0 hz1 hz2 rfl (by decide) _ _ _ rfl (hownA2.alloc _) (some ⟨wA.heap.size, 0, none⟩) 1 1 [.int .i64 0] rfl rfl (fun h => by cases h) (intZ_srcs _) (intZ_ones _) (by unfold maxLen; omega) (by omega) (by simp; omega) ?_)
    intro v'' w4 hownB hgrowB _
    obtain ⟨AL, cL, rfl⟩ := own_slice hownB
    have b4 : Below w3.heap.size w3 w4 := (bal hbA _).grown hgrowB (by simp; omega) (fun q hq => (World.ownsRow.lt hownA2 q hq).1)
    have B4 := btr B3 b4
    have hL : IntsAt w4 AL (x ++ [0]) := by
      have : IntsOwn w4 w3.heap.size AL cL (x ++ [0]) := by simpa [IntsOwn] using hownB
      exact this.at_
    clear hownA2 hgrowB hownB hbA
    go_wp2_with fail
    refine (rowLessI false HI.out (hx.below (btr (btr b2 b3) b4)) (hx.below (btr (btr b2 b3) b4)) (by omega) (by omega)).mono ?_
    rintro e w5 ⟨rfl, b5⟩
    have B5 := btr B4 b5
    go_wp2_with fail
    refine (rowLessL true (x.length + 1) HE.out (by simp) (hx.below (btr (btr (btr b2 b3) b4) b5)) (hL.below b5) (by omega) (by omega)).mono ?_
    rintro e w6 ⟨rfl, b6⟩
    have B6 := btr B5 b6
    go_wp2_with fail
    refine (eqI false H3.out (hx.below (btr (btr (btr (btr b2 b3) b4) b5) b6)) (hy.below (btr (btr (btr (btr b2 b3) b4) b5) b6)) (by omega) (by omega)).mono ?_
    rintro e w7 ⟨rfl, b7⟩
    have B7 := btr B6 b7
    go_wp2_with fail
    refine (rowLessI false H2.out (hy.below (btr (btr (btr (btr (btr b2 b3) b4) b5) b6) b7)) (hx.below (btr (btr (btr (btr (btr b2 b3) b4) b5) b6) b7)) (by omega) (by omega)).mono ?_
    rintro e w8 ⟨rfl, b8⟩
    have B8 := btr B7 b8
    go_wp2_with fail
    go_ret
    exact ⟨rfl, B8⟩
  · have H1 := Lib.hid h1
    have H2 := Lib.hid h2
    have H3 := Lib.hid h3
    have HI := Lib.hid hirr
    have HE := Lib.hid hext
    clear h1 h2 h3 hirr hext
    go_wp2_with fail
    refine (rowLessI false H1.out hx hy (by omega) (by omega)).mono ?_
    rintro e w2 ⟨rfl, b2⟩
    have B2 := btr B1 b2
    go_wp2_with fail
    refine (rowLessS false H1.out (hx.below b2) (hy.below b2) (by omega) (by omega)).mono ?_
    rintro e w3 ⟨rfl, b3⟩
    have B3 := btr B2 b3
    have hxk : IntsAt w3 Ax x := (hx.below (btr b2 b3))
    have hb0 : Below w3.heap.size w3 (w3.alloc (.cells #[] 3)) := bal (Below.refl _ _) _
    have hs := ints_src (hxk.below hb0)
    have hown := World.ownsRow_lit (base := w3.heap.size) (size := 1) (e := 3) w3 #[] 0 (Nat.le_refl _) (by simp [maxLen]) (by simp)
    go_wp2_with (at_builtin; refine wpList_append_src _ rfl _ _ 31 rfl w3.heap.size 3 i0 (.int .i64 0) 1 8 Try.underlying31 hi hz0 hz1 hz2 rfl (by decide) _ _ _ rfl hown Ax x.length cx (x.map (Value.int .i64)) rfl (by simp) hs.1 hs.2 (ints_one x) (by unfold maxLen; omega) (by omega) (by simp) ?_)
    intro v' wA hownA hgrowA _
    obtain ⟨A', c', rfl⟩ := own_slice hownA
    have hbA : Below w3.heap.size w3 wA := hb0.grown hgrowA (by simp) (fun q hq => by simp [Value.ownBlock] at hq; omega)
    have hownA2 : wA.ownsRow w3.heap.size 3 1 (.slice A' x.length c') x.length (x.map (Value.int .i64)) := by simpa using hownA
    have hsA := hbA.size
    clear hownA hgrowA hown hs hb0
    go_wp2_with (at_builtin; refine wpList_append_src _ rfl _ _ 31 rfl w3.heap.size 3 i0 (.int .i64 0) 1 8 Try.underlying31 hi hz0 hz1 hz2 rfl (by decide) _ _ _ rfl (hownA2.alloc _) (some ⟨wA.heap.size, 0, none⟩) 1 1 [.int .i64 0] rfl rfl (fun h => by cases h) (intZ_srcs _) (intZ_ones _) (by unfold maxLen; omega) (by omega) (by simp; omega) ?_)
    intro v'' w4 hownB hgrowB _
    obtain ⟨AL, cL, rfl⟩ := own_slice hownB
    have b4 : Below w3.heap.size w3 w4 := (bal hbA _).grown hgrowB (by simp; omega) (fun q hq => (World.ownsRow.lt hownA2 q hq).1)
    have B4 := btr B3 b4
    have hL : IntsAt w4 AL (x ++ [0]) := by
      have : IntsOwn w4 w3.heap.size AL cL (x ++ [0]) := by simpa [IntsOwn] using hownB
      exact this.at_
    clear hownA2 hgrowB hownB hbA
    go_wp2_with fail
    refine (rowLessI false HI.out (hx.below (btr (btr b2 b3) b4)) (hx.below (btr (btr b2 b3) b4)) (by omega) (by omega)).mono ?_
    rintro e w5 ⟨rfl, b5⟩
    have B5 := btr B4 b5
    go_wp2_with fail
    refine (rowLessL true (x.length + 1) HE.out (by simp) (hx.below (btr (btr (btr b2 b3) b4) b5)) (hL.below b5) (by omega) (by omega)).mono ?_
    rintro e w6 ⟨rfl, b6⟩
    have B6 := btr B5 b6
    go_wp2_with fail
    refine (rowLessI false H2.out (hy.below (btr (btr (btr (btr b2 b3) b4) b5) b6)) (hx.below (btr (btr (btr (btr b2 b3) b4) b5) b6)) (by omega) (by omega)).mono ?_
    rintro e w7 ⟨rfl, b7⟩
    have B7 := btr B6 b7
    go_wp2_with fail
    refine (eqI true H3.out (hx.below (btr (btr (btr (btr (btr b2 b3) b4) b5) b6) b7)) (hy.below (btr (btr (btr (btr (btr b2 b3) b4) b5) b6) b7)) (by omega) (by omega)).mono ?_
    rintro e w8 ⟨rfl, b8⟩
    have B8 := btr B7 b8
    go_wp2_with fail
    go_ret
    exact ⟨rfl, B8⟩
  · have H1 := Lib.hid h1
    have H2 := Lib.hid h2
    have H3 := Lib.hid h3
    have HI := Lib.hid hirr
    have HE := Lib.hid hext
    clear h1 h2 h3 hirr hext
    go_wp2_with fail
    refine (rowLessI false H1.out hx hy (by omega) (by omega)).mono ?_
    rintro e w2 ⟨rfl, b2⟩
    have B2 := btr B1 b2
    go_wp2_with fail
    refine (rowLessS false H1.out (hx.below b2) (hy.below b2) (by omega) (by omega)).mono ?_
    rintro e w3 ⟨rfl, b3⟩
    have B3 := btr B2 b3
    have hxk : IntsAt w3 Ax x := (hx.below (btr b2 b3))
    have hb0 : Below w3.heap.size w3 (w3.alloc (.cells #[] 3)) := bal (Below.refl _ _) _
    have hs := ints_src (hxk.below hb0)
    have hown := World.ownsRow_lit (base := w3.heap.size) (size := 1) (e := 3) w3 #[] 0 (Nat.le_refl _) (by simp [maxLen]) (by simp)
    go_wp2_with (at_builtin; refine wpList_append_src _ rfl _ _ 31 rfl w3.heap.size 3 i0 (.int .i64 0) 1 8 Try.underlying31 hi hz0 hz1 hz2 rfl (by decide) _ _ _ rfl hown Ax x.length cx (x.map (Value.int .i64)) rfl (by simp) hs.1 hs.2 (ints_one x) (by unfold maxLen; omega) (by omega) (by simp) ?_)
    intro v' wA hownA hgrowA _
    obtain ⟨A', c', rfl⟩ := own_slice hownA
    have hbA : Below w3.heap.size w3 wA := hb0.grown hgrowA (by simp) (fun q hq => by simp [Value.ownBlock] at hq; omega)
    have hownA2 : wA.ownsRow w3.heap.size 3 1 (.slice A' x.length c') x.length (x.map (Value.int .i64)) := by simpa using hownA
    have hsA := hbA.size
    clear hownA hgrowA hown hs hb0
    go_wp2_with (at_builtin; refine wpList_append_src _ rfl _ _ 31 rfl w3.heap.size 3 i0 (.int .i64 0) 1 8 Try.underlying31 hi hz0 hz1 hz2 rfl (by decide) _ _ _ rfl (hownA2.alloc _) (some ⟨wA.heap.size, 0, none⟩) 1 1 [.int .i64 0] rfl rfl (fun h => by cases h) (intZ_srcs _) (intZ_ones _) (by unfold maxLen; omega) (by omega) (by simp; omega) ?_)
    intro v'' w4 hownB hgrowB _
    obtain ⟨AL, cL, rfl⟩ := own_slice hownB
    have b4 : Below w3.heap.size w3 w4 := (bal hbA _).grown hgrowB (by simp; omega) (fun q hq => (World.ownsRow.lt hownA2 q hq).1)
    have B4 := btr B3 b4
    have hL : IntsAt w4 AL (x ++ [0]) := by
      have : IntsOwn w4 w3.heap.size AL cL (x ++ [0]) := by simpa [IntsOwn] using hownB
      exact this.at_
    clear hownA2 hgrowB hownB hbA
    go_wp2_with fail
    refine (rowLessI false HI.out (hx.below (btr (btr b2 b3) b4)) (hx.below (btr (btr b2 b3) b4)) (by omega) (by omega)).mono ?_
    rintro e w5 ⟨rfl, b5⟩
    have B5 := btr B4 b5
    go_wp2_with fail
    refine (rowLessL true (x.length + 1) HE.out (by simp) (hx.below (btr (btr (btr b2 b3) b4) b5)) (hL.below b5) (by omega) (by omega)).mono ?_
    rintro e w6 ⟨rfl, b6⟩
    have B6 := btr B5 b6
    go_wp2_with fail
    refine (rowLessI true H2.out (hy.below (btr (btr (btr (btr b2 b3) b4) b5) b6)) (hx.below (btr (btr (btr (btr b2 b3) b4) b5) b6)) (by omega) (by omega)).mono ?_
    rintro e w7 ⟨rfl, b7⟩
    have B7 := btr B6 b7
    go_wp2_with fail
    refine (eqI false H3.out (hx.below (btr (btr (btr (btr (btr b2 b3) b4) b5) b6) b7)) (hy.below (btr (btr (btr (btr (btr b2 b3) b4) b5) b6) b7)) (by omega) (by omega)).mono ?_
    rintro e w8 ⟨rfl, b8⟩
    have B8 := btr B7 b8
    go_wp2_with fail
    go_ret
    exact ⟨rfl, B8⟩

namespace lawFnRowOrder
theorem own : ownKnob Try.prog.godebug = none := by kernel_rfl
theorem laidOut : laidOutB Try.prog = true := clo_laid
set_option maxRecDepth 100000 in
theorem lifted (os : Os) (started : os.Started) (H : Type) (enc : TypeId × Value → H) :
    ReturnsInHanded {} Try.checked os 14 .any (Rows.fnRowOrderSpec.pre6 enc Try.prog Try.f14 Rows.fnRowOrderRow.domain false) (Rows.fnRowOrderSpec.post enc Try.prog Try.f14 false true false false) := by
  refine returnsInHanded_of_change (C := Try.checked) own started (by kernel_rfl) Try.func14
    (ChangeSpec.witness6 (enc := enc) (C := Try.checked) false ⟨#[], #[.slice none 0 0], []⟩ 8 (by kernel_rfl) (by kernel_rfl) (by kernel_rfl) (by kernel_rfl)) ?_
  intro W base args ds gs before hval0 hW hcnd _
  have hval : ∀ (j : Nat) t v, Try.f14.params[j]? = some t → args[j]? = some v → Value.okWide Try.prog W .any base t v := hval0
  have hW' := hW
  obtain ⟨p, q, hA0, hV, rfl, hfz, hnd⟩ := hW
  have hA : DataW.TrodAll enc Try.prog W 0 (fun _ => true) true Try.f14.params.toList args.toList ds p := hA0
  rw [Try.params14] at hA hval
  obtain ⟨v0, vs0, d0, ds0, p0, q0, hargs, rfl, rfl, h0, r0⟩ := trodAll_cons hA
  obtain ⟨rfl, rfl, rfl⟩ := trodAll_nil r0
  obtain rfl : args = #[v0] := by cases args; simp_all
  obtain ⟨rfl, rfl⟩ := trodVars_none hV
  have k0 := h0
  have lt0 : ∀ x ∈ p0, x.block < W.heap.size := by obtain ⟨m, hm⟩ := k0; exact DataW.trod_lt m _ _ _ hm
  obtain ⟨a0, len0, cap0, rfl⟩ := okWide_slice Try.underlying22 (hval 0 22 v0 rfl rfl)
  obtain ⟨l0, m0, w0⟩ := bytes_of Try.underlying22 Try.underlying5 (by kernel_rfl) h0
  clear hA0 hval0
  refine (FnRowOrder_walk a0 len0 cap0 W l0 m0 w0).mono fun e W' ⟨he, bel⟩ => ?_
  subst he
  exact ⟨_, rfl, _, _, _, [], _, [], hW', trodAll_mk1 (shut_bool Try.underlying4 _), (trodAll_cons_mk (Below.trod laidOut (by kernel_rfl) (of_decide_eq_true (by kernel_rfl)) k0 bel lt0) trodAll_mk0), rfl, bel.frame _, fun h => by cases h⟩
theorem andTT {a b : Bool} (h1 : a = true) (h2 : b = true) : (a && b) = true := by rw [h1, h2]; rfl
set_option maxHeartbeats 8000000 in
theorem closed : joinedFacts Try.prog 14 Try.f14 Rows.fnRowOrderSpec Rows.fnRowOrderRow = true := by
  unfold joinedFacts
  repeat' (with_reducible refine andTT ?_ ?_)
  all_goals (first | (with_reducible exact clo_laid) | (with_reducible exact clo_maps) | (with_reducible exact clo_heard) | (with_reducible exact clo_enter) | ((with_reducible refine clo_plain _ ?_); rfl) | ((with_reducible refine clo_lifts _ ?_); rfl) | (as_aux_lemma => kernel_rfl))

theorem over : Rows.fnRowOrderRow.holds Try.pinned (OpenSpec.ofChange Rows.fnRowOrderSpec) :=
  OpenClaim.holds_of_wide 14 Try.f14 rfl rfl rfl rfl rfl rfl rfl ⟨rfl, rfl, rfl, rfl, rfl⟩ rfl rfl rfl rfl rfl (by kernel_rfl) Try.func14 closed
    (of_decide_eq_true (by kernel_rfl)) (by unfold Func.isWrapper; first | (rw [if_pos (by decide +kernel)]; kernel_rfl) | (rw [if_neg (by decide +kernel)]; exact ⟨rfl, rfl⟩))
    (fun os started H enc _ => lifted os started H enc)

/-- THE STATEMENT. -/
theorem proved : Rows.FnRowOrderSaid := over
end lawFnRowOrder
end Go.Proofs.Ythbphdaklkaeaaa
