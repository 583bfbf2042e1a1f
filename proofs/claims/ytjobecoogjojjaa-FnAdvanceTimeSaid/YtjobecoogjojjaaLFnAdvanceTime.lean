/- The law FnAdvanceTime returns true at every two codes; no condition. -/
import Derived.Test.YtjobecoogjojjaaDrawF
import Derived.Test.YtjobecoogjojjaaFrM
import Derived.Test.YtjobecoogjojjaaDrawW
import Derived.Test.YtjobecoogjojjaaClo
import Derived.Carry
import Derived.ChangeOld
import Derived.Lib.SmallJoins
import Derived.Lib.QuietBelow
namespace Go.Proofs.Ytjobecoogjojjaa
open Go.ChangeShapes Go.WideShapes Go.ChangeAt Go.RowKit Go.Sort
set_option linter.unusedVariables false
set_option linter.unusedSimpArgs false

theorem absCF {P : Program} {f : FuncId} {args : Array Value} {w : World} {Q : Ending → World → Prop} (R : World → Prop) (h : R w) (k : ∀ W, R W → Calls P f args W Q) : Calls P f args w Q := k w h

set_option maxRecDepth 100000 in
set_option maxHeartbeats 6400000 in
theorem FnAdvanceTime_walk (A : Option Addr) (n c : Nat) (AA : Option Addr) (nn cc : Nat) (w : World) (hc : n ≤ c) (hl : n ≤ maxLen) (hb : BytesAt w w.heap.size A n) (hcc : nn ≤ cc) (hll : nn ≤ maxLen) (hbb : BytesAt w w.heap.size AA nn) :
    Calls Try.prog 7 #[.slice A n c, .slice AA nn cc] w fun e w' => e = .returned (.bool true) ∧ Below w.heap.size w w' := by
  unfold maxLen at hl hll
  by_cases hbign : 1048576 < n
  · have hb' : (1048576 : Int) < n := by omega
    go_enter Try.func7, Try.ntmps7
    go_wp2
    go_ret
    exact ⟨rfl, Below.refl _ _⟩
  have hbn' : (n : Int) ≤ 1048576 := by omega
  by_cases hbignn : 1048576 < nn
  · have hb' : (1048576 : Int) < nn := by omega
    go_enter Try.func7, Try.ntmps7
    go_wp2
    go_ret
    exact ⟨rfl, Below.refl _ _⟩
  have hbnn' : (nn : Int) ≤ 1048576 := by omega
  have HB := Lib.hid hb
  clear hb hbign
  have HBB := Lib.hid hbb
  clear hbb hbignn
  go_enter Try.func7, Try.ntmps7
  go_wp2_with fail
  refine (DrawAdvanceTime_r _ _ _ _ HB.out hc (by omega)).mono ?_
  rintro e w1 ⟨x, y, z, Az, cz, rfl, ho, hzl, B1⟩
  have nz : z.length ≤ 4194304 := by omega
  have hcap := ho.cap.1
  have hz1 := ho.at_
  go_wp2_with fail
  refine absCF (fun W => Below w1.heap.size w1 W ∧ Blk W w1.heap.size 35 #[.int .i64 x, .int .i64 y]) ⟨bal (Below.refl _ _) _, Blk.newAt rfl⟩ ?_
  rintro w2 ⟨b2, hk2⟩
  have B2 := btr B1 b2
  have hz2 := hz1.below b2
  obtain ⟨a1, a2, ha⟩ : ∃ a1 a2, atR (x, y) z = (a1, a2) := ⟨_, _, rfl⟩
  have hai : ∀ W, TimesAt W Az z → Calls Try.prog 36 #[.agg #[.int .i64 x, .int .i64 y], .slice Az z.length cz] W fun e w' => e = .returned (.agg #[.int .i64 a1, .int .i64 a2]) ∧ Below W.heap.size W w' := fun W h => by
    have := AdvanceTime_c (x, y) Az cz z W hcap h nz
    rw [ha] at this
    exact this
  have has : ∀ W, TimesAt W Az z → Calls Try.prog 37 #[.agg #[.int .i64 x, .int .i64 y], .slice Az z.length cz] W fun e w' => e = .returned (.agg #[.int .i64 a1, .int .i64 a2]) ∧ Below W.heap.size W w' := fun W h => by
    have := AdvanceTime_s (x, y) Az cz z W h nz
    rw [ha] at this
    exact this
  refine (hai w2 hz2).mono ?_
  rintro e w3 ⟨rfl, b3⟩
  have B3 := btr B2 b3
  have hk3 := hk2.below b3
  clear hai
  go_wp2_with fail
  refine abs_world (fun W => Below w3.heap.size w3 W ∧ Blk W w3.heap.size 35 #[.int .i64 a1, .int .i64 a2]) ⟨bal (Below.refl _ _) _, Blk.newAt rfl⟩ ?_
  rintro w4 ⟨b4, hka4⟩
  have B4 := btr B3 b4
  have hkt4 := hk3.below b4
  have hz4 : TimesAt w4 Az z := hz2.below (btr b3 b4)
  have has4 : ∀ W, Below w4.heap.size w4 W → _ := fun W hW => has W (hz4.below hW)
  have qe := timeIn_yes a1 a2
  have hvf := fun W (hW : Below w4.heap.size w4 W) => ValidFrontier_i Az cz z W (hz4.below hW) nz
  have hvt := fun W => ValidTime_i x y W
  clear hk2 hk3 b2 b3 hz1 hz2 b4
  cases hF : frB z
  · simp only [hF] at hvf
    have has := has4
    clear has4
    have kt0 := cgrowT (hkt4.cell 0)
    have kt1 := cgrowT (hkt4.cell 1)
    simp at kt0 kt1
    have ka0 := cgrowT (hka4.cell 0)
    have ka1 := cgrowT (hka4.cell 1)
    simp at ka0 ka1
    refine wp_region_quiet_below (by kernel_rfl) (by kernel_rfl) ?_
    repeat (go_big_quiet_step (first | (go_at_call 37; exact Calls.regrown_of (has _ (below_regrown _ _ _))) | (go_at_call 38; exact Calls.regrown_of (hvf _ (below_regrown _ _ _)))))
    refine wpQuiet_nil ?_
    intro wq hwq
    obtain ⟨⟨dq, osq⟩, rfl⟩ := hwq
    have hqw5 := below_regrown w4 dq osq
    generalize grow (redrawn w4 dq) osq = w5 at hqw5
    clear kt0 kt1 ka0 ka1
    have B5 := btr B4 hqw5
    have has := fun W (hW : Below w5.heap.size w5 W) => has W (btr hqw5 hW)
    have hkt5 := hkt4.below hqw5
    have hka5 := hka4.below hqw5
    clear hkt4 hka4 hvf hvt
    have kt0 := cgrowT (hkt5.cell 0)
    have kt1 := cgrowT (hkt5.cell 1)
    simp at kt0 kt1
    have ka0 := cgrowT (hka5.cell 0)
    have ka1 := cgrowT (hka5.cell 1)
    simp at ka0 ka1
    go_wp2_with fail
    refine wp_region_quiet_below (by kernel_rfl) (by kernel_rfl) ?_
    repeat (go_big_quiet_step (first | (go_at_call 37; exact Calls.regrown_of (has _ (below_regrown _ _ _)))))
    refine wpQuiet_nil ?_
    intro wq hwq
    obtain ⟨⟨dq, osq⟩, rfl⟩ := hwq
    have hqw6 := below_regrown w5 dq osq
    generalize grow (redrawn w5 dq) osq = w6 at hqw6
    clear kt0 kt1 ka0 ka1
    have B6 := btr B5 hqw6
    clear hkt5 hka5 has
    go_wp2
    go_ret
    exact ⟨rfl, B6⟩
  · cases hV : vtB x y
    · simp only [hF] at hvf
      simp only [hV] at hvt
      have has := has4
      clear has4
      have kt0 := cgrowT (hkt4.cell 0)
      have kt1 := cgrowT (hkt4.cell 1)
      simp at kt0 kt1
      have ka0 := cgrowT (hka4.cell 0)
      have ka1 := cgrowT (hka4.cell 1)
      simp at ka0 ka1
      refine wp_region_quiet_below (by kernel_rfl) (by kernel_rfl) ?_
      repeat (go_big_quiet_step (first | (go_at_call 37; exact Calls.regrown_of (has _ (below_regrown _ _ _))) | (go_at_call 38; exact Calls.regrown_of (hvf _ (below_regrown _ _ _))) | (go_at_call 26; exact Calls.regrown_of (hvt _))))
      refine wpQuiet_nil ?_
      intro wq hwq
      obtain ⟨⟨dq, osq⟩, rfl⟩ := hwq
      have hqw5 := below_regrown w4 dq osq
      generalize grow (redrawn w4 dq) osq = w5 at hqw5
      clear kt0 kt1 ka0 ka1
      have B5 := btr B4 hqw5
      have has := fun W (hW : Below w5.heap.size w5 W) => has W (btr hqw5 hW)
      have hkt5 := hkt4.below hqw5
      have hka5 := hka4.below hqw5
      clear hkt4 hka4 hvf hvt
      have kt0 := cgrowT (hkt5.cell 0)
      have kt1 := cgrowT (hkt5.cell 1)
      simp at kt0 kt1
      have ka0 := cgrowT (hka5.cell 0)
      have ka1 := cgrowT (hka5.cell 1)
      simp at ka0 ka1
      go_wp2_with fail
      refine wp_region_quiet_below (by kernel_rfl) (by kernel_rfl) ?_
      repeat (go_big_quiet_step (first | (go_at_call 37; exact Calls.regrown_of (has _ (below_regrown _ _ _)))))
      refine wpQuiet_nil ?_
      intro wq hwq
      obtain ⟨⟨dq, osq⟩, rfl⟩ := hwq
      have hqw6 := below_regrown w5 dq osq
      generalize grow (redrawn w5 dq) osq = w6 at hqw6
      clear kt0 kt1 ka0 ka1
      have B6 := btr B5 hqw6
      clear hkt5 hka5 has
      go_wp2
      go_ret
      exact ⟨rfl, B6⟩
    · have hge := advT_ge (x, y) z
      have htw := atR_twice (t := (x, y)) hF hV
      have hsm := fun u v h => advT_same (t := (x, y)) (xs := z) (u := u) (v := v) h
      rw [← atR_yes hF hV, ha] at hge
      rw [ha] at htw
      rw [← atR_yes hF hV, ha] at hsm
      simp only [hF] at hvf
      simp only [hV] at hvt
      have HSM := Lib.hid hsm
      have HTW := Lib.hid htw
      have HGE := Lib.hid hge
      have has := has4
      clear has4 hsm htw hge
      have kt0 := cgrowT (hkt4.cell 0)
      have kt1 := cgrowT (hkt4.cell 1)
      simp at kt0 kt1
      have ka0 := cgrowT (hka4.cell 0)
      have ka1 := cgrowT (hka4.cell 1)
      simp at ka0 ka1
      refine wp_region_quiet_below (by kernel_rfl) (by kernel_rfl) ?_
      repeat (go_big_quiet_step (first | (go_at_call 37; exact Calls.regrown_of (has _ (below_regrown _ _ _))) | (go_at_call 38; exact Calls.regrown_of (hvf _ (below_regrown _ _ _))) | (go_at_call 26; exact Calls.regrown_of (hvt _))))
      refine wpQuiet_nil ?_
      intro wq hwq
      obtain ⟨⟨dq, osq⟩, rfl⟩ := hwq
      have hqw5 := below_regrown w4 dq osq
      generalize grow (redrawn w4 dq) osq = w5 at hqw5
      clear kt0 kt1 ka0 ka1
      have B5 := btr B4 hqw5
      have hkt5 := hkt4.below hqw5
      have hka5 := hka4.below hqw5
      have hz5 := hz4.below hqw5
      clear hkt4 hka4 hvf hvt has hz4
      have hbb5 : BytesAt w5 w5.heap.size AA nn := fun hp => by
        obtain ⟨b, off, e, h1, h2⟩ := (HBB.out.below B5 (Nat.le_refl _)) hp
        exact ⟨b, off, e, by have := B5.size; omega, h2⟩
      go_wp2_with fail
      refine (DrawValidTime_r _ _ _ _ hbb5 hcc (by omega)).mono ?_
      rintro e w6 ⟨tx, ty, rfl, b6⟩
      have B6 := btr B5 b6
      have hkt6 := hkt5.below b6
      have hka6 := hka5.below b6
      have hz6 := hz5.below b6
      clear hbb5 hkt5 hka5 hz5
      go_wp2_with fail
      refine abs_world (fun W => Below w6.heap.size w6 W ∧ Blk W w6.heap.size 35 #[.int .i64 tx, .int .i64 ty]) ⟨bal (Below.refl _ _) _, Blk.newAt rfl⟩ ?_
      rintro w7 ⟨b7, hks7⟩
      have B7 := btr B6 b7
      have hkt7 := hkt6.below b7
      have hka7 := hka6.below b7
      have hz7 := hz6.below b7
      have hl1 := fun W => TimeLe_i x y a1 a2 W
      rw [HGE.out] at hl1
      have hl2 := fun W => TimeLe_i x y tx ty W
      have hl3 := fun W => TimeLe_i a1 a2 tx ty W
      have hai : ∀ W, Below w7.heap.size w7 W → Calls Try.prog 36 #[.agg #[.int .i64 a1, .int .i64 a2], .slice Az z.length cz] W fun e w' => e = .returned (.agg #[.int .i64 a1, .int .i64 a2]) ∧ Below W.heap.size W w' := fun W hW => by
        have := AdvanceTime_c (a1, a2) Az cz z W hcap (hz7.below hW) nz
        rw [HTW.out] at this
        exact this
      have hfc := fun W (hW : Below w7.heap.size w7 W) => FrontierCovers_i Az cz z tx ty W (hz7.below hW) nz
      clear hkt6 hka6 hz6 b7 ha hF hV
      cases hC : fcB z tx ty
      · simp only [hC] at hfc
        clear hC
        have kt0 := cgrowT (hkt7.cell 0)
        have kt1 := cgrowT (hkt7.cell 1)
        simp at kt0 kt1
        have ka0 := cgrowT (hka7.cell 0)
        have ka1 := cgrowT (hka7.cell 1)
        simp at ka0 ka1
        have ks0 := cgrowT (hks7.cell 0)
        have ks1 := cgrowT (hks7.cell 1)
        simp at ks0 ks1
        refine wp_region_quiet_below (by kernel_rfl) (by kernel_rfl) ?_
        repeat (go_big_quiet_step (first | (go_at_call 27; first | exact Calls.regrown_of (hl1 _) | exact Calls.regrown_of (hl2 _) | exact Calls.regrown_of (hl3 _)) | (go_at_call 36; exact Calls.regrown_of (hai _ (below_regrown _ _ _))) | (go_at_call 39; exact Calls.regrown_of (hfc _ (below_regrown _ _ _)))))
        refine wpQuiet_nil ?_
        intro wq hwq
        obtain ⟨⟨dq, osq⟩, rfl⟩ := hwq
        have hqw8 := below_regrown w7 dq osq
        generalize grow (redrawn w7 dq) osq = w8 at hqw8
        clear kt0 kt1 ka0 ka1 ks0 ks1
        have B8 := btr B7 hqw8
        clear hkt7 hka7 hks7 hai hfc hl1 hl2 hl3
        go_wp2
        go_ret
        exact ⟨rfl, B8⟩
      · have hcv : cvB z tx ty = true := by simp only [fcB, Bool.and_eq_true] at hC; exact hC.2
        have hsame := HSM.out tx ty hcv
        simp only [hC] at hfc
        clear hC hcv
        rw [hsame] at hl3
        cases hr : leB x y tx ty
        · simp only [hr] at hl2 hl3
          clear hr hsame
          have kt0 := cgrowT (hkt7.cell 0)
          have kt1 := cgrowT (hkt7.cell 1)
          simp at kt0 kt1
          have ka0 := cgrowT (hka7.cell 0)
          have ka1 := cgrowT (hka7.cell 1)
          simp at ka0 ka1
          have ks0 := cgrowT (hks7.cell 0)
          have ks1 := cgrowT (hks7.cell 1)
          simp at ks0 ks1
          refine wp_region_quiet_below (by kernel_rfl) (by kernel_rfl) ?_
          repeat (go_big_quiet_step (first | (go_at_call 27; first | exact Calls.regrown_of (hl1 _) | exact Calls.regrown_of (hl2 _) | exact Calls.regrown_of (hl3 _)) | (go_at_call 36; exact Calls.regrown_of (hai _ (below_regrown _ _ _))) | (go_at_call 39; exact Calls.regrown_of (hfc _ (below_regrown _ _ _)))))
          refine wpQuiet_nil ?_
          intro wq hwq
          obtain ⟨⟨dq, osq⟩, rfl⟩ := hwq
          have hqw8 := below_regrown w7 dq osq
          generalize grow (redrawn w7 dq) osq = w8 at hqw8
          clear kt0 kt1 ka0 ka1 ks0 ks1
          have B8 := btr B7 hqw8
          clear hkt7 hka7 hks7 hai hfc hl1 hl2 hl3
          go_wp2
          go_ret
          exact ⟨rfl, B8⟩
        · simp only [hr] at hl2 hl3
          clear hr hsame
          have kt0 := cgrowT (hkt7.cell 0)
          have kt1 := cgrowT (hkt7.cell 1)
          simp at kt0 kt1
          have ka0 := cgrowT (hka7.cell 0)
          have ka1 := cgrowT (hka7.cell 1)
          simp at ka0 ka1
          have ks0 := cgrowT (hks7.cell 0)
          have ks1 := cgrowT (hks7.cell 1)
          simp at ks0 ks1
          refine wp_region_quiet_below (by kernel_rfl) (by kernel_rfl) ?_
          repeat (go_big_quiet_step (first | (go_at_call 27; first | exact Calls.regrown_of (hl1 _) | exact Calls.regrown_of (hl2 _) | exact Calls.regrown_of (hl3 _)) | (go_at_call 36; exact Calls.regrown_of (hai _ (below_regrown _ _ _))) | (go_at_call 39; exact Calls.regrown_of (hfc _ (below_regrown _ _ _)))))
          refine wpQuiet_nil ?_
          intro wq hwq
          obtain ⟨⟨dq, osq⟩, rfl⟩ := hwq
          have hqw8 := below_regrown w7 dq osq
          generalize grow (redrawn w7 dq) osq = w8 at hqw8
          clear kt0 kt1 ka0 ka1 ks0 ks1
          have B8 := btr B7 hqw8
          clear hkt7 hka7 hks7 hai hfc hl1 hl2 hl3
          go_wp2
          go_ret
          exact ⟨rfl, B8⟩

namespace lawFnAdvanceTime
theorem own : ownKnob Try.prog.godebug = none := by kernel_rfl
theorem laidOut : laidOutB Try.prog = true := clo_laid
set_option maxRecDepth 100000 in
theorem lifted (os : Os) (started : os.Started) (H : Type) (enc : TypeId × Value → H) :
    ReturnsInHanded {} Try.checked os 7 .any (Rows.fnAdvanceTimeSpec.pre6 enc Try.prog Try.f7 Rows.fnAdvanceTimeRow.domain false) (Rows.fnAdvanceTimeSpec.post enc Try.prog Try.f7 false true false false) := by
  refine returnsInHanded_of_change (C := Try.checked) own started (by kernel_rfl) Try.func7
    (ChangeSpec.witness6 (enc := enc) (C := Try.checked) false ⟨#[], #[.slice none 0 0, .slice none 0 0], []⟩ 8 (by kernel_rfl) (by kernel_rfl) (by kernel_rfl) (by kernel_rfl)) ?_
  intro W base args ds gs before hval0 hW hcnd _
  have hval : ∀ (j : Nat) t v, Try.f7.params[j]? = some t → args[j]? = some v → Value.okWide Try.prog W .any base t v := hval0
  have hW' := hW
  obtain ⟨p, q, hA0, hV, rfl, hfz, hnd⟩ := hW
  have hA : DataW.TrodAll enc Try.prog W 0 (fun _ => true) true Try.f7.params.toList args.toList ds p := hA0
  rw [Try.params7] at hA hval
  obtain ⟨v0, vs0, d0, ds0, p0, q0, hargs, rfl, rfl, h0, r0⟩ := trodAll_cons hA
  obtain ⟨v1, vs1, d1, ds1, p1, q1, rfl, rfl, rfl, h1, r1⟩ := trodAll_cons r0
  obtain ⟨rfl, rfl, rfl⟩ := trodAll_nil r1
  obtain rfl : args = #[v0, v1] := by cases args; simp_all
  obtain ⟨rfl, rfl⟩ := trodVars_none hV
  have k0 := h0
  have lt0 : ∀ x ∈ p0, x.block < W.heap.size := by obtain ⟨m, hm⟩ := k0; exact DataW.trod_lt m _ _ _ hm
  obtain ⟨a0, len0, cap0, rfl⟩ := okWide_slice Try.underlying22 (hval 0 22 v0 rfl rfl)
  obtain ⟨l0, m0, w0⟩ := bytes_of Try.underlying22 Try.underlying5 (by kernel_rfl) h0
  have k1 := h1
  have lt1 : ∀ x ∈ p1, x.block < W.heap.size := by obtain ⟨m, hm⟩ := k1; exact DataW.trod_lt m _ _ _ hm
  obtain ⟨a1, len1, cap1, rfl⟩ := okWide_slice Try.underlying22 (hval 1 22 v1 rfl rfl)
  obtain ⟨l1, m1, w1⟩ := bytes_of Try.underlying22 Try.underlying5 (by kernel_rfl) h1
  clear hA0 hval0
  refine (FnAdvanceTime_walk a0 len0 cap0 a1 len1 cap1 W l0 m0 w0 l1 m1 w1).mono fun e W' ⟨he, bel⟩ => ?_
  subst he
  exact ⟨_, rfl, _, _, _, [], _, [], hW', trodAll_mk1 (shut_bool Try.underlying4 _), (trodAll_cons_mk (Below.trod laidOut (by kernel_rfl) (of_decide_eq_true (by kernel_rfl)) k0 bel lt0) (trodAll_cons_mk (Below.trod laidOut (by kernel_rfl) (of_decide_eq_true (by kernel_rfl)) k1 bel lt1) trodAll_mk0)), rfl, bel.frame _, fun h => by cases h⟩
theorem andTT {a b : Bool} (h1 : a = true) (h2 : b = true) : (a && b) = true := by rw [h1, h2]; rfl
set_option maxHeartbeats 8000000 in
theorem closed : joinedFacts Try.prog 7 Try.f7 Rows.fnAdvanceTimeSpec Rows.fnAdvanceTimeRow = true := by
  unfold joinedFacts
  repeat' (with_reducible refine andTT ?_ ?_)
  all_goals (first | (with_reducible exact clo_laid) | (with_reducible exact clo_maps) | (with_reducible exact clo_heard) | (with_reducible exact clo_enter) | ((with_reducible refine clo_plain _ ?_); rfl) | ((with_reducible refine clo_lifts _ ?_); rfl) | (as_aux_lemma => kernel_rfl))

theorem over : Rows.fnAdvanceTimeRow.holds Try.pinned (OpenSpec.ofChange Rows.fnAdvanceTimeSpec) :=
  OpenClaim.holds_of_wide 7 Try.f7 rfl rfl rfl rfl rfl rfl rfl ⟨rfl, rfl, rfl, rfl, rfl⟩ rfl rfl rfl rfl rfl (by kernel_rfl) Try.func7 closed
    (of_decide_eq_true (by kernel_rfl)) (by unfold Func.isWrapper; first | (rw [if_pos (by decide +kernel)]; kernel_rfl) | (rw [if_neg (by decide +kernel)]; exact ⟨rfl, rfl⟩))
    (fun os started H enc _ => lifted os started H enc)

/-- THE STATEMENT. -/
theorem proved : Rows.FnAdvanceTimeSaid := over
end lawFnAdvanceTime
end Go.Proofs.Ytjobecoogjojjaa
