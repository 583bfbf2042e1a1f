/- The law FnExactAdvanceTime returns true at every time and every list of times; no condition. -/
import Derived.Test.YtijjbhihlgglhabFrontL
import Derived.Test.YtijjbhihlgglhabFrontG
namespace Go.Proofs.Ytijjbhihlgglhab
open Go.ChangeShapes Go.WideShapes Go.ChangeAt Go.RowKit
set_option linter.unusedVariables false
set_option linter.unusedSimpArgs false

set_option maxHeartbeats 2000000 in
theorem FnExactAdvanceTime_walk (u v : Int) (A : Option Addr) (c : Nat) (xs : List Tm) (w : World) (hl : xs.length ≤ maxLen) (hx : TimesAt w A xs) :
    Calls Try.prog 9 #[.agg #[.int .i64 u, .int .i64 v], .slice A xs.length c] w fun e w' => e = .returned (.bool true) ∧ Below w.heap.size w w' := by
  by_cases hbig : (1048576 : Int) < xs.length
  · go_enter Try.func9, Try.ntmps9
    go_wp2_with fail
    refine (szTimeS_no _ _ _ _ _ (by omega) (by omega) hl hbig).mono ?_
    rintro e w1 ⟨rfl, rfl⟩
    go_wp2_with fail
    go_ret
    exact ⟨rfl, bal (Below.refl _ _) _⟩
  have hs : (xs.length : Int) ≤ 1048576 := by omega
  have hs2 : (0 : Int) ≤ 1048576 - xs.length := by omega
  have hn : xs.length ≤ 4194304 := by omega
  have he : decide (xs = xs) = true := by simp
  have he2 : eqB (atR (u, v) xs).1 (atR (u, v) xs).2 (atR (u, v) xs).1 (atR (u, v) xs).2 = true := by simp [eqB]
  have hblk : Blk (w.alloc (.cells #[.int .i64 u, .int .i64 v] 32)) w.heap.size 32 #[.int .i64 u, .int .i64 v] := Blk.newAt rfl
  have HK := Lib.hid hblk
  have hb0 : Below w.heap.size w (w.alloc (.cells #[.int .i64 u, .int .i64 v] 32)) := bal (Below.refl _ _) _
  clear hbig hblk
  go_enter Try.func9, Try.ntmps9
  go_wp2_with fail
  refine (szTimeS_yes _ _ _ _ _ (by omega) (by omega) hl hs).mono ?_
  rintro e w0 ⟨rfl, rfl⟩
  go_wp2_with fail
  refine (toTime_any _ _ _).mono ?_
  rintro e w1 ⟨rfl, b1⟩
  have B1 := btr hb0 b1
  go_wp2_with fail
  refine (toTimeS_any _ _ _ _ (hx.below B1) hn).mono ?_
  rintro e w2 ⟨rfl, k2, b2⟩
  have B2 := btr B1 b2
  go_wp2_with fail
  refine (AdvanceTime_s (u, v) _ _ _ _ (.ofBlk k2) hn).mono ?_
  rintro e w3 ⟨rfl, b3⟩
  have B3 := bal (btr B2 b3) (.cells #[.int .i64 (atR (u, v) xs).1, .int .i64 (atR (u, v) xs).2] 34)
  have K3 := Lib.hid ((HK.out.below (btr (btr b1 b2) b3)).alloc (.cells #[.int .i64 (atR (u, v) xs).1, .int .i64 (atR (u, v) xs).2] 34))
  have A3 := Lib.hid (Blk.newAt (w := w3) (cs := #[.int .i64 (atR (u, v) xs).1, .int .i64 (atR (u, v) xs).2]) (t := 34) rfl)
  clear HK b1 b2 b3 B1 B2 k2 hb0
  go_wp2_with fail
  refine (toTimeS_any _ _ _ _ (hx.below B3) hn).mono ?_
  rintro e w4 ⟨rfl, k4, b4⟩
  have B4 := btr B3 b4
  have k4 : Blk w4 (w3.heap.size + 1) 34 (timeC xs) := by simpa using k4
  have c4 := (K3.out.below b4).cell
  go_wp2_with fail
  refine (toTime_any _ _ _).mono ?_
  rintro e w5 ⟨rfl, b5⟩
  clear c4
  have B5 := btr B4 b5
  go_wp2_with fail
  refine (AdvanceTime_i (u, v) _ _ _ (.ofBlk (k4.below b5)) hn).mono ?_
  rintro e w6 ⟨rfl, b6⟩
  have B6 := bal (btr B5 b6) (.cells #[.int .i64 (atR (u, v) xs).1, .int .i64 (atR (u, v) xs).2] 34)
  have A6 := (A3.out.below (btr (btr b4 b5) b6)).alloc (.cells #[.int .i64 (atR (u, v) xs).1, .int .i64 (atR (u, v) xs).2] 34)
  have C6 := A6.cell
  have K6 := Lib.hid ((k4.below (btr b5 b6)).alloc (.cells #[.int .i64 (atR (u, v) xs).1, .int .i64 (atR (u, v) xs).2] 34))
  clear b4 b5 b6 B3 B4 B5 A6 k4
  go_wp2_with fail
  refine (eqTime_any _ _ _ _ _).mono ?_
  rintro e w7 ⟨rfl, b7⟩
  clear C6
  have B7 := btr B6 b7
  go_wp2_with fail
  refine (toTimeS_any _ _ _ _ (hx.below B7) hn).mono ?_
  rintro e w8 ⟨rfl, k8, b8⟩
  have B8 := btr B7 b8
  go_wp2_with fail
  refine (eqTimeS_any _ _ _ _ _ _ _ (.ofBlk (K6.out.below (btr b7 b8))) (.ofBlk k8) hn hn).mono ?_
  rintro e w9 ⟨rfl, b9⟩
  go_wp2_with fail
  go_ret
  exact ⟨rfl, btr B8 b9⟩

namespace lawFnExactAdvanceTime
theorem own : ownKnob Try.prog.godebug = none := by kernel_rfl
theorem laidOut : laidOutB Try.prog = true := by kernel_rfl
set_option maxRecDepth 100000 in
theorem lifted (os : Os) (started : os.Started) (H : Type) (enc : TypeId × Value → H) :
    ReturnsInHanded {} Try.checked os 9 .any (Rows.fnExactAdvanceTimeSpec.pre6 enc Try.prog Try.f9 Rows.fnExactAdvanceTimeRow.domain false) (Rows.fnExactAdvanceTimeSpec.post enc Try.prog Try.f9 false true false false) := by
  refine returnsInHanded_of_change (C := Try.checked) own started (by kernel_rfl) Try.func9
    (ChangeSpec.witness6 (enc := enc) (C := Try.checked) false ⟨#[], #[.agg #[.int .i64 0, .int .i64 0], .slice none 0 0], []⟩ 8 (by kernel_rfl) (by kernel_rfl) (by kernel_rfl) (by kernel_rfl)) ?_
  intro W base args ds gs before hval0 hW hcnd _
  have hval : ∀ (j : Nat) t v, Try.f9.params[j]? = some t → args[j]? = some v → Value.okWide Try.prog W .any base t v := hval0
  have hW' := hW
  obtain ⟨p, q, hA0, hV, rfl, hfz, hnd⟩ := hW
  have hA : DataW.TrodAll enc Try.prog W 0 (fun _ => true) true Try.f9.params.toList args.toList ds p := hA0
  rw [Try.params9] at hA hval
  obtain ⟨v0, vs0, d0, ds0, p0, q0, hargs, rfl, rfl, h0, r0⟩ := trodAll_cons hA
  obtain ⟨v1, vs1, d1, ds1, p1, q1, rfl, rfl, rfl, h1, r1⟩ := trodAll_cons r0
  obtain ⟨rfl, rfl, rfl⟩ := trodAll_nil r1
  obtain rfl : args = #[v0, v1] := by cases args; simp_all
  obtain ⟨rfl, rfl⟩ := trodVars_none hV
  have k0 := h0
  have lt0 : ∀ x ∈ p0, x.block < W.heap.size := by obtain ⟨m, hm⟩ := k0; exact DataW.trod_lt m _ _ _ hm
  obtain ⟨c00, c01, y00, y01, m0, rfl, rfl, rfl, hy00, hy01⟩ := Go.Joins.open_agg2 Try.underlying32 (by kernel_rfl) (by kernel_rfl) (hval 0 32 v0 rfl rfl) h0
  obtain ⟨a00, e00, -, wa00⟩ := DataW.trod_int Try.underlying3 hy00
  simp only [List.cons.injEq, and_true] at e00
  subst e00
  obtain ⟨a01, e01, -, wa01⟩ := DataW.trod_int Try.underlying3 hy01
  simp only [List.cons.injEq, and_true] at e01
  subst e01
  have k1 := h1
  have lt1 : ∀ x ∈ p1, x.block < W.heap.size := by obtain ⟨m, hm⟩ := k1; exact DataW.trod_lt m _ _ _ hm
  obtain ⟨a1, len1, cap1, rfl⟩ := okWide_slice Try.underlying22 (hval 1 22 v1 rfl rfl)
  obtain ⟨z1, rfl, l1, w1⟩ := times_of Try.underlying22 Try.underlying32 (by kernel_rfl) rfl rfl (by kernel_rfl) (by kernel_rfl) Try.underlying3 Try.underlying3 h1
  clear hA0 hval0
  refine (FnExactAdvanceTime_walk a00 a01 a1 cap1 z1 W l1 w1).mono fun e W' ⟨he, bel⟩ => ?_
  subst he
  exact ⟨_, rfl, _, _, _, [], _, [], hW', trodAll_mk1 (shut_bool Try.underlying4 _), (trodAll_cons_mk (Below.trod laidOut (by kernel_rfl) (of_decide_eq_true (by kernel_rfl)) k0 bel lt0) (trodAll_cons_mk (Below.trod laidOut (by kernel_rfl) (of_decide_eq_true (by kernel_rfl)) k1 bel lt1) trodAll_mk0)), rfl, bel.frame _, fun h => by cases h⟩

theorem over : Rows.fnExactAdvanceTimeRow.holds Try.pinned (OpenSpec.ofChange Rows.fnExactAdvanceTimeSpec) :=
  OpenClaim.holds_of_wide 9 Try.f9 rfl rfl rfl rfl rfl rfl rfl ⟨rfl, rfl, rfl, rfl, rfl⟩ rfl rfl rfl rfl rfl (by kernel_rfl) Try.func9 (by kernel_rfl)
    (of_decide_eq_true (by kernel_rfl)) (by unfold Func.isWrapper; first | (rw [if_pos (by decide +kernel)]; kernel_rfl) | (rw [if_neg (by decide +kernel)]; exact ⟨rfl, rfl⟩))
    (fun os started H enc _ => lifted os started H enc)

/-- THE STATEMENT. -/
theorem proved : Rows.FnExactAdvanceTimeSaid := over
end lawFnExactAdvanceTime
end Go.Proofs.Ytijjbhihlgglhab
