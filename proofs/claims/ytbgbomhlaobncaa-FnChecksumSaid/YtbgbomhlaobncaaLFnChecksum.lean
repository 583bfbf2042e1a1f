/- The law FnChecksum returns true at every code; no condition. -/
import Derived.Test.YtbgbomhlaobncaaDrawCk
import Derived.Test.YtbgbomhlaobncaaCrc
import Derived.Test.YtbgbomhlaobncaaCri
import Derived.Test.YtbgbomhlaobncaaClo
import Derived.Carry
import Derived.ChangeOld
import Derived.Lib.SmallJoins
import Derived.Lib.QuietBelow
namespace Go.Proofs.Ytbgbomhlaobncaa
open Go.ChangeShapes Go.WideShapes Go.ChangeAt Go.RowKit Go.Sort
set_option linter.unusedVariables false
set_option linter.unusedSimpArgs false

/-- v is a new list of this one byte. -/
def NewB (base : Nat) (x : Int) (v : Value) (w : World) : Prop := ∃ G, v = .slice (some ⟨G, 0, none⟩) 1 1 ∧ base ≤ G ∧ Blk w G 5 #[.int .u8 x]
theorem stable_newB (base : Nat) (x : Int) : Stable (NewB base x) := fun _ _ _ hb ⟨G, e, h, k⟩ => ⟨G, e, h, k.below hb⟩
theorem conv_new {w : World} {G : Nat} {x : Int} (h : Blk w G 5 #[.int .u8 x]) : (convert 22 9 (.slice (some ⟨G, 0, none⟩) 1 1)).run Try.prog w = .ok (.string (strOfNums [x])) w :=
  run_convert_bytes_arg w _ _ Try.underlying22 Try.underlying5 G 0 1 1 [x] rfl (fun i hi => by
    have := h.cell i
    match i, hi with
    | 0, _ => simpa using this) _ Try.underlying9
set_option maxRecDepth 100000 in
set_option maxHeartbeats 6400000 in
theorem FnChecksum_walk (A : Option Addr) (n c : Nat) (w : World) (hc : n ≤ c) (hl : n ≤ maxLen) (hb : BytesAt w w.heap.size A n) :
    Calls Try.prog 3 #[.slice A n c] w fun e w' => e = .returned (.bool true) ∧ Below w.heap.size w w' := by
  unfold maxLen at hl
  by_cases hbign : 1048576 < n
  · have hb' : (1048576 : Int) < n := by omega
    go_enter Try.func3, Try.ntmps3
    go_wp2
    go_ret
    exact ⟨rfl, Below.refl _ _⟩
  have hbn' : (n : Int) ≤ 1048576 := by omega
  have HB := Lib.hid hb
  clear hb hbign
  go_enter Try.func3, Try.ntmps3
  go_wp2_with fail
  refine (DrawChecksum_r _ _ _ _ HB.out hc (by omega)).mono ?_
  rintro e w1 ⟨s, rfl, hs, B1⟩
  go_wp2_with fail
  refine (Checksum_i s w1 (by omega)).mono ?_
  rintro e w2 ⟨rfl, b2⟩
  have B2 := btr B1 b2
  go_wp2_with fail
  refine (Checksum_s s w2 (by omega)).mono ?_
  rintro e w3 ⟨rfl, rfl⟩
  have HNN := Lib.hid (CrcF_nn s)
  have HFL := Lib.hid (fun i (hi : i < s.size) => flip_crc hi)
  have HFS := Lib.hid (fun i (hi : i < s.size) => flip_size hi)
  have HDG := Lib.hid CrcF_digits
  have hne : (CrcF s != CrcF s) = false := by simp
  generalize CrcF s = C at *
  have HB2 := Lib.hid B2
  clear B2 B1 b2
  go_wp2
  clear hne
  go_loopw [5, 6] (fun iv _ wr => ∃ i : Nat, i ≤ s.size ∧ i ≤ 20 ∧ iv = .int .i64 (i : Nat) ∧ Below w.heap.size w wr) (fun iv _ _ => s.size - (intOf iv).toNat)
  case atStart => exact ⟨0, by omega, by omega, rfl, HB2.out⟩
  case round =>
    clear HB2
    obtain ⟨i, hi, hi20, rfl, hbel⟩ := hrel
    by_cases hlt : i < s.size ∧ i < 20
    · obtain ⟨hlt, hl20⟩ := hlt
      have hltI : (i : Int) < s.size := by omega
      have hl20I : (i : Int) < 20 := by omega
      have hidx := byteAt_get hlt
      have hbb := byteAt_lt s i
      have hget : ((s[i]'hlt).toNat : Int) = ((byteAt s i : Nat) : Int) := by
        have := hidx
        rw [getElem?_pos s i hlt] at this
        injection this with this
        rw [this]; rfl
      have hx4 : bits .xor .u8 ((byteAt s i : Nat) : Int) 4 = ((byteAt s i ^^^ 4 : Nat) : Int) := u8_xor_nat (byteAt s i) 4 hbb (by decide)
      have HAP := Lib.hid (HFL.out i hlt)
      have HSZ := Lib.hid (HFS.out i hlt)
      have HTX : Hid (flipC s i = s.extract 0 i ++ strOfNums [((byteAt s i ^^^ 4 : Nat) : Int)] ++ s.extract (i + 1) s.size) := rfl
      generalize flipC s i = T at *
      have hsz4 : s.size ≤ 100 := hs
      go_wp2_with fail
      refine wp_region_facts [[], [], [0, 1], [], [], [3, 4], [3, 4, 5], [3, 4, 5, 6], [3, 4, 5, 6, 7], List.range 9, [], [], [11], [10, 11, 12], List.range 14]
        [fun v' _ => v' = .string s, fun v' _ => v' = .int .i64 (i : Nat), fun v' _ => v' = .string (s.extract 0 i), fun v' _ => v' = .string s, fun v' _ => v' = .int .i64 (i : Nat), fun v' _ => v' = .int .u8 ((byteAt s i : Nat) : Int), fun v' _ => v' = .int .u8 ((byteAt s i ^^^ 4 : Nat) : Int), NewB wr.heap.size ((byteAt s i ^^^ 4 : Nat) : Int), fun v' _ => v' = .string (strOfNums [((byteAt s i ^^^ 4 : Nat) : Int)]), fun v' _ => v' = .string (s.extract 0 i ++ strOfNums [((byteAt s i ^^^ 4 : Nat) : Int)]), fun v' _ => v' = .string s, fun v' _ => v' = .int .i64 (i : Nat), fun v' _ => v' = .int .i64 ((i : Int) + 1), fun v' _ => v' = .string (s.extract (i + 1) s.size), fun v' _ => v' = .string (s.extract 0 i ++ strOfNums [((byteAt s i ^^^ 4 : Nat) : Int)] ++ s.extract (i + 1) s.size)]
        (by kernel_rfl) (by kernel_rfl) rfl ⟨stable_pure _, stable_pure _, stable_pure _, stable_pure _, stable_pure _, stable_pure _, stable_pure _, stable_newB _ _, stable_pure _, stable_pure _, stable_pure _, stable_pure _, stable_pure _, stable_pure _, stable_pure _, trivial⟩ ?_
      refine wf_stepK [] [] (by kernel_rfl) (by kernel_rfl) (fun wf hb hf => ?_) (fun t0 => ?_)
      · refine ⟨?_⟩
        go_wp2
        exact ⟨rfl, .string s, by kernel_rfl, Below.refl _ _, rfl⟩
      refine wf_stepK [] [] (by kernel_rfl) (by kernel_rfl) (fun wf hb hf => ?_) (fun t1 => ?_)
      · refine ⟨?_⟩
        go_wp2
        exact ⟨rfl, .int .i64 (i : Nat), by kernel_rfl, Below.refl _ _, rfl⟩
      refine wf_stepK [0, 1] [fun _ => t0 = .string s, fun _ => t1 = .int .i64 (i : Nat)] (by kernel_rfl) (by kernel_rfl) (fun wf hb hf => ?_) (fun t2 => ?_)
      · obtain ⟨rfl, rfl, -⟩ := hf
        refine ⟨?_⟩
        go_wp2
        exact ⟨rfl, .string (s.extract 0 i), by kernel_rfl, Below.refl _ _, rfl⟩
      refine wf_stepK [] [] (by kernel_rfl) (by kernel_rfl) (fun wf hb hf => ?_) (fun t3 => ?_)
      · refine ⟨?_⟩
        go_wp2
        exact ⟨rfl, .string s, by kernel_rfl, Below.refl _ _, rfl⟩
      refine wf_stepK [] [] (by kernel_rfl) (by kernel_rfl) (fun wf hb hf => ?_) (fun t4 => ?_)
      · refine ⟨?_⟩
        go_wp2
        exact ⟨rfl, .int .i64 (i : Nat), by kernel_rfl, Below.refl _ _, rfl⟩
      refine wf_stepK [3, 4] [fun _ => t3 = .string s, fun _ => t4 = .int .i64 (i : Nat)] (by kernel_rfl) (by kernel_rfl) (fun wf hb hf => ?_) (fun t5 => ?_)
      · obtain ⟨rfl, rfl, -⟩ := hf
        refine ⟨?_⟩
        have h0 : (0 : Int) ≤ (i : Int) := by omega
        go_wp2
        first | exact ⟨rfl, .int .u8 ((byteAt s i : Nat) : Int), by rw [hget]; kernel_rfl, Below.refl _ _, rfl⟩ | exact ⟨rfl, .int .u8 ((byteAt s i : Nat) : Int), by kernel_rfl, Below.refl _ _, rfl⟩
      refine wf_stepK [5] [fun _ => t5 = .int .u8 ((byteAt s i : Nat) : Int)] (by kernel_rfl) (by kernel_rfl) (fun wf hb hf => ?_) (fun t6 => ?_)
      · obtain ⟨rfl, -⟩ := hf
        refine ⟨?_⟩
        go_wp2
        exact ⟨rfl, .int .u8 ((byteAt s i ^^^ 4 : Nat) : Int), by kernel_rfl, Below.refl _ _, rfl⟩
      refine wf_stepK [6] [fun _ => t6 = .int .u8 ((byteAt s i ^^^ 4 : Nat) : Int)] (by kernel_rfl) (by kernel_rfl) (fun wf hb hf => ?_) (fun t7 => ?_)
      · obtain ⟨rfl, -⟩ := hf
        refine ⟨?_⟩
        go_wp2
        exact ⟨rfl, .slice (some ⟨wf.heap.size, 0, none⟩) 1 1, by kernel_rfl, bal (Below.refl _ _) _, _, rfl, hb.size, Blk.newAt rfl⟩
      refine wf_stepK [7] [NewB wr.heap.size ((byteAt s i ^^^ 4 : Nat) : Int) t7] (by kernel_rfl) (by kernel_rfl) (fun wf hb hf => ?_) (fun t8 => ?_)
      · obtain ⟨⟨G, rfl, hGl, hG⟩, -⟩ := hf
        refine ⟨?_⟩
        have hcv := conv_new hG
        go_wp2
        exact ⟨rfl, .string (strOfNums [((byteAt s i ^^^ 4 : Nat) : Int)]), by kernel_rfl, Below.refl _ _, rfl⟩
      refine wf_stepK [2, 8] [fun _ => t2 = .string (s.extract 0 i), fun _ => t8 = .string (strOfNums [((byteAt s i ^^^ 4 : Nat) : Int)])] (by kernel_rfl) (by kernel_rfl) (fun wf hb hf => ?_) (fun t9 => ?_)
      · obtain ⟨rfl, rfl, -⟩ := hf
        refine ⟨?_⟩
        have hc1 : ¬ (9223372036854775807 < i + (strOfNums [((byteAt s i ^^^ 4 : Nat) : Int)]).size) := by rw [strOfNums_size, List.length_singleton]; omega
        go_wp2
        exact ⟨rfl, .string (s.extract 0 i ++ strOfNums [((byteAt s i ^^^ 4 : Nat) : Int)]), by kernel_rfl, Below.refl _ _, rfl⟩
      refine wf_stepK [] [] (by kernel_rfl) (by kernel_rfl) (fun wf hb hf => ?_) (fun t10 => ?_)
      · refine ⟨?_⟩
        go_wp2
        exact ⟨rfl, .string s, by kernel_rfl, Below.refl _ _, rfl⟩
      refine wf_stepK [] [] (by kernel_rfl) (by kernel_rfl) (fun wf hb hf => ?_) (fun t11 => ?_)
      · refine ⟨?_⟩
        go_wp2
        exact ⟨rfl, .int .i64 (i : Nat), by kernel_rfl, Below.refl _ _, rfl⟩
      refine wf_stepK [11] [fun _ => t11 = .int .i64 (i : Nat)] (by kernel_rfl) (by kernel_rfl) (fun wf hb hf => ?_) (fun t12 => ?_)
      · obtain ⟨rfl, -⟩ := hf
        refine ⟨?_⟩
        go_wp2
        exact ⟨rfl, .int .i64 ((i : Int) + 1), by kernel_rfl, Below.refl _ _, rfl⟩
      refine wf_stepK [10, 12] [fun _ => t10 = .string s, fun _ => t12 = .int .i64 ((i : Int) + 1)] (by kernel_rfl) (by kernel_rfl) (fun wf hb hf => ?_) (fun t13 => ?_)
      · obtain ⟨rfl, rfl, -⟩ := hf
        refine ⟨?_⟩
        go_wp2
        exact ⟨rfl, .string (s.extract (i + 1) s.size), by kernel_rfl, Below.refl _ _, rfl⟩
      refine wf_stepK [9, 13] [fun _ => t9 = .string (s.extract 0 i ++ strOfNums [((byteAt s i ^^^ 4 : Nat) : Int)]), fun _ => t13 = .string (s.extract (i + 1) s.size)] (by kernel_rfl) (by kernel_rfl) (fun wf hb hf => ?_) (fun t14 => ?_)
      · obtain ⟨rfl, rfl, -⟩ := hf
        refine ⟨?_⟩
        have hc1 : ¬ (9223372036854775807 < i + (strOfNums [((byteAt s i ^^^ 4 : Nat) : Int)]).size + (s.size - (i + 1))) := by rw [strOfNums_size, List.length_singleton]; omega
        go_wp2
        exact ⟨rfl, .string (s.extract 0 i ++ strOfNums [((byteAt s i ^^^ 4 : Nat) : Int)] ++ s.extract (i + 1) s.size), by kernel_rfl, Below.refl _ _, rfl⟩
      refine wf_doneK [14] [fun _ => t14 = .string (s.extract 0 i ++ strOfNums [((byteAt s i ^^^ 4 : Nat) : Int)] ++ s.extract (i + 1) s.size)] (by kernel_rfl) (by kernel_rfl) (fun w9 b9 hf => ?_)
      obtain ⟨rfl, -⟩ := hf
      show wpList _ _ _ [_] _ _
      refine wpList_frame (by simp [Act.put]; rfl) ?_
      have HB9 := Lib.hid (btr hbel b9)
      rw [← HTX.out]
      have hck := Checksum_i T w9 (by rw [HSZ.out]; omega)
      have hne : (CrcF T == C) = false := by rw [beq_eq_false_iff_ne]; exact HAP.out
      clear hbel b9 hx4 hget hidx hbb HTX
      generalize CrcF T = C2 at *
      go_wp2_with fail
      refine hck.mono ?_
      rintro e w5 ⟨rfl, b5⟩
      have HB5 := Lib.hid (btr HB9.out b5)
      clear hck b5 HB9 HAP
      go_wp2
      go_roundw
      case rel => exact ⟨i + 1, by omega, by omega, by go_num, HB5.out⟩
      case measure => simp [intOf]; omega
    · have hnn : (0 : Int) ≤ C := HNN.out
      have hdg := Checksum_i ⟨#[49, 50, 51, 52, 53, 54, 55, 56, 57]⟩ wr (by decide)
      rw [HDG.out] at hdg
      by_cases h1 : i < s.size
      · have h2 : i = 20 := by omega
        have h1I : (i : Int) < s.size := by omega
        have h2I : ¬ ((i : Int) < 20) := by omega
        go_wp2_with fail
        refine hdg.mono ?_
        rintro e w5 ⟨rfl, b5⟩
        have B5 := btr hbel b5
        go_wp2_with fail
        go_ret
        exact ⟨rfl, B5⟩
      · have h1I : ¬ ((i : Int) < s.size) := by omega
        go_wp2_with fail
        refine hdg.mono ?_
        rintro e w5 ⟨rfl, b5⟩
        have B5 := btr hbel b5
        go_wp2_with fail
        go_ret
        exact ⟨rfl, B5⟩

namespace lawFnChecksum
theorem own : ownKnob Try.prog.godebug = none := by kernel_rfl
theorem laidOut : laidOutB Try.prog = true := clo_laid
set_option maxRecDepth 100000 in
theorem lifted (os : Os) (started : os.Started) (H : Type) (enc : TypeId × Value → H) :
    ReturnsInHanded {} Try.checked os 3 .any (Rows.fnChecksumSpec.pre6 enc Try.prog Try.f3 Rows.fnChecksumRow.domain false) (Rows.fnChecksumSpec.post enc Try.prog Try.f3 false true false false) := by
  refine returnsInHanded_of_change (C := Try.checked) own started (by kernel_rfl) Try.func3
    (ChangeSpec.witness6 (enc := enc) (C := Try.checked) false ⟨#[], #[.slice none 0 0], []⟩ 8 (by kernel_rfl) (by kernel_rfl) (by kernel_rfl) (by kernel_rfl)) ?_
  intro W base args ds gs before hval0 hW hcnd _
  have hval : ∀ (j : Nat) t v, Try.f3.params[j]? = some t → args[j]? = some v → Value.okWide Try.prog W .any base t v := hval0
  have hW' := hW
  obtain ⟨p, q, hA0, hV, rfl, hfz, hnd⟩ := hW
  have hA : DataW.TrodAll enc Try.prog W 0 (fun _ => true) true Try.f3.params.toList args.toList ds p := hA0
  rw [Try.params3] at hA hval
  obtain ⟨v0, vs0, d0, ds0, p0, q0, hargs, rfl, rfl, h0, r0⟩ := trodAll_cons hA
  obtain ⟨rfl, rfl, rfl⟩ := trodAll_nil r0
  obtain rfl : args = #[v0] := by cases args; simp_all
  obtain ⟨rfl, rfl⟩ := trodVars_none hV
  have k0 := h0
  have lt0 : ∀ x ∈ p0, x.block < W.heap.size := by obtain ⟨m, hm⟩ := k0; exact DataW.trod_lt m _ _ _ hm
  obtain ⟨a0, len0, cap0, rfl⟩ := okWide_slice Try.underlying22 (hval 0 22 v0 rfl rfl)
  obtain ⟨l0, m0, w0⟩ := bytes_of Try.underlying22 Try.underlying5 (by kernel_rfl) h0
  clear hA0 hval0
  refine (FnChecksum_walk a0 len0 cap0 W l0 m0 w0).mono fun e W' ⟨he, bel⟩ => ?_
  subst he
  exact ⟨_, rfl, _, _, _, [], _, [], hW', trodAll_mk1 (shut_bool Try.underlying4 _), (trodAll_cons_mk (Below.trod laidOut (by kernel_rfl) (of_decide_eq_true (by kernel_rfl)) k0 bel lt0) trodAll_mk0), rfl, bel.frame _, fun h => by cases h⟩
theorem andTT {a b : Bool} (h1 : a = true) (h2 : b = true) : (a && b) = true := by rw [h1, h2]; rfl
set_option maxHeartbeats 8000000 in
theorem closed : joinedFacts Try.prog 3 Try.f3 Rows.fnChecksumSpec Rows.fnChecksumRow = true := by
  unfold joinedFacts
  repeat' (with_reducible refine andTT ?_ ?_)
  all_goals (first | (with_reducible exact clo_laid) | (with_reducible exact clo_maps) | (with_reducible exact clo_heard) | (with_reducible exact clo_enter) | ((with_reducible refine clo_plain _ ?_); rfl) | ((with_reducible refine clo_lifts _ ?_); rfl) | (as_aux_lemma => kernel_rfl))

theorem over : Rows.fnChecksumRow.holds Try.pinned (OpenSpec.ofChange Rows.fnChecksumSpec) :=
  OpenClaim.holds_of_wide 3 Try.f3 rfl rfl rfl rfl rfl rfl rfl ⟨rfl, rfl, rfl, rfl, rfl⟩ rfl rfl rfl rfl rfl (by kernel_rfl) Try.func3 closed
    (of_decide_eq_true (by kernel_rfl)) (by unfold Func.isWrapper; first | (rw [if_pos (by decide +kernel)]; kernel_rfl) | (rw [if_neg (by decide +kernel)]; exact ⟨rfl, rfl⟩))
    (fun os started H enc _ => lifted os started H enc)

/-- THE STATEMENT. -/
theorem proved : Rows.FnChecksumSaid := over
end lawFnChecksum
end Go.Proofs.Ytbgbomhlaobncaa
