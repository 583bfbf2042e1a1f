/- The law FnConsolidate returns true at every code; no condition. -/
import Derived.Test.YtjobecoogjojjaaDrawC
import Derived.Test.YtjobecoogjojjaaEqT
import Derived.Test.YtjobecoogjojjaaTrM
import Derived.Test.YtjobecoogjojjaaClo
import Derived.Carry
import Derived.ChangeOld
import Derived.Lib.SmallJoins
import Derived.Lib.QuietBelow
namespace Go.Proofs.Ytjobecoogjojjaa
open Go.ChangeShapes Go.WideShapes Go.ChangeAt Go.RowKit Go.Sort
set_option linter.unusedVariables false
set_option linter.unusedSimpArgs false

theorem updR_mk {w : World} {A : Option Addr} {c : Nat} {xs : List Int} {p q x : Int} (hl : xs.length ≤ maxLen) (h : IntsAt w A xs) : UpdR w [.slice A xs.length c, .int .i64 p, .int .i64 q, .int .i64 x] ((xs, (p, q)), x) :=
  ⟨[_, _, _], [_], rfl, ⟨[_], [_, _], rfl, ⟨A, c, rfl, hl, h⟩, ⟨[_], [_], rfl, rfl, rfl⟩⟩, rfl⟩
set_option maxRecDepth 100000 in
set_option maxHeartbeats 6400000 in
theorem FnConsolidate_walk (A : Option Addr) (n c : Nat) (w : World) (hc : n ≤ c) (hl : n ≤ maxLen) (hb : BytesAt w w.heap.size A n) :
    Calls Try.prog 4 #[.slice A n c] w fun e w' => e = .returned (.bool true) ∧ Below w.heap.size w w' := by
  unfold maxLen at hl
  by_cases hbign : 1048576 < n
  · have hb' : (1048576 : Int) < n := by omega
    go_enter Try.func4, Try.ntmps4
    go_wp2
    go_ret
    exact ⟨rfl, Below.refl _ _⟩
  have hbn' : (n : Int) ≤ 1048576 := by omega
  have HB := Lib.hid hb
  clear hb hbign
  go_enter Try.func4, Try.ntmps4
  go_wp2_with fail
  refine (DrawConsolidate_r _ _ _ _ HB.out hc (by omega)).mono ?_
  rintro e w1 ⟨z, Az, cz, rfl, hz, B1⟩
  have nz : z.length ≤ 4194304 := by have := hz.2.1; omega
  have rz : rowsU z 4194304 := rows_bigU hz.2.2.1 (by decide)
  obtain ⟨i0, hi, hz0, hz1, hz2⟩ := info_parts Try.infoUpd
  go_wp2_with fail
  refine (Consolidate_i _ _ (z) _ (SlOw.at_ updO hz.1) nz rz).mono ?_
  rintro e w2 ⟨A2, c2, rfl, o2, b2⟩
  have B2 := btr B1 b2
  have a2 : UpdsAt w2 A2 (ConsF (z)) := SlOw.at_ updO o2
  go_wp2_with fail
  refine (Consolidate_s _ _ (z) _ ((SlOw.at_ updO hz.1).below updR b2) nz rz).mono ?_
  rintro e w3 ⟨A3, c3, rfl, o3, b3⟩
  have B3 := btr B2 b3
  have a3 : UpdsAt w3 A3 (ConsF (z)) := SlOw.at_ updO o3
  go_wp2_with fail
  refine (equalT (xs := ConsF (z)) (ys := ConsF (z)) true (decide_eq_true rfl) (a2.below updR b3) a3 (Nat.le_trans (ConsF_len _) (by decide)) (Nat.le_trans (ConsF_len _) (by decide)) (rows_bigU (ConsF_row _) (by decide)) (rows_bigU (ConsF_row _) (by decide))).mono ?_
  rintro e w4 ⟨rfl, b4⟩
  have B4 := btr B3 b4
  have hatz : UpdsAt w4 Az z := ((SlOw.at_ updO hz.1).below updR (btr (btr b2 b3) b4))
  have hatn : UpdsAt w4 A2 (ConsF z) := (a2.below updR (btr b3 b4))
  have hown0 := World.ownsRow_lit (base := w4.heap.size) (size := 4) (e := 37) w4 #[] 0 (Nat.le_refl _) (by simp [maxLen]) (by simp)
  have hzl := hz.2.1
  go_wp2
  go_loopw [5, 6] (fun v i wr => ∃ (m : Nat) (A' : Option Addr) (c' : Nat) (css : List (List Value)), m ≤ z.length ∧ i = .int .i64 ((m : Int) - 1) ∧ v = .slice A' (z.length - m) c' ∧ wr.ownsRow w4.heap.size 37 4 (.slice A' (z.length - m) c') (z.length - m) css.flatten ∧ RdL UpdR w4 css (z.drop m).reverse ∧ Below w4.heap.size w4 wr) (fun _ i _ => (intOf i + 1).toNat)
  case atStart => exact ⟨z.length, _, _, [], by omega, rfl, by rw [Nat.sub_self], by rw [Nat.sub_self]; exact hown0, by rw [List.drop_length]; exact RdL.nil, bal (Below.refl _ _) _⟩
  case round =>
    obtain ⟨m, A', c', css, hm, rfl, rfl, hown, hrd, b5⟩ := hrel
    rcases Nat.eq_zero_or_pos m with h0 | hp
    · subst h0
      rw [Nat.sub_zero] at hown ⊢
      rw [List.drop_zero] at hrd
      have hat : UpdsAt wr A' z.reverse := (hrd.below updR b5).at_ updR (by simp) hown
      have hcap : z.length ≤ c' := by
        rcases ownsRow_form hown with ⟨_, _, h⟩ | ⟨_, _, _, _, h, _⟩
        · omega
        · exact h
      have HRR : Hid (rowsU z.reverse 4194304) := fun e he => rz e (List.mem_reverse.1 he)
      have hcn := fun W (h : UpdsAt W A' z.reverse) => Consolidate_i A' c' z.reverse W h (by simpa using nz) HRR.out
      rw [List.length_reverse] at hcn
      have B5 := btr B4 b5
      have hatn2 := hatn.below updR b5
      rw [show ((0 : Nat) : Int) - 1 = -1 from rfl]
      clear hown hrd hown0 hatz
      have hcs := fun W (h : UpdsAt W A2 (ConsF z)) => Consolidate_i A2 c2 (ConsF z) W h (Nat.le_trans (ConsF_len _) (by decide)) (rows_bigU (ConsF_row _) (by decide))
      rw [ConsF_self (trB_ConsF z)] at hcs
      go_wp2_with fail
      refine (validT (c := c2) true (trB_ConsF z) hatn2 (Nat.le_trans (ConsF_len _) (by decide)) (rows_bigU (ConsF_row _) (by decide))).mono ?_
      rintro e v1 ⟨rfl, d1⟩
      have D1 := btr B5 d1
      go_wp2_with fail
      refine (hcs _ (hatn2.below updR d1)).mono ?_
      rintro e v2 ⟨A6, c6, rfl, o6, d2⟩
      have a6 : UpdsAt v2 A6 (ConsF z) := SlOw.at_ updO o6
      clear hcs
      go_wp2_with fail
      refine (equalT (xs := ConsF z) (ys := ConsF z) true (decide_eq_true rfl) a6 (hatn2.below updR (btr d1 d2)) (Nat.le_trans (ConsF_len _) (by decide)) (Nat.le_trans (ConsF_len _) (by decide)) (rows_bigU (ConsF_row _) (by decide)) (rows_bigU (ConsF_row _) (by decide))).mono ?_
      rintro e v3 ⟨rfl, d3⟩
      have D3 := btr (btr D1 d2) d3
      have hcn2 := hcn v3 (hat.below updR (btr (btr d1 d2) d3))
      clear hcn
      go_wp2_with fail
      refine hcn2.mono ?_
      rintro e wA ⟨A2', c2', rfl, o2, b2⟩
      have a2 : UpdsAt wA A2' (ConsF z.reverse) := SlOw.at_ updO o2
      clear hcn2
      go_wp2_with fail
      refine (equalT (xs := ConsF z.reverse) (ys := ConsF z) true (decide_eq_true (ConsF_perm (List.reverse_perm z))) a2 (hatn2.below updR (btr (btr (btr d1 d2) d3) b2)) (Nat.le_trans (ConsF_len _) (by decide)) (Nat.le_trans (ConsF_len _) (by decide)) (rows_bigU (ConsF_row _) (by decide)) (rows_bigU (ConsF_row _) (by decide))).mono ?_
      rintro e wB ⟨rfl, b3⟩
      have BB := btr (btr D3 b2) b3
      go_wp2_with fail
      go_ret
      exact ⟨rfl, BB⟩
    · obtain ⟨j, rfl⟩ : ∃ j, m = j + 1 := ⟨m - 1, by omega⟩
      have hj : j < z.length := by omega
      obtain ⟨b, off, RA, rc, hAe, hbl, hc0, hc1, hc2, hc3, hml, hrow⟩ := hatz.get j hj
      subst hAe
      have q0 := (b5.cell (p := ⟨b, off + j * 4, none⟩) hbl).trans hc0
      have q1 := (b5.cell (p := ⟨b, off + j * 4 + 1, none⟩) hbl).trans hc1
      have q2 := (b5.cell (p := ⟨b, off + j * 4 + 2, none⟩) hbl).trans hc2
      have q3 := (b5.cell (p := ⟨b, off + j * 4 + 3, none⟩) hbl).trans hc3
      have hst : (z.drop j).reverse = (z.drop (j + 1)).reverse ++ [z[j]] := by rw [List.drop_eq_getElem_cons hj, List.reverse_cons]
      have hsn := hrd.snoc (updR_mk (c := rc) (p := z[j].1.2.1) (q := z[j].1.2.2) (x := z[j].2) hml hrow)
      rw [show ((z[j].1.1, (z[j].1.2.1, z[j].1.2.2)), z[j].2) = z[j] from rfl, ← hst] at hsn
      have HSN := Lib.hid hsn
      have hs1 := b5.size
      have hsub : z.length - (j + 1) + 1 = z.length - j := by omega
      have hsrc := upd_srcs (w1 := wr) (RA := RA) (n := z[j].1.1.length) (rc := rc) (p := z[j].1.2.1) (q := z[j].1.2.2) (x := z[j].2) (E := 37)
      have hj1 : (0 : Int) ≤ j := by omega
      have hj2 : (j : Int) < z.length := by omega
      rw [show (((j + 1 : Nat) : Int) - 1) = (j : Int) by omega]
      clear hc0 hc1 hc2 hc3 hst hrd hsn hml hatz
      go_wp2_with (at_builtin; refine wpList_append_src _ rfl _ _ 30 rfl w4.heap.size 37 i0 (.agg #[.slice none 0 0, .int .i64 0, .int .i64 0, .int .i64 0]) 4 48 Try.underlying30 hi hz0 hz1 hz2 rfl (by decide) _ _ _ rfl (hown.alloc _) (some ⟨wr.heap.size, 0, none⟩) 1 1 [.slice RA z[j].1.1.length rc, .int .i64 z[j].1.2.1, .int .i64 z[j].1.2.2, .int .i64 z[j].2] rfl rfl (fun h => by cases h) hsrc upd_ones (by unfold maxLen; omega) (by omega) (by simp; omega) ?_)
      intro v' w8 hown' hgrow hloc
      obtain ⟨A3, c3, rfl⟩ := own_slice hown'
      have hb3 : Below w4.heap.size w4 w8 := (bal b5 _).grown hgrow (by simp; omega) (fun q hq => (World.ownsRow.lt hown q hq).1)
      try rw [hsub] at hown'
      try rw [hsub]
      have HRR : Hid (w8.ownsRow w4.heap.size 37 4 (.slice A3 (z.length - j) c3) (z.length - j) (css ++ [[Value.slice RA z[j].1.1.length rc, Value.int .i64 z[j].1.2.1, Value.int .i64 z[j].1.2.2, Value.int .i64 z[j].2]]).flatten) := by simpa [Hid] using hown'
      clear hown' hgrow hloc hown b5 q0 q1 q2 q3 hown0 hsub
      go_wp2
      go_roundw
      case rel => exact ⟨j, A3, c3, _, by omega, rfl, rfl, HRR.out, HSN.out, hb3⟩
      case measure => first | (simp [intOf]; done) | (simp [intOf]; omega)


namespace lawFnConsolidate
theorem own : ownKnob Try.prog.godebug = none := by kernel_rfl
theorem laidOut : laidOutB Try.prog = true := clo_laid
set_option maxRecDepth 100000 in
theorem lifted (os : Os) (started : os.Started) (H : Type) (enc : TypeId × Value → H) :
    ReturnsInHanded {} Try.checked os 4 .any (Rows.fnConsolidateSpec.pre6 enc Try.prog Try.f4 Rows.fnConsolidateRow.domain false) (Rows.fnConsolidateSpec.post enc Try.prog Try.f4 false true false false) := by
  refine returnsInHanded_of_change (C := Try.checked) own started (by kernel_rfl) Try.func4
    (ChangeSpec.witness6 (enc := enc) (C := Try.checked) false ⟨#[], #[.slice none 0 0], []⟩ 8 (by kernel_rfl) (by kernel_rfl) (by kernel_rfl) (by kernel_rfl)) ?_
  intro W base args ds gs before hval0 hW hcnd _
  have hval : ∀ (j : Nat) t v, Try.f4.params[j]? = some t → args[j]? = some v → Value.okWide Try.prog W .any base t v := hval0
  have hW' := hW
  obtain ⟨p, q, hA0, hV, rfl, hfz, hnd⟩ := hW
  have hA : DataW.TrodAll enc Try.prog W 0 (fun _ => true) true Try.f4.params.toList args.toList ds p := hA0
  rw [Try.params4] at hA hval
  obtain ⟨v0, vs0, d0, ds0, p0, q0, hargs, rfl, rfl, h0, r0⟩ := trodAll_cons hA
  obtain ⟨rfl, rfl, rfl⟩ := trodAll_nil r0
  obtain rfl : args = #[v0] := by cases args; simp_all
  obtain ⟨rfl, rfl⟩ := trodVars_none hV
  have k0 := h0
  have lt0 : ∀ x ∈ p0, x.block < W.heap.size := by obtain ⟨m, hm⟩ := k0; exact DataW.trod_lt m _ _ _ hm
  obtain ⟨a0, len0, cap0, rfl⟩ := okWide_slice Try.underlying22 (hval 0 22 v0 rfl rfl)
  obtain ⟨l0, m0, w0⟩ := bytes_of Try.underlying22 Try.underlying5 (by kernel_rfl) h0
  clear hA0 hval0
  refine (FnConsolidate_walk a0 len0 cap0 W l0 m0 w0).mono fun e W' ⟨he, bel⟩ => ?_
  subst he
  exact ⟨_, rfl, _, _, _, [], _, [], hW', trodAll_mk1 (shut_bool Try.underlying4 _), (trodAll_cons_mk (Below.trod laidOut (by kernel_rfl) (of_decide_eq_true (by kernel_rfl)) k0 bel lt0) trodAll_mk0), rfl, bel.frame _, fun h => by cases h⟩
theorem andTT {a b : Bool} (h1 : a = true) (h2 : b = true) : (a && b) = true := by rw [h1, h2]; rfl
set_option maxHeartbeats 8000000 in
theorem closed : joinedFacts Try.prog 4 Try.f4 Rows.fnConsolidateSpec Rows.fnConsolidateRow = true := by
  unfold joinedFacts
  repeat' (with_reducible refine andTT ?_ ?_)
  all_goals (first | (with_reducible exact clo_laid) | (with_reducible exact clo_maps) | (with_reducible exact clo_heard) | (with_reducible exact clo_enter) | ((with_reducible refine clo_plain _ ?_); rfl) | ((with_reducible refine clo_lifts _ ?_); rfl) | (as_aux_lemma => kernel_rfl))

theorem over : Rows.fnConsolidateRow.holds Try.pinned (OpenSpec.ofChange Rows.fnConsolidateSpec) :=
  OpenClaim.holds_of_wide 4 Try.f4 rfl rfl rfl rfl rfl rfl rfl ⟨rfl, rfl, rfl, rfl, rfl⟩ rfl rfl rfl rfl rfl (by kernel_rfl) Try.func4 closed
    (of_decide_eq_true (by kernel_rfl)) (by unfold Func.isWrapper; first | (rw [if_pos (by decide +kernel)]; kernel_rfl) | (rw [if_neg (by decide +kernel)]; exact ⟨rfl, rfl⟩))
    (fun os started H enc _ => lifted os started H enc)

/-- THE STATEMENT. -/
theorem proved : Rows.FnConsolidateSaid := over
end lawFnConsolidate
end Go.Proofs.Ytjobecoogjojjaa
