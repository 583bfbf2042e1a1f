/- The law FnClosureRounds returns true at every code; no condition. -/
import Derived.Test.YtageodemjlgdcaaDrawEd
import Derived.Test.YtageodemjlgdcaaEqZ
import Derived.Test.YtageodemjlgdcaaPc
import Derived.Test.YtageodemjlgdcaaDisI
import Derived.Test.YtageodemjlgdcaaAddI
import Derived.Test.YtageodemjlgdcaaCls
import Derived.Test.YtageodemjlgdcaaCrd
import Derived.Test.YtageodemjlgdcaaZbx
import Derived.Test.YtageodemjlgdcaaPl
import Derived.Test.YtageodemjlgdcaaZbn
import Derived.Test.YtageodemjlgdcaaEqL
import Derived.Test.YtageodemjlgdcaaCrs
import Derived.Test.YtageodemjlgdcaaRdi
import Derived.Test.YtageodemjlgdcaaClo
import Derived.Carry
import Derived.ChangeOld
import Derived.Lib.SmallJoins
import Derived.Lib.QuietBelow
namespace Go.Proofs.Ytageodemjlgdcaa
open Go.ChangeShapes Go.WideShapes Go.ChangeAt Go.RowKit Go.Sort
set_option linter.unusedVariables false
set_option linter.unusedSimpArgs false

set_option maxRecDepth 100000 in
set_option maxHeartbeats 6400000 in
theorem FnClosureRounds_walk (A : Option Addr) (n c : Nat) (w : World) (hc : n ≤ c) (hl : n ≤ maxLen) (hb : BytesAt w w.heap.size A n) :
    Calls Try.prog 6 #[.slice A n c] w fun e w' => e = .returned (.bool true) ∧ Below w.heap.size w w' := by
  unfold maxLen at hl
  by_cases hbign : 1048576 < n
  · have hb' : (1048576 : Int) < n := by omega
    go_enter Try.func6, Try.ntmps6
    go_wp2
    go_ret
    exact ⟨rfl, Below.refl _ _⟩
  have hbn' : (n : Int) ≤ 1048576 := by omega
  have HB := Lib.hid hb
  clear hb hbign
  go_enter Try.func6, Try.ntmps6
  go_wp2_with fail
  refine (DrawClosureRounds_r _ _ _ _ HB.out hc (by omega)).mono ?_
  rintro e w1 ⟨z, Az, cz, rfl, hz, B1⟩
  have nz : z.length ≤ 4194304 := by have := hz.2.2.1; omega
  have rz : rowsIn z 4194304 := rows_big hz.2.2.2 (by decide)
  have hfl := RoundsF_len z
  have HFI := Lib.hid (RoundsF_in z)
  have hc1 := fun (W : World) (hb : Below w1.heap.size w1 W) => ClosureRounds_i Az cz z W (hz.1.below entR hb) nz rz
  have hc2 := fun (W : World) (hb : Below w1.heap.size w1 W) => ClosureRounds_s Az cz z W (hz.1.below entR hb) nz rz
  have heq := fun (X Y : Option Addr) (a d : Nat) (W : World) (h1 : ZssAt W X (RoundsF z)) (h2 : ZssAt W Y (RoundsF z)) => equalLists_l X Y a d (RoundsF z) (RoundsF z) W h1 h2 (by omega) (by omega) HFI.out HFI.out
  simp only [decide_true] at heq
  rcases Nat.eq_zero_or_pos (RoundsF z).length with h0 | hpos
  · have hl0 : (((RoundsF z).length : Int) == 0) = true := by simp [h0]
    clear h0
    go_wp2_with fail
    refine (hc1 _ (Below.refl _ _)).mono ?_
    rintro e w2 ⟨A2, c2, rfl, o2, b2⟩
    have B2 := btr B1 b2
    have HA2 := Lib.hid (ZssOw.atC o2)
    clear o2
    go_wp2_with fail
    refine (hc2 _ b2).mono ?_
    rintro e w3 ⟨A3, c3, rfl, o3, b3⟩
    have B3 := btr B2 b3
    have HA3 := Lib.hid (SlOw.at_ zlO o3)
    clear o3
    go_wp2_with fail
    refine (heq _ _ _ _ _ (SlAt.below zlR (ZssC.at_ HA2.out) b3) HA3.out).mono ?_
    rintro e w4 ⟨rfl, b4⟩
    have B4 := btr B3 b4
    go_wp2_with fail
    refine (hc2 _ (btr (btr b2 b3) b4)).mono ?_
    rintro e w5 ⟨A5, c5, rfl, o5, b5⟩
    have B5 := btr B4 b5
    have HA5 := Lib.hid (SlOw.at_ zlO o5)
    clear o5
    go_wp2_with fail
    refine (heq _ _ _ _ _ (SlAt.below zlR (ZssC.at_ HA2.out) (btr (btr b3 b4) b5)) HA5.out).mono ?_
    rintro e w6 ⟨rfl, b6⟩
    have B6 := btr B5 b6
    go_wp2_with fail
    go_ret
    exact ⟨rfl, B6⟩
  have hv : edgB z = true := by
    cases h : edgB z
    · have h1 : RoundsF z = [] := by simp [RoundsF, h]
      rw [h1] at hpos; simp at hpos
    · rfl
  have hR := relOf_ok hv
  have hZF : RoundsF z = (rds (relOf z)).map prs := by rw [RoundsF, if_pos hv]
  have hzp := prs_relOf hv
  have HCL : Hid (ClosF z = prs (closR (relOf z))) := by rw [Hid, ClosF, if_pos hv]
  have HLEN : Hid ((RoundsF z).length = (rds (relOf z)).length) := by rw [Hid, hZF, List.length_map]
  have HEL : Hid (∀ k (hk : k < (RoundsF z).length) (hk2 : k < (rds (relOf z)).length), (RoundsF z)[k] = prs (rds (relOf z))[k]) := fun k hk hk2 => by simp [hZF]
  have HZ0 : Hid (∀ (h : 0 < (RoundsF z).length), (RoundsF z)[0] = z) := fun h => by
    have h2 : 0 < (rds (relOf z)).length := by have := HLEN.out; omega
    rw [HEL.out 0 h h2]
    have h3 : relOf z ≠ zeroR := fun e => by rw [e] at h2; simp [rds, rdsR] at h2
    have h4 : (rds (relOf z))[0] = relOf z := by
      have h5 : rds (relOf z) = relOf z :: rdsR (relOf z) 400 (orR zeroR (relOf z)) (nandR (thenR (relOf z) (relOf z)) (orR zeroR (relOf z))) := by unfold rds; rw [rdsR, if_neg h3]
      simp [h5]
    rw [h4, hzp]
  have hcl := fun (W : World) (hb : Below w1.heap.size w1 W) => Closure_i Az cz z W (hz.1.below entR hb) nz rz
  have HCF := Lib.hid (And.intro (ClosF_len z) (ClosF_row z))
  have hne : (((RoundsF z).length : Int) == 0) = false := by rw [beq_eq_false_iff_ne]; omega
  clear hv hZF hzp
  generalize hR0 : relOf z = R at *
  generalize RoundsF z = Zs at *
  clear hR0
  go_wp2_with fail
  refine (hc1 _ (Below.refl _ _)).mono ?_
  rintro e w2 ⟨A2, c2, rfl, o2, b2⟩
  have B2 := btr B1 b2
  have HA2 := Lib.hid (ZssOw.atC o2)
  clear o2
  go_wp2_with fail
  refine (hc2 _ b2).mono ?_
  rintro e w3 ⟨A3, c3, rfl, o3, b3⟩
  have B3 := btr B2 b3
  have HA3 := Lib.hid (SlOw.at_ zlO o3)
  clear o3
  go_wp2_with fail
  refine (heq _ _ _ _ _ (SlAt.below zlR (ZssC.at_ HA2.out) b3) HA3.out).mono ?_
  rintro e w4 ⟨rfl, b4⟩
  have B4 := btr B3 b4
  have HOK := Lib.hid (fun k (hk : k < (rds R).length) => djs_at zeroR_ok (rds_djs hR) k hk)
  have HA4 : Hid (ZssC w4 A2 Zs) := SlAt.below zlC HA2.out (btr b3 b4)
  have hs4 := B4.size
  have b14 := btr (btr b2 b3) b4
  have hb4 := bal (Below.refl w4.heap.size w4) (.cells #[] 39)
  have hA0 := SlF.made EntO 2 39 w4 #[] 0 (by simp [maxLen]) (by simp) (S := news w4 (w4.alloc (.cells #[] 39))) ⟨Nat.le_refl _, by simp⟩ (fun k hk => by have := hk.2; simpa using this)
  have HO0 : Hid (EntsOw (w4.alloc (.cells #[] 39)) (news w4 (w4.alloc (.cells #[] 39))) (some ⟨w4.heap.size, 0, none⟩) 0 (prs (cloTo R 0))) := by rw [show cloTo R 0 = zeroR from rfl, prs_zero]; exact ⟨_, _, hA0⟩
  have hl0' : Hid ((prs (cloTo R 0)).length = 0) := by rw [show cloTo R 0 = zeroR from rfl, prs_zero]; rfl
  clear hA0 hc1 hc2 heq HA2 HA3 b2 b3 b4
  have HB4 := Lib.hid hb4
  clear hb4
  go_wp2
  go_loopw [5, 6] (fun v i wr => ∃ (k : Nat) (Ao : Option Addr) (co : Nat), k ≤ Zs.length ∧ i = .int .i64 (k : Nat) ∧ v = .slice Ao (prs (cloTo R k)).length co ∧ EntsOw wr (news w4 wr) Ao co (prs (cloTo R k)) ∧ Below w4.heap.size w4 wr) (fun _ i _ => Zs.length - (intOf i).toNat)
  case atStart => exact ⟨0, _, 0, by omega, rfl, by rw [hl0'.out], HO0.out, HB4.out⟩
  case round =>
    obtain ⟨k, Ao, co, hk, rfl, rfl, hO, hbel⟩ := hrel
    by_cases hlt : k < Zs.length
    · have hltI : (k : Int) < Zs.length := by omega
      have hk2 : k < (rds R).length := by have := HLEN.out; omega
      obtain ⟨ok1, ok2, hd⟩ := HOK.out k hk2
      have hek := HEL.out k hlt hk2
      obtain ⟨bb, off, ZA, zc, rfl, hbl, hc0, hzc, hcm, hzz⟩ := ZssC.get HA4.out k hlt
      have q0 := (hbel.cell (p := ⟨bb, off + k, none⟩) hbl).trans hc0
      have hzr : EntsAt wr ZA Zs[k] := SlAt.below entR hzz hbel
      have hnz : ((Zs[k].length : Int) == 0) = false := by
        rw [beq_eq_false_iff_ne, hek]
        have h1 := (djs_mem (rds_djs hR) _ (List.getElem_mem hk2)).2
        have h2 := szR_pos ok2 h1
        unfold szR at h2; omega
      have hcon := Add_i Ao co (prs (cloTo R k)) ZA zc Zs[k] wr (SlOw.at_ entO hO) hzr (EntsOw.cap hO) hzc (by have := prs_len (cloTo R k); omega) (prs_smallR _) (by rw [hek]; have := prs_len (rds R)[k]; omega) (by rw [hek]; exact prs_smallR _)
      have hsum : AddF (prs (cloTo R k)) Zs[k] = prs (cloTo R (k + 1)) := by rw [hek, add_prs (r := cloTo R k) ok1 ok2 hd, cloTo_step hk2]
      rw [hsum] at hcon
      have HB := Lib.hid hbel
      clear hO hbel hzr hzz hc0 hd ok1 ok2 hek hsum
      generalize Zs[k] = zk at *
      go_wp2_with fail
      refine hcon.mono ?_
      clear hcon
      rintro e w5 ⟨B', cb', rfl, ho, b5⟩
      have hs5 := HB.out.size
      have HO2 := Lib.hid (SlOw.mono (S' := news w4 w5) ho (fun k hk => ⟨by have := hk.1; omega, hk.2⟩) (fun k hk => hk.2))
      have HB2 := Lib.hid (btr HB.out b5)
      clear ho b5 HB q0
      go_wp2
      go_roundw
      case rel => exact ⟨k + 1, B', cb', by omega, by go_num, rfl, HO2.out, HB2.out⟩
      case measure => simp [intOf]; omega
    · obtain rfl : k = Zs.length := by omega
      have hce : cloTo R Zs.length = closR R := by rw [HLEN.out, cloTo_end]
      rw [hce] at hO ⊢
      clear hce
      have hlq : (prs (closR R)).length ≤ 4194304 := by have := prs_len (closR R); omega
      obtain ⟨bb, off, ZA, zc, hAe, hbl, hc0, hzc, hcm, hzz⟩ := ZssC.get HA4.out 0 hpos
      have hz0 := HZ0.out hpos
      have hao := SlOw.at_ entO hO
      have h0l : (0 : Int) < Zs.length := by omega
      rw [hz0] at hc0 hzz
      subst hAe
      clear hO
      go_wp2_with fail
      refine (hcl _ (btr b14 hbel)).mono ?_
      rintro e w5 ⟨A5, c5, rfl, o5, b5⟩
      have a5 : EntsAt w5 A5 (ClosF z) := SlOw.at_ entO o5
      go_wp2_with fail
      refine (equalZ (xs := prs (closR R)) (ys := ClosF z) true (decide_eq_true HCL.out.symm) (hao.below entR b5) a5 hlq HCF.out.1 (prs_smallR _) HCF.out.2).mono ?_
      rintro e w6 ⟨rfl, b6⟩
      go_wp2_with fail
      refine (issetZ true (prs_set _) (hao.below entR (btr b5 b6)) hlq (prs_smallR _)).mono ?_
      rintro e w7 ⟨rfl, b7⟩
      have hb47 := btr (btr (btr hbel b5) b6) b7
      have q0 := (hb47.cell (p := ⟨bb, off + 0, none⟩) hbl).trans hc0
      simp only [Nat.add_zero] at q0
      have hz7 := SlAt.below entR hzz hb47
      have hzd := hz.1.below entR (btr b14 hb47)
      clear hc0 hcl
      go_wp2_with fail
      refine (equalZ (xs := z) (ys := z) true (decide_eq_true rfl) hz7 hzd nz nz rz rz).mono ?_
      rintro e w8 ⟨rfl, b8⟩
      have B8 := btr (btr B4 hb47) b8
      go_wp2_with fail
      go_ret
      exact ⟨rfl, B8⟩

namespace lawFnClosureRounds
theorem own : ownKnob Try.prog.godebug = none := by kernel_rfl
theorem laidOut : laidOutB Try.prog = true := clo_laid
set_option maxRecDepth 100000 in
theorem lifted (os : Os) (started : os.Started) (H : Type) (enc : TypeId × Value → H) :
    ReturnsInHanded {} Try.checked os 6 .any (Rows.fnClosureRoundsSpec.pre6 enc Try.prog Try.f6 Rows.fnClosureRoundsRow.domain false) (Rows.fnClosureRoundsSpec.post enc Try.prog Try.f6 false true false false) := by
  refine returnsInHanded_of_change (C := Try.checked) own started (by kernel_rfl) Try.func6
    (ChangeSpec.witness6 (enc := enc) (C := Try.checked) false ⟨#[], #[.slice none 0 0], []⟩ 8 (by kernel_rfl) (by kernel_rfl) (by kernel_rfl) (by kernel_rfl)) ?_
  intro W base args ds gs before hval0 hW hcnd _
  have hval : ∀ (j : Nat) t v, Try.f6.params[j]? = some t → args[j]? = some v → Value.okWide Try.prog W .any base t v := hval0
  have hW' := hW
  obtain ⟨p, q, hA0, hV, rfl, hfz, hnd⟩ := hW
  have hA : DataW.TrodAll enc Try.prog W 0 (fun _ => true) true Try.f6.params.toList args.toList ds p := hA0
  rw [Try.params6] at hA hval
  obtain ⟨v0, vs0, d0, ds0, p0, q0, hargs, rfl, rfl, h0, r0⟩ := trodAll_cons hA
  obtain ⟨rfl, rfl, rfl⟩ := trodAll_nil r0
  obtain rfl : args = #[v0] := by cases args; simp_all
  obtain ⟨rfl, rfl⟩ := trodVars_none hV
  have k0 := h0
  have lt0 : ∀ x ∈ p0, x.block < W.heap.size := by obtain ⟨m, hm⟩ := k0; exact DataW.trod_lt m _ _ _ hm
  obtain ⟨a0, len0, cap0, rfl⟩ := okWide_slice Try.underlying22 (hval 0 22 v0 rfl rfl)
  obtain ⟨l0, m0, w0⟩ := bytes_of Try.underlying22 Try.underlying5 (by kernel_rfl) h0
  clear hA0 hval0
  refine (FnClosureRounds_walk a0 len0 cap0 W l0 m0 w0).mono fun e W' ⟨he, bel⟩ => ?_
  subst he
  exact ⟨_, rfl, _, _, _, [], _, [], hW', trodAll_mk1 (shut_bool Try.underlying4 _), (trodAll_cons_mk (Below.trod laidOut (by kernel_rfl) (of_decide_eq_true (by kernel_rfl)) k0 bel lt0) trodAll_mk0), rfl, bel.frame _, fun h => by cases h⟩
theorem andTT {a b : Bool} (h1 : a = true) (h2 : b = true) : (a && b) = true := by rw [h1, h2]; rfl
set_option maxHeartbeats 8000000 in
theorem closed : joinedFacts Try.prog 6 Try.f6 Rows.fnClosureRoundsSpec Rows.fnClosureRoundsRow = true := by
  unfold joinedFacts
  repeat' (with_reducible refine andTT ?_ ?_)
  all_goals (first | (with_reducible exact clo_laid) | (with_reducible exact clo_maps) | (with_reducible exact clo_heard) | (with_reducible exact clo_enter) | ((with_reducible refine clo_plain _ ?_); rfl) | ((with_reducible refine clo_lifts _ ?_); rfl) | (as_aux_lemma => kernel_rfl))

theorem over : Rows.fnClosureRoundsRow.holds Try.pinned (OpenSpec.ofChange Rows.fnClosureRoundsSpec) :=
  OpenClaim.holds_of_wide 6 Try.f6 rfl rfl rfl rfl rfl rfl rfl ⟨rfl, rfl, rfl, rfl, rfl⟩ rfl rfl rfl rfl rfl (by kernel_rfl) Try.func6 closed
    (of_decide_eq_true (by kernel_rfl)) (by unfold Func.isWrapper; first | (rw [if_pos (by decide +kernel)]; kernel_rfl) | (rw [if_neg (by decide +kernel)]; exact ⟨rfl, rfl⟩))
    (fun os started H enc _ => lifted os started H enc)

/-- THE STATEMENT. -/
theorem proved : Rows.FnClosureRoundsSaid := over
end lawFnClosureRounds
end Go.Proofs.Ytageodemjlgdcaa
