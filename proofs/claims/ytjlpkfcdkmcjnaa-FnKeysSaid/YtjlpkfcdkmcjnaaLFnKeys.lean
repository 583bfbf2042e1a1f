/- The law FnKeys returns true at every code; no condition. -/
import Derived.Test.YtjlpkfcdkmcjnaaDrawQ
import Derived.Test.YtjlpkfcdkmcjnaaKeyL
import Derived.Test.YtjlpkfcdkmcjnaaEntO
import Derived.Test.YtjlpkfcdkmcjnaaClo
import Derived.Carry
import Derived.ChangeOld
import Derived.Lib.SmallJoins
import Derived.Lib.QuietBelow
namespace Go.Proofs.Ytjlpkfcdkmcjnaa
open Go.ChangeShapes Go.WideShapes Go.ChangeAt Go.RowKit Go.Sort
set_option linter.unusedVariables false
set_option linter.unusedSimpArgs false

set_option maxRecDepth 100000 in
set_option maxHeartbeats 6400000 in
theorem FnKeys_walk (A : Option Addr) (n c : Nat) (w : World) (hc : n ≤ c) (hl : n ≤ maxLen) (hb : BytesAt w w.heap.size A n) :
    Calls Try.prog 8 #[.slice A n c] w fun e w' => e = .returned (.bool true) ∧ Below w.heap.size w w' := by
  unfold maxLen at hl
  by_cases hbign : 1048576 < n
  · have hb' : (1048576 : Int) < n := by omega
    go_enter Try.func8, Try.ntmps8
    go_wp2
    go_ret
    exact ⟨rfl, Below.refl _ _⟩
  have hbn' : (n : Int) ≤ 1048576 := by omega
  have HB := Lib.hid hb
  clear hb hbign
  go_enter Try.func8, Try.ntmps8
  go_wp2_with fail
  refine (DrawKeys_r _ _ _ _ HB.out hc (by omega)).mono ?_
  rintro e w1 ⟨x, kn, Ax, cx, rfl, hx, hk0, hk1, B1⟩
  have nx : x.length ≤ 4194304 := by have := hx.2.1; omega
  have rx : rowsIn x 4194304 := rows_big hx.2.2.1 (by decide)
  cases hv : zsB x
  · have HV := Lib.hid hv
    clear hv
    go_wp2_with fail
    refine (Keys_i _ _ x _ _ (SlOw.at_ entO hx.1) nx rx (by omega)).mono ?_
    rintro e w2 ⟨A2, c2, rfl, o2, b2⟩
    have B2 := btr B1 b2
    have a2 : EntsAt w2 A2 (KeysF x kn) := SlOw.at_ entO o2
    go_wp2_with fail
    refine (Keys_s _ _ x _ _ ((SlOw.at_ entO hx.1).below entR b2) nx rx (by omega)).mono ?_
    rintro e w3 ⟨A3, c3, rfl, o3, b3⟩
    have B3 := btr B2 b3
    have a3 : EntsAt w3 A3 (KeysF x kn) := SlOw.at_ entO o3
    go_wp2_with fail
    refine (equalZ (xs := KeysF x kn) (ys := KeysF x kn) true (decide_eq_true rfl) (a2.below entR b3) a3 (Nat.le_trans (KeysF_len _ _) (by decide)) (Nat.le_trans (KeysF_len _ _) (by decide)) (rows_big (KeysF_row _ _) (by decide)) (rows_big (KeysF_row _ _) (by decide))).mono ?_
    rintro e w4 ⟨rfl, b4⟩
    have B4 := btr B3 b4
    go_wp2_with fail
    refine (validZ false HV.out ((SlOw.at_ entO hx.1).below entR (btr (btr b2 b3) b4)) nx rx).mono ?_
    rintro e w5 ⟨rfl, b5⟩
    have B5 := btr B4 b5
    go_wp2_with fail
    refine (Keys_s _ _ x _ _ ((SlOw.at_ entO hx.1).below entR (btr (btr (btr b2 b3) b4) b5)) nx rx (by omega)).mono ?_
    rintro e w6 ⟨A6, c6, rfl, o6, b6⟩
    have B6 := btr B5 b6
    have a6 : EntsAt w6 A6 (KeysF x kn) := SlOw.at_ entO o6
    go_wp2_with fail
    refine (equalZ (xs := KeysF x kn) (ys := KeysF x kn) true (decide_eq_true rfl) (a2.below entR (btr (btr (btr b3 b4) b5) b6)) a6 (Nat.le_trans (KeysF_len _ _) (by decide)) (Nat.le_trans (KeysF_len _ _) (by decide)) (rows_big (KeysF_row _ _) (by decide)) (rows_big (KeysF_row _ _) (by decide))).mono ?_
    rintro e w7 ⟨rfl, b7⟩
    have B7 := btr B6 b7
    go_wp2_with fail
    go_ret
    exact ⟨rfl, B7⟩
  · have HV := Lib.hid hv
    rcases Nat.eq_zero_or_pos x.length with h0x | hpx
    · have hzx : ((x.length : Int) == 0) = true := by rw [h0x]; rfl
      clear h0x hv
      go_wp2_with fail
      refine (Keys_i _ _ x _ _ (SlOw.at_ entO hx.1) nx rx (by omega)).mono ?_
      rintro e w2 ⟨A2, c2, rfl, o2, b2⟩
      have B2 := btr B1 b2
      have a2 : EntsAt w2 A2 (KeysF x kn) := SlOw.at_ entO o2
      go_wp2_with fail
      refine (Keys_s _ _ x _ _ ((SlOw.at_ entO hx.1).below entR b2) nx rx (by omega)).mono ?_
      rintro e w3 ⟨A3, c3, rfl, o3, b3⟩
      have B3 := btr B2 b3
      have a3 : EntsAt w3 A3 (KeysF x kn) := SlOw.at_ entO o3
      go_wp2_with fail
      refine (equalZ (xs := KeysF x kn) (ys := KeysF x kn) true (decide_eq_true rfl) (a2.below entR b3) a3 (Nat.le_trans (KeysF_len _ _) (by decide)) (Nat.le_trans (KeysF_len _ _) (by decide)) (rows_big (KeysF_row _ _) (by decide)) (rows_big (KeysF_row _ _) (by decide))).mono ?_
      rintro e w4 ⟨rfl, b4⟩
      have B4 := btr B3 b4
      go_wp2_with fail
      refine (validZ true HV.out ((SlOw.at_ entO hx.1).below entR (btr (btr b2 b3) b4)) nx rx).mono ?_
      rintro e w5 ⟨rfl, b5⟩
      have B5 := btr B4 b5
      go_wp2_with fail
      refine (Keys_s _ _ x _ _ ((SlOw.at_ entO hx.1).below entR (btr (btr (btr b2 b3) b4) b5)) nx rx (by omega)).mono ?_
      rintro e w6 ⟨A6, c6, rfl, o6, b6⟩
      have B6 := btr B5 b6
      have a6 : EntsAt w6 A6 (KeysF x kn) := SlOw.at_ entO o6
      go_wp2_with fail
      refine (equalZ (xs := KeysF x kn) (ys := KeysF x kn) true (decide_eq_true rfl) (a2.below entR (btr (btr (btr b3 b4) b5) b6)) a6 (Nat.le_trans (KeysF_len _ _) (by decide)) (Nat.le_trans (KeysF_len _ _) (by decide)) (rows_big (KeysF_row _ _) (by decide)) (rows_big (KeysF_row _ _) (by decide))).mono ?_
      rintro e w7 ⟨rfl, b7⟩
      have B7 := btr B6 b7
      go_wp2_with fail
      go_ret
      exact ⟨rfl, B7⟩
    · have hzx : ((x.length : Int) == 0) = false := by rw [beq_eq_false_iff_ne]; omega
      have hqx : (0 : Int) < x.length := by omega
      have hwx := wid_get hpx
      have hw6 := wid_row hv hpx
      by_cases hk : kn < 1
      · clear hwx hv
        obtain ⟨bbx, oox, RRx, ssx, hAx, hblx, hcx, -, -, hrx⟩ := (EntsAt.get (SlOw.at_ entO hx.1) 0 hpx)
        simp only [Nat.zero_mul, Nat.add_zero] at hcx
        subst hAx
        go_wp2_with fail
        refine (Keys_i _ _ x _ _ (SlOw.at_ entO hx.1) nx rx (by omega)).mono ?_
        rintro e w2 ⟨A2, c2, rfl, o2, b2⟩
        have B2 := btr B1 b2
        have a2 : EntsAt w2 A2 (KeysF x kn) := SlOw.at_ entO o2
        go_wp2_with fail
        refine (Keys_s _ _ x _ _ ((SlOw.at_ entO hx.1).below entR b2) nx rx (by omega)).mono ?_
        rintro e w3 ⟨A3, c3, rfl, o3, b3⟩
        have B3 := btr B2 b3
        have a3 : EntsAt w3 A3 (KeysF x kn) := SlOw.at_ entO o3
        go_wp2_with fail
        refine (equalZ (xs := KeysF x kn) (ys := KeysF x kn) true (decide_eq_true rfl) (a2.below entR b3) a3 (Nat.le_trans (KeysF_len _ _) (by decide)) (Nat.le_trans (KeysF_len _ _) (by decide)) (rows_big (KeysF_row _ _) (by decide)) (rows_big (KeysF_row _ _) (by decide))).mono ?_
        rintro e w4 ⟨rfl, b4⟩
        have B4 := btr B3 b4
        go_wp2_with fail
        refine (validZ true HV.out ((SlOw.at_ entO hx.1).below entR (btr (btr b2 b3) b4)) nx rx).mono ?_
        rintro e w5 ⟨rfl, b5⟩
        have B5 := btr B4 b5
        have cz := (Below.cell (p := ⟨bbx, oox, none⟩) (btr (btr (btr b2 b3) b4) b5) hblx).trans hcx
        go_wp2_with fail
        refine (Keys_s _ _ x _ _ ((SlOw.at_ entO hx.1).below entR (btr (btr (btr b2 b3) b4) b5)) nx rx (by omega)).mono ?_
        rintro e w6 ⟨A6, c6, rfl, o6, b6⟩
        have B6 := btr B5 b6
        have a6 : EntsAt w6 A6 (KeysF x kn) := SlOw.at_ entO o6
        go_wp2_with fail
        refine (equalZ (xs := KeysF x kn) (ys := KeysF x kn) true (decide_eq_true rfl) (a2.below entR (btr (btr (btr b3 b4) b5) b6)) a6 (Nat.le_trans (KeysF_len _ _) (by decide)) (Nat.le_trans (KeysF_len _ _) (by decide)) (rows_big (KeysF_row _ _) (by decide)) (rows_big (KeysF_row _ _) (by decide))).mono ?_
        rintro e w7 ⟨rfl, b7⟩
        have B7 := btr B6 b7
        go_wp2_with fail
        go_ret
        exact ⟨rfl, B7⟩
      · by_cases hw : (x[0].1.length : Int) < kn
        · clear hwx hv
          obtain ⟨bbx, oox, RRx, ssx, hAx, hblx, hcx, -, -, hrx⟩ := (EntsAt.get (SlOw.at_ entO hx.1) 0 hpx)
          simp only [Nat.zero_mul, Nat.add_zero] at hcx
          subst hAx
          go_wp2_with fail
          refine (Keys_i _ _ x _ _ (SlOw.at_ entO hx.1) nx rx (by omega)).mono ?_
          rintro e w2 ⟨A2, c2, rfl, o2, b2⟩
          have B2 := btr B1 b2
          have a2 : EntsAt w2 A2 (KeysF x kn) := SlOw.at_ entO o2
          go_wp2_with fail
          refine (Keys_s _ _ x _ _ ((SlOw.at_ entO hx.1).below entR b2) nx rx (by omega)).mono ?_
          rintro e w3 ⟨A3, c3, rfl, o3, b3⟩
          have B3 := btr B2 b3
          have a3 : EntsAt w3 A3 (KeysF x kn) := SlOw.at_ entO o3
          go_wp2_with fail
          refine (equalZ (xs := KeysF x kn) (ys := KeysF x kn) true (decide_eq_true rfl) (a2.below entR b3) a3 (Nat.le_trans (KeysF_len _ _) (by decide)) (Nat.le_trans (KeysF_len _ _) (by decide)) (rows_big (KeysF_row _ _) (by decide)) (rows_big (KeysF_row _ _) (by decide))).mono ?_
          rintro e w4 ⟨rfl, b4⟩
          have B4 := btr B3 b4
          go_wp2_with fail
          refine (validZ true HV.out ((SlOw.at_ entO hx.1).below entR (btr (btr b2 b3) b4)) nx rx).mono ?_
          rintro e w5 ⟨rfl, b5⟩
          have B5 := btr B4 b5
          have cz := (Below.cell (p := ⟨bbx, oox, none⟩) (btr (btr (btr b2 b3) b4) b5) hblx).trans hcx
          go_wp2_with fail
          refine (Keys_s _ _ x _ _ ((SlOw.at_ entO hx.1).below entR (btr (btr (btr b2 b3) b4) b5)) nx rx (by omega)).mono ?_
          rintro e w6 ⟨A6, c6, rfl, o6, b6⟩
          have B6 := btr B5 b6
          have a6 : EntsAt w6 A6 (KeysF x kn) := SlOw.at_ entO o6
          go_wp2_with fail
          refine (equalZ (xs := KeysF x kn) (ys := KeysF x kn) true (decide_eq_true rfl) (a2.below entR (btr (btr (btr b3 b4) b5) b6)) a6 (Nat.le_trans (KeysF_len _ _) (by decide)) (Nat.le_trans (KeysF_len _ _) (by decide)) (rows_big (KeysF_row _ _) (by decide)) (rows_big (KeysF_row _ _) (by decide))).mono ?_
          rintro e w7 ⟨rfl, b7⟩
          have B7 := btr B6 b7
          go_wp2_with fail
          go_ret
          exact ⟨rfl, B7⟩
        · obtain ⟨m, rfl⟩ : ∃ m : Nat, kn = m := ⟨kn.toNat, by omega⟩
          have h1m : 1 ≤ m := by omega
          have hmw : m ≤ wid x := by omega
          have hn1 : ¬ m < 1 := by omega
          have hn2 : ¬ m = 0 := by omega
          have hn3 : ¬ x[0].1.length < m := by omega
          have hm6 : m ≤ 6 := by omega
          have HG : Hid (∀ e ∈ KeysF x m, 0 < (DisF (GrpF x e.1)).length) := fun e he => keys_group hv h1m hmw he
          have HSET := Lib.hid (keys_set hv h1m hmw)
          have HWT := Lib.hid (keys_weight hv h1m hmw)
          have HAG := Lib.hid (keys_again hv h1m hmw hm6)
          have hKL := KeysF_len x m
          have HKR := Lib.hid (KeysF_row x m)
          clear hwx hv hmw
          obtain ⟨bbx, oox, RRx, ssx, hAx, hblx, hcx, -, -, hrx⟩ := (EntsAt.get (SlOw.at_ entO hx.1) 0 hpx)
          simp only [Nat.zero_mul, Nat.add_zero] at hcx
          subst hAx
          go_wp2_with fail
          refine (Keys_i _ _ x _ _ (SlOw.at_ entO hx.1) nx rx (by omega)).mono ?_
          rintro e w2 ⟨A2, c2, rfl, o2, b2⟩
          have B2 := btr B1 b2
          have a2 : EntsAt w2 A2 (KeysF x m) := SlOw.at_ entO o2
          go_wp2_with fail
          refine (Keys_s _ _ x _ _ ((SlOw.at_ entO hx.1).below entR b2) nx rx (by omega)).mono ?_
          rintro e w3 ⟨A3, c3, rfl, o3, b3⟩
          have B3 := btr B2 b3
          have a3 : EntsAt w3 A3 (KeysF x m) := SlOw.at_ entO o3
          go_wp2_with fail
          refine (equalZ (xs := KeysF x m) (ys := KeysF x m) true (decide_eq_true rfl) (a2.below entR b3) a3 (Nat.le_trans (KeysF_len _ _) (by decide)) (Nat.le_trans (KeysF_len _ _) (by decide)) (rows_big (KeysF_row _ _) (by decide)) (rows_big (KeysF_row _ _) (by decide))).mono ?_
          rintro e w4 ⟨rfl, b4⟩
          have B4 := btr B3 b4
          go_wp2_with fail
          refine (validZ true HV.out ((SlOw.at_ entO hx.1).below entR (btr (btr b2 b3) b4)) nx rx).mono ?_
          rintro e w5 ⟨rfl, b5⟩
          have B5 := btr B4 b5
          have cz := (Below.cell (p := ⟨bbx, oox, none⟩) (btr (btr (btr b2 b3) b4) b5) hblx).trans hcx
          have hX : EntsAt w5 (some ⟨bbx, oox, none⟩) x := ((SlOw.at_ entO hx.1).below entR (btr (btr (btr b2 b3) b4) b5))
          have hC : EntsC w5 (some ⟨bbx, oox, none⟩) x := ((EntsOw.atC hx.1).below entC (btr (btr (btr b2 b3) b4) b5))
          have hK : EntsAt w5 A2 (KeysF x m) := (a2.below entR (btr (btr b3 b4) b5))
          generalize KeysF x m = K at *
          have nK : K.length ≤ 4194304 := by omega
          have rK : rowsIn K 4194304 := rows_big HKR.out (by decide)
          go_wp2
          go_loopw [6] (fun i wr => ∃ k : Nat, k ≤ K.length ∧ i = .int .i64 k ∧ Below w5.heap.size w5 wr) (fun i _ => K.length - (intOf i).toNat)
          case atStart => exact ⟨0, by omega, rfl, Below.refl _ _⟩
          case round =>
            obtain ⟨k, hk, rfl, bm⟩ := hrel
            by_cases hlt : k < K.length
            · obtain ⟨b, off, RA, rc, hAe, hbl, hc0, -, -, hrow⟩ := hK.get k hlt
              have q0 := (bm.cell (p := ⟨b, off + k * 2, none⟩) hbl).trans hc0
              have hrl := rK.get hlt
              have hlt' : (k : Int) < K.length := by omega
              subst hAe
              have hg := HG.out _ (List.getElem_mem hlt)
              have hge : (((DisF (GrpF x K[k].1)).length : Int) == 0) = false := by rw [beq_eq_false_iff_ne]; omega
              clear hg hc0
              go_wp2_with fail
              refine (Group_i _ _ x _ _ K[k].1 _ (hC.below entC bm) (hrow.below bm) nx rx hrl).mono ?_
              rintro e wa ⟨Aa, ca, rfl, oa, ba⟩
              go_wp2_with fail
              refine (Distinct_i _ _ (GrpF x K[k].1) _ (SlOw.at_ entO oa) (Nat.le_trans (GrpF_len _ _) (by decide)) (rows_big (GrpF_row _ _) (by decide))).mono ?_
              rintro e wb ⟨Ab, cb, rfl, ob, bb⟩
              have hbm := btr (btr bm ba) bb
              clear q0 oa ob ba bb
              go_wp2
              go_roundw
              case rel => exact ⟨k + 1, by omega, by go_num, hbm⟩
              case measure => simp [intOf]; omega
            · obtain rfl : k = K.length := by omega
              have BB := btr B5 bm
              go_wp2_with fail
              refine (issetZ true HSET.out (hK.below entR bm) nK rK).mono ?_
              rintro e wa ⟨rfl, ba⟩
              go_wp2_with fail
              refine (Distinct_i _ _ x _ (hX.below entR (btr bm ba)) nx rx).mono ?_
              rintro e wb ⟨Ab, cb, rfl, ob, bb⟩
              go_wp2_with fail
              refine (firstOf_l m _ (by omega)).mono ?_
              rintro e wc ⟨AF, cF, rfl, hF, bc⟩
              go_wp2_with fail
              refine (MapColumns_i _ _ (DisF x) _ _ (allC m) _ ((SlOw.at_ entO ob).below entR bc) hF (Nat.le_trans (DisF_len _) (by decide)) (rows_big (DisF_row _) (by decide)) (by simp [allC]; omega)).mono ?_
              rintro e wd ⟨Ad, cd, rfl, od, bd⟩
              go_wp2_with fail
              refine (Distinct_i _ _ (MapF (DisF x) (allC m)) _ (SlOw.at_ entO od) (Nat.le_trans (MapF_len _ _) (by decide)) (rows_big (MapF_row _ _) (by decide))).mono ?_
              rintro e we ⟨Ae, ce, rfl, oe, be⟩
              rw [HAG.out] at oe ⊢
              go_wp2_with fail
              refine (isSubset_yes _ _ K _ _ K _ (SlOw.at_ entO oe) (hK.below entR (btr (btr (btr (btr (btr bm ba) bb) bc) bd) be)) nK rK nK rK HWT.out).mono ?_
              rintro e wf ⟨rfl, bf⟩
              go_wp2_with fail
              go_ret
              exact ⟨rfl, btr BB (btr (btr (btr (btr (btr ba bb) bc) bd) be) bf)⟩

namespace lawFnKeys
theorem own : ownKnob Try.prog.godebug = none := by kernel_rfl
theorem laidOut : laidOutB Try.prog = true := clo_laid
set_option maxRecDepth 100000 in
theorem lifted (os : Os) (started : os.Started) (H : Type) (enc : TypeId × Value → H) :
    ReturnsInHanded {} Try.checked os 8 .any (Rows.fnKeysSpec.pre6 enc Try.prog Try.f8 Rows.fnKeysRow.domain false) (Rows.fnKeysSpec.post enc Try.prog Try.f8 false true false false) := by
  refine returnsInHanded_of_change (C := Try.checked) own started (by kernel_rfl) Try.func8
    (ChangeSpec.witness6 (enc := enc) (C := Try.checked) false ⟨#[], #[.slice none 0 0], []⟩ 8 (by kernel_rfl) (by kernel_rfl) (by kernel_rfl) (by kernel_rfl)) ?_
  intro W base args ds gs before hval0 hW hcnd _
  have hval : ∀ (j : Nat) t v, Try.f8.params[j]? = some t → args[j]? = some v → Value.okWide Try.prog W .any base t v := hval0
  have hW' := hW
  obtain ⟨p, q, hA0, hV, rfl, hfz, hnd⟩ := hW
  have hA : DataW.TrodAll enc Try.prog W 0 (fun _ => true) true Try.f8.params.toList args.toList ds p := hA0
  rw [Try.params8] at hA hval
  obtain ⟨v0, vs0, d0, ds0, p0, q0, hargs, rfl, rfl, h0, r0⟩ := trodAll_cons hA
  obtain ⟨rfl, rfl, rfl⟩ := trodAll_nil r0
  obtain rfl : args = #[v0] := by cases args; simp_all
  obtain ⟨rfl, rfl⟩ := trodVars_none hV
  have k0 := h0
  have lt0 : ∀ x ∈ p0, x.block < W.heap.size := by obtain ⟨m, hm⟩ := k0; exact DataW.trod_lt m _ _ _ hm
  obtain ⟨a0, len0, cap0, rfl⟩ := okWide_slice Try.underlying22 (hval 0 22 v0 rfl rfl)
  obtain ⟨l0, m0, w0⟩ := bytes_of Try.underlying22 Try.underlying5 (by kernel_rfl) h0
  clear hA0 hval0
  refine (FnKeys_walk a0 len0 cap0 W l0 m0 w0).mono fun e W' ⟨he, bel⟩ => ?_
  subst he
  exact ⟨_, rfl, _, _, _, [], _, [], hW', trodAll_mk1 (shut_bool Try.underlying4 _), (trodAll_cons_mk (Below.trod laidOut (by kernel_rfl) (of_decide_eq_true (by kernel_rfl)) k0 bel lt0) trodAll_mk0), rfl, bel.frame _, fun h => by cases h⟩
theorem andTT {a b : Bool} (h1 : a = true) (h2 : b = true) : (a && b) = true := by rw [h1, h2]; rfl
set_option maxHeartbeats 8000000 in
theorem closed : joinedFacts Try.prog 8 Try.f8 Rows.fnKeysSpec Rows.fnKeysRow = true := by
  unfold joinedFacts
  repeat' (with_reducible refine andTT ?_ ?_)
  all_goals (first | (with_reducible exact clo_laid) | (with_reducible exact clo_maps) | (with_reducible exact clo_heard) | (with_reducible exact clo_enter) | ((with_reducible refine clo_plain _ ?_); rfl) | ((with_reducible refine clo_lifts _ ?_); rfl) | (as_aux_lemma => kernel_rfl))

theorem over : Rows.fnKeysRow.holds Try.pinned (OpenSpec.ofChange Rows.fnKeysSpec) :=
  OpenClaim.holds_of_wide 8 Try.f8 rfl rfl rfl rfl rfl rfl rfl ⟨rfl, rfl, rfl, rfl, rfl⟩ rfl rfl rfl rfl rfl (by kernel_rfl) Try.func8 closed
    (of_decide_eq_true (by kernel_rfl)) (by unfold Func.isWrapper; first | (rw [if_pos (by decide +kernel)]; kernel_rfl) | (rw [if_neg (by decide +kernel)]; exact ⟨rfl, rfl⟩))
    (fun os started H enc _ => lifted os started H enc)

/-- THE STATEMENT. -/
theorem proved : Rows.FnKeysSaid := over
end lawFnKeys
end Go.Proofs.Ytjlpkfcdkmcjnaa
