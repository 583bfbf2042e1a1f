/- The law FnAsOf returns true at every code; no condition. -/
import Derived.Test.YtjobecoogjojjaaDrawW
import Derived.Test.YtjobecoogjojjaaEqT
import Derived.Test.YtjobecoogjojjaaSmT
import Derived.Test.YtjobecoogjojjaaPl
import Derived.Test.YtjobecoogjojjaaZbx
import Derived.Test.YtjobecoogjojjaaClo
import Derived.Carry
import Derived.ChangeOld
import Derived.Lib.SmallJoins
import Derived.Lib.QuietBelow
namespace Go.Proofs.Ytjobecoogjojjaa
open Go.ChangeShapes Go.WideShapes Go.ChangeAt Go.RowKit Go.Sort
set_option linter.unusedVariables false
set_option linter.unusedSimpArgs false

theorem absCF {P : Program} {f : FuncId} {args : Array Value} {w : World} {Q : Ending → World → Prop} (R : World → Prop) (h : R w) (k : ∀ W, R W → Calls P f args W Q) : Calls P f args w Q := k w h

set_option maxRecDepth 100000 in
set_option maxHeartbeats 6400000 in
theorem FnAsOf_walk (A : Option Addr) (n c : Nat) (w : World) (hc : n ≤ c) (hl : n ≤ maxLen) (hb : BytesAt w w.heap.size A n) :
    Calls Try.prog 5 #[.slice A n c] w fun e w' => e = .returned (.bool true) ∧ Below w.heap.size w w' := by
  unfold maxLen at hl
  by_cases hbign : 1048576 < n
  · have hb' : (1048576 : Int) < n := by omega
    go_enter Try.func5, Try.ntmps5
    go_wp2
    go_ret
    exact ⟨rfl, Below.refl _ _⟩
  have hbn' : (n : Int) ≤ 1048576 := by omega
  have HB := Lib.hid hb
  clear hb hbign
  go_enter Try.func5, Try.ntmps5
  go_wp2_with fail
  refine (DrawAsOf_r _ _ _ _ HB.out hc (by omega)).mono ?_
  rintro e w1 ⟨z, Az, cz, tx, ty, rfl, hz, B1⟩
  have nz : z.length ≤ 4194304 := by have := hz.2.1; omega
  have rz : rowsU z 4194304 := rows_bigU hz.2.2.1 (by decide)
  go_wp2_with fail
  refine absCF (fun W => Below w1.heap.size w1 W ∧ Blk W w1.heap.size 35 #[.int .i64 tx, .int .i64 ty]) ⟨bal (Below.refl _ _) _, Blk.newAt rfl⟩ ?_
  rintro w2 ⟨b2, hk2⟩
  have B2 := btr B1 b2
  have xhk20 := hk2.cell 0
  have xhk21 := hk2.cell 1
  simp at xhk20 xhk21
  go_wp2_with fail
  refine (AsOf_i _ _ z tx ty _ ((SlOw.at_ updO hz.1).below updR b2) nz rz).mono ?_
  rintro e w3 ⟨A3, c3, rfl, o3, b3⟩
  have B3 := btr B2 b3
  have a3 : EntsAt w3 A3 (AsOfF z tx ty) := SlOw.at_ entO o3
  clear xhk20 xhk21
  have xhk20 := (hk2.below b3).cell 0
  have xhk21 := (hk2.below b3).cell 1
  simp at xhk20 xhk21
  go_wp2_with fail
  refine (AsOf_s _ _ z tx ty _ ((SlOw.at_ updO hz.1).below updR (btr b2 b3)) nz rz).mono ?_
  rintro e w4 ⟨A4, c4, rfl, o4, b4⟩
  have B4 := btr B3 b4
  have a4 : EntsAt w4 A4 (AsOfF z tx ty) := SlOw.at_ entO o4
  clear xhk20 xhk21
  go_wp2_with fail
  refine (equalZ (xs := AsOfF z tx ty) (ys := AsOfF z tx ty) true (decide_eq_true rfl) (a3.below entR b4) a4 (Nat.le_trans (AsOfF_len _ _ _) (by decide)) (Nat.le_trans (AsOfF_len _ _ _) (by decide)) (rows_big (AsOfF_row _ _ _) (by decide)) (rows_big (AsOfF_row _ _ _) (by decide))).mono ?_
  rintro e w5 ⟨rfl, b5⟩
  have B5 := btr B4 b5
  cases hS : smT z
  · have HS := Lib.hid hS
    clear hS
    go_wp2_with fail
    refine (smallT false HS.out ((SlOw.at_ updO hz.1).below updR (btr (btr (btr b2 b3) b4) b5)) nz rz).mono ?_
    rintro e w6 ⟨rfl, b6⟩
    have B6 := btr B5 b6
    have xhk20 := (hk2.below (btr (btr (btr b3 b4) b5) b6)).cell 0
    have xhk21 := (hk2.below (btr (btr (btr b3 b4) b5) b6)).cell 1
    simp at xhk20 xhk21
    go_wp2_with fail
    refine (AsOf_s _ _ z tx ty _ ((SlOw.at_ updO hz.1).below updR (btr (btr (btr (btr b2 b3) b4) b5) b6)) nz rz).mono ?_
    rintro e w7 ⟨A7, c7, rfl, o7, b7⟩
    have B7 := btr B6 b7
    have a7 : EntsAt w7 A7 (AsOfF z tx ty) := SlOw.at_ entO o7
    clear xhk20 xhk21
    go_wp2_with fail
    refine (equalZ (xs := AsOfF z tx ty) (ys := AsOfF z tx ty) true (decide_eq_true rfl) (a3.below entR (btr (btr (btr b4 b5) b6) b7)) a7 (Nat.le_trans (AsOfF_len _ _ _) (by decide)) (Nat.le_trans (AsOfF_len _ _ _) (by decide)) (rows_big (AsOfF_row _ _ _) (by decide)) (rows_big (AsOfF_row _ _ _) (by decide))).mono ?_
    rintro e w8 ⟨rfl, b8⟩
    have B8 := btr B7 b8
    go_wp2_with fail
    go_ret
    exact ⟨rfl, B8⟩
  · have SX := smT_SmT hS
    have HS := Lib.hid hS
    clear hS
    have hvt := fun W => ValidTime_i tx ty W
    cases hV : vtB tx ty
    · rw [hV] at hvt
      clear hV SX
      go_wp2_with fail
      refine (smallT true HS.out ((SlOw.at_ updO hz.1).below updR (btr (btr (btr b2 b3) b4) b5)) nz rz).mono ?_
      rintro e w6 ⟨rfl, b6⟩
      have B6 := btr B5 b6
      have xhk20 := (hk2.below (btr (btr (btr b3 b4) b5) b6)).cell 0
      have xhk21 := (hk2.below (btr (btr (btr b3 b4) b5) b6)).cell 1
      simp at xhk20 xhk21
      go_wp2_with fail
      refine (hvt _).mono ?_
      rintro e w7 ⟨rfl, b7⟩
      have B7 := btr B6 b7
      clear xhk20 xhk21
      have xhk20 := (hk2.below (btr (btr (btr (btr b3 b4) b5) b6) b7)).cell 0
      have xhk21 := (hk2.below (btr (btr (btr (btr b3 b4) b5) b6) b7)).cell 1
      simp at xhk20 xhk21
      go_wp2_with fail
      refine (AsOf_s _ _ z tx ty _ ((SlOw.at_ updO hz.1).below updR (btr (btr (btr (btr (btr b2 b3) b4) b5) b6) b7)) nz rz).mono ?_
      rintro e w8 ⟨A8, c8, rfl, o8, b8⟩
      have B8 := btr B7 b8
      have a8 : EntsAt w8 A8 (AsOfF z tx ty) := SlOw.at_ entO o8
      clear xhk20 xhk21
      go_wp2_with fail
      refine (equalZ (xs := AsOfF z tx ty) (ys := AsOfF z tx ty) true (decide_eq_true rfl) (a3.below entR (btr (btr (btr (btr b4 b5) b6) b7) b8)) a8 (Nat.le_trans (AsOfF_len _ _ _) (by decide)) (Nat.le_trans (AsOfF_len _ _ _) (by decide)) (rows_big (AsOfF_row _ _ _) (by decide)) (rows_big (AsOfF_row _ _ _) (by decide))).mono ?_
      rintro e w9 ⟨rfl, b9⟩
      have B9 := btr B8 b9
      go_wp2_with fail
      go_ret
      exact ⟨rfl, B9⟩
    · rw [hV] at hvt
      have HZS := Lib.hid (asOf_Sm' SX (by decide) (by decide) (by decide) tx ty).zs
      have HLN : Hid (∀ r, WeightF (AsOfF z tx ty) r = lin (fun q => upTo tx ty q && decide (q.1 = r)) z) := fun r => by rw [WeightF_wsum HZS.out, asOf_lin SX (by decide) (by decide) (by decide) hV]
      have HBD : Hid (∀ r m, -180 ≤ lin (fun q : KeyU => upTo tx ty q && decide (q.1 = r)) (z.take m) ∧ lin (fun q : KeyU => upTo tx ty q && decide (q.1 = r)) (z.take m) ≤ 180) := fun r m => by
        have h1 := lin_bd (p := fun q : KeyU => upTo tx ty q && decide (q.1 = r)) (l := z.take m) (b := 9) (by decide) (fun e he => SX.wt e (List.mem_of_mem_take he))
        have h2 : (z.take m).length ≤ 20 := by have := SX.len; simp; omega
        omega
      have HWT : Hid (∀ e ∈ z, -9 ≤ e.2 ∧ e.2 ≤ 9) := SX.wt
      clear hV SX
      go_wp2_with fail
      refine (smallT true HS.out ((SlOw.at_ updO hz.1).below updR (btr (btr (btr b2 b3) b4) b5)) nz rz).mono ?_
      rintro e w6 ⟨rfl, b6⟩
      have B6 := btr B5 b6
      have xhk20 := (hk2.below (btr (btr (btr b3 b4) b5) b6)).cell 0
      have xhk21 := (hk2.below (btr (btr (btr b3 b4) b5) b6)).cell 1
      simp at xhk20 xhk21
      go_wp2_with fail
      refine (hvt _).mono ?_
      rintro e w7 ⟨rfl, b7⟩
      have B7 := btr B6 b7
      clear xhk20 xhk21
      have hat : UpdsAt w7 Az z := ((SlOw.at_ updO hz.1).below updR (btr (btr (btr (btr (btr b2 b3) b4) b5) b6) b7))
      have hatn : EntsAt w7 A3 (AsOfF z tx ty) := (a3.below entR (btr (btr (btr b4 b5) b6) b7))
      have hkt := hk2.below (btr (btr (btr (btr b3 b4) b5) b6) b7)
      clear hvt
      go_wp2
      go_loopw [6, 7, 8] (fun i s q wr => ∃ k : Nat, k ≤ z.length ∧ i = .int .i64 k ∧ Below w7.heap.size w7 wr) (fun i _ _ _ => z.length - (intOf i).toNat)
      case atStart => exact ⟨0, by omega, rfl, Below.refl _ _⟩
      case round =>
        obtain ⟨i, hi, rfl, bi⟩ := hrel
        by_cases hit : i < z.length
        · obtain ⟨b, off, RA, rc, hAe, hbl, hc0, -, -, -, -, hrow⟩ := hat.get i hit
          subst hAe
          have hrl := rz.get hit
          have hit' : (i : Int) < z.length := by omega
          obtain ⟨V, rfl⟩ : ∃ V : World, V = wr := ⟨wr, rfl⟩
          have HST : Hid (∀ m (h : m < z.length), lin (fun q : KeyU => upTo tx ty q && decide (q.1 = z[i].1.1)) (z.take (m + 1)) = lin (fun q : KeyU => upTo tx ty q && decide (q.1 = z[i].1.1)) (z.take m) + if (upTo tx ty z[m].1 && decide (z[m].1.1 = z[i].1.1)) = true then z[m].2 else 0) := fun m h => by
            rw [List.take_succ_eq_append_getElem h, lin_append, lin_cons, lin_nil]
            omega
          have HB2 : Hid (∀ m, -180 ≤ lin (fun q : KeyU => upTo tx ty q && decide (q.1 = z[i].1.1)) (z.take m) ∧ lin (fun q : KeyU => upTo tx ty q && decide (q.1 = z[i].1.1)) (z.take m) ≤ 180) := HBD.out z[i].1.1
          have HW2 := Lib.hid (HLN.out z[i].1.1)
          have HT0 : Hid (lin (fun q : KeyU => upTo tx ty q && decide (q.1 = z[i].1.1)) (z.take 0) = 0) := rfl
          have HTL : Hid (lin (fun q : KeyU => upTo tx ty q && decide (q.1 = z[i].1.1)) (z.take z.length) = lin (fun q : KeyU => upTo tx ty q && decide (q.1 = z[i].1.1)) z) := by rw [Hid, List.take_length]
          generalize hP : lin (fun q : KeyU => upTo tx ty q && decide (q.1 = z[i].1.1)) = P at HST HB2 HW2 HT0 HTL
          clear hP
          go_wp2
          go_loopw [7, 8] (fun s j wr => ∃ m : Nat, m ≤ z.length ∧ j = .int .i64 m ∧ s = .int .i64 (P (z.take m)) ∧ Below V.heap.size V wr) (fun _ j _ => z.length - (intOf j).toNat)
          case atStart => exact ⟨0, by omega, rfl, by rw [HT0.out], Below.refl _ _⟩
          case round =>
            obtain ⟨m, hm, rfl, rfl, bm⟩ := hrel
            by_cases hmt : m < z.length
            · obtain ⟨b', off', RB, rd, hAe', hbl', hd0, hd1, hd2, hd3, hml', hrow'⟩ := hat.get m hmt
              injection hAe' with hAe'
              injection hAe' with hA1 hA2
              subst hA1
              subst hA2
              have bim := btr bi bm
              have q0 := cgrowZ ((bim.cell (p := ⟨b, off + i * 4, none⟩) hbl).trans hc0)
              have p0 := cgrowZ ((bim.cell (p := ⟨b, off + m * 4, none⟩) hbl').trans hd0)
              have p1 := cgrowZ ((bim.cell (p := ⟨b, off + m * 4 + 1, none⟩) hbl').trans hd1)
              have p2 := cgrowZ ((bim.cell (p := ⟨b, off + m * 4 + 2, none⟩) hbl').trans hd2)
              have p3 := cgrowZ ((bim.cell (p := ⟨b, off + m * 4 + 3, none⟩) hbl').trans hd3)
              have k0 := cgrowZ ((hkt.below bim).cell 0)
              have k1 := cgrowZ ((hkt.below bim).cell 1)
              simp at k0 k1
              have p3' := (bim.cell (p := ⟨b, off + m * 4 + 3, none⟩) hbl').trans hd3
              have hrl' := rz.get hmt
              have hmt' : (m : Int) < z.length := by omega
              have hwm := HWT.out _ (List.getElem_mem hmt)
              have hw1 := hwm.1
              have hw2 := hwm.2
              have hP1 := (HB2.out m).1
              have hP2 := (HB2.out m).2
              have hst := HST.out m hmt
              have hcon := fun W (hW : Below wr.heap.size wr W) => equalInts_l RB RA rd rc z[m].1.1 z[i].1.1 W ((hrow'.below bim).below hW) ((hrow.below bim).below hW) (by omega) (by omega)
              have hle := fun W => TimeLe_i z[m].1.2.1 z[m].1.2.2 tx ty W
              clear hd0 hd1 hd2 hd3 hml' hwm
              by_cases e1 : z[m].1.1 = z[i].1.1
              · have hd1 : decide (z[m].1.1 = z[i].1.1) = true := by simp [e1]
                rw [hd1] at hcon hst
                clear e1 hd1
                cases e2 : leB z[m].1.2.1 z[m].1.2.2 tx ty
                · rw [e2] at hle
                  have HX : Hid (P (z.take (m + 1)) = P (z.take m)) := by rw [Hid, hst, upTo, e2]; simp
                  clear hst e2
                  go_wp2_with fail
                  refine wp_region_quiet_below (by kernel_rfl) (by kernel_rfl) ?_
                  repeat (go_big_quiet_step (first | (go_at_call 15; exact Calls.regrown_of (hcon _ (below_regrown _ _ _))) | (go_at_call 27; exact Calls.regrown_of (hle _))))
                  refine wpQuiet_nil ?_
                  intro wq hwq
                  obtain ⟨⟨dq, osq⟩, rfl⟩ := hwq
                  have hbq := below_regrown wr dq osq
                  have p3q := (hbq.cell (p := ⟨b, off + m * 4 + 3, none⟩) (Nat.lt_of_lt_of_le hbl' bim.size)).trans p3'
                  generalize grow (redrawn wr dq) osq = wx at hbq p3q
                  have hbx := btr bm hbq
                  clear q0 p0 p1 p2 p3 k0 k1 hcon hle hbq p3'
                  go_wp2
                  go_roundw
                  case rel => exact ⟨m + 1, by omega, by go_num, by rw [HX.out], hbx⟩
                  case measure => simp [intOf]; omega
                · rw [e2] at hle
                  have HX : Hid (P (z.take (m + 1)) = P (z.take m) + z[m].2) := by rw [Hid, hst, upTo, e2]; simp
                  clear hst e2
                  go_wp2_with fail
                  refine wp_region_quiet_below (by kernel_rfl) (by kernel_rfl) ?_
                  repeat (go_big_quiet_step (first | (go_at_call 15; exact Calls.regrown_of (hcon _ (below_regrown _ _ _))) | (go_at_call 27; exact Calls.regrown_of (hle _))))
                  refine wpQuiet_nil ?_
                  intro wq hwq
                  obtain ⟨⟨dq, osq⟩, rfl⟩ := hwq
                  have hbq := below_regrown wr dq osq
                  have p3q := (hbq.cell (p := ⟨b, off + m * 4 + 3, none⟩) (Nat.lt_of_lt_of_le hbl' bim.size)).trans p3'
                  generalize grow (redrawn wr dq) osq = wx at hbq p3q
                  have hbx := btr bm hbq
                  clear q0 p0 p1 p2 p3 k0 k1 hcon hle hbq p3'
                  go_wp2
                  go_roundw
                  case rel => exact ⟨m + 1, by omega, by go_num, by rw [HX.out], hbx⟩
                  case measure => simp [intOf]; omega
              · have hd1 : decide (z[m].1.1 = z[i].1.1) = false := by simp [e1]
                rw [hd1] at hcon hst
                have HX : Hid (P (z.take (m + 1)) = P (z.take m)) := by rw [Hid, hst]; simp
                clear hst e1 hd1 hle
                go_wp2_with fail
                refine wp_region_quiet_below (by kernel_rfl) (by kernel_rfl) ?_
                repeat (go_big_quiet_step (first | (go_at_call 15; exact Calls.regrown_of (hcon _ (below_regrown _ _ _)))))
                refine wpQuiet_nil ?_
                intro wq hwq
                obtain ⟨⟨dq, osq⟩, rfl⟩ := hwq
                have hbq := below_regrown wr dq osq
                have p3q := (hbq.cell (p := ⟨b, off + m * 4 + 3, none⟩) (Nat.lt_of_lt_of_le hbl' bim.size)).trans p3'
                generalize grow (redrawn wr dq) osq = wx at hbq p3q
                have hbx := btr bm hbq
                clear q0 p0 p1 p2 p3 k0 k1 hcon hbq p3'
                go_wp2
                go_roundw
                case rel => exact ⟨m + 1, by omega, by go_num, by rw [HX.out], hbx⟩
                case measure => simp [intOf]; omega
            · obtain rfl : m = z.length := by omega
              have bim := btr bi bm
              have hne : (P z != P z) = false := by simp
              have HB3 := Lib.hid bim
              have q0 := (bim.cell (p := ⟨b, off + i * 4, none⟩) hbl).trans hc0
              have hcw := weightZ (c := c3) (d := rc) (P z) HW2.out (hatn.below entR bim) (hrow.below bim) (Nat.le_trans (AsOfF_len _ _ _) (by decide)) (rows_big (AsOfF_row _ _ _) (by decide)) (by omega)
              rw [HTL.out]
              clear hc0
              go_wp2_with fail
              refine hcw.mono ?_
              rintro e wa ⟨rfl, ba⟩
              clear q0 hcw
              go_wp2
              go_roundw
              case rel => exact ⟨i + 1, by omega, by go_num, btr HB3.out ba⟩
              case measure => simp [intOf]; omega
        · obtain rfl : i = z.length := by omega
          have hcv := validZ (c := c3) true HZS.out (hatn.below entR bi) (Nat.le_trans (AsOfF_len _ _ _) (by decide)) (rows_big (AsOfF_row _ _ _) (by decide))
          go_wp2_with fail
          refine hcv.mono ?_
          rintro e wa ⟨rfl, ba⟩
          go_wp2_with fail
          go_ret
          exact ⟨rfl, btr B7 (btr bi ba)⟩

namespace lawFnAsOf
theorem own : ownKnob Try.prog.godebug = none := by kernel_rfl
theorem laidOut : laidOutB Try.prog = true := clo_laid
set_option maxRecDepth 100000 in
theorem lifted (os : Os) (started : os.Started) (H : Type) (enc : TypeId × Value → H) :
    ReturnsInHanded {} Try.checked os 5 .any (Rows.fnAsOfSpec.pre6 enc Try.prog Try.f5 Rows.fnAsOfRow.domain false) (Rows.fnAsOfSpec.post enc Try.prog Try.f5 false true false false) := by
  refine returnsInHanded_of_change (C := Try.checked) own started (by kernel_rfl) Try.func5
    (ChangeSpec.witness6 (enc := enc) (C := Try.checked) false ⟨#[], #[.slice none 0 0], []⟩ 8 (by kernel_rfl) (by kernel_rfl) (by kernel_rfl) (by kernel_rfl)) ?_
  intro W base args ds gs before hval0 hW hcnd _
  have hval : ∀ (j : Nat) t v, Try.f5.params[j]? = some t → args[j]? = some v → Value.okWide Try.prog W .any base t v := hval0
  have hW' := hW
  obtain ⟨p, q, hA0, hV, rfl, hfz, hnd⟩ := hW
  have hA : DataW.TrodAll enc Try.prog W 0 (fun _ => true) true Try.f5.params.toList args.toList ds p := hA0
  rw [Try.params5] at hA hval
  obtain ⟨v0, vs0, d0, ds0, p0, q0, hargs, rfl, rfl, h0, r0⟩ := trodAll_cons hA
  obtain ⟨rfl, rfl, rfl⟩ := trodAll_nil r0
  obtain rfl : args = #[v0] := by cases args; simp_all
  obtain ⟨rfl, rfl⟩ := trodVars_none hV
  have k0 := h0
  have lt0 : ∀ x ∈ p0, x.block < W.heap.size := by obtain ⟨m, hm⟩ := k0; exact DataW.trod_lt m _ _ _ hm
  obtain ⟨a0, len0, cap0, rfl⟩ := okWide_slice Try.underlying22 (hval 0 22 v0 rfl rfl)
  obtain ⟨l0, m0, w0⟩ := bytes_of Try.underlying22 Try.underlying5 (by kernel_rfl) h0
  clear hA0 hval0
  refine (FnAsOf_walk a0 len0 cap0 W l0 m0 w0).mono fun e W' ⟨he, bel⟩ => ?_
  subst he
  exact ⟨_, rfl, _, _, _, [], _, [], hW', trodAll_mk1 (shut_bool Try.underlying4 _), (trodAll_cons_mk (Below.trod laidOut (by kernel_rfl) (of_decide_eq_true (by kernel_rfl)) k0 bel lt0) trodAll_mk0), rfl, bel.frame _, fun h => by cases h⟩
theorem andTT {a b : Bool} (h1 : a = true) (h2 : b = true) : (a && b) = true := by rw [h1, h2]; rfl
set_option maxHeartbeats 8000000 in
theorem closed : joinedFacts Try.prog 5 Try.f5 Rows.fnAsOfSpec Rows.fnAsOfRow = true := by
  unfold joinedFacts
  repeat' (with_reducible refine andTT ?_ ?_)
  all_goals (first | (with_reducible exact clo_laid) | (with_reducible exact clo_maps) | (with_reducible exact clo_heard) | (with_reducible exact clo_enter) | ((with_reducible refine clo_plain _ ?_); rfl) | ((with_reducible refine clo_lifts _ ?_); rfl) | (as_aux_lemma => kernel_rfl))

theorem over : Rows.fnAsOfRow.holds Try.pinned (OpenSpec.ofChange Rows.fnAsOfSpec) :=
  OpenClaim.holds_of_wide 5 Try.f5 rfl rfl rfl rfl rfl rfl rfl ⟨rfl, rfl, rfl, rfl, rfl⟩ rfl rfl rfl rfl rfl (by kernel_rfl) Try.func5 closed
    (of_decide_eq_true (by kernel_rfl)) (by unfold Func.isWrapper; first | (rw [if_pos (by decide +kernel)]; kernel_rfl) | (rw [if_neg (by decide +kernel)]; exact ⟨rfl, rfl⟩))
    (fun os started H enc _ => lifted os started H enc)

/-- THE STATEMENT. -/
theorem proved : Rows.FnAsOfSaid := over
end lawFnAsOf
end Go.Proofs.Ytjobecoogjojjaa
