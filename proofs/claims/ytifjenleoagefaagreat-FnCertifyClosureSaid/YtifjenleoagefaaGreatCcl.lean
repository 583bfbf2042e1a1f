/- HELPER, no statement of the seat: the program's checker of closures, whole. -/
import Derived.Test.YtifjenleoagefaaGreatCck
namespace Go.Proofs.YtifjenleoagefaaGreat
open Go.RowKit Go.Sort Go.Shelf
set_option linter.unusedSimpArgs false
set_option linter.unusedVariables false

theorem cellB_def (r : List Nat) (T : List Int) (x y : Nat) : cellB r T x y = (!(hasR r x y && decide (getT T x y ≠ 1)) && !(decide (0 < getT T x y) && !(reaB r T x y && conB r T x y))) := rfl
set_option maxRecDepth 100000 in
set_option maxHeartbeats 12800000 in
theorem isCertified_w (B : Nat) (r : List Nat) (T : List Int) (w : World) (hB : CkB w B r T) (hr : OkR r) (hT : T.length = 400) (hbd : ∀ u v : Nat, u < 20 → v < 20 → 0 ≤ getT T u v ∧ getT T u v ≤ 9999) :
    Calls Tryz.prog 46 #[.pointer (some ⟨B, 0, none⟩)] w fun e w' => e = .returned (.bool (allTo (fun x => allTo (fun y => cellB r T x y) 20) 20)) ∧ Below w.heap.size w w' := by
  have hBlt : B < w.heap.size := Blk.lt hB
  have HED := Lib.hid (fun (u v : Nat) (hu : u < 20) (hv : v < 20) (W : World) (hb : Below w.heap.size w W) => hasEdge_c B r (u : Int) (v : Int) W (Nat.lt_of_lt_of_le hBlt hb.size) ((hB.below hb).edge hr.len) hr)
  have HRE := Lib.hid (fun (u v : Nat) (hu : u < 20) (hv : v < 20) (W : World) (hb : Below w.heap.size w W) => isReached_w B r T u v W (hB.below hb) hr hT hu hv hbd)
  have HCO := Lib.hid (fun (u v : Nat) (hu : u < 20) (hv : v < 20) (W : World) (hb : Below w.heap.size w W) => isContinued_w B r T u v W (hB.below hb) hr hT hu hv hbd)
  have HRW := Lib.hid (fun (W : World) (hb : Below w.heap.size w W) (x : Nat) (hx : x < 20) => (hB.below hb).row hr.len hT hx)
  have hno1 : ∀ k, k < 20 → allTo (fun y => cellB r T k y) 20 = false → Hid (allTo (fun x => allTo (fun y => cellB r T x y) 20) 20 = false) := fun k hk h => allTo_bad hk h
  have HNO1 := Lib.hid hno1
  clear hno1
  go_enter Tryz.func46, Tryz.ntmps46
  go_wp2
  go_loopw [6] (fun i wr => ∃ k : Nat, k ≤ 20 ∧ i = .int .i64 (k : Nat) ∧ Hid (allTo (fun x => allTo (fun y => cellB r T x y) 20) k = true) ∧ Below w.heap.size w wr) (fun i _ => 20 - (intOf i).toNat)
  case atStart => exact ⟨0, by omega, rfl, rfl, Below.refl _ _⟩
  case round =>
    obtain ⟨k, hk, rfl, HK, hbel⟩ := hrel
    by_cases hlt : k < 20
    · have hkI : (k : Int) < 20 := by omega
      have hrow := HRW.out wr hbel k hlt
      have hinf : (Tryz.prog.info? 65).map (·.size) = some (rowL T k).length := by rw [rowL_len]; exact infoD
      have HIX := Lib.hid (fun (y : Nat) (hy : y < 20) W => (run_indexD (rowL T k).toArray y _ hy (by rw [List.getElem?_toArray]; exact rowL_at T k hy) W : (Instr.index 65 (.agg (rowL T k).toArray) (.int .i64 (y : Int))).run Tryz.prog W = .ok (.int .i64 (getT T k y)) W))
      have HKS := Lib.hid (fun (h : allTo (fun y => cellB r T k y) 20 = true) => (allTo_step HK.out h : allTo (fun x => allTo (fun y => cellB r T x y) 20) (k + 1) = true))
      have HBJ := Lib.hid (fun j (hj : j < 20) (h : cellB r T k j = false) => (HNO1.out k hlt (allTo_bad hj h)).out)
      have HB0 := Lib.hid hbel
      clear hbel HK
      go_wp2_with (refine wpList_load_at rfl 65 _ rfl B (20 + k * 20) rfl (rowL T k) _ hrow underD rfl hinf ?_)
      clear hrow hinf
      obtain ⟨V, rfl⟩ : ∃ V : World, V = wr := ⟨_, rfl⟩
      go_loopw [15] (fun i wr => ∃ j : Nat, j ≤ 20 ∧ i = .int .i64 (j : Nat) ∧ Hid (allTo (fun y => cellB r T k y) j = true) ∧ Below w.heap.size w wr) (fun i _ => 20 - (intOf i).toNat)
      case atStart => exact ⟨0, by omega, rfl, rfl, HB0.out⟩
      case round =>
        clear HB0
        obtain ⟨j, hj, rfl, HJ, hbel⟩ := hrel
        by_cases hjl : j < 20
        · have hjI : (j : Int) < 20 := by omega
          have hix := HIX.out j hjl
          have hed := HED.out k j hlt hjl wr hbel
          rw [hasB_nat hlt hjl] at hed
          have hre := fun W (hb : Below w.heap.size w W) => HRE.out k j hlt hjl W hb
          have hco := fun W (hb : Below w.heap.size w W) => HCO.out k j hlt hjl W hb
          have HDEF := Lib.hid (cellB_def r T k j)
          have HJS := Lib.hid (fun (h : cellB r T k j = true) => (allTo_step HJ.out h : allTo (fun y => cellB r T k y) (j + 1) = true))
          have HBAD := Lib.hid (fun (h : cellB r T k j = false) => HBJ.out j hjl h)
          clear HJ
          obtain ⟨hd0, hd1⟩ := hbd k j hlt hjl
          generalize getT T k j = d at *
          generalize reaB r T k j = rea at *
          generalize conB r T k j = con at *
          cases heb : hasR r k j
          · rw [heb] at hed
            by_cases hp : 0 < d
            rotate_left
            · have HX := Lib.hid (HJS.out (by rw [HDEF.out, heb, decide_eq_false hp]; simp))
              have hp' : ¬ (0 < d) := hp
              clear HDEF HBAD HJS heb hp
              go_wp2_with fail
              refine hed.mono ?_
              rintro e w2 ⟨rfl, b2⟩
              have HB2 := Lib.hid (btr hbel b2)
              clear hed b2
              go_wp2
              go_roundw
              case rel => exact ⟨j + 1, by omega, by go_num, HX.out, HB2.out⟩
              case measure => simp [intOf]; omega
            cases hrb : rea
            · have HX := Lib.hid (HBAD.out (by rw [HDEF.out, heb, hrb]; simp [hp]))
              rw [hrb] at hre
              clear HDEF HBAD HJS hrb heb
              go_wp2_with fail
              refine hed.mono ?_
              rintro e w2 ⟨rfl, b2⟩
              have HB2 := Lib.hid (btr hbel b2)
              clear hed b2
              go_wp2_with fail
              refine (hre _ HB2.out).mono ?_
              rintro e w3 ⟨rfl, b3⟩
              have HB3 := Lib.hid (btr HB2.out b3)
              clear hre b3
              go_wp2
              go_ret
              exact ⟨ret_bool HX.out.symm, HB3.out⟩
            cases hcb : con
            · have HX := Lib.hid (HBAD.out (by rw [HDEF.out, heb, hrb, hcb]; simp [hp]))
              rw [hrb] at hre
              rw [hcb] at hco
              clear HDEF HBAD HJS hrb hcb heb
              go_wp2_with fail
              refine hed.mono ?_
              rintro e w2 ⟨rfl, b2⟩
              have HB2 := Lib.hid (btr hbel b2)
              clear hed b2
              go_wp2_with fail
              refine (hre _ HB2.out).mono ?_
              rintro e w3 ⟨rfl, b3⟩
              have HB3 := Lib.hid (btr HB2.out b3)
              clear hre b3
              go_wp2_with fail
              refine (hco _ HB3.out).mono ?_
              rintro e w4 ⟨rfl, b4⟩
              have HB4 := Lib.hid (btr HB3.out b4)
              clear hco b4
              go_wp2
              go_ret
              exact ⟨ret_bool HX.out.symm, HB4.out⟩
            · have HX := Lib.hid (HJS.out (by rw [HDEF.out, heb, hrb, hcb]; simp))
              rw [hrb] at hre
              rw [hcb] at hco
              clear HDEF HBAD HJS hrb hcb heb
              go_wp2_with fail
              refine hed.mono ?_
              rintro e w2 ⟨rfl, b2⟩
              have HB2 := Lib.hid (btr hbel b2)
              clear hed b2
              go_wp2_with fail
              refine (hre _ HB2.out).mono ?_
              rintro e w3 ⟨rfl, b3⟩
              have HB3 := Lib.hid (btr HB2.out b3)
              clear hre b3
              go_wp2_with fail
              refine (hco _ HB3.out).mono ?_
              rintro e w4 ⟨rfl, b4⟩
              have HB4 := Lib.hid (btr HB3.out b4)
              clear hco b4
              go_wp2
              go_roundw
              case rel => exact ⟨j + 1, by omega, by go_num, HX.out, HB4.out⟩
              case measure => simp [intOf]; omega
          · rw [heb] at hed
            by_cases h1 : d = 1
            rotate_left
            · have HX := Lib.hid (HBAD.out (by rw [HDEF.out, heb]; simp [h1]))
              have h1' : (d != 1) = true := by rw [bne_iff_ne]; exact h1
              clear HDEF HBAD HJS heb h1
              go_wp2_with fail
              refine hed.mono ?_
              rintro e w2 ⟨rfl, b2⟩
              have HB2 := Lib.hid (btr hbel b2)
              clear hed b2
              go_wp2
              go_ret
              exact ⟨ret_bool HX.out.symm, HB2.out⟩
            subst h1
            cases hrb : rea
            · have HX := Lib.hid (HBAD.out (by rw [HDEF.out, heb, hrb]; simp []))
              rw [hrb] at hre
              clear HDEF HBAD HJS hrb heb
              go_wp2_with fail
              refine hed.mono ?_
              rintro e w2 ⟨rfl, b2⟩
              have HB2 := Lib.hid (btr hbel b2)
              clear hed b2
              go_wp2_with fail
              refine (hre _ HB2.out).mono ?_
              rintro e w3 ⟨rfl, b3⟩
              have HB3 := Lib.hid (btr HB2.out b3)
              clear hre b3
              go_wp2
              go_ret
              exact ⟨ret_bool HX.out.symm, HB3.out⟩
            cases hcb : con
            · have HX := Lib.hid (HBAD.out (by rw [HDEF.out, heb, hrb, hcb]; simp []))
              rw [hrb] at hre
              rw [hcb] at hco
              clear HDEF HBAD HJS hrb hcb heb
              go_wp2_with fail
              refine hed.mono ?_
              rintro e w2 ⟨rfl, b2⟩
              have HB2 := Lib.hid (btr hbel b2)
              clear hed b2
              go_wp2_with fail
              refine (hre _ HB2.out).mono ?_
              rintro e w3 ⟨rfl, b3⟩
              have HB3 := Lib.hid (btr HB2.out b3)
              clear hre b3
              go_wp2_with fail
              refine (hco _ HB3.out).mono ?_
              rintro e w4 ⟨rfl, b4⟩
              have HB4 := Lib.hid (btr HB3.out b4)
              clear hco b4
              go_wp2
              go_ret
              exact ⟨ret_bool HX.out.symm, HB4.out⟩
            · have HX := Lib.hid (HJS.out (by rw [HDEF.out, heb, hrb, hcb]; simp))
              rw [hrb] at hre
              rw [hcb] at hco
              clear HDEF HBAD HJS hrb hcb heb
              go_wp2_with fail
              refine hed.mono ?_
              rintro e w2 ⟨rfl, b2⟩
              have HB2 := Lib.hid (btr hbel b2)
              clear hed b2
              go_wp2_with fail
              refine (hre _ HB2.out).mono ?_
              rintro e w3 ⟨rfl, b3⟩
              have HB3 := Lib.hid (btr HB2.out b3)
              clear hre b3
              go_wp2_with fail
              refine (hco _ HB3.out).mono ?_
              rintro e w4 ⟨rfl, b4⟩
              have HB4 := Lib.hid (btr HB3.out b4)
              clear hco b4
              go_wp2
              go_roundw
              case rel => exact ⟨j + 1, by omega, by go_num, HX.out, HB4.out⟩
              case measure => simp [intOf]; omega
        · obtain rfl : j = 20 := by omega
          have HX := Lib.hid (HKS.out HJ.out)
          go_wp2
          go_roundw
          case rel => exact ⟨k + 1, by omega, by go_num, HX.out, hbel⟩
          case measure => simp [intOf]; omega
    · obtain rfl : k = 20 := by omega
      go_wp2
      go_ret
      exact ⟨ret_bool HK.out.symm, hbel⟩
end Go.Proofs.YtifjenleoagefaaGreat
