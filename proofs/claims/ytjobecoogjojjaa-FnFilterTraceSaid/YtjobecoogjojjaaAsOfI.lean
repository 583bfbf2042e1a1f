/- HELPER, no statement of the seat: AsOf of both sides. -/
import Derived.Test.YtjobecoogjojjaaUmk
import Derived.Test.YtjobecoogjojjaaUph
import Derived.Test.YtjobecoogjojjaaNormI
import Derived.Test.YtjobecoogjojjaaNormS
namespace Go.Proofs.Ytjobecoogjojjaa
open Go.RowKit Go.Sort
set_option linter.unusedSimpArgs false
set_option linter.unusedVariables false


theorem absA {P : Program} {f : FuncId} {args : Array Value} {w : World} {Q : Ending → World → Prop} (R : World → Prop) (h : R w) (k : ∀ W, R W → Calls P f args W Q) : Calls P f args w Q := k w h
theorem sum_up {zs : List Ent} (hu : Up lessB zs) : nz (sumM [] zs) = nz (NormL zs) := nz_norm (List.Perm.refl _) hu

set_option maxRecDepth 100000 in
set_option maxHeartbeats 3200000 in
theorem AsOf_i (A : Option Addr) (c : Nat) (tr : List Upd) (x y : Int) (w : World) (hx : UpdsAt w A tr) (hn : tr.length ≤ 4194304) (hr : rowsU tr 4194304) :
    Calls Try.prog 22 #[.slice A tr.length c, .agg #[.int .i64 x, .int .i64 y]] w fun e w' => ∃ A' c', e = .returned (.slice A' (AsOfF tr x y).length c') ∧ EntsOw w' (news w w') A' c' (AsOfF tr x y) ∧ Below w.heap.size w w' := by
  have hvt := fun W (h : UpdsAt W A tr) => ValidTrace_i A c tr W h hn hr
  have hval := fun W => isValid_i x y W
  by_cases h1 : trB tr = true
  · rw [h1] at hvt
    by_cases h2 : vtB x y = true
    · rw [h2] at hval
      have HR : Hid (AsOfF tr x y = chkF (nz (NormL (entsTo x y tr)))) := by simp [Hid, AsOfF, h1, h2]
      have HU := Lib.hid (sum_up (entsTo_up x y h1))
      have hlen := (trB_parts h1).1
      have HW : Hid (∀ k, wIn (entsTo x y (tr.take k)) 1000000) := fun k e he => by
        obtain ⟨u, hu, rfl⟩ := entsTo_mem he
        exact (sumU_parts (trB_sum h1 u (List.mem_of_mem_take hu))).2.1
      have HRW : Hid (∀ k, rowsIn (entsTo x y (tr.take k)) 6) := fun k => entsTo_rows (fun u hu => trB_row h1 u (List.mem_of_mem_take hu))
      have HT1 := Lib.hid h1
      clear h1 h2
      go_enter Try.func22, Try.ntmps22
      go_wp2_with fail
      refine absA (fun W => Below w.heap.size w W ∧ Blk W w.heap.size 35 #[.int .i64 x, .int .i64 y]) ⟨bal (Below.refl _ _) _, Blk.newAt rfl⟩ ?_
      rintro W ⟨hB, hkP⟩
      refine (hvt _ (hx.below updR hB)).mono ?_
      rintro e W1 ⟨rfl, b1⟩
      have hB1 := btr hB b1
      have hk1 := hkP.below b1
      have p0 := hk1.cell 0
      have p1 := hk1.cell 1
      simp at p0 p1
      clear hvt hkP
      go_wp2_with fail
      refine (hval _).mono ?_
      rintro e W2 ⟨rfl, b2⟩
      have hB2 := btr hB1 b2
      have hk2 := hk1.below b2
      have hx2 : UpdsAt W2 A tr := hx.below updR hB2
      have HB0 := Lib.hid (BAt.new W2)
      clear hval p0 p1 hk1
      go_wp2
      go_loopw [7, 18] (fun _ i wr => ∃ (k : Nat) (A' : Option Addr) (c' : Nat) (css : List (List Value)), k ≤ tr.length ∧ i = .int .i64 k ∧ BAt W2 wr A' c' (sumM [] (entsTo x y (tr.take k))) css) (fun _ i _ => tr.length - (intOf i).toNat)
      case atStart => exact ⟨0, none, 0, [], by omega, rfl, HB0.out⟩
      case round =>
        obtain ⟨k, A', c', css, hk, rfl, hBA⟩ := hrel
        clear HB0
        by_cases hlt : k < tr.length
        · obtain ⟨b, off, RA, rc, rfl, hbl, hc0, hc1, hc2, hc3, hml, hrow⟩ := hx2.get k hlt
          have q0 := (hBA.bel.cell (p := ⟨b, off + k * 4, none⟩) hbl).trans hc0
          have q1 := (hBA.bel.cell (p := ⟨b, off + k * 4 + 1, none⟩) hbl).trans hc1
          have q2 := (hBA.bel.cell (p := ⟨b, off + k * 4 + 2, none⟩) hbl).trans hc2
          have q3 := (hBA.bel.cell (p := ⟨b, off + k * 4 + 3, none⟩) hbl).trans hc3
          have hkr := hk2.below hBA.bel
          have p0 := hkr.cell 0
          have p1 := hkr.cell 1
          simp at p0 p1
          have hst := entsTo_step (x := x) (y := y) hlt
          have hel := entsTo_len (tr.take k) x y
          have htk : (tr.take k).length = k := by simp; omega
          have hrl := trB_row HT1.out _ (List.getElem_mem hlt)
          have hwl := (sumU_parts (trB_sum HT1.out _ (List.getElem_mem hlt))).2.1
          have hHk := hkr.lt
          have HBA := Lib.hid hBA
          have HML := Lib.hid hml
          have hWk := HW.out k
          have hRk := HRW.out k
          clear hc0 hc1 hc2 hc3 hBA hml
          by_cases hp : leB tr[k].1.2.1 tr[k].1.2.2 x y = true
          · rw [if_pos hp] at hst
            have hcon := fun W => timeLe_i tr[k].1.2.1 tr[k].1.2.2 x y W
            rw [hp] at hcon
            have hsl := sumM_length (entsTo x y (tr.take k)) []
            simp at hsl
            have hsum : Hid (addM (sumM [] (entsTo x y (tr.take k))) (entU tr[k]) = sumM [] (entsTo x y (tr.take (k + 1)))) := by rw [Hid, hst]; simp [sumM]
            have hwi : wIn (sumM [] (entsTo x y (tr.take k))) 1099511627776 := (sumM_in (d := 1000000) (by omega) (entsTo x y (tr.take k)) [] 0 (fun e he => by cases he) (by omega) hWk).mono (by omega)
            have hri : rowsIn (sumM [] (entsTo x y (tr.take k))) 4194304 := sumM_all (p := fun r : List Int => r.length ≤ 4194304) _ _ (fun e he => by cases he) (fun e he => by have := hRk e he; omega)
            have HWI := Lib.hid hwi
            have HRI := Lib.hid hri
            clear hst hp hwi hri hWk hRk
            generalize hM : sumM [] (entsTo x y (tr.take k)) = M at *
            clear hM
            have hmx : EntR W2 [.slice RA tr[k].1.1.length rc, .int .i64 tr[k].2] (entU tr[k]) := EntR.mk HML.out hrow
            have HMX := Lib.hid hmx
            clear hmx
            go_wp2_with fail
            refine (hcon _).mono ?_
            rintro e w3 ⟨rfl, b3⟩
            obtain ⟨hcl, hfr⟩ := bcell b3
            have t0 : w3.cell? ⟨wr.heap.size, 0, none⟩ = some (.slice RA tr[k].1.1.length rc) := by rw [hcl _ _ (by simp)]; simp
            have t1 : w3.cell? ⟨wr.heap.size, 1, none⟩ = some (.int .i64 tr[k].1.2.1) := by rw [hcl _ _ (by simp)]; simp
            have t2 : w3.cell? ⟨wr.heap.size, 2, none⟩ = some (.int .i64 tr[k].1.2.2) := by rw [hcl _ _ (by simp)]; simp
            have t3 : w3.cell? ⟨wr.heap.size, 3, none⟩ = some (.int .i64 tr[k].2) := by rw [hcl _ _ (by simp)]; simp
            have hB3 := HBA.out.below (btr (bal (RowKit.Below.refl _ _) _) b3)
            clear hcl hfr b3 HBA q0 q1 q2 q3 p0 p1 hcon
            go_wp2_with fail
            refine (entry_u _ _ _ _ _ _ _).mono ?_
            rintro e w4 ⟨rfl, b4⟩
            have hB4 := hB3.below b4
            clear t0 t1 t2 t3 hB3 b4
            go_wp2_with fail
            refine (addB_e W2 w4 A' c' M css hB4 RA rc (entU tr[k]) HMX.out (by omega) HRI.out (by show tr[k].1.1.length ≤ _; omega) HWI.out (by show _ ≤ tr[k].2; omega) (by show tr[k].2 ≤ _; omega)).mono ?_
            rintro r w5 ⟨rfl, A2, c2, css2, hB5⟩
            rw [hsum.out] at hB5
            have HB5 := Lib.hid hB5
            clear hB4 hB5
            go_wp2
            go_roundw
            case rel => exact ⟨k + 1, A2, c2, css2, by omega, by go_num, HB5.out⟩
            case measure => simp [intOf]; omega
          · rw [if_neg hp, List.append_nil] at hst
            have hp' : leB tr[k].1.2.1 tr[k].1.2.2 x y = false := by simpa using hp
            have hcon := fun W => timeLe_i tr[k].1.2.1 tr[k].1.2.2 x y W
            rw [hp'] at hcon
            rw [← hst] at HBA
            clear hst hp hp' hWk hRk
            go_wp2_with fail
            refine (hcon _).mono ?_
            rintro e w3 ⟨rfl, b3⟩
            have hB3 := Lib.hid (HBA.out.below (btr (bal (RowKit.Below.refl _ _) _) b3))
            clear b3 HBA q0 q1 q2 q3 p0 p1 hcon
            go_wp2
            go_roundw
            case rel => exact ⟨k + 1, A', c', css, by omega, by go_num, hB3.out⟩
            case measure => simp [intOf]; omega
        · obtain rfl : k = tr.length := by omega
          rw [List.take_length] at hBA
          have hsl := sumM_length (entsTo x y tr) []
          have hel := entsTo_len tr x y
          simp at hsl
          have HBA := Lib.hid hBA
          clear hBA
          go_wp2_with fail
          refine (sumB_e W2 wr A' c' _ css HBA.out (by omega)).mono ?_
          rintro e w4 ⟨A4, c4, rfl, ha4, b4⟩
          have hB4 := btr hB2 b4
          have hnl : (nz (NormL (entsTo x y tr))).length ≤ (NormL (entsTo x y tr)).length := List.length_filter_le _ _
          have hnl2 := NormL_length (entsTo x y tr)
          have HNR : Hid (rowsIn (nz (NormL (entsTo x y tr))) 4194304) := fun e he => NormL_rows (entsTo_rows hr) e (List.mem_filter.1 he).1
          rw [HU.out] at ha4
          simp only [HU.out]
          go_wp2_with fail
          refine (copyZSet_i _ _ _ _ ha4 (by omega) HNR.out).mono ?_
          rintro e w5 ⟨A5, c5, rfl, ho5, b5⟩
          have hs := hB4.size
          go_wp2_with fail
          go_ret
          exact ⟨A5, c5, by rw [HR.out]; rfl, by rw [HR.out]; exact ho5.mono (fun q hq => ⟨by have := hq.1; omega, hq.2⟩) (fun q hq => hq.2), btr hB4 b5⟩
    · have h2' : vtB x y = false := by simpa using h2
      rw [h2'] at hval
      have HR : Hid (AsOfF tr x y = []) := by simp [Hid, AsOfF, h2']
      clear h1 h2 h2'
      go_enter Try.func22, Try.ntmps22
      go_wp2_with fail
      refine absA (fun W => Below w.heap.size w W ∧ Blk W w.heap.size 35 #[.int .i64 x, .int .i64 y]) ⟨bal (Below.refl _ _) _, Blk.newAt rfl⟩ ?_
      rintro W ⟨hB, hkP⟩
      refine (hvt _ (hx.below updR hB)).mono ?_
      rintro e W1 ⟨rfl, b1⟩
      have hB1 := btr hB b1
      have hk1 := hkP.below b1
      have p0 := hk1.cell 0
      have p1 := hk1.cell 1
      simp at p0 p1
      clear hvt hkP
      go_wp2_with fail
      refine (hval _).mono ?_
      rintro e W2 ⟨rfl, b2⟩
      have hB2 := btr hB1 b2
      go_wp2
      go_ret
      exact ⟨none, 0, by rw [HR.out]; rfl, by rw [HR.out]; exact SlOw.nil (fun k hk => hk.2), hB2⟩
  · have h1' : trB tr = false := by simpa using h1
    rw [h1'] at hvt
    have HR : Hid (AsOfF tr x y = []) := by simp [Hid, AsOfF, h1']
    clear h1 h1'
    go_enter Try.func22, Try.ntmps22
    go_wp2_with fail
    refine absA (fun W => Below w.heap.size w W) (bal (Below.refl _ _) _) ?_
    rintro W hB
    refine (hvt _ (hx.below updR hB)).mono ?_
    rintro e W1 ⟨rfl, b1⟩
    have hB1 := btr hB b1
    go_wp2
    go_ret
    exact ⟨none, 0, by rw [HR.out]; rfl, by rw [HR.out]; exact SlOw.nil (fun k hk => hk.2), hB1⟩

set_option maxRecDepth 100000 in
set_option maxHeartbeats 3200000 in
theorem asOf_s (B : Option Addr) (d : Nat) (tr : List Upd) (x y : Int) (w : World) (hy : UpdsAt w B tr) (ht : trB tr = true) :
    Calls Try.prog 89 #[.slice B tr.length d, .agg #[.int .i64 x, .int .i64 y]] w fun e w' => ∃ A' c', e = .returned (.slice A' (chkF (nz (AddL [] (entsTo x y tr)))).length c') ∧ EntsOw w' (news w w') A' c' (chkF (nz (AddL [] (entsTo x y tr)))) ∧ Below w.heap.size w w' := by
  have hbl := (trB_parts ht).1
  have hbr : rowsU tr 6 := trB_row ht
  have HAA : Hid (Asc lessB ([] : List Ent)) := List.Pairwise.nil
  have hm0 := SlF.made EntO 2 100 (w.alloc (.cells #[.int .i64 x, .int .i64 y] 35)) #[] 0 (by simp [maxLen]) (by simp) (S := news (w.alloc (.cells #[.int .i64 x, .int .i64 y] 35)) ((w.alloc (.cells #[.int .i64 x, .int .i64 y] 35)).alloc (.cells #[] 100))) ⟨by simp, by simp⟩ (fun k hk => by have := hk.2; simpa using this)
  rw [show (some (⟨(w.alloc (.cells #[.int .i64 x, .int .i64 y] 35)).heap.size, 0, none⟩ : Addr)) = some ⟨w.heap.size + 1, 0, none⟩ by simp] at hm0
  have HM0 : Hid (EntsOw ((w.alloc (.cells #[.int .i64 x, .int .i64 y] 35)).alloc (.cells #[] 100)) (news (w.alloc (.cells #[.int .i64 x, .int .i64 y] 35)) ((w.alloc (.cells #[.int .i64 x, .int .i64 y] 35)).alloc (.cells #[] 100))) (some ⟨w.heap.size + 1, 0, none⟩) 0 []) := ⟨_, _, hm0⟩
  clear hm0
  go_enter Try.func89, Try.ntmps89
  go_wp2_with fail
  refine abs_world (fun W => ∃ W0, Below w.heap.size w W0 ∧ Blk W0 w.heap.size 35 #[.int .i64 x, .int .i64 y] ∧ Below W0.heap.size W0 W ∧ EntsOw W (news W0 W) (some ⟨w.heap.size + 1, 0, none⟩) 0 []) ⟨_, bal (Below.refl _ _) _, Blk.newAt rfl, bal (Below.refl _ _) _, HM0.out⟩ ?_
  rintro W1 ⟨W0, hB0, hkP, hB01, hmade⟩
  have hy0 : UpdsAt W0 B tr := hy.below updR hB0
  have HM := Lib.hid hmade
  clear hmade HM0 hy
  go_wp2
  go_loopw [5, 6] (fun v i wr => ∃ k A' c', k ≤ tr.length ∧ i = .int .i64 (k : Nat) ∧ v = .slice A' (AddL [] (entsTo x y (tr.take k))).length c' ∧ A' ≠ none ∧ EntsOw wr (news W0 wr) A' c' (AddL [] (entsTo x y (tr.take k))) ∧ (AddL [] (entsTo x y (tr.take k))).length ≤ k ∧ rowsIn (AddL [] (entsTo x y (tr.take k))) 4194304 ∧ wts (AddL [] (entsTo x y (tr.take k))) (1000000 + k * 1000000) ∧ Below W0.heap.size W0 wr) (fun _ i _ => tr.length - (intOf i).toNat)
  case atStart => exact ⟨0, _, _, by omega, rfl, rfl, by simp, HM.out, by simp [AddL, entsTo], (fun e he => by cases he), (fun e he => by cases he), hB01⟩
  case round =>
    obtain ⟨k, A', c', hk, rfl, rfl, hA', hown, hlen, hrows, hwts, hbel⟩ := hrel
    have hs1 := hbel.size
    by_cases hlt : k < tr.length
    · obtain ⟨bb, off, RB, rd, rfl, hbl', hc0, hc1, hc2, hc3, -, hrow⟩ := hy0.get k hlt
      have q0 := (hbel.cell (p := ⟨bb, off + k * 4, none⟩) hbl').trans hc0
      have q1 := (hbel.cell (p := ⟨bb, off + k * 4 + 3, none⟩) hbl').trans hc3
      have g1 := cgrow ((hbel.cell (p := ⟨bb, off + k * 4 + 1, none⟩) hbl').trans hc1)
      have g2 := cgrow ((hbel.cell (p := ⟨bb, off + k * 4 + 2, none⟩) hbl').trans hc2)
      have hkr := hkP.below hbel
      have p0 := cgrow (hkr.cell 0)
      have p1 := cgrow (hkr.cell 1)
      simp at p0 p1
      have hlt' : (k : Int) < tr.length := by omega
      have hst := entsTo_step (x := x) (y := y) hlt
      have hwk := (sumU_parts (trB_sum ht _ (List.getElem_mem hlt))).2.1
      have hrk := hbr _ (List.getElem_mem hlt)
      have HT := Lib.hid ht
      clear hc0 hc1 hc2 hc3 HM
      by_cases hp : leB tr[k].1.2.1 tr[k].1.2.2 x y = true
      · rw [if_pos hp] at hst
        have hcon := fun W => timeLe_s tr[k].1.2.1 tr[k].1.2.2 x y W
        rw [hp] at hcon
        have hst2 : AddL [] (entsTo x y (tr.take (k + 1))) = insK lessB (AddL [] (entsTo x y (tr.take k))) tr[k].1.1 tr[k].2 := by
          rw [hst, AddL, List.foldl_append]; rfl
        have hasc := AddL_asc HAA.out (entsTo x y (tr.take k))
        have hl2 := insK_length (lt := lessB) (AddL [] (entsTo x y (tr.take k))) tr[k].1.1 tr[k].2
        have hp2 := insK_pos (AddL [] (entsTo x y (tr.take k))) tr[k].1.1 tr[k].2
        have hr2 := rows_ins hrows (r := tr[k].1.1) (by omega) tr[k].2
        have hw2 := wts_ins hwts ⟨hwk.1, hwk.2⟩ (by omega) (by omega) tr[k].1.1
        have hw3 : wts (AddL [] (entsTo x y (tr.take k))) 1099511627776 := fun e he => by have := hwts e he; omega
        have hwk1 : -1099511627776 ≤ tr[k].2 := by omega
        have hwk2 : tr[k].2 ≤ 1099511627776 := by omega
        have HST := Lib.hid hst2
        have HO := Lib.hid hown
        have HR2 := Lib.hid hr2
        have HW2 := Lib.hid hw2
        have HW3 := Lib.hid hw3
        have HASC := Lib.hid hasc
        have HR := Lib.hid hrows
        have HL2 := Lib.hid hl2
        have HP2 := Lib.hid hp2
        clear hst hst2 hown hr2 hw2 hw3 hasc hrows hwts hl2 hp2 hp ht
        generalize hM : AddL [] (entsTo x y (tr.take k)) = M at *
        clear hM
        go_wp2_with fail
        refine wp_region_quiet_below (by kernel_rfl) (by kernel_rfl) ?_
        repeat (go_big_quiet_step (exact Calls.regrown_of (hcon _)))
        refine wpQuiet_nil ?_
        intro wq hwq
        obtain ⟨⟨dq, osq⟩, rfl⟩ := hwq
        have hbq := below_regrown wr dq osq
        generalize grow (redrawn wr dq) osq = wq at hbq
        have hbel0 := hbel
        have hs1 := hs1
        have hbelq := btr hbel hbq
        have HO : Hid (EntsOw wq (news W0 wq) A' c' M) := (HO.out.below entO hbq).mono (fun q hq => ⟨hq.1, by have := hq.2; have := hbq.size; omega⟩) (fun q hq => hq.2)
        have q0 := (hbq.cell (p := ⟨bb, off + k * 4, none⟩) (Nat.lt_of_lt_of_le hbl' hs1)).trans q0
        have q1 := (hbq.cell (p := ⟨bb, off + k * 4 + 3, none⟩) (Nat.lt_of_lt_of_le hbl' hs1)).trans q1
        have hs1 : W0.heap.size ≤ wq.heap.size := hbelq.size
        clear g1 g2 p0 p1 hcon hbel hbel0 hkr hbq
        go_wp2_with fail
        refine wp_region_facts [[], [], [], [1, 2], [1, 2, 3], [1, 2, 3, 4], [], [], [6, 7], [6, 7, 8], [6, 7, 8, 9]]
          [fun v' _ => v' = .slice A' M.length c', fun v' _ => v' = .slice (some ⟨bb, off, none⟩) tr.length d, fun v' _ => v' = .int .i64 (k : Int), fun v' _ => v' = .pointer (some ⟨bb, off + k * 4, none⟩), fun v' _ => v' = .pointer (some ⟨bb, off + k * 4, none⟩), fun v' _ => v' = .slice RB tr[k].1.1.length rd, fun v' _ => v' = .slice (some ⟨bb, off, none⟩) tr.length d, fun v' _ => v' = .int .i64 (k : Int), fun v' _ => v' = .pointer (some ⟨bb, off + k * 4, none⟩), fun v' _ => v' = .pointer (some ⟨bb, off + k * 4 + 3, none⟩), fun v' _ => v' = .int .i64 tr[k].2]
          (by kernel_rfl) (by kernel_rfl) rfl ⟨stable_pure _, stable_pure _, stable_pure _, stable_pure _, stable_pure _, stable_pure _, stable_pure _, stable_pure _, stable_pure _, stable_pure _, stable_pure _, trivial⟩ ?_
        refine wf_step (fun wf hb hf => ?_) (fun t0 => ?_)
        · go_wp2
          exact ⟨rfl, _, rfl, Below.refl _ _, rfl⟩
        refine wf_step (fun wf hb hf => ?_) (fun t1 => ?_)
        · go_wp2
          exact ⟨rfl, _, rfl, Below.refl _ _, rfl⟩
        refine wf_step (fun wf hb hf => ?_) (fun t2 => ?_)
        · go_wp2
          exact ⟨rfl, _, rfl, Below.refl _ _, rfl⟩
        refine wf_step (fun wf hb hf => ?_) (fun t3 => ?_)
        · obtain ⟨rfl, rfl, -⟩ := hf
          go_wp2
          exact ⟨rfl, _, rfl, Below.refl _ _, rfl⟩
        refine wf_step (fun wf hb hf => ?_) (fun t4 => ?_)
        · obtain ⟨rfl, rfl, rfl, -⟩ := hf
          go_wp2
          exact ⟨rfl, _, rfl, Below.refl _ _, rfl⟩
        refine wf_step (fun wf hb hf => ?_) (fun t5 => ?_)
        · obtain ⟨rfl, rfl, rfl, rfl, -⟩ := hf
          have c0 := (hb.cell (p := ⟨bb, off + k * 4, none⟩) (Nat.lt_of_lt_of_le hbl' hs1)).trans q0
          go_wp2
          exact ⟨rfl, _, rfl, Below.refl _ _, rfl⟩
        refine wf_step (fun wf hb hf => ?_) (fun t6 => ?_)
        · go_wp2
          exact ⟨rfl, _, rfl, Below.refl _ _, rfl⟩
        refine wf_step (fun wf hb hf => ?_) (fun t7 => ?_)
        · go_wp2
          exact ⟨rfl, _, rfl, Below.refl _ _, rfl⟩
        refine wf_step (fun wf hb hf => ?_) (fun t8 => ?_)
        · obtain ⟨rfl, rfl, -⟩ := hf
          go_wp2
          exact ⟨rfl, _, rfl, Below.refl _ _, rfl⟩
        refine wf_step (fun wf hb hf => ?_) (fun t9 => ?_)
        · obtain ⟨rfl, rfl, rfl, -⟩ := hf
          go_wp2
          exact ⟨rfl, _, rfl, Below.refl _ _, rfl⟩
        refine wf_step (fun wf hb hf => ?_) (fun t10 => ?_)
        · obtain ⟨rfl, rfl, rfl, rfl, -⟩ := hf
          have c1 := (hb.cell (p := ⟨bb, off + k * 4 + 3, none⟩) (Nat.lt_of_lt_of_le hbl' hs1)).trans q1
          go_wp2
          exact ⟨rfl, _, rfl, Below.refl _ _, rfl⟩
        refine wf_done (fun wC hb hf => ?_)
        obtain ⟨rfl, rfl, rfl, rfl, rfl, rfl, rfl, rfl, rfl, rfl, rfl, -⟩ := hf
        show wpList _ _ _ [_, _] _ _
        refine wpList_frame (by simp [Act.put]; rfl) ?_
        have hbC := btr hbelq hb
        have hsC := hb.size
        go_wp2_with fail
        refine (addEntry_s (news W0 wC) _ _ _ _ _ _ _ _ ((HO.out.below entO hb).mono (fun q hq => ⟨hq.1, by have := hq.2; omega⟩) (fun q hq => hq.2)) hA' HASC.out (((hrow.below hbelq)).below hb) (by omega) HR.out (by omega) HW3.out hwk1 hwk2).mono ?_
        rintro e w2 ⟨A2, c2, rfl, ho2, g2⟩
        have hs2 := g2.size
        have hb2 := g2.below hbC (fun q hq => hq.1)
        have ho3 : EntsOw w2 (news W0 w2) A2 c2 (insK lessB M tr[k].1.1 tr[k].2) := ho2.mono (fun q hq => by
          rcases hq with hq | hq
          · exact ⟨hq.1, by have := hq.2; omega⟩
          · exact ⟨by have := hq.1; omega, hq.2⟩) (fun q hq => hq.2)
        have hA2 := some_of_pos ho3 HP2.out
        have HO3 := Lib.hid ho3
        clear ho2 ho3 g2 hbelq hb hrow q0 q1 hbC HO
        go_wp2
        go_roundw
        case rel => exact ⟨k + 1, A2, c2, by omega, by go_num, by rw [HST.out], hA2, by rw [HST.out]; exact HO3.out, by rw [HST.out]; have := HL2.out; omega, by rw [HST.out]; exact HR2.out, by rw [HST.out]; exact wts_next HW2.out, hb2⟩
        case measure => simp [intOf]; omega
      · rw [if_neg hp, List.append_nil] at hst
        have hp' : leB tr[k].1.2.1 tr[k].1.2.2 x y = false := by simpa using hp
        have hcon := fun W => timeLe_s tr[k].1.2.1 tr[k].1.2.2 x y W
        rw [hp'] at hcon
        have HST := Lib.hid hst
        have HO := Lib.hid hown
        have HR := Lib.hid hrows
        have HW := Lib.hid hwts
        clear hst hown hrows hwts hp hp' ht
        generalize hM : AddL [] (entsTo x y (tr.take k)) = M at *
        have HMM : Hid (AddL [] (entsTo x y (tr.take (k + 1))) = M) := by rw [Hid, HST.out, hM]
        clear hM
        go_wp2_with fail
        refine wp_region_quiet_below (by kernel_rfl) (by kernel_rfl) ?_
        repeat (go_big_quiet_step (exact Calls.regrown_of (hcon _)))
        refine wpQuiet_nil ?_
        intro wq hwq
        obtain ⟨⟨dq, osq⟩, rfl⟩ := hwq
        have hbq := below_regrown wr dq osq
        generalize grow (redrawn wr dq) osq = wq at hbq
        have hbelq := btr hbel hbq
        have HO2 : Hid (EntsOw wq (news W0 wq) A' c' M) := (HO.out.below entO hbq).mono (fun q hq => ⟨hq.1, by have := hq.2; have := hbq.size; omega⟩) (fun q hq => hq.2)
        clear g1 g2 p0 p1 hcon hbel hkr hbq HO q0 q1
        go_wp2
        go_roundw
        case rel => exact ⟨k + 1, A', c', by omega, by go_num, by rw [HMM.out], hA', by rw [HMM.out]; exact HO2.out, by rw [HMM.out]; omega, by rw [HMM.out]; exact HR.out, by rw [HMM.out]; exact fun e he => (by have := HW.out e he; push_cast; omega), hbelq⟩
        case measure => simp [intOf]; omega
    · obtain rfl : k = tr.length := by omega
      rw [List.take_length] at hown hlen hrows hwts
      have HO := Lib.hid hown
      have HR := Lib.hid hrows
      have HT := Lib.hid (List.take_length (l := tr))
      clear hown hrows hwts
      simp only [HT.out]
      go_wp2_with fail
      refine (withoutZeros_s _ _ _ _ _ HO.out (by omega)).mono ?_
      rintro e w2 ⟨A2, c2, rfl, ho2, b2⟩
      have hnl : (nz (AddL [] (entsTo x y tr))).length ≤ (AddL [] (entsTo x y tr)).length := List.length_filter_le _ _
      have hnr : rowsIn (nz (AddL [] (entsTo x y tr))) 4194304 := fun e he => HR.out e (List.mem_filter.1 he).1
      go_wp2_with fail
      refine (checked_s _ _ _ _ _ ho2 (by omega) hnr).mono ?_
      rintro e w3 ⟨A3, c3, rfl, ho3, b3⟩
      have hs2 := b2.size
      have hs3 := b3.size
      have hs0 := hB0.size
      have ho4 : EntsOw w3 (news w w3) A3 c3 (chkF (nz (AddL [] (entsTo x y tr)))) := ho3.mono (fun q hq => by
        rcases hq with hq | hq
        · rcases hq with hq | hq
          · exact ⟨by have := hq.1; omega, by have := hq.2; omega⟩
          · exact ⟨by have := hq.1; omega, by have := hq.2; omega⟩
        · exact ⟨by have := hq.1; omega, hq.2⟩) (fun q hq => hq.2)
      have HO4 := Lib.hid ho4
      clear ho2 ho3 ho4
      go_wp2_with fail
      go_ret
      exact ⟨A3, c3, rfl, HO4.out, btr hB0 (btr hbel (btr b2 b3))⟩

set_option maxRecDepth 100000 in
set_option maxHeartbeats 1600000 in
theorem AsOf_s (A : Option Addr) (c : Nat) (tr : List Upd) (x y : Int) (w : World) (hx : UpdsAt w A tr) (hn : tr.length ≤ 4194304) (hr : rowsU tr 4194304) :
    Calls Try.prog 24 #[.slice A tr.length c, .agg #[.int .i64 x, .int .i64 y]] w fun e w' => ∃ A' c', e = .returned (.slice A' (AsOfF tr x y).length c') ∧ EntsOw w' (news w w') A' c' (AsOfF tr x y) ∧ Below w.heap.size w w' := by
  have hvt := fun W (h : UpdsAt W A tr) => validTrace_s A c tr W h hn hr
  have hval := fun W => validTime_s x y W
  have endNo : Hid (AsOfF tr x y = []) → ∀ W, Below w.heap.size w W → Hid (EntsOw (W.alloc (.cells #[] 100)) (news w (W.alloc (.cells #[] 100))) (some ⟨W.heap.size, 0, none⟩) 0 (AsOfF tr x y)) := fun hF W hW => by
    rw [Hid, hF.out]
    exact ⟨_, _, SlF.made EntO 2 100 W #[] 0 (by simp [maxLen]) (by simp) ⟨hW.size, by simp⟩ (fun q hq => by have := hq.2; simpa using this)⟩
  by_cases h1 : trB tr = true
  · rw [h1] at hvt
    by_cases h2 : vtB x y = true
    · rw [h2] at hval
      have HR : Hid (AsOfF tr x y = chkF (nz (AddL [] (entsTo x y tr)))) := by simp only [Hid, AsOfF, h1, h2, Bool.and_self, if_true]; rfl
      have HT1 := Lib.hid h1
      clear h1 h2 endNo
      go_enter Try.func24, Try.ntmps24
      go_wp2_with fail
      refine absA (fun W => Below w.heap.size w W ∧ Blk W w.heap.size 35 #[.int .i64 x, .int .i64 y]) ⟨bal (Below.refl _ _) _, Blk.newAt rfl⟩ ?_
      rintro W ⟨hB, hkP⟩
      refine (hvt _ (hx.below updR hB)).mono ?_
      rintro e W1 ⟨rfl, b1⟩
      have hB1 := btr hB b1
      have hk1 := hkP.below b1
      have p0 := hk1.cell 0
      have p1 := hk1.cell 1
      simp at p0 p1
      clear hvt hkP
      go_wp2_with fail
      refine (hval _).mono ?_
      rintro e W2 ⟨rfl, b2⟩
      have hB2 := btr hB1 b2
      have hk2 := hk1.below b2
      clear p0 p1 hval
      have p0 := hk2.cell 0
      have p1 := hk2.cell 1
      simp at p0 p1
      have hs := hB2.size
      go_wp2_with fail
      refine (asOf_s _ _ _ _ _ _ (hx.below updR hB2) HT1.out).mono ?_
      rintro e W3 ⟨A3, c3, rfl, ho3, b3⟩
      clear p0 p1
      go_wp2_with fail
      go_ret
      exact ⟨A3, c3, by rw [HR.out]; rfl, by rw [HR.out]; exact ho3.mono (fun q hq => ⟨by have := hq.1; omega, hq.2⟩) (fun q hq => hq.2), btr hB2 b3⟩
    · have h2' : vtB x y = false := by simpa using h2
      rw [h2'] at hval
      have HR : Hid (AsOfF tr x y = []) := by simp [Hid, AsOfF, h2']
      have hno := endNo HR
      clear h1 h2 h2' endNo
      go_enter Try.func24, Try.ntmps24
      go_wp2_with fail
      refine absA (fun W => Below w.heap.size w W ∧ Blk W w.heap.size 35 #[.int .i64 x, .int .i64 y]) ⟨bal (Below.refl _ _) _, Blk.newAt rfl⟩ ?_
      rintro W ⟨hB, hkP⟩
      refine (hvt _ (hx.below updR hB)).mono ?_
      rintro e W1 ⟨rfl, b1⟩
      have hB1 := btr hB b1
      have hk1 := hkP.below b1
      have p0 := hk1.cell 0
      have p1 := hk1.cell 1
      simp at p0 p1
      clear hvt hkP
      go_wp2_with fail
      refine (hval _).mono ?_
      rintro e W2 ⟨rfl, b2⟩
      have hB2 := btr hB1 b2
      have HE := hno W2 hB2
      clear p0 p1 hval hno
      go_wp2
      go_ret
      exact ⟨_, 0, by rw [HR.out]; rfl, HE.out, bal hB2 _⟩
  · have h1' : trB tr = false := by simpa using h1
    rw [h1'] at hvt
    have HR : Hid (AsOfF tr x y = []) := by simp [Hid, AsOfF, h1']
    have hno := endNo HR
    clear h1 h1' endNo
    go_enter Try.func24, Try.ntmps24
    go_wp2_with fail
    refine absA (fun W => Below w.heap.size w W) (bal (Below.refl _ _) _) ?_
    rintro W hB
    refine (hvt _ (hx.below updR hB)).mono ?_
    rintro e W1 ⟨rfl, b1⟩
    have hB1 := btr hB b1
    have HE := hno W1 hB1
    clear hvt hno
    go_wp2
    go_ret
    exact ⟨_, 0, by rw [HR.out]; rfl, HE.out, bal hB1 _⟩
end Go.Proofs.Ytjobecoogjojjaa
