/- HELPER, no statement of the seat: AsOf of both sides. -/
import Derived.Test.YtjikdlldochhcacGreatUmk
import Derived.Test.YtjikdlldochhcacGreatUph
import Derived.Test.YtjikdlldochhcacGreatNrm
namespace Go.Proofs.YtjikdlldochhcacGreat
open Go.RowKit Go.Sort
set_option linter.unusedSimpArgs false
set_option linter.unusedVariables false


theorem absA {P : Program} {f : FuncId} {args : Array Value} {w : World} {Q : Ending → World → Prop} (R : World → Prop) (h : R w) (k : ∀ W, R W → Calls P f args W Q) : Calls P f args w Q := k w h
theorem sum_up {zs : List Ent} (hu : Up lessB zs) : nz (sumM [] zs) = nz (NormL zs) := nz_norm (List.Perm.refl _) hu

set_option maxRecDepth 100000 in
set_option maxHeartbeats 3200000 in
theorem AsOf_i (A : Option Addr) (c : Nat) (tr : List Upd) (x y : Int) (w : World) (hx : UpdsAt w A tr) (hn : tr.length ≤ 4194304) (hr : rowsU tr 4194304) :
    Calls Tryz.prog 18 #[.slice A tr.length c, .agg #[.int .i64 x, .int .i64 y]] w fun e w' => ∃ A' c', e = .returned (.slice A' (AsOfF tr x y).length c') ∧ EntsOw w' (news w w') A' c' (AsOfF tr x y) ∧ Below w.heap.size w w' := by
  have hvt := fun W (h : UpdsAt W A tr) => ValidTrace_i A c tr W h hn hr
  have hval := fun W => isValid_i x y W
  by_cases h1 : trB tr = true
  · rw [h1] at hvt
    by_cases h2 : vtB x y = true
    · rw [h2] at hval
      have HR : Hid (AsOfF tr x y = chkF (nz (NormL (entsTo x y tr)))) := by simp [Hid, AsOfF, h1, h2]
      have HU := Lib.hid (sum_up (entsTo_up x y h1))
      have hlen := (trB_parts h1).1
      have HW : Hid (∀ k, wIn (entsTo x y (tr.take k)) 1000000) := fun k e he => by
        obtain ⟨u, hu, rfl⟩ := entsTo_mem he
        exact (sumU_parts (trB_sum h1 u (List.mem_of_mem_take hu))).2.1
      have HRW : Hid (∀ k, rowsIn (entsTo x y (tr.take k)) 6) := fun k => entsTo_rows (fun u hu => trB_row h1 u (List.mem_of_mem_take hu))
      have HT1 := Lib.hid h1
      clear h1 h2
      go_enter Tryz.func18, Tryz.ntmps18
      go_wp2_with fail
      refine absA (fun W => Below w.heap.size w W ∧ Blk W w.heap.size 40 #[.int .i64 x, .int .i64 y]) ⟨bal (Below.refl _ _) _, Blk.newAt rfl⟩ ?_
      rintro W ⟨hB, hkP⟩
      refine (hvt _ (hx.below updR hB)).mono ?_
      rintro e W1 ⟨rfl, b1⟩
      have hB1 := btr hB b1
      have hk1 := hkP.below b1
      have p0 := hk1.cell 0
      have p1 := hk1.cell 1
      simp at p0 p1
      clear hvt hkP
      go_wp2_with fail
      refine (hval _).mono ?_
      rintro e W2 ⟨rfl, b2⟩
      have hB2 := btr hB1 b2
      have hk2 := hk1.below b2
      have hx2 : UpdsAt W2 A tr := hx.below updR hB2
      have HB0 := Lib.hid (BAt.new W2)
      clear hval p0 p1 hk1
      go_wp2
      go_loopw [7, 18] (fun _ i wr => ∃ (k : Nat) (A' : Option Addr) (c' : Nat) (css : List (List Value)), k ≤ tr.length ∧ i = .int .i64 k ∧ BAt W2 wr A' c' (sumM [] (entsTo x y (tr.take k))) css) (fun _ i _ => tr.length - (intOf i).toNat)
      case atStart => exact ⟨0, none, 0, [], by omega, rfl, HB0.out⟩
      case round =>
        obtain ⟨k, A', c', css, hk, rfl, hBA⟩ := hrel
        clear HB0
        by_cases hlt : k < tr.length
        · obtain ⟨b, off, RA, rc, rfl, hbl, hc0, hc1, hc2, hc3, hml, hrow⟩ := hx2.get k hlt
          have q0 := (hBA.bel.cell (p := ⟨b, off + k * 4, none⟩) hbl).trans hc0
          have q1 := (hBA.bel.cell (p := ⟨b, off + k * 4 + 1, none⟩) hbl).trans hc1
          have q2 := (hBA.bel.cell (p := ⟨b, off + k * 4 + 2, none⟩) hbl).trans hc2
          have q3 := (hBA.bel.cell (p := ⟨b, off + k * 4 + 3, none⟩) hbl).trans hc3
          have hkr := hk2.below hBA.bel
          have p0 := hkr.cell 0
          have p1 := hkr.cell 1
          simp at p0 p1
          have hst := entsTo_step (x := x) (y := y) hlt
          have hel := entsTo_len (tr.take k) x y
          have htk : (tr.take k).length = k := by simp; omega
          have hrl := trB_row HT1.out _ (List.getElem_mem hlt)
          have hwl := (sumU_parts (trB_sum HT1.out _ (List.getElem_mem hlt))).2.1
          have hHk := hkr.lt
          have HBA := Lib.hid hBA
          have HML := Lib.hid hml
          have hWk := HW.out k
          have hRk := HRW.out k
          clear hc0 hc1 hc2 hc3 hBA hml
          by_cases hp : leB tr[k].1.2.1 tr[k].1.2.2 x y = true
          · rw [if_pos hp] at hst
            have hcon := fun W => timeLe_i tr[k].1.2.1 tr[k].1.2.2 x y W
            rw [hp] at hcon
            have hsl := sumM_length (entsTo x y (tr.take k)) []
            simp at hsl
            have hsum : Hid (addM (sumM [] (entsTo x y (tr.take k))) (entU tr[k]) = sumM [] (entsTo x y (tr.take (k + 1)))) := by rw [Hid, hst]; simp [sumM]
            have hwi : wIn (sumM [] (entsTo x y (tr.take k))) 1099511627776 := (sumM_in (d := 1000000) (by omega) (entsTo x y (tr.take k)) [] 0 (fun e he => by cases he) (by omega) hWk).mono (by omega)
            have hri : rowsIn (sumM [] (entsTo x y (tr.take k))) 4194304 := sumM_all (p := fun r : List Int => r.length ≤ 4194304) _ _ (fun e he => by cases he) (fun e he => by have := hRk e he; omega)
            have HWI := Lib.hid hwi
            have HRI := Lib.hid hri
            clear hst hp hwi hri hWk hRk
            generalize hM : sumM [] (entsTo x y (tr.take k)) = M at *
            clear hM
            have hmx : EntR W2 [.slice RA tr[k].1.1.length rc, .int .i64 tr[k].2] (entU tr[k]) := EntR.mk HML.out hrow
            have HMX := Lib.hid hmx
            clear hmx
            go_wp2_with fail
            refine (hcon _).mono ?_
            rintro e w3 ⟨rfl, b3⟩
            obtain ⟨hcl, hfr⟩ := bcell b3
            have t0 : w3.cell? ⟨wr.heap.size, 0, none⟩ = some (.slice RA tr[k].1.1.length rc) := by rw [hcl _ _ (by simp)]; simp
            have t1 : w3.cell? ⟨wr.heap.size, 1, none⟩ = some (.int .i64 tr[k].1.2.1) := by rw [hcl _ _ (by simp)]; simp
            have t2 : w3.cell? ⟨wr.heap.size, 2, none⟩ = some (.int .i64 tr[k].1.2.2) := by rw [hcl _ _ (by simp)]; simp
            have t3 : w3.cell? ⟨wr.heap.size, 3, none⟩ = some (.int .i64 tr[k].2) := by rw [hcl _ _ (by simp)]; simp
            have hB3 := HBA.out.below (btr (bal (RowKit.Below.refl _ _) _) b3)
            clear hcl hfr b3 HBA q0 q1 q2 q3 p0 p1 hcon
            go_wp2_with fail
            refine (entry_u _ _ _ _ _ _ _).mono ?_
            rintro e w4 ⟨rfl, b4⟩
            have hB4 := hB3.below b4
            clear t0 t1 t2 t3 hB3 b4
            go_wp2_with fail
            refine (addB_e W2 w4 A' c' M css hB4 RA rc (entU tr[k]) HMX.out (by omega) HRI.out (by show tr[k].1.1.length ≤ _; omega) HWI.out (by show _ ≤ tr[k].2; omega) (by show tr[k].2 ≤ _; omega)).mono ?_
            rintro r w5 ⟨rfl, A2, c2, css2, hB5⟩
            rw [hsum.out] at hB5
            have HB5 := Lib.hid hB5
            clear hB4 hB5
            go_wp2
            go_roundw
            case rel => exact ⟨k + 1, A2, c2, css2, by omega, by go_num, HB5.out⟩
            case measure => simp [intOf]; omega
          · rw [if_neg hp, List.append_nil] at hst
            have hp' : leB tr[k].1.2.1 tr[k].1.2.2 x y = false := by simpa using hp
            have hcon := fun W => timeLe_i tr[k].1.2.1 tr[k].1.2.2 x y W
            rw [hp'] at hcon
            rw [← hst] at HBA
            clear hst hp hp' hWk hRk
            go_wp2_with fail
            refine (hcon _).mono ?_
            rintro e w3 ⟨rfl, b3⟩
            have hB3 := Lib.hid (HBA.out.below (btr (bal (RowKit.Below.refl _ _) _) b3))
            clear b3 HBA q0 q1 q2 q3 p0 p1 hcon
            go_wp2
            go_roundw
            case rel => exact ⟨k + 1, A', c', css, by omega, by go_num, hB3.out⟩
            case measure => simp [intOf]; omega
        · obtain rfl : k = tr.length := by omega
          rw [List.take_length] at hBA
          have hsl := sumM_length (entsTo x y tr) []
          have hel := entsTo_len tr x y
          simp at hsl
          have HBA := Lib.hid hBA
          clear hBA
          go_wp2_with fail
          refine (sumB_e W2 wr A' c' _ css HBA.out (by omega)).mono ?_
          rintro e w4 ⟨A4, c4, rfl, ha4, b4⟩
          have hB4 := btr hB2 b4
          have hnl : (nz (NormL (entsTo x y tr))).length ≤ (NormL (entsTo x y tr)).length := List.length_filter_le _ _
          have hnl2 := NormL_length (entsTo x y tr)
          have HNR : Hid (rowsIn (nz (NormL (entsTo x y tr))) 4194304) := fun e he => NormL_rows (entsTo_rows hr) e (List.mem_filter.1 he).1
          rw [HU.out] at ha4
          simp only [HU.out]
          go_wp2_with fail
          refine (copyZSet_i _ _ _ _ ha4 (by omega) HNR.out).mono ?_
          rintro e w5 ⟨A5, c5, rfl, ho5, b5⟩
          have hs := hB4.size
          go_wp2_with fail
          go_ret
          exact ⟨A5, c5, by rw [HR.out]; rfl, by rw [HR.out]; exact ho5.mono (fun q hq => ⟨by have := hq.1; omega, hq.2⟩) (fun q hq => hq.2), btr hB4 b5⟩
    · have h2' : vtB x y = false := by simpa using h2
      rw [h2'] at hval
      have HR : Hid (AsOfF tr x y = []) := by simp [Hid, AsOfF, h2']
      clear h1 h2 h2'
      go_enter Tryz.func18, Tryz.ntmps18
      go_wp2_with fail
      refine absA (fun W => Below w.heap.size w W ∧ Blk W w.heap.size 40 #[.int .i64 x, .int .i64 y]) ⟨bal (Below.refl _ _) _, Blk.newAt rfl⟩ ?_
      rintro W ⟨hB, hkP⟩
      refine (hvt _ (hx.below updR hB)).mono ?_
      rintro e W1 ⟨rfl, b1⟩
      have hB1 := btr hB b1
      have hk1 := hkP.below b1
      have p0 := hk1.cell 0
      have p1 := hk1.cell 1
      simp at p0 p1
      clear hvt hkP
      go_wp2_with fail
      refine (hval _).mono ?_
      rintro e W2 ⟨rfl, b2⟩
      have hB2 := btr hB1 b2
      go_wp2
      go_ret
      exact ⟨none, 0, by rw [HR.out]; rfl, by rw [HR.out]; exact SlOw.nil (fun k hk => hk.2), hB2⟩
  · have h1' : trB tr = false := by simpa using h1
    rw [h1'] at hvt
    have HR : Hid (AsOfF tr x y = []) := by simp [Hid, AsOfF, h1']
    clear h1 h1'
    go_enter Tryz.func18, Tryz.ntmps18
    go_wp2_with fail
    refine absA (fun W => Below w.heap.size w W) (bal (Below.refl _ _) _) ?_
    rintro W hB
    refine (hvt _ (hx.below updR hB)).mono ?_
    rintro e W1 ⟨rfl, b1⟩
    have hB1 := btr hB b1
    go_wp2
    go_ret
    exact ⟨none, 0, by rw [HR.out]; rfl, by rw [HR.out]; exact SlOw.nil (fun k hk => hk.2), hB1⟩

end Go.Proofs.YtjikdlldochhcacGreat
