/- HELPER, no statement of the seat: Keys of both sides. -/
import Derived.Test.YtjlpkfcdkmcjnaaMapI
import Derived.Test.YtjlpkfcdkmcjnaaDisI
import Derived.Test.YtjlpkfcdkmcjnaaCap
namespace Go.Proofs.Ytjlpkfcdkmcjnaa
open Go.RowKit Go.Sort
set_option linter.unusedSimpArgs false
set_option linter.unusedVariables false


def keyE (m : Nat) (e : Ent) : Ent := (e.1.take m, 1)
def KeysF (z : List Ent) (k : Int) : List Ent := if (zsB z && decide (1 ≤ k ∧ k ≤ wid z)) = true then DisF (NormF ((disL z).map (keyE k.toNat))) else []
theorem KeysF_len (z : List Ent) (k : Int) : (KeysF z k).length ≤ 400 := by
  unfold KeysF
  split
  · exact DisF_len _
  · simp
theorem KeysF_row (z : List Ent) (k : Int) : rowsIn (KeysF z k) 6 := by
  unfold KeysF
  split
  · exact DisF_row _
  · intro e he; cases he
theorem disL_mem {z : List Ent} {e : Ent} (h : e ∈ disL z) : e.2 = 1 ∧ ∃ q ∈ z, q.1 = e.1 := by
  obtain ⟨q, hq, rfl⟩ := List.mem_map.1 h
  exact ⟨rfl, q, (List.mem_filter.1 hq).1, rfl⟩
theorem zsB_dis {z : List Ent} (h : zsB z = true) : zsB (disL z) = true := by
  refine zsB_mk (n := wid z) ?_ (fun e he => ?_) (fun e he => by rw [(disL_mem he).1]; decide) (fun e he => ?_) ?_
  · have := disL_len z z.length
    rw [List.take_length] at this
    exact Nat.le_trans this (zsB_len h)
  · obtain ⟨h1, q, hq, hqe⟩ := disL_mem he
    have := zsB_sumE h q hq
    simp only [sumE, Bool.and_eq_true] at this ⊢
    rw [← hqe, h1]
    exact ⟨this.1, rfl⟩
  · obtain ⟨h1, q, hq, hqe⟩ := disL_mem he
    rw [← hqe]
    exact zsB_wid h q hq
  · unfold disL
    rw [Asc, List.pairwise_map]
    exact List.Pairwise.sublist List.filter_sublist (zsB_asc h)
theorem DisF_of {z : List Ent} (h : zsB z = true) : DisF z = disL z := by simp [DisF, h]
theorem zsB_chk (l : List Ent) : zsB (chkF l) = true := by
  unfold chkF
  split
  · assumption
  · rfl
theorem rowB_take {xs : List Int} {m : Nat} (h : rowB xs = true) (h1 : 1 ≤ m) (h2 : m ≤ xs.length) : rowB (xs.take m) = true := by
  simp only [rowB, decide_eq_true_eq] at h ⊢
  refine ⟨by simp; omega, by simp; omega, fun x hx => h.2.2 x (List.mem_of_mem_take hx)⟩
def firstC (m : Nat) : List Int := (List.range m).map fun (j : Nat) => (j : Int)
theorem firstC_len (m : Nat) : (firstC m).length = m := by simp [firstC]
theorem projL_first {xs : List Int} {m : Nat} (h : m ≤ xs.length) : projL xs (firstC m) = xs.take m := by
  apply List.ext_getElem
  · simp [projL, firstC]; omega
  · intro i h1 h2
    have h3 : i < m := by simpa [projL, firstC] using h1
    have h4 : i < xs.length := by omega
    simp [projL, firstC, h4]
theorem keys_map {z : List Ent} {m : Nat} (h : zsB z = true) (hm : m ≤ wid z) : (disL z).map (mapE (firstC m)) = (disL z).map (keyE m) := by
  refine List.map_congr_left fun e he => ?_
  obtain ⟨h1, q, hq, hqe⟩ := disL_mem he
  have := zsB_wid h q hq
  rw [hqe] at this
  simp only [mapE, keyE]
  rw [projL_first (by omega), h1]
theorem sums_keys {z : List Ent} {m : Nat} (h : zsB z = true) (h1 : 1 ≤ m) (hm : m ≤ wid z) : sumsB ((disL z).map (keyE m)) = true := allTo_iff.2 (fun k hk => by
  have hk' : k < (disL z).length := by simpa using hk
  rw [nth_get hk, List.getElem_map]
  obtain ⟨h2, q, hq, hqe⟩ := disL_mem (List.getElem_mem hk')
  have hw := zsB_wid h q hq
  have hs := zsB_sumE h q hq
  simp only [sumE, Bool.and_eq_true] at hs
  rw [hqe] at hw hs
  simp only [sumE, keyE, Bool.and_eq_true]
  exact ⟨rowB_take hs.1 h1 (by omega), rfl⟩)
theorem KeysF_yes {z : List Ent} {m : Nat} (h : zsB z = true) (h1 : 1 ≤ m) (hm : m ≤ wid z) : KeysF z m = DisF (NormF ((disL z).map (keyE m))) := by
  simp only [KeysF, h, Int.toNat_natCast]
  rw [if_pos (by simp; omega)]
theorem KeysF_s {z : List Ent} {m : Nat} (h : zsB z = true) (h1 : 1 ≤ m) (hm : m ≤ wid z) : KeysF z m = disL (chkF (nz (AddL [] ((disL z).map (mapE (firstC m)))))) := by
  have h4 : ((disL z).map (keyE m)).length ≤ 400 := by
    have := zsB_len (zsB_dis h)
    simpa using this
  rw [KeysF_yes h h1 hm, keys_map h hm]
  have : NormF ((disL z).map (keyE m)) = chkF (nz (AddL [] ((disL z).map (keyE m)))) := by
    simp only [NormF, sums_keys h h1 hm, h4, decide_true, Bool.and_self, if_true]
    rfl
  rw [this, DisF_of (zsB_chk _)]
theorem KeysF_no {z : List Ent} {k : Int} (h : ¬ (1 ≤ k ∧ k ≤ wid z)) : KeysF z k = [] := by
  unfold KeysF
  rw [if_neg (by simp; intro _; omega)]

set_option maxRecDepth 100000 in
set_option maxHeartbeats 3200000 in
theorem Keys_i (A : Option Addr) (c : Nat) (z : List Ent) (n : Int) (w : World) (hx : EntsAt w A z) (hn : z.length ≤ 4194304) (hr : rowsIn z 4194304) (hnb : -9223372036854775808 ≤ n ∧ n ≤ 9223372036854775807) :
    Calls Try.prog 31 #[.slice A z.length c, .int .i64 n] w fun e w' => ∃ A' c', e = .returned (.slice A' (KeysF z n).length c') ∧ EntsOw w' (news w w') A' c' (KeysF z n) ∧ Below w.heap.size w w' := by
  obtain ⟨i0, hi, hz0, hz1, hz2⟩ := info_parts Try.infoEnt
  have hvz := ValidZSet_i A c z w hx hn hr
  have hwd := fun W (h : EntsAt W A z) => widthOf_e A c z W h hn
  by_cases h1 : zsB z = true
  · rw [h1] at hvz
    by_cases h2 : 1 ≤ n
    · by_cases h3 : n ≤ wid z
      · obtain ⟨m, rfl⟩ : ∃ m : Nat, n = m := ⟨n.toNat, by omega⟩
        have h1m : 1 ≤ m := by omega
        have hmw : m ≤ wid z := by omega
        have HR := Lib.hid (KeysF_yes h1 h1m hmw)
        have HD := Lib.hid (DisF_of h1)
        have hw6 : wid z ≤ 6 := by
          rcases Nat.eq_zero_or_pos z.length with h0 | hp
          · have : wid z = 0 := by rw [List.eq_nil_of_length_eq_zero h0]; rfl
            omega
          · exact (wid_row h1 hp).2
        have hdl := zsB_len (zsB_dis h1)
        have HWD : Hid (∀ e ∈ disL z, e.1.length = wid z) := fun e he => by
          obtain ⟨_, q, hq, hqe⟩ := disL_mem he
          rw [← hqe]
          exact zsB_wid h1 q hq
        have hd1 : decide ((m : Int) < 1) = false := by simp; omega
        have hd2 : decide ((wid z : Int) < (m : Int)) = false := by simp; omega
        have hd3 : decide (wid z < m) = false := by simp; omega
        clear h1
        go_enter Try.func31, Try.ntmps31
        go_wp2_with fail
        refine hvz.mono ?_
        rintro e w1 ⟨rfl, b1⟩
        clear hvz
        go_wp2_with fail
        refine (hwd _ (hx.below entR b1)).mono ?_
        rintro e w2 ⟨rfl, b2⟩
        have hB2 := btr b1 b2
        clear hwd
        go_wp2_with fail
        refine (Distinct_i _ _ _ _ (hx.below entR hB2) hn hr).mono ?_
        rintro e w3 ⟨AD, cD, rfl, hoD, b3⟩
        have hB3 := btr hB2 b3
        rw [HD.out] at hoD
        simp only [HD.out]
        have hCD := EntsOw.atC hoD
        generalize hDD : disL z = D at *
        clear hDD hoD
        go_wp2
        go_loopw [5, 7, 24] (fun v _ i wr => ∃ k A' c' css, k ≤ D.length ∧ i = .int .i64 (k : Nat) ∧ v = .slice A' k c' ∧ wr.ownsRow w3.heap.size 34 2 (.slice A' k c') k css.flatten ∧ RdL EntR w3 css ((D.take k).map (keyE m)) ∧ Below w3.heap.size w3 wr) (fun _ _ i _ => D.length - (intOf i).toNat)
        case atStart => exact ⟨0, none, 0, [], by omega, rfl, rfl, World.ownsRow_nil _ _ _ _, RdL.nil, Below.refl _ _⟩
        case round =>
          obtain ⟨k, A', c', css, hk, rfl, rfl, hown, hrd, hbel⟩ := hrel
          by_cases hlt : k < D.length
          · obtain ⟨b, off, RA, rc, rfl, hbl, hc0, hc1, hcap1, hcap2, hrow⟩ := hCD.get k hlt
            have q0 := (hbel.cell (p := ⟨b, off + k * 2, none⟩) hbl).trans hc0
            have q1 := (hbel.cell (p := ⟨b, off + k * 2 + 1, none⟩) hbl).trans hc1
            have hwk := HWD.out _ (List.getElem_mem hlt)
            obtain ⟨rb, ro, rfl, -, -⟩ := hrow (by omega)
            have g0 : (0 : Int) ≤ m := by omega
            have g1 : (m : Int) ≤ rc := by omega
            have g2 : (rc : Int) ≤ 9223372036854775807 := by unfold maxLen at hcap2; omega
            have hst : (D.take (k + 1)).map (keyE m) = (D.take k).map (keyE m) ++ [keyE m D[k]] := by rw [List.take_succ_eq_append_getElem hlt, List.map_append]; rfl
            have hlm : (D[k].1.take m).length = m := by simp; omega
            have hsn := hrd.snoc (EntR.mk (c := rc) (x := 1) (w := w3) (xs := D[k].1.take m) (by rw [hlm]; unfold maxLen; omega) (hrow.take m))
            rw [hlm, show ((D[k].1.take m, 1) : Ent) = keyE m D[k] from rfl, ← hst] at hsn
            have HSN := Lib.hid hsn
            have hs1 := hbel.size
            have HC1 := Lib.hid hcap1
            have HC2 := Lib.hid hcap2
            clear hc0 hc1 hst hrd hsn hlm hwk hcap1 hcap2
            have hb0 := bal hbel (.cells #[.slice (some ⟨rb, ro, none⟩) D[k].1.length rc, .int .i64 D[k].2] 34)
            have hs0 := hb0.size
            have hown0 := hown.alloc (.cells #[.slice (some ⟨rb, ro, none⟩) D[k].1.length rc, .int .i64 D[k].2] 34)
            have hsrc := ent_srcs (w1 := wr.alloc (.cells #[.slice (some ⟨rb, ro, none⟩) D[k].1.length rc, .int .i64 D[k].2] 34)) (RA := some ⟨rb, ro, none⟩) (n := m) (rc := rc) (x := 1) (E := 34)
            rw [show (wr.alloc (.cells #[.slice (some ⟨rb, ro, none⟩) D[k].1.length rc, .int .i64 D[k].2] 34)).heap.size = wr.heap.size + 1 by simp] at hsrc
            clear hown
            go_wp2_with (at_builtin; refine wpList_append_src _ rfl _ _ 23 rfl w3.heap.size 34 i0 (.agg #[.slice none 0 0, .int .i64 0]) 2 32 Try.underlying23 hi hz0 hz1 hz2 rfl (by decide) _ _ _ rfl (hown0.alloc _) (some ⟨wr.heap.size + 1, 0, none⟩) 1 1 [.slice (some ⟨rb, ro, none⟩) m rc, .int .i64 1] rfl rfl (fun h => by cases h) hsrc ent_ones (by unfold maxLen; omega) (by omega) (by simp; omega) ?_)
            intro v' w5 hown' hgrow hloc
            obtain ⟨A3, c3, rfl⟩ := own_slice hown'
            have hb3 : Below w3.heap.size w3 w5 := (bal hb0 _).grown hgrow (by simp; omega) (fun q hq => (World.ownsRow.lt hown0 q hq).1)
            have HRR : Hid (w5.ownsRow w3.heap.size 34 2 (.slice A3 (k + 1) c3) (k + 1) (css ++ [[Value.slice (some ⟨rb, ro, none⟩) m rc, Value.int .i64 1]]).flatten) := by simpa [Hid] using hown'
            clear hown' hgrow hloc hown0 hb0 hbel q0 q1
            go_wp2
            go_roundw
            case rel => exact ⟨k + 1, A3, c3, _, by omega, by go_num, rfl, HRR.out, HSN.out, hb3⟩
            case measure => simp [intOf]; omega
          · obtain rfl : k = D.length := by omega
            rw [List.take_length] at hrd
            have hml : (D.map (keyE m)).length = D.length := by simp
            have hat : EntsAt wr A' (D.map (keyE m)) := (hrd.below entR hbel).at_ entR hml.symm hown
            have HRN : Hid (rowsIn (D.map (keyE m)) 4194304) := fun e he => by
              obtain ⟨q, hq, rfl⟩ := List.mem_map.1 he
              simp only [keyE]
              simp
              omega
            have hB4 := btr hB3 hbel
            have hnorm := Normalize_i A' c' (D.map (keyE m)) wr hat (by omega) HRN.out
            rw [hml] at hnorm
            clear hown hrd hat hml
            go_wp2_with fail
            refine hnorm.mono ?_
            rintro e w6 ⟨A6, c6, rfl, ho6, b6⟩
            clear hnorm
            have hB6 := btr hB4 b6
            have hat6 : EntsAt w6 A6 (NormF (D.map (keyE m))) := SlOw.at_ entO ho6
            have hnl := NormF_len (D.map (keyE m))
            have HNR : Hid (rowsIn (NormF (D.map (keyE m))) 4194304) := fun e he => by have := NormF_row (D.map (keyE m)) e he; omega
            generalize NormF (D.map (keyE m)) = NN at *
            go_wp2_with fail
            refine (Distinct_i _ _ _ _ hat6 (by omega) HNR.out).mono ?_
            rintro e w7 ⟨A7, c7, rfl, ho7, b7⟩
            have hs := hB6.size
            go_wp2_with fail
            go_ret
            exact ⟨A7, c7, by rw [HR.out]; rfl, by rw [HR.out]; exact ho7.mono (fun q hq => ⟨by have := hq.1; omega, hq.2⟩) (fun q hq => hq.2), btr hB6 b7⟩
      · have HR : Hid (KeysF z n = []) := KeysF_no (by omega)
        have hd1 : decide (n < 1) = false := by simp; omega
        have hd2 : decide ((wid z : Int) < n) = true := by simp; omega
        clear h1
        go_enter Try.func31, Try.ntmps31
        go_wp2_with fail
        refine hvz.mono ?_
        rintro e w1 ⟨rfl, b1⟩
        clear hvz
        go_wp2_with fail
        refine (hwd _ (hx.below entR b1)).mono ?_
        rintro e w2 ⟨rfl, b2⟩
        have hB2 := btr b1 b2
        clear hwd
        go_wp2
        go_ret
        exact ⟨none, 0, by rw [HR.out]; rfl, by rw [HR.out]; exact SlOw.nil (fun k hk => hk.2), hB2⟩
    · have HR : Hid (KeysF z n = []) := KeysF_no (by omega)
      have hd1 : decide (n < 1) = true := by simp; omega
      clear h1
      go_enter Try.func31, Try.ntmps31
      go_wp2_with fail
      refine hvz.mono ?_
      rintro e w1 ⟨rfl, b1⟩
      clear hvz hwd
      go_wp2
      go_ret
      exact ⟨none, 0, by rw [HR.out]; rfl, by rw [HR.out]; exact SlOw.nil (fun k hk => hk.2), b1⟩
  · have h1' : zsB z = false := by simpa using h1
    rw [h1'] at hvz
    have HR : Hid (KeysF z n = []) := by simp [Hid, KeysF, h1']
    clear h1 h1'
    go_enter Try.func31, Try.ntmps31
    go_wp2_with fail
    refine hvz.mono ?_
    rintro e w1 ⟨rfl, b1⟩
    clear hvz hwd
    go_wp2
    go_ret
    exact ⟨none, 0, by rw [HR.out]; rfl, by rw [HR.out]; exact SlOw.nil (fun k hk => hk.2), b1⟩

/-! ### The model's -/
theorem int_srcs {w1 : World} {E : TypeId} (x : Int) : ∀ a, some (⟨w1.heap.size, 0, none⟩ : Addr) = some a → ∀ j u, [Value.int .i64 x][j]? = some u → (w1.alloc (.cells #[.int .i64 x] E)).cell? (a.add j) = some u := by
  intro a e j u hu
  injection e with e
  subst e
  match j, hu with
  | 0, hu => simp at hu; subst hu; simp [Addr.add]
theorem int_ones (x : Int) : ∀ u ∈ [Value.int .i64 x], u.oneCell' = true := by
  intro u hu
  simp at hu
  subst hu
  rfl
set_option maxRecDepth 100000 in
set_option maxHeartbeats 800000 in
theorem firstColumns_s (m : Nat) (w : World) (hm : m ≤ 4194304) :
    Calls Try.prog 138 #[.int .i64 m] w fun e w' => ∃ A' c', e = .returned (.slice A' (firstC m).length c') ∧ IntsOwn w' w.heap.size A' c' (firstC m) ∧ Below w.heap.size w w' := by
  obtain ⟨i0, hi, hz0, hz1, hz2⟩ := info_parts Try.infoInt
  have HFL := Lib.hid (firstC_len m)
  go_enter Try.func138, Try.ntmps138
  go_wp2
  go_loopw [3, 4] (fun v i wr => ∃ k A' c', k ≤ m ∧ i = .int .i64 (k : Nat) ∧ v = .slice A' k c' ∧ wr.ownsRow w.heap.size 3 1 (.slice A' k c') k ((firstC k).map (Value.int .i64)) ∧ Below w.heap.size w wr) (fun _ i _ => m - (intOf i).toNat)
  case atStart => exact ⟨0, _, _, by omega, rfl, rfl, World.ownsRow_lit (base := w.heap.size) (size := 1) (e := 3) w #[] 0 (Nat.le_refl _) (by simp [maxLen]) (by simp), bal (Below.refl _ _) _⟩
  case round =>
    obtain ⟨k, A', c', hk, rfl, rfl, hown, hbel⟩ := hrel
    by_cases hlt : k < m
    · have hst : (firstC (k + 1)).map (Value.int .i64) = (firstC k).map (Value.int .i64) ++ [.int .i64 k] := by simp [firstC, List.range_succ]
      have HST := Lib.hid hst
      have hs1 := hbel.size
      have hlt' : (k : Int) < m := by omega
      clear hst
      go_wp2_with (at_builtin; refine wpList_append_src _ rfl _ _ 32 rfl w.heap.size 3 i0 (.int .i64 0) 1 8 Try.underlying32 hi hz0 hz1 hz2 rfl (by decide) _ _ _ rfl (hown.alloc _) (some ⟨wr.heap.size, 0, none⟩) 1 1 [.int .i64 k] rfl rfl (fun h => by cases h) (int_srcs _) (int_ones _) (by unfold maxLen; omega) (by omega) (by simp; omega) ?_)
      intro v' w1 hown' hgrow hloc
      obtain ⟨A3, c3, rfl⟩ := own_slice hown'
      have hb3 : Below w.heap.size w w1 := (bal hbel _).grown hgrow (by simp; omega) (fun q hq => (World.ownsRow.lt hown q hq).1)
      have HRR : Hid (w1.ownsRow w.heap.size 3 1 (.slice A3 (k + 1) c3) (k + 1) ((firstC (k + 1)).map (Value.int .i64))) := by rw [Hid, HST.out]; simpa using hown'
      clear hown' hgrow hloc hown hbel
      go_wp2
      go_roundw
      case rel => exact ⟨k + 1, A3, c3, by omega, by go_num, rfl, HRR.out, hb3⟩
      case measure => simp [intOf]; omega
    · obtain rfl : k = m := by omega
      have HO : Hid (IntsOwn wr w.heap.size A' c' (firstC k)) := by
        have : wr.ownsRow w.heap.size 3 1 (.slice A' (firstC k).length c') (firstC k).length ((firstC k).map (Value.int .i64)) := by rw [firstC_len]; exact hown
        simpa [Hid, IntsOwn] using this
      have HB := Lib.hid hbel
      clear hown hbel
      go_wp2
      go_ret
      exact ⟨A', c', by rw [HFL.out]; rfl, HO.out, HB.out⟩
set_option maxRecDepth 100000 in
set_option maxHeartbeats 800000 in
theorem keysOf_s (A : Option Addr) (c : Nat) (z : List Ent) (m : Nat) (w : World) (hx : EntsAt w A z) (hz : zsB z = true) (h1 : 1 ≤ m) (hm : m ≤ wid z) (hw6 : wid z ≤ 6) :
    Calls Try.prog 87 #[.slice A z.length c, .int .i64 m] w fun e w' => ∃ A' c', e = .returned (.slice A' (KeysF z m).length c') ∧ EntsOw w' (news w w') A' c' (KeysF z m) ∧ Below w.heap.size w w' := by
  have HR := Lib.hid (KeysF_s hz h1 hm)
  have h4 := zsB_len hz
  have HZR : Hid (rowsIn z 4194304) := fun e he => by have := zsB_row hz e he; omega
  have HZD := Lib.hid (zsB_dis hz)
  have HCI : Hid (∀ k (h : k < (disL z).length), colsIn (firstC m) (disL z)[k].1.length) := fun k h => by
    obtain ⟨_, q, hq, hqe⟩ := disL_mem (List.getElem_mem h)
    rw [← hqe, zsB_wid hz q hq]
    intro x hx
    obtain ⟨j, hj, rfl⟩ := List.mem_map.1 hx
    have := List.mem_range.1 hj
    omega
  have hfl : (firstC m).length ≤ 6 := by rw [firstC_len]; omega
  clear hz
  go_enter Try.func87, Try.ntmps87
  go_wp2_with fail
  refine (distinct_s _ _ _ _ hx (by omega) HZR.out).mono ?_
  rintro e w1 ⟨A1, c1, rfl, ho1, b1⟩
  have ha1 : EntsAt w1 A1 (disL z) := SlOw.at_ entO ho1
  generalize disL z = D at *
  go_wp2_with fail
  refine (firstColumns_s m _ (by omega)).mono ?_
  rintro e w2 ⟨A2, c2, rfl, ho2, b2⟩
  have hB2 := btr b1 b2
  go_wp2_with fail
  refine (mapColumns_s _ _ _ _ _ _ _ (ha1.below entR b2) ho2.at_ HZD.out (by omega) HCI.out).mono ?_
  rintro e w3 ⟨A3, c3, rfl, ho3, b3⟩
  have hB3 := btr hB2 b3
  have ha3 : EntsAt w3 A3 (chkF (nz (AddL [] (D.map (mapE (firstC m)))))) := SlOw.at_ entO ho3
  have hcl := chkF_len (nz (AddL [] (D.map (mapE (firstC m)))))
  have HCR : Hid (rowsIn (chkF (nz (AddL [] (D.map (mapE (firstC m)))))) 4194304) := fun e he => by have := chkF_row (nz (AddL [] (D.map (mapE (firstC m))))) e he; omega
  generalize chkF (nz (AddL [] (D.map (mapE (firstC m))))) = CC at *
  go_wp2_with fail
  refine (distinct_s _ _ _ _ ha3 (by omega) HCR.out).mono ?_
  rintro e w4 ⟨A4, c4, rfl, ho4, b4⟩
  have hs := hB3.size
  go_wp2_with fail
  go_ret
  exact ⟨A4, c4, by rw [HR.out]; rfl, by rw [HR.out]; exact ho4.mono (fun q hq => ⟨by have := hq.1; omega, hq.2⟩) (fun q hq => hq.2), btr hB3 b4⟩

set_option maxRecDepth 100000 in
set_option maxHeartbeats 1600000 in
theorem Keys_s (A : Option Addr) (c : Nat) (z : List Ent) (n : Int) (w : World) (hx : EntsAt w A z) (hn : z.length ≤ 4194304) (hr : rowsIn z 4194304) (hnb : -9223372036854775808 ≤ n ∧ n ≤ 9223372036854775807) :
    Calls Try.prog 32 #[.slice A z.length c, .int .i64 n] w fun e w' => ∃ A' c', e = .returned (.slice A' (KeysF z n).length c') ∧ EntsOw w' (news w w') A' c' (KeysF z n) ∧ Below w.heap.size w w' := by
  have hvz := validZSet_s A c z w hx hn hr
  have endNo : Hid (KeysF z n = []) → ∀ W, Below w.heap.size w W → Hid (EntsOw (W.alloc (.cells #[] 34)) (news w (W.alloc (.cells #[] 34))) (some ⟨W.heap.size, 0, none⟩) 0 (KeysF z n)) := fun hF W hW => by
    rw [Hid, hF.out]
    exact ⟨_, _, SlF.made EntO 2 34 W #[] 0 (by simp [maxLen]) (by simp) ⟨hW.size, by simp⟩ (fun q hq => by have := hq.2; simpa using this)⟩
  by_cases h1 : zsB z = true
  · rw [h1] at hvz
    rcases Nat.eq_zero_or_pos z.length with h0 | hp
    · obtain rfl := List.eq_nil_of_length_eq_zero h0
      have HR : Hid (KeysF [] n = []) := KeysF_no (by rw [show wid ([] : List Ent) = 0 from rfl]; omega)
      have hno := endNo HR
      clear h1 h0 endNo
      go_enter Try.func32, Try.ntmps32
      go_wp2_with fail
      refine hvz.mono ?_
      rintro e W2 ⟨rfl, hB2⟩
      have HE := hno W2 hB2
      clear hvz hno
      go_wp2
      go_ret
      exact ⟨_, 0, by rw [HR.out]; rfl, HE.out, bal hB2 _⟩
    · have hwd := fun W (h : EntsAt W A z) => widthOf_sM A c z W h hp hr
      have hwr := wid_row h1 hp
      have hpe : ((z.length : Int) == 0) = false := by rw [beq_eq_false_iff_ne]; omega
      have hin := fun W => inRange_any n 1 (wid z : Int) W
      by_cases h2 : 1 ≤ n ∧ n ≤ wid z
      · obtain ⟨m, rfl⟩ : ∃ m : Nat, n = m := ⟨n.toNat, by omega⟩
        have hq : inB (m : Int) 1 (wid z : Int) = true := by simp [inB]; omega
        rw [hq] at hin
        have HZ := Lib.hid h1
        clear h1 hq endNo
        go_enter Try.func32, Try.ntmps32
        go_wp2_with fail
        refine hvz.mono ?_
        rintro e W1 ⟨rfl, hB1⟩
        clear hvz
        go_wp2_with fail
        refine (hwd _ (hx.below entR hB1)).mono ?_
        rintro e W2 ⟨rfl, b2⟩
        have hB2 := btr hB1 b2
        clear hwd
        go_wp2_with fail
        refine (hin _).mono ?_
        rintro e W2' ⟨rfl, rfl⟩
        clear hin
        have hs := hB2.size
        go_wp2_with fail
        refine (keysOf_s _ _ _ m _ (hx.below entR hB2) HZ.out (by omega) (by omega) hwr.2).mono ?_
        rintro e W3 ⟨A3, c3, rfl, ho3, b3⟩
        go_wp2_with fail
        go_ret
        exact ⟨A3, c3, rfl, ho3.mono (fun q hq => ⟨by have := hq.1; omega, hq.2⟩) (fun q hq => hq.2), btr hB2 b3⟩
      · have hq : inB n 1 (wid z : Int) = false := by simp [inB]; omega
        rw [hq] at hin
        have HR : Hid (KeysF z n = []) := KeysF_no h2
        have hno := endNo HR
        clear h1 hq h2 endNo
        go_enter Try.func32, Try.ntmps32
        go_wp2_with fail
        refine hvz.mono ?_
        rintro e W1 ⟨rfl, hB1⟩
        clear hvz
        go_wp2_with fail
        refine (hwd _ (hx.below entR hB1)).mono ?_
        rintro e W2 ⟨rfl, b2⟩
        have hB2 := btr hB1 b2
        clear hwd
        go_wp2_with fail
        refine (hin _).mono ?_
        rintro e W2' ⟨rfl, rfl⟩
        clear hin
        have HE := hno _ hB2
        clear hno
        go_wp2
        go_ret
        exact ⟨_, 0, by rw [HR.out]; rfl, HE.out, bal hB2 _⟩
  · have h1' : zsB z = false := by simpa using h1
    rw [h1'] at hvz
    have HR : Hid (KeysF z n = []) := by simp [Hid, KeysF, h1']
    have hno := endNo HR
    clear h1 h1' endNo
    go_enter Try.func32, Try.ntmps32
    go_wp2_with fail
    refine hvz.mono ?_
    rintro e W2 ⟨rfl, hB2⟩
    have HE := hno W2 hB2
    clear hvz hno
    go_wp2
    go_ret
    exact ⟨_, 0, by rw [HR.out]; rfl, HE.out, bal hB2 _⟩
end Go.Proofs.Ytjlpkfcdkmcjnaa
