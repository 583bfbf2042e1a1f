/- HELPER, no statement of the seat: CompactTrace of both sides. -/
import Derived.Test.YtnfffgpjgkhjlaaGreatConsS
import Derived.Test.YtnfffgpjgkhjlaaGreatFrM
import Derived.Test.YtnfffgpjgkhjlaaGreatGrf
namespace Go.Proofs.YtnfffgpjgkhjlaaGreat
open Go.RowKit Go.Sort
set_option linter.unusedSimpArgs false
set_option linter.unusedVariables false

def advU (fr : List Tm) (e : Upd) : Upd := ((e.1.1, advT e.1.2 fr), e.2)
def CptF (z : List Upd) (fr : List Tm) : List Upd := if (trB z && frB fr) = true then ConsF (z.map (advU fr)) else []
theorem CptF_len (z : List Upd) (fr : List Tm) : (CptF z fr).length ≤ 400 := by
  unfold CptF
  split
  · exact ConsF_len _
  · simp
theorem CptF_row (z : List Upd) (fr : List Tm) : rowsU (CptF z fr) 6 := by
  unfold CptF
  split
  · exact ConsF_row _
  · intro e he; cases he
theorem adv_sums {z : List Upd} {fr : List Tm} (h : trB z = true) (hf : frB fr = true) : sumsU (z.map (advU fr)) = true := allTo_iff.2 (fun k hk => by
  have hk' : k < z.length := by simpa using hk
  rw [nthU_get hk, List.getElem_map]
  have h1 := trB_sum h _ (List.getElem_mem hk')
  simp only [sumU, advU, Bool.and_eq_true] at h1 ⊢
  exact ⟨h1.1, advT_vt hf h1.2⟩)
theorem CptF_eq {z : List Upd} {fr : List Tm} (h : trB z = true) (hf : frB fr = true) : CptF z fr = chkT (nz (NormLU (z.map (advU fr)))) := by
  have h4 := (trB_parts h).1
  simp [CptF, h, hf, ConsF, adv_sums h hf, h4]
theorem adv_step {z : List Upd} {fr : List Tm} {k : Nat} (h : k < z.length) : (z.map (advU fr)).take (k + 1) = (z.map (advU fr)).take k ++ [advU fr z[k]] := by
  rw [List.take_succ_eq_append_getElem (by simpa using h), List.getElem_map]
theorem IntsOwn.offC {w : World} {base : Nat} {A : Option Addr} {c : Nat} {xs : List Int} (h : IntsOwn w base A c xs) {p : Addr} (hp : ∀ k, blk A = some k → k ≠ p.block) (u : Value) : IntsOwn (w.setCell p u) base A c xs :=
  ownsRow_loc (A := A) (c := c) h (fun k hk => Below.heap_setCell _ _ _ _ (hp k hk))
theorem updR_mkC {w : World} {A : Option Addr} {c : Nat} {xs : List Int} {p q x : Int} (hl : xs.length ≤ maxLen) (h : IntsAt w A xs) : UpdR w [.slice A xs.length c, .int .i64 p, .int .i64 q, .int .i64 x] ((xs, (p, q)), x) :=
  ⟨[_, _, _], [_], rfl, ⟨[_], [_, _], rfl, ⟨A, c, rfl, hl, h⟩, ⟨[_], [_], rfl, rfl, rfl⟩⟩, rfl⟩

theorem absE {P : Program} {f : FuncId} {args : Array Value} {w : World} {Q : Ending → World → Prop} (R : World → Prop) (h : R w) (k : ∀ W, R W → Calls P f args W Q) : Calls P f args w Q := k w h

/-! ### The program's -/
set_option maxRecDepth 100000 in
set_option maxHeartbeats 6400000 in
theorem CompactTrace_i (A : Option Addr) (c : Nat) (z : List Upd) (B : Option Addr) (d : Nat) (fr : List Tm) (w : World) (hx : UpdsAt w A z) (hy : TimesAt w B fr) (hn : z.length ≤ 4194304) (hr : rowsU z 4194304) (hm : fr.length ≤ 4194304) (hcd : fr.length ≤ d) :
    Calls Tryz.prog 73 #[.slice A z.length c, .slice B fr.length d] w fun e w' => ∃ A' c', e = .returned (.slice A' (CptF z fr).length c') ∧ UpdsOw w' (news w w') A' c' (CptF z fr) ∧ Below w.heap.size w w' := by
  have hvz := ValidTrace_i A c z w hx hn hr
  cases h1 : trB z
  · rw [h1] at hvz
    have HR : Hid (CptF z fr = []) := by simp [Hid, CptF, h1]
    clear h1
    go_enter Tryz.func73, Tryz.ntmps73
    go_wp2_with fail
    refine hvz.mono ?_
    rintro e w1 ⟨rfl, b1⟩
    clear hvz
    go_wp2_with fail
    go_ret
    exact ⟨none, 0, by rw [HR.out]; rfl, by rw [HR.out]; exact SlOw.nil (fun k hk => hk.2), b1⟩
  rw [h1] at hvz
  have hvf := fun W (h : TimesAt W B fr) => ValidFrontier_i B d fr W h hm
  cases h2 : frB fr
  · simp only [h2] at hvf
    have HR : Hid (CptF z fr = []) := by simp [Hid, CptF, h2]
    clear h1 h2
    go_enter Tryz.func73, Tryz.ntmps73
    go_wp2_with fail
    refine hvz.mono ?_
    rintro e w1 ⟨rfl, b1⟩
    clear hvz
    go_wp2_with fail
    refine (hvf _ (hy.below b1)).mono ?_
    rintro e w2 ⟨rfl, b2⟩
    clear hvf
    go_wp2_with fail
    go_ret
    exact ⟨none, 0, by rw [HR.out]; rfl, by rw [HR.out]; exact SlOw.nil (fun k hk => hk.2), btr b1 b2⟩
  simp only [h2] at hvf
  have HR : Hid (CptF z fr = ConsF (z.map (advU fr))) := by simp [Hid, CptF, h1, h2]
  have hlen := (trB_parts h1).1
  have HRW : Hid (rowsU z 6) := trB_row h1
  have HVT : Hid (∀ e ∈ z, vtB e.1.2.1 e.1.2.2 = true) := fun e he => (sumU_parts (trB_sum h1 e he)).2.2
  have HAT : Hid (∀ e ∈ z, atR e.1.2 fr = advT e.1.2 fr) := fun e he => atR_yes h2 (HVT.out e he)
  obtain ⟨i0, hi, hz0, hz1, hz2⟩ := info_parts Tryz.infoUpd
  have hmk := fun W => run_make (P := Tryz.prog) W 30 63 i0 (.agg #[.slice none 0 0, .int .i64 0, .int .i64 0, .int .i64 0]) Tryz.underlying30 hi hz0 .i64 .i64 z.length z.length (by omega) (by omega) (by rw [hz2]; omega) (by omega)
  simp only [Int.toNat_natCast, hz1] at hmk
  have hcs : ∀ n, (madeCells (Value.agg #[.slice none 0 0, .int .i64 0, .int .i64 0, .int .i64 0]).cells (n * 4)).size = n * 4 := fun n => by simp [madeCells]
  generalize madeCells (Value.agg #[.slice none 0 0, .int .i64 0, .int .i64 0, .int .i64 0]).cells = mc at hmk hcs
  have HML : Hid ((z.map (advU fr)).length = z.length) := by simp [Hid]
  have HST : Hid (∀ k (h : k < z.length), (z.map (advU fr)).take (k + 1) = (z.map (advU fr)).take k ++ [advU fr z[k]]) := fun k h => adv_step h
  have HMR : Hid (rowsU (z.map (advU fr)) 4194304) := fun e he => by
    obtain ⟨u, hu, rfl⟩ := List.mem_map.1 he
    have := HRW.out u hu
    simp only [advU]; omega
  clear h1 h2
  generalize hMM : z.map (advU fr) = MM at *
  clear hMM
  go_enter Tryz.func73, Tryz.ntmps73
  go_wp2_with fail
  refine hvz.mono ?_
  rintro e w1 ⟨rfl, b1⟩
  clear hvz
  go_wp2_with fail
  refine (hvf _ (hy.below b1)).mono ?_
  rintro e V ⟨rfl, b2⟩
  have hB := btr b1 b2
  have hxV : UpdsAt V A z := hx.below updR hB
  have hyV := hy.below hB
  have hmkV := hmk V
  have hszV := hB.size
  clear hvf hmk b1 b2
  have HMADE : Hid ((V.alloc (.cells (mc (z.length * 4)) 63)).ownsRow 0 63 4 (.slice (some ⟨V.heap.size, 0, none⟩) 0 z.length) 0 []) := World.ownsRow_made (base := 0) V (mc (z.length * 4)) z.length (Nat.zero_le _) (by unfold maxLen; omega) (hcs _)
  go_wp2
  clear hmkV hcs
  go_loopw [6, 7, 21] (fun _ _ i wr => ∃ (k : Nat) (css : List (List Value)), k ≤ z.length ∧ i = .int .i64 (k : Nat) ∧ wr.ownsRow 0 63 4 (.slice (some ⟨V.heap.size, 0, none⟩) k z.length) k css.flatten ∧ RdL UpdR V css (MM.take k) ∧ Below V.heap.size V wr) (fun _ _ i _ => z.length - (intOf i).toNat)
  case atStart => exact ⟨0, [], by omega, rfl, HMADE.out, by rw [List.take_zero]; exact RdL.nil, bal (Below.refl _ _) _⟩
  case round =>
    obtain ⟨k, css, hk, rfl, hown, hrd, hbel⟩ := hrel
    have hg0 : V.heap.size < wr.heap.size := (World.ownsRow.lt hown V.heap.size rfl).2
    by_cases hlt : k < z.length
    · obtain ⟨b, off, RA, rc, rfl, hbl, hc0, hc1, hc2, hc3, hml, hrow⟩ := UpdsAt.get hxV k hlt
      have q0 := (hbel.cell (p := ⟨b, off + k * 4, none⟩) hbl).trans hc0
      have q1 := (hbel.cell (p := ⟨b, off + k * 4 + 1, none⟩) hbl).trans hc1
      have q2 := (hbel.cell (p := ⟨b, off + k * 4 + 2, none⟩) hbl).trans hc2
      have q3 := (hbel.cell (p := ⟨b, off + k * 4 + 3, none⟩) hbl).trans hc3
      have hlt' : (k : Int) < z.length := by omega
      have hst := HST.out k hlt
      have hat := HAT.out _ (List.getElem_mem hlt)
      have hsn := hrd.snoc (updR_mkC (c := rc) (p := (advT z[k].1.2 fr).1) (q := (advT z[k].1.2 fr).2) (x := z[k].2) hml hrow)
      rw [show ((z[k].1.1, ((advT z[k].1.2 fr).1, (advT z[k].1.2 fr).2)), z[k].2) = advU fr z[k] from rfl, ← hst] at hsn
      have HSN := Lib.hid hsn
      have HO := Lib.hid hown
      have hadv := fun W (hW : Below V.heap.size V W) => AdvanceTime_c z[k].1.2 B d fr W hcd (hyV.below hW) hm
      rw [hat] at hadv
      have hmadv : ∃ a1 a2, advT z[k].1.2 fr = (a1, a2) := ⟨_, _, rfl⟩
      obtain ⟨a1, a2, ha⟩ := hmadv
      rw [ha] at hadv HSN
      simp only at hadv HSN
      clear hc0 hc1 hc2 hc3 hst hsn hrd hown hat ha hrow
      go_wp2_with fail
      refine abs_world (fun W => Below wr.heap.size wr W ∧ Blk W wr.heap.size 63 #[.slice RA z[k].1.1.length rc, .int .i64 z[k].1.2.1, .int .i64 z[k].1.2.2, .int .i64 z[k].2]) ⟨bal (Below.refl _ _) _, Blk.newAt rfl⟩ ?_
      rintro wB ⟨hBr, hkB⟩
      have hBV := btr hbel hBr
      refine wp_region_facts [[], [], [], [2], [], [4], [], [4, 5, 6], [], [8], [2, 3, 4, 5, 6, 7, 8, 9], [0, 1]]
        [fun v' _ => v' = .slice (some ⟨V.heap.size, 0, none⟩) z.length z.length, fun v' _ => v' = .int .i64 (k : Int), fun v' _ => v' = .pointer (some ⟨wr.heap.size, 0, none⟩), fun v' _ => v' = .slice RA z[k].1.1.length rc, fun v' _ => v' = .pointer (some ⟨wr.heap.size, 1, none⟩), fun v' _ => v' = .agg #[.int .i64 z[k].1.2.1, .int .i64 z[k].1.2.2], fun v' _ => v' = .slice B fr.length d, fun v' _ => v' = .agg #[.int .i64 a1, .int .i64 a2], fun v' _ => v' = .pointer (some ⟨wr.heap.size, 3, none⟩), fun v' _ => v' = .int .i64 z[k].2, fun v' _ => v' = .agg #[.slice RA z[k].1.1.length rc, .int .i64 a1, .int .i64 a2, .int .i64 z[k].2], fun v' _ => v' = .pointer (some ⟨V.heap.size, k * 4, none⟩)]
        (by kernel_rfl) (by kernel_rfl) rfl ⟨stable_pure _, stable_pure _, stable_pure _, stable_pure _, stable_pure _, stable_pure _, stable_pure _, stable_pure _, stable_pure _, stable_pure _, stable_pure _, stable_pure _, trivial⟩ ?_
      refine wf_stepK [] [] (by kernel_rfl) (by kernel_rfl) (fun wf hb hf => ?_) (fun t0 => ?_)
      · refine ⟨?_⟩
        go_wp2
        exact ⟨rfl, .slice (some ⟨V.heap.size, 0, none⟩) z.length z.length, by kernel_rfl, Below.refl _ _, rfl⟩
      refine wf_stepK [] [] (by kernel_rfl) (by kernel_rfl) (fun wf hb hf => ?_) (fun t1 => ?_)
      · refine ⟨?_⟩
        go_wp2
        exact ⟨rfl, .int .i64 (k : Int), by kernel_rfl, Below.refl _ _, rfl⟩
      refine wf_stepK [] [] (by kernel_rfl) (by kernel_rfl) (fun wf hb hf => ?_) (fun t2 => ?_)
      · refine ⟨?_⟩
        go_wp2
        exact ⟨rfl, .pointer (some ⟨wr.heap.size, 0, none⟩), by kernel_rfl, Below.refl _ _, rfl⟩
      refine wf_stepK [2] [fun _ => t2 = .pointer (some ⟨wr.heap.size, 0, none⟩)] (by kernel_rfl) (by kernel_rfl) (fun wf hb hf => ?_) (fun t3 => ?_)
      · obtain ⟨rfl, -⟩ := hf
        refine ⟨?_⟩
        have c0 := (hkB.below hb).cell 0
        simp at c0
        go_wp2
        exact ⟨rfl, .slice RA z[k].1.1.length rc, by kernel_rfl, Below.refl _ _, rfl⟩
      refine wf_stepK [] [] (by kernel_rfl) (by kernel_rfl) (fun wf hb hf => ?_) (fun t4 => ?_)
      · refine ⟨?_⟩
        go_wp2
        exact ⟨rfl, .pointer (some ⟨wr.heap.size, 1, none⟩), by kernel_rfl, Below.refl _ _, rfl⟩
      refine wf_stepK [4] [fun _ => t4 = .pointer (some ⟨wr.heap.size, 1, none⟩)] (by kernel_rfl) (by kernel_rfl) (fun wf hb hf => ?_) (fun t5 => ?_)
      · obtain ⟨rfl, -⟩ := hf
        refine ⟨?_⟩
        have c1 := (hkB.below hb).cell 1
        have c2 := (hkB.below hb).cell 2
        simp at c1 c2
        go_wp2
        exact ⟨rfl, .agg #[.int .i64 z[k].1.2.1, .int .i64 z[k].1.2.2], by kernel_rfl, Below.refl _ _, rfl⟩
      refine wf_stepK [] [] (by kernel_rfl) (by kernel_rfl) (fun wf hb hf => ?_) (fun t6 => ?_)
      · refine ⟨?_⟩
        go_wp2
        exact ⟨rfl, .slice B fr.length d, by kernel_rfl, Below.refl _ _, rfl⟩
      refine wf_stepK [5, 6] [fun _ => t5 = .agg #[.int .i64 z[k].1.2.1, .int .i64 z[k].1.2.2], fun _ => t6 = .slice B fr.length d] (by kernel_rfl) (by kernel_rfl) (fun wf hb hf => ?_) (fun t7 => ?_)
      · obtain ⟨rfl, rfl, -⟩ := hf
        refine ⟨?_⟩
        have hcon := hadv wf (btr hBV hb)
        go_wp2_with (go_at_call 95; refine hcon.mono ?_; rintro e w2 ⟨rfl, hb2⟩)
        exact ⟨rfl, .agg #[.int .i64 a1, .int .i64 a2], by kernel_rfl, hb2, rfl⟩
      refine wf_stepK [] [] (by kernel_rfl) (by kernel_rfl) (fun wf hb hf => ?_) (fun t8 => ?_)
      · refine ⟨?_⟩
        go_wp2
        exact ⟨rfl, .pointer (some ⟨wr.heap.size, 3, none⟩), by kernel_rfl, Below.refl _ _, rfl⟩
      refine wf_stepK [8] [fun _ => t8 = .pointer (some ⟨wr.heap.size, 3, none⟩)] (by kernel_rfl) (by kernel_rfl) (fun wf hb hf => ?_) (fun t9 => ?_)
      · obtain ⟨rfl, -⟩ := hf
        refine ⟨?_⟩
        have c3 := (hkB.below hb).cell 3
        simp at c3
        go_wp2
        exact ⟨rfl, .int .i64 z[k].2, by kernel_rfl, Below.refl _ _, rfl⟩
      refine wf_stepK [3, 7, 9] [fun _ => t3 = .slice RA z[k].1.1.length rc, fun _ => t7 = .agg #[.int .i64 a1, .int .i64 a2], fun _ => t9 = .int .i64 z[k].2] (by kernel_rfl) (by kernel_rfl) (fun wf hb hf => ?_) (fun t10 => ?_)
      · obtain ⟨rfl, rfl, rfl, -⟩ := hf
        refine ⟨?_⟩
        go_wp2
        exact ⟨rfl, .agg #[.slice RA z[k].1.1.length rc, .int .i64 a1, .int .i64 a2, .int .i64 z[k].2], by kernel_rfl, Below.refl _ _, rfl⟩
      refine wf_stepK [0, 1] [fun _ => t0 = .slice (some ⟨V.heap.size, 0, none⟩) z.length z.length, fun _ => t1 = .int .i64 (k : Int)] (by kernel_rfl) (by kernel_rfl) (fun wf hb hf => ?_) (fun t11 => ?_)
      · obtain ⟨rfl, rfl, -⟩ := hf
        refine ⟨?_⟩
        go_wp2
        exact ⟨rfl, .pointer (some ⟨V.heap.size, k * 4, none⟩), by kernel_rfl, Below.refl _ _, rfl⟩
      refine wf_doneK [10, 11] [fun _ => t10 = .agg #[.slice RA z[k].1.1.length rc, .int .i64 a1, .int .i64 a2, .int .i64 z[k].2], fun _ => t11 = .pointer (some ⟨V.heap.size, k * 4, none⟩)] (by kernel_rfl) (by kernel_rfl) (fun wC hb hf => ?_)
      obtain ⟨rfl, rfl, -⟩ := hf
      show wpList _ _ _ [_] _ _
      refine wpList_frame (by simp [Act.put]; rfl) ?_
      have hbC := btr hBr hb
      have hown2 : wC.ownsRow 0 63 4 (.slice (some ⟨V.heap.size, 0, none⟩) k z.length) k css.flatten := ownsRow_loc HO.out (fun q hq => hbC.block q (by simp [blk] at hq; omega))
      obtain ⟨u0, hu0⟩ := ownsRow_room hown2 (k * 4) (by omega)
      obtain ⟨u1, hu1⟩ := ownsRow_room hown2 (k * 4 + 1) (by omega)
      obtain ⟨u2, hu2⟩ := ownsRow_room hown2 (k * 4 + 2) (by omega)
      obtain ⟨u3, hu3⟩ := ownsRow_room hown2 (k * 4 + 3) (by omega)
      have f0 := World.ownsRow.frozenAt hown2 (k * 4)
      have f1 := World.ownsRow.frozenAt hown2 (k * 4 + 1)
      have f2 := World.ownsRow.frozenAt hown2 (k * 4 + 2)
      have f3 := World.ownsRow.frozenAt hown2 (k * 4 + 3)
      have hfill := ownsRow_fill hown2 hlt (cs := [.slice RA z[k].1.1.length rc, .int .i64 a1, .int .i64 a2, .int .i64 z[k].2]) rfl
      have HFL : Hid (World.ownsRow ((((wC.setCell ⟨V.heap.size, k * 4, none⟩ (.slice RA z[k].1.1.length rc)).setCell ⟨V.heap.size, k * 4 + 1, none⟩ (.int .i64 a1)).setCell ⟨V.heap.size, k * 4 + 2, none⟩ (.int .i64 a2)).setCell ⟨V.heap.size, k * 4 + 3, none⟩ (.int .i64 z[k].2)) 0 63 4 (.slice (some ⟨V.heap.size, 0, none⟩) (k + 1) z.length) (k + 1) (css ++ [[Value.slice RA z[k].1.1.length rc, Value.int .i64 a1, Value.int .i64 a2, Value.int .i64 z[k].2]]).flatten) := by
        have e : (css ++ [[Value.slice RA z[k].1.1.length rc, .int .i64 a1, .int .i64 a2, .int .i64 z[k].2]]).flatten = css.flatten ++ [.slice RA z[k].1.1.length rc, .int .i64 a1, .int .i64 a2, .int .i64 z[k].2] := by simp
        rw [Hid, e]
        exact hfill
      have HBC := Lib.hid (btr hbel hbC)
      clear hfill hown2 hbC hb hBr hBV hkB hadv HO hbel q0 q1 q2 q3
      go_wp2
      go_roundw
      case rel => exact ⟨k + 1, _, by omega, by go_num, HFL.out, HSN.out, bset (bset (bset (bset HBC.out (Nat.le_refl _) _) (Nat.le_refl _) _) (Nat.le_refl _) _) (Nat.le_refl _) _⟩
      case measure => simp [intOf]; omega
    · obtain rfl : k = z.length := by omega
      rw [List.take_of_length_le (by have := HML.out; omega)] at hrd
      have hat : UpdsAt wr (some ⟨V.heap.size, 0, none⟩) MM := (hrd.below updR hbel).at_ updR (by have := HML.out; omega) hown
      have hcon := Consolidate_i (some ⟨V.heap.size, 0, none⟩) z.length MM wr hat (by have := HML.out; omega) HMR.out
      rw [HML.out] at hcon
      have HBL := Lib.hid hbel
      have hs := hbel.size
      clear hat hrd hown hbel
      go_wp2_with fail
      refine hcon.mono ?_
      rintro e w3 ⟨A3, c3, rfl, ho3, b3⟩
      go_wp2_with fail
      go_ret
      exact ⟨A3, c3, by rw [HR.out]; rfl, by rw [HR.out]; exact ho3.mono (fun q hq => ⟨by have := hq.1; omega, hq.2⟩) (fun q hq => hq.2), btr hB (btr HBL.out b3)⟩

/-! ### The model's -/
set_option maxRecDepth 100000 in
set_option maxHeartbeats 6400000 in
theorem advanceAll_s (A : Option Addr) (c : Nat) (z : List Upd) (B : Option Addr) (d : Nat) (fr : List Tm) (w : World) (hx : UpdsAt w A z) (hy : TimesAt w B fr) (hz : trB z = true) (hf : frB fr = true) (hm : fr.length ≤ 4194304) :
    Calls Tryz.prog 44 #[.slice A z.length c, .slice B fr.length d] w fun e w' => ∃ A' c', e = .returned (.slice A' (chkT (nz (NormLU (z.map (advU fr))))).length c') ∧ UpdsOw w' (news w w') A' c' (chkT (nz (NormLU (z.map (advU fr))))) ∧ Below w.heap.size w w' := by
  obtain ⟨i0, hi, hz0, hz1, hz2⟩ := info_parts Tryz.infoUpd
  have hlen := (trB_parts hz).1
  have HSM := Lib.hid (adv_sums hz hf)
  have HRW : Hid (rowsU z 6) := trB_row hz
  have HML : Hid ((z.map (advU fr)).length = z.length) := by simp [Hid]
  have HST : Hid (∀ k (h : k < z.length), (z.map (advU fr)).take (k + 1) = (z.map (advU fr)).take k ++ [advU fr z[k]]) := fun k h => adv_step h
  have hmade := SlF.made UpdO 4 63 w #[] 0 (by simp [maxLen]) (by simp) (S := news w (w.alloc (.cells #[] 63))) ⟨Nat.le_refl _, by simp⟩ (fun k hk => by have := hk.2; simpa using this)
  have HM : Hid (UpdsOw (w.alloc (.cells #[] 63)) (news w (w.alloc (.cells #[] 63))) (some ⟨w.heap.size, 0, none⟩) 0 []) := ⟨_, _, hmade⟩
  clear hmade hz hf
  generalize hMM : z.map (advU fr) = MM at *
  clear hMM
  go_enter Tryz.func44, Tryz.ntmps44
  go_wp2
  go_loopw [5, 6, 7] (fun v i _ wr => ∃ k A' c', k ≤ z.length ∧ i = .int .i64 (k : Nat) ∧ v = .slice A' k c' ∧ UpdsOw wr (news w wr) A' c' (MM.take k) ∧ Below w.heap.size w wr) (fun _ i _ _ => z.length - (intOf i).toNat)
  case atStart => exact ⟨0, _, 0, by omega, rfl, rfl, by rw [List.take_zero]; exact HM.out, bal (Below.refl _ _) _⟩
  case round =>
    obtain ⟨k, A', c', hk, rfl, rfl, ⟨css, F, hown⟩, hbel⟩ := hrel
    clear HM
    by_cases hlt : k < z.length
    · obtain ⟨b, off, RA, rc, rfl, hbl, hc0, hc1, hc2, hc3, hml, hrow⟩ := hx.get k hlt
      have q0 := (hbel.cell (p := ⟨b, off + k * 4, none⟩) hbl).trans hc0
      have q1 := (hbel.cell (p := ⟨b, off + k * 4 + 1, none⟩) hbl).trans hc1
      have q2 := (hbel.cell (p := ⟨b, off + k * 4 + 2, none⟩) hbl).trans hc2
      have q3 := (hbel.cell (p := ⟨b, off + k * 4 + 3, none⟩) hbl).trans hc3
      have hlt' : (k : Int) < z.length := by omega
      have hrl := HRW.out _ (List.getElem_mem hlt)
      have hkl : (MM.take k).length = k := by have := HML.out; simp; omega
      have HS := Lib.hid (HST.out k hlt)
      have HF := Lib.hid hown
      have hs1 := hbel.size
      have hadv := fun W (hW : Below w.heap.size w W) => advance_any z[k].1.2 B d fr W (hy.below hW) hm
      obtain ⟨a1, a2, ha⟩ : ∃ a1 a2, advT z[k].1.2 fr = (a1, a2) := ⟨_, _, rfl⟩
      have HAU : Hid (advU fr z[k] = ((z[k].1.1, (a1, a2)), z[k].2)) := by rw [Hid, advU, ha]
      rw [ha] at hadv
      simp only at hadv
      clear hc0 hc1 hc2 hc3 hown ha
      go_wp2_with fail
      refine (copyUpdate_s _ _ _ _ _ _ _ (hrow.below hbel) (by omega)).mono ?_
      rintro e w2 ⟨AP, cP, rfl, hop, b2⟩
      clear q0 q1 q2 q3
      go_wp2_with fail
      refine absE (fun W => Below w2.heap.size w2 W ∧ Blk W w2.heap.size 63 #[.slice AP z[k].1.1.length cP, .int .i64 z[k].1.2.1, .int .i64 z[k].1.2.2, .int .i64 z[k].2]) ⟨bal (Below.refl _ _) _, Blk.newAt rfl⟩ ?_
      rintro w3 ⟨b3, hk3⟩
      have b23 := btr b2 b3
      refine (hadv w3 (btr hbel b23)).mono ?_
      rintro e w4 ⟨rfl, b4⟩
      have b34 := btr b3 b4
      have hk4 := hk3.below b4
      have b24 := btr b2 b34
      have hop4 : IntsOwn w4 wr.heap.size AP cP z[k].1.1 := (hop.below b34)
      have hapl : ∀ q, blk AP = some q → q < w2.heap.size := fun q hq => (World.ownsRow.lt hop q (by rw [ownBlock_slice]; exact hq)).2
      have c0 := hk4.cell
      have f0 := hk4.frozen
      have k5 := (hk4.set_ 1 (.int .i64 a1)).set_ 2 (.int .i64 a2)
      have hop5 : IntsOwn ((w4.setCell ⟨w2.heap.size, 1, none⟩ (.int .i64 a1)).setCell ⟨w2.heap.size, 2, none⟩ (.int .i64 a2)) wr.heap.size AP cP z[k].1.1 := (hop4.offC (fun q hq => by have := hapl q hq; simp; omega) _).offC (fun q hq => by have := hapl q hq; simp; omega) _
      have hs2 := b2.size
      have b5 : Below wr.heap.size wr ((w4.setCell ⟨w2.heap.size, 1, none⟩ (.int .i64 a1)).setCell ⟨w2.heap.size, 2, none⟩ (.int .i64 a2)) := bset (bset b24 (by simp; omega) _) (by simp; omega) _
      have H5 := Lib.hid (And.intro k5 (And.intro hop5 b5))
      clear hop hop4 k5 hop5 b5 b34 b24 hk3 b4 b3 b23 hk4 hadv hapl
      have hs5 := H5.out.2.2.size
      have hrow5 := (HF.out.loc updO (fun q hq => H5.out.2.2.block q hq.2)).row
      rw [hkl] at hrow5
      have hbase : ∀ q, blk A' = some q → w.heap.size ≤ q := fun q hq => (HF.out.top q hq).1
      have hsz : ((w4.setCell ⟨w2.heap.size, 1, none⟩ (.int .i64 a1)).setCell ⟨w2.heap.size, 2, none⟩ (.int .i64 a2)).heap.size = w4.heap.size := by simp [World.setCell]
      have hsrc := upd_srcs (w1 := ((w4.setCell ⟨w2.heap.size, 1, none⟩ (.int .i64 a1)).setCell ⟨w2.heap.size, 2, none⟩ (.int .i64 a2))) (RA := AP) (n := z[k].1.1.length) (rc := cP) (p := a1) (q := a2) (x := z[k].2) (E := 63)
      rw [hsz] at hsrc
      go_wp2_with (at_builtin; refine wpList_append_src _ rfl _ _ 30 rfl w.heap.size 63 i0 (.agg #[.slice none 0 0, .int .i64 0, .int .i64 0, .int .i64 0]) 4 48 Tryz.underlying30 hi hz0 hz1 hz2 rfl (by decide) _ _ _ rfl ((ownsRow_base hrow5 hbase).alloc _) (some ⟨w4.heap.size, 0, none⟩) 1 1 [.slice AP z[k].1.1.length cP, .int .i64 a1, .int .i64 a2, .int .i64 z[k].2] rfl rfl (fun h => by cases h) hsrc upd_ones (by unfold maxLen; omega) (by omega) (by simp; omega) ?_)
      intro v' w6 hown' hgrow hloc
      rw [ownBlock_slice] at hgrow hloc
      have hp := HF.out.pushU (w2 := w6) hbel H5.out.2.2 H5.out.2.1 (by rw [hkl]; exact hown') hgrow (fun q hq => by
        rcases hloc q hq with h | h
        · exact .inl h
        · right; first | exact h | omega | (simp at h ⊢; omega))
      rw [hkl, show MM.take k ++ [((z[k].1.1, (a1, a2)), z[k].2)] = MM.take (k + 1) by rw [HS.out, HAU.out]] at hp
      obtain ⟨A3, c3', rfl, ho3, hb6⟩ := hp
      have HO := Lib.hid ho3
      have HB := Lib.hid hb6
      clear hown' hgrow hloc ho3 hb6 hrow5 hbase hbel hrow HF c0 f0 H5 hsrc hsz
      go_wp2
      go_roundw
      case rel => exact ⟨k + 1, A3, c3', by omega, by go_num, rfl, HO.out, HB.out⟩
      case measure => simp [intOf]; omega
    · obtain rfl : k = z.length := by omega
      have HO : Hid (UpdsOw wr (news w wr) A' c' MM) := by
        rw [List.take_of_length_le (by have := HML.out; omega)] at hown
        exact ⟨_, _, hown⟩
      have HB := Lib.hid hbel
      have hs1 := hbel.size
      have hcon := consolidate_s A' c' MM wr (SlOw.at_ updO HO.out) (by have := HML.out; omega) HSM.out
      rw [HML.out] at hcon
      clear hown hbel HST
      go_wp2_with fail
      refine hcon.mono ?_
      rintro e w2 ⟨A2, c2, rfl, ho2, b2⟩
      go_wp2_with fail
      go_ret
      exact ⟨A2, c2, rfl, ho2.mono (fun q hq => ⟨by have := hq.1; omega, hq.2⟩) (fun q hq => hq.2), btr HB.out b2⟩
end Go.Proofs.YtnfffgpjgkhjlaaGreat
