/- HELPER, no statement of the seat: the model's CheckPath. -/
import Derived.Test.YtdaikdenpabfgaaCkq
namespace Go.Proofs.Ytdaikdenpabfgaa
open Go.RowKit Go.Sort Go.Shelf
set_option linter.unusedSimpArgs false
set_option linter.unusedVariables false

set_option maxHeartbeats 3200000 in
theorem CheckPath_s (A : Option Addr) (c : Nat) (es : List Ent) (x y : Int) (P : Option Addr) (d : Nat) (p : List Int) (w : World) (hx : EntsAt w A es) (hp : IntsAt w P p) (hn : es.length ≤ 4194304) (hr : rowsIn es 4194304) (hm : p.length ≤ 4194304) (hd : p.length ≤ d) :
    Calls Try.prog 39 #[.slice A es.length c, .int .i64 x, .int .i64 y, .slice P p.length d] w fun e w' => e = .returned (.bool (CkF es x y p)) ∧ Below w.heap.size w w' := by
  have hv := validEdges_s A c es w hx hn hr
  cases h1 : edgB es
  · have HT : Hid (CkF es x y p = false) := by simp [Hid, CkF, h1]
    rw [h1] at hv
    clear h1 hx hp
    go_enter Try.func39, Try.ntmps39
    go_wp2_with fail
    refine hv.mono ?_
    rintro e w1 ⟨rfl, b1⟩
    clear hv
    go_wp2
    go_ret
    exact ⟨ret_bool HT.out.symm, b1⟩
  have HT : Hid (CkF es x y p = (pathB (relOf es) p && (decide (gi p 0 = x) && decide (gi p (p.length - 1) = y)))) := by simp [Hid, CkF, h1]
  have HW : Hid (∀ u v, hasB (relOf es) u v = decide (wOf es [u, v] ≠ 0)) := fun u v => hasB_wOf h1 u v
  rw [h1] at hv
  have HP := Lib.hid hp
  have HX := Lib.hid hx
  clear h1 hx hp
  generalize relOf es = r at *
  cases hin : inB (p.length : Int) 2 60
  · have HN : Hid (CkF es x y p = false) := by
      rw [Hid, HT.out]
      have : pathB r p = false := by
        simp only [pathB]
        by_cases a1 : 2 ≤ p.length
        · by_cases a2 : p.length ≤ 60
          · simp [inB] at hin; omega
          · simp [a2]
        · simp [a1]
      rw [this]; rfl
    have hir := fun W => inRange_any (p.length : Int) 2 60 W
    rw [hin] at hir
    clear HT hin
    go_enter Try.func39, Try.ntmps39
    go_wp2_with fail
    refine hv.mono ?_
    rintro e w1 ⟨rfl, b1⟩
    clear hv
    go_wp2_with fail
    refine (hir _).mono ?_
    rintro e wx ⟨rfl, rfl⟩
    clear hir
    go_wp2
    go_ret
    exact ⟨ret_bool HN.out.symm, b1⟩
  have h2 : 2 ≤ p.length := by simp [inB] at hin; omega
  have h60 : p.length ≤ 60 := by simp [inB] at hin; omega
  have HT2 : Hid (pathB r p = stepsB r p) := by simp [Hid, pathB, h2, h60]
  have hir := fun W => inRange_any (p.length : Int) 2 60 W
  rw [hin] at hir
  obtain ⟨b, off, rfl⟩ := HP.out.open2 (by omega)
  have hk1 := IntsAt.cellG HP.out (k := 0) (by omega)
  have hk2 := IntsAt.cellG HP.out (k := p.length - 1) (by omega)
  have hi0 : (0 : Int) < p.length := by omega
  have hi1 : (0 : Int) ≤ (p.length : Int) - 1 := by omega
  have hi2 : (p.length : Int) - 1 < p.length := by omega
  have hi3 : ((p.length : Int) - 1).toNat = p.length - 1 := by omega
  have H2 := Lib.hid h2
  clear hin h2 h60
  generalize gi p 0 = u at *
  generalize gi p (p.length - 1) = v at *
  by_cases hu : u = x
  rotate_left
  · have he : (u != x) = true := by simpa using hu
    have HN : Hid (CkF es x y p = false) := by rw [Hid, HT.out]; simp [hu]
    clear HT hu
    go_enter Try.func39, Try.ntmps39
    go_wp2_with fail
    refine hv.mono ?_
    rintro e w1 ⟨rfl, b1⟩
    clear hv
    have q0 := (b1.cell (p := ⟨b, off + 0, none⟩) hk1.1).trans hk1.2
    rw [Nat.add_zero] at q0
    go_wp2_with fail
    refine (hir _).mono ?_
    rintro e wx ⟨rfl, rfl⟩
    clear hir hk1 hk2
    go_wp2
    go_ret
    exact ⟨ret_bool HN.out.symm, b1⟩
  have he : (u != x) = false := by simpa using hu
  by_cases hvy : v = y
  rotate_left
  · have he2 : (v != y) = true := by simpa using hvy
    have HN : Hid (CkF es x y p = false) := by rw [Hid, HT.out]; simp [hvy]
    clear HT hu hvy
    go_enter Try.func39, Try.ntmps39
    go_wp2_with fail
    refine hv.mono ?_
    rintro e w1 ⟨rfl, b1⟩
    clear hv
    have q0 := (b1.cell (p := ⟨b, off + 0, none⟩) hk1.1).trans hk1.2
    have q1 := (b1.cell (p := ⟨b, off + (p.length - 1), none⟩) hk1.1).trans hk2.2
    rw [Nat.add_zero] at q0
    go_wp2_with fail
    refine (hir _).mono ?_
    rintro e wx ⟨rfl, rfl⟩
    clear hir hk1 hk2
    go_wp2
    go_ret
    exact ⟨ret_bool HN.out.symm, b1⟩
  have he2 : (v != y) = false := by simpa using hvy
  have HT3 : Hid (CkF es x y p = stepsB r p) := by rw [Hid, HT.out, HT2.out]; simp [hu, hvy]
  have hno : ∀ k, k < p.length - 1 → hasB r (gi p k) (gi p (k + 1)) = false → Hid (CkF es x y p = false) := fun k hk h => by rw [Hid, HT3.out]; exact allTo_bad hk h
  clear HT HT2 hu hvy
  have HD := Lib.hid hd
  go_enter Try.func39, Try.ntmps39
  go_wp2_with fail
  refine hv.mono ?_
  rintro e w1 ⟨rfl, b1⟩
  clear hv
  have q0 := (b1.cell (p := ⟨b, off + 0, none⟩) hk1.1).trans hk1.2
  have q1 := (b1.cell (p := ⟨b, off + (p.length - 1), none⟩) hk1.1).trans hk2.2
  rw [Nat.add_zero] at q0
  go_wp2_with fail
  refine (hir _).mono ?_
  rintro e wx ⟨rfl, rfl⟩
  clear hir hk1 hk2
  go_wp2
  clear q0 q1 hi1 hi2 hi3 he he2
  go_loopw [9] (fun i wr => ∃ j : Nat, 1 ≤ j ∧ j ≤ p.length ∧ i = .int .i64 j ∧ Hid (allTo (fun k => hasB r (gi p k) (gi p (k + 1))) (j - 1) = true) ∧ Below w.heap.size w wr) (fun i _ => p.length - (intOf i).toNat)
  case atStart => exact ⟨1, by omega, by omega, rfl, rfl, b1⟩
  case round =>
    obtain ⟨j, hj1, hj2, rfl, HS, hbel⟩ := hrel
    by_cases hlt : j < p.length
    · obtain ⟨k, hk⟩ : ∃ k, k = j - 1 := ⟨_, rfl⟩
      have hkl : k + 1 < p.length := by omega
      have HK : Hid (j = k + 1) := by rw [Hid]; omega
      have hlo0 : (0 : Int) ≤ (j : Int) - 1 := by omega
      have hlh : (j : Int) - 1 ≤ (j : Int) + 1 := by omega
      have hhc : (j : Int) + 1 ≤ d := by omega
      have ht1 : ((j : Int) - 1).toNat = k := by omega
      have ht2 : ((j : Int) + 1).toNat = j + 1 := by omega
      have hdk : ¬ d = k := by omega
      have hln : j + 1 - k = 2 := by omega
      have hltI : (j : Int) < p.length := by omega
      have hI : IntsAt wr (some ⟨b, off + k, none⟩) [gi p k, gi p (k + 1)] := (IntsAt.two HP.out hkl).below hbel
      have hcon := weightOf_s A c es (some ⟨b, off + k, none⟩) (d - k) [gi p k, gi p (k + 1)] wr (HX.out.below entR hbel) hI hn hr (by simp)
      have hwk := HW.out (gi p k) (gi p (k + 1))
      have hnk := hno k (by omega)
      have hyk : hasB r (gi p k) (gi p (k + 1)) = true → Hid (allTo (fun k => hasB r (gi p k) (gi p (k + 1))) (j + 1 - 1) = true) := fun h => by
        have h1 := HS.out
        rw [← hk] at h1
        rw [show j + 1 - 1 = k + 1 by omega]
        exact allTo_step h1 h
      clear hI hk hkl
      generalize gi p k = a at *
      generalize gi p (k + 1) = bb at *
      by_cases h0 : wOf es [a, bb] = 0
      · have HN := hnk (by rw [hwk, h0]; rfl)
        rw [h0] at hcon
        clear hnk hyk hwk h0 hno
        go_wp2_with fail
        refine hcon.mono ?_
        rintro e w2 ⟨rfl, b2⟩
        have hb2 := btr hbel b2
        clear hcon
        go_wp2
        go_ret
        exact ⟨ret_bool HN.out.symm, hb2⟩
      · have HN := hyk (by rw [hwk]; simpa using h0)
        have hne : (wOf es [a, bb] == 0) = false := by simpa using h0
        clear hnk hyk hwk h0 HS
        generalize wOf es [a, bb] = z at *
        go_wp2_with fail
        refine hcon.mono ?_
        rintro e w2 ⟨rfl, b2⟩
        have hb2 := btr hbel b2
        clear hcon hlo0 hlh hhc ht1 ht2 hdk hln
        go_wp2
        go_roundw
        case rel => exact ⟨j + 1, by omega, by omega, by go_num, HN, hb2⟩
        case measure => simp [intOf]; omega
    · obtain rfl : j = p.length := by omega
      have HN : Hid (CkF es x y p = true) := by rw [Hid, HT3.out]; exact HS.out
      clear HS
      go_wp2
      go_ret
      exact ⟨ret_bool HN.out.symm, hbel⟩
end Go.Proofs.Ytdaikdenpabfgaa
