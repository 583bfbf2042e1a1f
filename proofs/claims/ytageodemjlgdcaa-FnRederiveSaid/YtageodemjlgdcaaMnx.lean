/- HELPER, no statement of the seat: the model's Overdelete and Rederive. -/
import Derived.Test.YtageodemjlgdcaaMnv
namespace Go.Proofs.Ytageodemjlgdcaa
open Go.RowKit Go.Sort
set_option linter.unusedSimpArgs false
set_option linter.unusedVariables false
set_option maxHeartbeats 3200000 in
theorem Overdelete_s (A : Option Addr) (c : Nat) (es : List Ent) (B : Option Addr) (d : Nat) (cs : List Ent) (C : Option Addr) (k : Nat) (ms : List Ent) (w : World) (hx : EntsAt w A es) (hy : EntsAt w B cs) (hz : EntsAt w C ms) (hn : es.length ≤ 4194304) (hr : rowsIn es 4194304) (hn1 : cs.length ≤ 4194304) (hr1 : rowsIn cs 4194304) (hn2 : ms.length ≤ 4194304) (hr2 : rowsIn ms 4194304) :
    Calls Try.prog 42 #[.slice A es.length c, .slice B cs.length d, .slice C ms.length k] w fun e w' => ∃ A' c', e = .returned (.slice A' (MntF ovrG es cs ms).length c') ∧ EntsOw w' (news w w') A' c' (MntF ovrG es cs ms) ∧ Below w.heap.size w w' := by
  have hv := validMaint_s A c es B d cs C k ms w hx hy hz hn hr hn1 hr1 hn2 hr2
  cases h1 : mntB es cs ms
  · have HT : Hid (MntF ovrG es cs ms = []) := by simp [Hid, MntF, h1]
    rw [h1] at hv
    clear h1 hx hy hz
    go_enter Try.func42, Try.ntmps42
    go_wp2_with fail
    refine hv.mono ?_
    rintro e w1 ⟨rfl, b1⟩
    clear hv
    have hA0 := SlF.made EntO 2 39 w1 #[] 0 (by simp [maxLen]) (by simp) (S := fun k => w.heap.size ≤ k ∧ k < w1.heap.size + 1) ⟨b1.size, by simp⟩ (fun k hk => by have := hk.2; simpa using this)
    have HA0 := Lib.hid hA0
    have HB := Lib.hid (bal b1 (.cells #[] 39))
    clear hA0 b1
    go_wp2
    go_ret
    rw [HT.out]
    exact ⟨_, 0, rfl, ⟨_, _, HA0.out.mono (fun k hk => ⟨hk.1, by have := hk.2; simpa using this⟩) (fun k hk => hk.2)⟩, HB.out⟩
  · obtain ⟨R, Q, M, hR, hQ, hM, rfl, rfl, rfl, hcl, hF⟩ := mnt_split h1
    have HT : Hid (MntF ovrG (prs R) (prs Q) (prs M) = prs (ovrG R Q M)) := hF ovrG
    rw [h1] at hv
    clear h1 hF hn hr hn1 hr1 hn2 hr2
    go_enter Try.func42, Try.ntmps42
    go_wp2_with fail
    refine hv.mono ?_
    rintro e w1 ⟨rfl, b1⟩
    clear hv
    have hx := hx.below entR b1
    have hy := hy.below entR b1
    have hz := hz.below entR b1
    have B1 := b1
    have hc := common_s A c (R) C k (M) w1 hx hz (hR) (hM)
    go_wp2_with fail
    refine hc.mono ?_
    clear hc
    rintro e w2 ⟨A2, c2, rfl, ho2, b2⟩
    have h2 := SlOw.at_ entO ho2
    have hy := hy.below entR b2
    have HO2 := Lib.hid (SlOw.mono (S' := news w w2) ho2 (fun k hk => ⟨by have := hk.1; have := B1.size; omega, hk.2⟩) (fun k hk => hk.2))
    have B2 := btr B1 b2
    clear ho2 b2
    have hc := overdeleted_r B d (Q) A2 c2 (andR R M) w2 hy h2 hR hM hcl rfl
    go_wp2_with fail
    refine hc.mono ?_
    clear hc
    rintro e w3 ⟨A3, c3, rfl, ho3, b3⟩
    have h3 := SlOw.at_ entO ho3
    have HO3 := Lib.hid (SlOw.mono (S' := news w w3) ho3 (fun k hk => ⟨by have := hk.1; have := B2.size; omega, hk.2⟩) (fun k hk => hk.2))
    have B3 := btr B2 b3
    clear ho3 b3
    have HB := Lib.hid B3
    clear B1 B2 B3
    go_wp2_with fail
    go_ret
    rw [HT.out]
    exact ⟨A3, c3, rfl, HO3.out, HB.out⟩
set_option maxHeartbeats 3200000 in
theorem Rederive_s (A : Option Addr) (c : Nat) (es : List Ent) (B : Option Addr) (d : Nat) (cs : List Ent) (C : Option Addr) (k : Nat) (ms : List Ent) (w : World) (hx : EntsAt w A es) (hy : EntsAt w B cs) (hz : EntsAt w C ms) (hn : es.length ≤ 4194304) (hr : rowsIn es 4194304) (hn1 : cs.length ≤ 4194304) (hr1 : rowsIn cs 4194304) (hn2 : ms.length ≤ 4194304) (hr2 : rowsIn ms 4194304) :
    Calls Try.prog 45 #[.slice A es.length c, .slice B cs.length d, .slice C ms.length k] w fun e w' => ∃ A' c', e = .returned (.slice A' (MntF redG es cs ms).length c') ∧ EntsOw w' (news w w') A' c' (MntF redG es cs ms) ∧ Below w.heap.size w w' := by
  have hv := validMaint_s A c es B d cs C k ms w hx hy hz hn hr hn1 hr1 hn2 hr2
  cases h1 : mntB es cs ms
  · have HT : Hid (MntF redG es cs ms = []) := by simp [Hid, MntF, h1]
    rw [h1] at hv
    clear h1 hx hy hz
    go_enter Try.func45, Try.ntmps45
    go_wp2_with fail
    refine hv.mono ?_
    rintro e w1 ⟨rfl, b1⟩
    clear hv
    have hA0 := SlF.made EntO 2 39 w1 #[] 0 (by simp [maxLen]) (by simp) (S := fun k => w.heap.size ≤ k ∧ k < w1.heap.size + 1) ⟨b1.size, by simp⟩ (fun k hk => by have := hk.2; simpa using this)
    have HA0 := Lib.hid hA0
    have HB := Lib.hid (bal b1 (.cells #[] 39))
    clear hA0 b1
    go_wp2
    go_ret
    rw [HT.out]
    exact ⟨_, 0, rfl, ⟨_, _, HA0.out.mono (fun k hk => ⟨hk.1, by have := hk.2; simpa using this⟩) (fun k hk => hk.2)⟩, HB.out⟩
  · obtain ⟨R, Q, M, hR, hQ, hM, rfl, rfl, rfl, hcl, hF⟩ := mnt_split h1
    have HT : Hid (MntF redG (prs R) (prs Q) (prs M) = prs (redG R Q M)) := hF redG
    rw [h1] at hv
    clear h1 hF hn hr hn1 hr1 hn2 hr2
    go_enter Try.func45, Try.ntmps45
    go_wp2_with fail
    refine hv.mono ?_
    rintro e w1 ⟨rfl, b1⟩
    clear hv
    have hx := hx.below entR b1
    have hy := hy.below entR b1
    have hz := hz.below entR b1
    have B1 := b1
    have hc := common_s A c (R) C k (M) w1 hx hz (hR) (hM)
    go_wp2_with fail
    refine hc.mono ?_
    clear hc
    rintro e w2 ⟨A2, c2, rfl, ho2, b2⟩
    have h2 := SlOw.at_ entO ho2
    have hx := hx.below entR b2
    have hy := hy.below entR b2
    have hz := hz.below entR b2
    have HO2 := Lib.hid (SlOw.mono (S' := news w w2) ho2 (fun k hk => ⟨by have := hk.1; have := B1.size; omega, hk.2⟩) (fun k hk => hk.2))
    have B2 := btr B1 b2
    clear ho2 b2
    have hc := overdeleted_r B d (Q) A2 c2 (andR R M) w2 hy h2 hR hM hcl rfl
    go_wp2_with fail
    refine hc.mono ?_
    clear hc
    rintro e w3 ⟨A3, c3, rfl, ho3, b3⟩
    have h3 := SlOw.at_ entO ho3
    have hx := hx.below entR b3
    have hz := hz.below entR b3
    have HO3 := Lib.hid (SlOw.mono (S' := news w w3) ho3 (fun k hk => ⟨by have := hk.1; have := B2.size; omega, hk.2⟩) (fun k hk => hk.2))
    have B3 := btr B2 b3
    clear ho3 b3
    have hc := minus_r A c (R) C k (M) w3 hx hz (hR) (hM)
    go_wp2_with fail
    refine hc.mono ?_
    clear hc
    rintro e w4 ⟨A4, c4, rfl, ho4, b4⟩
    have h4 := SlOw.at_ entO ho4
    have h3 := h3.below entR b4
    have HO4 := Lib.hid (SlOw.mono (S' := news w w4) ho4 (fun k hk => ⟨by have := hk.1; have := B3.size; omega, hk.2⟩) (fun k hk => hk.2))
    have B4 := btr B3 b4
    clear ho4 b4
    have hc := closure_s A4 c4 (nandR R M) w4 h4 (nandR_ok hR hM)
    go_wp2_with fail
    refine hc.mono ?_
    clear hc
    rintro e w5 ⟨A5, c5, rfl, ho5, b5⟩
    have h5 := SlOw.at_ entO ho5
    have h3 := h3.below entR b5
    have HO5 := Lib.hid (SlOw.mono (S' := news w w5) ho5 (fun k hk => ⟨by have := hk.1; have := B4.size; omega, hk.2⟩) (fun k hk => hk.2))
    have B5 := btr B4 b5
    clear ho5 b5
    have hc := common_s A3 c3 (ovrG R Q M) A5 c5 (closR (nandR R M)) w5 h3 h5 (overR_ok hQ (andR_ok hR hM)) (closR_ok (nandR_ok hR hM))
    go_wp2_with fail
    refine hc.mono ?_
    clear hc
    rintro e w6 ⟨A6, c6, rfl, ho6, b6⟩
    have h6 := SlOw.at_ entO ho6
    have HO6 := Lib.hid (SlOw.mono (S' := news w w6) ho6 (fun k hk => ⟨by have := hk.1; have := B5.size; omega, hk.2⟩) (fun k hk => hk.2))
    have B6 := btr B5 b6
    clear ho6 b6
    have HB := Lib.hid B6
    clear B1 B2 B3 B4 B5 B6
    go_wp2_with fail
    go_ret
    rw [HT.out]
    exact ⟨A6, c6, rfl, HO6.out, HB.out⟩
end Go.Proofs.Ytageodemjlgdcaa
