/- HELPER, no statement of the seat: the model's closures that are maintained. -/
import Derived.Test.YtageodemjlgdcaaCrd
import Derived.Test.YtageodemjlgdcaaRs
import Derived.Test.YtageodemjlgdcaaMli
import Derived.Test.YtageodemjlgdcaaEqs
import Derived.Test.YtageodemjlgdcaaEdg
namespace Go.Proofs.Ytageodemjlgdcaa
open Go.RowKit Go.Sort
set_option linter.unusedSimpArgs false
set_option linter.unusedVariables false
theorem mnt_split {es cs ms : List Ent} (h : mntB es cs ms = true) : ∃ R C M, OkR R ∧ OkR C ∧ OkR M ∧ es = prs R ∧ cs = prs C ∧ ms = prs M ∧ closR R = C ∧ ∀ G, MntF G es cs ms = prs (G R C M) := by
  have h' := h
  simp only [mntB, Bool.and_eq_true, decide_eq_true_eq] at h'
  obtain ⟨h1, h2, h3, h4⟩ := h'
  exact ⟨relOf es, relOf cs, relOf ms, relOf_ok h1, relOf_ok h2, relOf_ok h3, (prs_relOf h1).symm, (prs_relOf h2).symm, (prs_relOf h3).symm, h4, fun G => by rw [MntF, if_pos h]⟩
theorem minus_r (A : Option Addr) (c : Nat) (r : List Nat) (B : Option Addr) (d : Nat) (s : List Nat) (w : World) (hx : EntsAt w A (prs r)) (hy : EntsAt w B (prs s)) (hr : OkR r) (hs : OkR s) :
    Calls Try.prog 60 #[.slice A (prs r).length c, .slice B (prs s).length d] w  fun e w' => ∃ A' c', e = .returned (.slice A' (prs (nandR r s)).length c') ∧ EntsOw w' (news w w') A' c' (prs (nandR r s)) ∧ Below w.heap.size w w' :=
  (minus_s A c (prs r) B d (prs s) w hx hy (by have := prs_len r; omega) (prs_smallR r) (by have := prs_len s; omega) (prs_smallR s)).mono fun e w' ⟨A', c', he, _, ho, hb⟩ => ⟨A', c', by rw [← minE_prs hr hs]; exact he, by rw [← minE_prs hr hs]; exact ho, hb⟩
set_option maxHeartbeats 1600000 in
theorem union_s (A : Option Addr) (c : Nat) (r : List Nat) (B : Option Addr) (d : Nat) (s : List Nat) (w : World) (hx : EntsAt w A (prs r)) (hy : EntsAt w B (prs s)) (hr : OkR r) (hs : OkR s) :
    Calls Try.prog 81 #[.slice A (prs r).length c, .slice B (prs s).length d] w  fun e w' => ∃ A' c', e = .returned (.slice A' (prs (orR r s)).length c') ∧ EntsOw w' (news w w') A' c' (prs (orR r s)) ∧ Below w.heap.size w w' := by
  have hz := (uni_ok hr hs).1
  have hd := uni_prs hr hs
  have h1 := add_s A c (prs r) B d (prs s) w hx hy (prs_zs _) (prs_zs _)
  have he : chkF (nz (AddL (prs r) (prs s))) = nz (AddL (prs r) (prs s)) := by rw [chkF, if_pos hz]
  have hl := zsB_len hz
  have hrw : rowsIn (nz (AddL (prs r) (prs s))) 4194304 := fun e he => by have := zsB_row hz e he; omega
  rw [he] at h1 hd
  generalize nz (AddL (prs r) (prs s)) = Z at *
  clear hz he hx hy
  go_enter Try.func81, Try.ntmps81
  go_wp2_with fail
  refine h1.mono ?_
  rintro e w1 ⟨A1, c1, rfl, ho1, b1⟩
  clear h1
  have h2 := distinct_s A1 c1 Z w1 (SlOw.at_ entO ho1) (by omega) hrw
  rw [hd] at h2
  go_wp2_with fail
  refine h2.mono ?_
  rintro e w2 ⟨A2, c2, rfl, ho2, b2⟩
  have HO := Lib.hid (SlOw.mono (S' := news w w2) ho2 (fun k hk => ⟨by have := hk.1; have := b1.size; omega, hk.2⟩) (fun k hk => hk.2))
  have HB := Lib.hid (btr b1 b2)
  clear h2 ho1 ho2 b1 b2
  go_wp2_with fail
  go_ret
  exact ⟨A2, c2, rfl, HO.out, HB.out⟩
set_option maxHeartbeats 1600000 in
theorem common_s (A : Option Addr) (c : Nat) (r : List Nat) (B : Option Addr) (d : Nat) (s : List Nat) (w : World) (hx : EntsAt w A (prs r)) (hy : EntsAt w B (prs s)) (hr : OkR r) (hs : OkR s) :
    Calls Try.prog 88 #[.slice A (prs r).length c, .slice B (prs s).length d] w  fun e w' => ∃ A' c', e = .returned (.slice A' (prs (andR r s)).length c') ∧ EntsOw w' (news w w') A' c' (prs (andR r s)) ∧ Below w.heap.size w w' := by
  have h1 := minus_r A c r B d s w hx hy hr hs
  have hn := nandR_ok hr hs
  have hnn := nand_nand hr hs
  go_enter Try.func88, Try.ntmps88
  go_wp2_with fail
  refine h1.mono ?_
  rintro e w1 ⟨A1, c1, rfl, ho1, b1⟩
  clear h1
  have h2 := minus_r A c r A1 c1 (nandR r s) w1 (hx.below entR b1) (SlOw.at_ entO ho1) hr hn
  rw [hnn] at h2
  go_wp2_with fail
  refine h2.mono ?_
  rintro e w2 ⟨A2, c2, rfl, ho2, b2⟩
  have HO := Lib.hid (SlOw.mono (S' := news w w2) ho2 (fun k hk => ⟨by have := hk.1; have := b1.size; omega, hk.2⟩) (fun k hk => hk.2))
  have HB := Lib.hid (btr b1 b2)
  clear h2 ho1 ho2 b1 b2
  go_wp2_with fail
  go_ret
  exact ⟨A2, c2, rfl, HO.out, HB.out⟩
set_option maxHeartbeats 3200000 in
theorem validMaint_s (A : Option Addr) (c : Nat) (es : List Ent) (B : Option Addr) (d : Nat) (cs : List Ent) (C : Option Addr) (k : Nat) (ms : List Ent) (w : World) (hx : EntsAt w A es) (hy : EntsAt w B cs) (hz : EntsAt w C ms) (hn : es.length ≤ 4194304) (hr : rowsIn es 4194304) (hn1 : cs.length ≤ 4194304) (hr1 : rowsIn cs 4194304) (hn2 : ms.length ≤ 4194304) (hr2 : rowsIn ms 4194304) :
    Calls Try.prog 80 #[.slice A es.length c, .slice B cs.length d, .slice C ms.length k] w fun e w' => e = .returned (.bool (mntB es cs ms)) ∧ Below w.heap.size w w' := by
  have hv0 := validEdges_s A c es w hx hn hr
  have hv1 := fun W (hb : Below w.heap.size w W) => validEdges_s B d cs W (hy.below entR hb) hn1 hr1
  have hv2 := fun W (hb : Below w.heap.size w W) => validEdges_s C k ms W (hz.below entR hb) hn2 hr2
  have HX := Lib.hid (And.intro hx (And.intro hy hz))
  clear hx hy hz
  cases h0 : edgB es
  · have HT : Hid (mntB es cs ms = false) := by simp [Hid, mntB, h0]
    rw [h0] at hv0
    clear h0 hv1 hv2
    go_enter Try.func80, Try.ntmps80
    go_wp2_with fail
    refine hv0.mono ?_
    rintro e w1 ⟨rfl, b1⟩
    clear hv0
    go_wp2_with fail
    go_ret
    exact ⟨ret_bool HT.out.symm, b1⟩
  cases h1 : edgB cs
  · have HT : Hid (mntB es cs ms = false) := by simp [Hid, mntB, h0, h1]
    rw [h0] at hv0
    simp only [h1] at hv1
    clear h0 h1 hv2
    go_enter Try.func80, Try.ntmps80
    go_wp2_with fail
    refine hv0.mono ?_
    rintro e w1 ⟨rfl, b1⟩
    clear hv0
    go_wp2_with fail
    refine (hv1 _ b1).mono ?_
    rintro e w2 ⟨rfl, b2⟩
    have b2 := btr b1 b2
    clear hv1 b1
    go_wp2_with fail
    go_ret
    exact ⟨ret_bool HT.out.symm, b2⟩
  cases h2 : edgB ms
  · have HT : Hid (mntB es cs ms = false) := by simp [Hid, mntB, h0, h1, h2]
    rw [h0] at hv0
    simp only [h1] at hv1
    simp only [h2] at hv2
    clear h0 h1 h2
    go_enter Try.func80, Try.ntmps80
    go_wp2_with fail
    refine hv0.mono ?_
    rintro e w1 ⟨rfl, b1⟩
    clear hv0
    go_wp2_with fail
    refine (hv1 _ b1).mono ?_
    rintro e w2 ⟨rfl, b2⟩
    have b2 := btr b1 b2
    clear hv1 b1
    go_wp2_with fail
    refine (hv2 _ b2).mono ?_
    rintro e w3 ⟨rfl, b3⟩
    have b3 := btr b2 b3
    clear hv2 b2
    go_wp2_with fail
    go_ret
    exact ⟨ret_bool HT.out.symm, b3⟩
  have hR := relOf_ok h0
  have HT : Hid (mntB es cs ms = decide (prs (closR (relOf es)) = cs)) := by simp only [Hid, mntB, h0, h1, h2, Bool.true_and]; exact mnt_eq h0 h1
  have hcl := fun W (hb : Below w.heap.size w W) => closure_s A c (relOf es) W (by rw [prs_relOf h0]; exact HX.out.1.below entR hb) hR
  rw [prs_relOf h0] at hcl
  have heq := fun (A1 : Option Addr) (c1 : Nat) (W : World) (ha : EntsAt W A1 (prs (closR (relOf es)))) (hb : Below w.heap.size w W) => equalZSets_s A1 B c1 d (prs (closR (relOf es))) cs W ha (HX.out.2.1.below entR hb) (by have := prs_len (closR (relOf es)); omega) hn1 (prs_smallR _) hr1
  rw [h0] at hv0
  simp only [h1] at hv1
  simp only [h2] at hv2
  clear h0 h1 h2 hn hr hn1 hr1 hn2 hr2 hR HX
  generalize prs (closR (relOf es)) = Z at *
  go_enter Try.func80, Try.ntmps80
  go_wp2_with fail
  refine hv0.mono ?_
  rintro e w1 ⟨rfl, b1⟩
  clear hv0
  go_wp2_with fail
  refine (hv1 _ b1).mono ?_
  rintro e w2 ⟨rfl, b2⟩
  have b2 := btr b1 b2
  clear hv1 b1
  go_wp2_with fail
  refine (hv2 _ b2).mono ?_
  rintro e w3 ⟨rfl, b3⟩
  have b3 := btr b2 b3
  clear hv2 b2
  go_wp2_with fail
  refine (hcl _ b3).mono ?_
  rintro e w4 ⟨A1, c1, rfl, ho1, b4⟩
  have b4' := btr b3 b4
  have ha1 := SlOw.at_ entO ho1
  clear hcl
  go_wp2_with fail
  refine (heq _ _ _ ha1 b4').mono ?_
  rintro e w5 ⟨rfl, b5⟩
  have HB := Lib.hid (btr b4' b5)
  clear heq ho1 ha1 b3 b4 b4' b5
  go_wp2_with fail
  go_ret
  exact ⟨ret_bool HT.out.symm, HB.out⟩
set_option maxHeartbeats 3200000 in
theorem ClosureInsert_s (A : Option Addr) (c : Nat) (es : List Ent) (B : Option Addr) (d : Nat) (cs : List Ent) (C : Option Addr) (k : Nat) (ms : List Ent) (w : World) (hx : EntsAt w A es) (hy : EntsAt w B cs) (hz : EntsAt w C ms) (hn : es.length ≤ 4194304) (hr : rowsIn es 4194304) (hn1 : cs.length ≤ 4194304) (hr1 : rowsIn cs 4194304) (hn2 : ms.length ≤ 4194304) (hr2 : rowsIn ms 4194304) :
    Calls Try.prog 34 #[.slice A es.length c, .slice B cs.length d, .slice C ms.length k] w fun e w' => ∃ A' c', e = .returned (.slice A' (MntF insG es cs ms).length c') ∧ EntsOw w' (news w w') A' c' (MntF insG es cs ms) ∧ Below w.heap.size w w' := by
  have hv := validMaint_s A c es B d cs C k ms w hx hy hz hn hr hn1 hr1 hn2 hr2
  cases h1 : mntB es cs ms
  · have HT : Hid (MntF insG es cs ms = []) := by simp [Hid, MntF, h1]
    rw [h1] at hv
    clear h1 hx hy hz
    go_enter Try.func34, Try.ntmps34
    go_wp2_with fail
    refine hv.mono ?_
    rintro e w1 ⟨rfl, b1⟩
    clear hv
    have hA0 := SlF.made EntO 2 39 w1 #[] 0 (by simp [maxLen]) (by simp) (S := fun k => w.heap.size ≤ k ∧ k < w1.heap.size + 1) ⟨b1.size, by simp⟩ (fun k hk => by have := hk.2; simpa using this)
    have HA0 := Lib.hid hA0
    have HB := Lib.hid (bal b1 (.cells #[] 39))
    clear hA0 b1
    go_wp2
    go_ret
    rw [HT.out]
    exact ⟨_, 0, rfl, ⟨_, _, HA0.out.mono (fun k hk => ⟨hk.1, by have := hk.2; simpa using this⟩) (fun k hk => hk.2)⟩, HB.out⟩
  · obtain ⟨R, Q, M, hR, hQ, hM, rfl, rfl, rfl, hcl, hF⟩ := mnt_split h1
    have HT : Hid (MntF insG (prs R) (prs Q) (prs M) = prs (insG R Q M)) := hF insG
    rw [h1] at hv
    clear h1 hF hn hr hn1 hr1 hn2 hr2
    go_enter Try.func34, Try.ntmps34
    go_wp2_with fail
    refine hv.mono ?_
    rintro e w1 ⟨rfl, b1⟩
    clear hv
    have hx := hx.below entR b1
    have hy := hy.below entR b1
    have hz := hz.below entR b1
    have B1 := b1
    have hc := union_s A c (R) C k (M) w1 hx hz (hR) (hM)
    go_wp2_with fail
    refine hc.mono ?_
    clear hc
    rintro e w2 ⟨A2, c2, rfl, ho2, b2⟩
    have h2 := SlOw.at_ entO ho2
    have hy := hy.below entR b2
    have HO2 := Lib.hid (SlOw.mono (S' := news w w2) ho2 (fun k hk => ⟨by have := hk.1; have := B1.size; omega, hk.2⟩) (fun k hk => hk.2))
    have B2 := btr B1 b2
    clear ho2 b2
    have hc := closure_s A2 c2 (orR R M) w2 h2 (orR_ok hR hM)
    go_wp2_with fail
    refine hc.mono ?_
    clear hc
    rintro e w3 ⟨A3, c3, rfl, ho3, b3⟩
    have h3 := SlOw.at_ entO ho3
    have hy := hy.below entR b3
    have HO3 := Lib.hid (SlOw.mono (S' := news w w3) ho3 (fun k hk => ⟨by have := hk.1; have := B2.size; omega, hk.2⟩) (fun k hk => hk.2))
    have B3 := btr B2 b3
    clear ho3 b3
    have hc := minus_r A3 c3 (closR (orR R M)) B d (Q) w3 h3 hy (closR_ok (orR_ok hR hM)) (hQ)
    go_wp2_with fail
    refine hc.mono ?_
    clear hc
    rintro e w4 ⟨A4, c4, rfl, ho4, b4⟩
    have h4 := SlOw.at_ entO ho4
    have HO4 := Lib.hid (SlOw.mono (S' := news w w4) ho4 (fun k hk => ⟨by have := hk.1; have := B3.size; omega, hk.2⟩) (fun k hk => hk.2))
    have B4 := btr B3 b4
    clear ho4 b4
    have HB := Lib.hid B4
    clear B1 B2 B3 B4
    go_wp2_with fail
    go_ret
    rw [HT.out]
    exact ⟨A4, c4, rfl, HO4.out, HB.out⟩
set_option maxHeartbeats 3200000 in
theorem ClosureDelete_s (A : Option Addr) (c : Nat) (es : List Ent) (B : Option Addr) (d : Nat) (cs : List Ent) (C : Option Addr) (k : Nat) (ms : List Ent) (w : World) (hx : EntsAt w A es) (hy : EntsAt w B cs) (hz : EntsAt w C ms) (hn : es.length ≤ 4194304) (hr : rowsIn es 4194304) (hn1 : cs.length ≤ 4194304) (hr1 : rowsIn cs 4194304) (hn2 : ms.length ≤ 4194304) (hr2 : rowsIn ms 4194304) :
    Calls Try.prog 38 #[.slice A es.length c, .slice B cs.length d, .slice C ms.length k] w fun e w' => ∃ A' c', e = .returned (.slice A' (MntF delG es cs ms).length c') ∧ EntsOw w' (news w w') A' c' (MntF delG es cs ms) ∧ Below w.heap.size w w' := by
  have hv := validMaint_s A c es B d cs C k ms w hx hy hz hn hr hn1 hr1 hn2 hr2
  cases h1 : mntB es cs ms
  · have HT : Hid (MntF delG es cs ms = []) := by simp [Hid, MntF, h1]
    rw [h1] at hv
    clear h1 hx hy hz
    go_enter Try.func38, Try.ntmps38
    go_wp2_with fail
    refine hv.mono ?_
    rintro e w1 ⟨rfl, b1⟩
    clear hv
    have hA0 := SlF.made EntO 2 39 w1 #[] 0 (by simp [maxLen]) (by simp) (S := fun k => w.heap.size ≤ k ∧ k < w1.heap.size + 1) ⟨b1.size, by simp⟩ (fun k hk => by have := hk.2; simpa using this)
    have HA0 := Lib.hid hA0
    have HB := Lib.hid (bal b1 (.cells #[] 39))
    clear hA0 b1
    go_wp2
    go_ret
    rw [HT.out]
    exact ⟨_, 0, rfl, ⟨_, _, HA0.out.mono (fun k hk => ⟨hk.1, by have := hk.2; simpa using this⟩) (fun k hk => hk.2)⟩, HB.out⟩
  · obtain ⟨R, Q, M, hR, hQ, hM, rfl, rfl, rfl, hcl, hF⟩ := mnt_split h1
    have HT : Hid (MntF delG (prs R) (prs Q) (prs M) = prs (delG R Q M)) := hF delG
    rw [h1] at hv
    clear h1 hF hn hr hn1 hr1 hn2 hr2
    go_enter Try.func38, Try.ntmps38
    go_wp2_with fail
    refine hv.mono ?_
    rintro e w1 ⟨rfl, b1⟩
    clear hv
    have hx := hx.below entR b1
    have hy := hy.below entR b1
    have hz := hz.below entR b1
    have B1 := b1
    have hc := minus_r A c (R) C k (M) w1 hx hz (hR) (hM)
    go_wp2_with fail
    refine hc.mono ?_
    clear hc
    rintro e w2 ⟨A2, c2, rfl, ho2, b2⟩
    have h2 := SlOw.at_ entO ho2
    have hy := hy.below entR b2
    have HO2 := Lib.hid (SlOw.mono (S' := news w w2) ho2 (fun k hk => ⟨by have := hk.1; have := B1.size; omega, hk.2⟩) (fun k hk => hk.2))
    have B2 := btr B1 b2
    clear ho2 b2
    have hc := closure_s A2 c2 (nandR R M) w2 h2 (nandR_ok hR hM)
    go_wp2_with fail
    refine hc.mono ?_
    clear hc
    rintro e w3 ⟨A3, c3, rfl, ho3, b3⟩
    have h3 := SlOw.at_ entO ho3
    have hy := hy.below entR b3
    have HO3 := Lib.hid (SlOw.mono (S' := news w w3) ho3 (fun k hk => ⟨by have := hk.1; have := B2.size; omega, hk.2⟩) (fun k hk => hk.2))
    have B3 := btr B2 b3
    clear ho3 b3
    have hc := minus_r B d (Q) A3 c3 (closR (nandR R M)) w3 hy h3 (hQ) (closR_ok (nandR_ok hR hM))
    go_wp2_with fail
    refine hc.mono ?_
    clear hc
    rintro e w4 ⟨A4, c4, rfl, ho4, b4⟩
    have h4 := SlOw.at_ entO ho4
    have HO4 := Lib.hid (SlOw.mono (S' := news w w4) ho4 (fun k hk => ⟨by have := hk.1; have := B3.size; omega, hk.2⟩) (fun k hk => hk.2))
    have B4 := btr B3 b4
    clear ho4 b4
    have HB := Lib.hid B4
    clear B1 B2 B3 B4
    go_wp2_with fail
    go_ret
    rw [HT.out]
    exact ⟨A4, c4, rfl, HO4.out, HB.out⟩
end Go.Proofs.Ytageodemjlgdcaa
