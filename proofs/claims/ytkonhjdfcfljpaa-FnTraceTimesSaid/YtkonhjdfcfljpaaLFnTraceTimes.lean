/- The law FnTraceTimes returns true at every code; no condition. -/
import Derived.Test.YtkonhjdfcfljpaaDrawTt
import Derived.Test.YtkonhjdfcfljpaaEqM
import Derived.Test.YtkonhjdfcfljpaaTrtS
import Derived.Test.YtkonhjdfcfljpaaTcm
import Derived.Test.YtkonhjdfcfljpaaClo
import Derived.Carry
import Derived.ChangeOld
import Derived.Lib.SmallJoins
import Derived.Lib.QuietBelow
namespace Go.Proofs.Ytkonhjdfcfljpaa
open Go.ChangeShapes Go.WideShapes Go.ChangeAt Go.RowKit Go.Sort
set_option linter.unusedVariables false
set_option linter.unusedSimpArgs false

theorem mem_takeS {l : List Tm} {k : Nat} (h : k < l.length) (e : Tm) : decide (e ∈ l.take (k + 1)) = (decide (e ∈ l.take k) || decide (e = l[k])) := by
  rw [List.take_succ_eq_append_getElem h, Bool.eq_iff_iff]
  simp only [decide_eq_true_iff, Bool.or_eq_true, List.mem_append, List.mem_singleton]
theorem uTm_get {us : List Upd} {k : Nat} (h : k < us.length) : (uTm us)[k]? = some us[k].1.2 := by simp [uTm, h]
theorem mem_takeU {us : List Upd} {k : Nat} (h : k < us.length) (e : Tm) : decide (e ∈ (uTm us).take (k + 1)) = (decide (e ∈ (uTm us).take k) || decide (us[k].1.2 = e)) := by
  have hl : k < (uTm us).length := by simpa [uTm] using h
  rw [mem_takeS hl]
  congr 1
  have : (uTm us)[k] = us[k].1.2 := by simp [uTm]
  rw [this, Bool.eq_iff_iff]
  simp [eq_comm]
theorem srt_get {ts : List Tm} (h : ts.Pairwise bfT) {i : Nat} (h0 : 0 < i) (hi : i < ts.length) : bfB ts[i - 1].1 ts[i - 1].2 ts[i].1 ts[i].2 = true :=
  (List.pairwise_iff_getElem.1 h) (i - 1) i (by omega) hi (by omega)
theorem validT {A : Option Addr} {c : Nat} {us : List Upd} {w : World} (r : Bool) (he : trB us = r) (hx : UpdsAt w A us) (hn : us.length ≤ 4194304) (hr : rowsU us 4194304) :
    Calls Try.prog 35 #[.slice A us.length c] w fun e w' => e = .returned (.bool r) ∧ Below w.heap.size w w' := he ▸ ValidTrace_i A c us w hx hn hr
theorem TBFm {x y u v : Int} {r : Bool} (h : bfB x y u v = r) (w : World) : Calls Try.prog 36 #[.agg #[.int .i64 x, .int .i64 y], .agg #[.int .i64 u, .int .i64 v]] w fun e w' => e = .returned (.bool r) ∧ Below w.heap.size w w' := h ▸ Tcm.TimeBefore_i x y u v w

set_option maxRecDepth 100000 in
set_option maxHeartbeats 6400000 in
theorem FnTraceTimes_walk (A : Option Addr) (n c : Nat) (w : World) (hc : n ≤ c) (hl : n ≤ maxLen) (hb : BytesAt w w.heap.size A n) :
    Calls Try.prog 5 #[.slice A n c] w fun e w' => e = .returned (.bool true) ∧ Below w.heap.size w w' := by
  unfold maxLen at hl
  by_cases hbign : 1048576 < n
  · have hb' : (1048576 : Int) < n := by omega
    go_enter Try.func5, Try.ntmps5
    go_wp2
    go_ret
    exact ⟨rfl, Below.refl _ _⟩
  have hbn' : (n : Int) ≤ 1048576 := by omega
  have HB := Lib.hid hb
  clear hb hbign
  go_enter Try.func5, Try.ntmps5
  go_wp2_with fail
  refine (DrawTraceTimes_r _ _ _ _ HB.out hc (by omega)).mono ?_
  rintro e w1 ⟨us, AU, cu, rfl, hTA, b1⟩
  have B1 := b1
  have hul := hTA.2.1
  have HR : Hid (rowsU us 4194304) := fun e he => by have := hTA.2.2.1 e he; omega
  have hu1 := UpdsOw.at_ hTA.1
  clear hTA
  have nl : (TtF us).length ≤ 4194304 := by have := TtF_len us; omega
  go_wp2_with fail
  refine (TraceTimes_i AU cu us _ hu1 (by omega) HR.out).mono ?_
  rintro e w2 ⟨AL, ct, rfl, hol, b2⟩
  have B2 := btr B1 b2
  have hu2 := hu1.below updR b2
  clear hu1
  have hl2 := hol.at_
  clear hol
  go_wp2_with fail
  refine (TraceTimes_s AU cu us _ hu2 (by omega) HR.out).mono ?_
  rintro e w3 ⟨As2, cs2, rfl, hos, b3⟩
  have B3 := btr B2 b3
  have hu3 := hu2.below updR b3
  have hl3 := hl2.below b3
  clear hu2 hl2
  have hs3 := hos.at_
  clear hos
  go_wp2_with fail
  refine (equalM true (decide_eq_true rfl) hl3 hs3 nl nl).mono ?_
  rintro e w4 ⟨rfl, b4⟩
  have B4 := btr B3 b4
  have hu4 := hu3.below updR b4
  have hl4 := hl3.below b4
  clear hu3 hl3
  clear hs3
  cases hV : trB us
  · have HV := Lib.hid hV
    clear hV
    go_wp2_with fail
    refine (validT false HV.out hu4 (by omega) HR.out).mono ?_
    rintro e w5 ⟨rfl, b5⟩
    have B5 := btr B4 b5
    have hu5 := hu4.below updR b5
    have hl5 := hl4.below b5
    clear hu4 hl4
    go_wp2_with fail
    refine (TraceTimes_s AU cu us _ hu5 (by omega) HR.out).mono ?_
    rintro e w6 ⟨As5, cs5, rfl, hos, b6⟩
    have B6 := btr B5 b6
    have hu6 := hu5.below updR b6
    have hl6 := hl5.below b6
    clear hu5 hl5
    have hs6 := hos.at_
    clear hos
    go_wp2_with fail
    refine (equalM true (decide_eq_true rfl) hl6 hs6 nl nl).mono ?_
    rintro e w7 ⟨rfl, b7⟩
    have B7 := btr B6 b7
    have hu7 := hu6.below updR b7
    have hl7 := hl6.below b7
    clear hu6 hl6
    clear hs6
    go_wp2_with fail
    go_ret
    exact ⟨rfl, B7⟩
  have hT : TtF us = tmsU (uTm us) := by unfold TtF; rw [hV]; rfl
  have HT := Lib.hid hT
  have HV := Lib.hid hV
  clear hT
  clear hV
  go_wp2_with fail
  refine (validT true HV.out hu4 (by omega) HR.out).mono ?_
  rintro e w5 ⟨rfl, b5⟩
  have B5 := btr B4 b5
  have hu5 := hu4.below updR b5
  have hl5 := hl4.below b5
  clear hu4 hl4
  have HM : Hid (∀ e, e ∈ TtF us ↔ e ∈ uTm us) := by rw [HT.out]; exact tmsU_mem _
  have HS : Hid ((TtF us).Pairwise bfT) := by rw [HT.out]; exact tmsU_sorted _
  have HLN : Hid ((TtF us).length ≤ us.length) := TtF_len us
  clear HT HV HR
  generalize TtF us = ts at *
  go_wp2
  obtain ⟨W0, rfl⟩ : ∃ W0 : World, W0 = w5 := ⟨_, rfl⟩
  have hu0 := hu5
  have hl0 := hl5
  have B0 := Lib.hid B5
  clear hu5 hl5 B5
  go_loopw [5, 6, 7] (fun ov _ _ wr => ∃ i : Nat, i ≤ ts.length ∧ ov = .int .i64 i ∧ Below W0.heap.size W0 wr) (fun ov _ _ _ => ts.length - (intOf ov).toNat)
  case atStart => exact ⟨0, by omega, rfl, RowKit.Below.refl _ _⟩
  case round =>
    obtain ⟨i, hi, rfl, hbel⟩ := hrel
    by_cases hil : i < ts.length
    · have hoI : (i : Int) < ts.length := by omega
      have hpos : 0 < us.length := by have := HLN.out; omega
      obtain ⟨tb, tz, rfl, htb0, hct⟩ := hl0.below hbel (by omega)
      obtain ⟨ub, uo, _, _, rfl, -⟩ := UpdsAt.get (hu0.below updR hbel) 0 hpos
      have ku1 := (hct i hil).1
      have ku2 := (hct i hil).2
      rw [getD_lt _ hil] at ku1 ku2
      have HBL := Lib.hid hbel
      have HCT := Lib.hid hct
      clear hbel hct
      go_wp2
      obtain ⟨V, rfl⟩ : ∃ V : World, V = wr := ⟨_, rfl⟩
      go_loopw [6, 7] (fun s jv wr => ∃ k : Nat, k ≤ us.length ∧ jv = .int .i64 k ∧ s = .bool (decide (ts[i] ∈ (uTm us).take k)) ∧ Below V.heap.size V wr) (fun _ jv _ => us.length - (intOf jv).toNat)
      case atStart => exact ⟨0, by omega, rfl, by simp, RowKit.Below.refl _ _⟩
      case round =>
        obtain ⟨k, hk, rfl, rfl, hbv⟩ := hrel
        by_cases hkl : k < us.length
        · have hiI : (k : Int) < us.length := by omega
          obtain ⟨_, _, _, _, e0, hub0, -, v1, v2, -⟩ := UpdsAt.get (hu0.below updR HBL.out) k hkl
          injection e0 with e0
          injection e0 with e1 e2
          subst e1 e2
          have z1 := (hbv.cell (p := ⟨tb, tz + i * 2, none⟩) htb0).trans ku1
          have z2 := (hbv.cell (p := ⟨tb, tz + i * 2 + 1, none⟩) htb0).trans ku2
          have u1 := (hbv.cell (p := ⟨ub, uo + k * 4 + 1, none⟩) hub0).trans v1
          have u2 := (hbv.cell (p := ⟨ub, uo + k * 4 + 2, none⟩) hub0).trans v2
          have hub : ub < wr.heap.size := Nat.lt_of_lt_of_le hub0 hbv.size
          have htb : tb < wr.heap.size := Nat.lt_of_lt_of_le htb0 hbv.size
          clear v1 v2
          have hst := mem_takeU hkl ts[i]
          cases hs : decide (ts[i] ∈ (uTm us).take k)
          · rw [hs] at hst
            cases hz : decide (us[k].1.2 = ts[i])
            · rw [hz] at hst
              have heq := timeIn_b (a := us[k].1.2) (b := ts[i]) (r := false) hz
              have HST := Lib.hid hst
              clear hst hs hz
              go_wp2_with fail
              refine wp_region_facts [[], [0], [0, 1], [0, 1], List.range 4, List.range 5, List.range 6, [0, 1], [0, 1], [0, 1, 7, 8], [0, 1, 7, 8, 9], List.range 11, List.range 12]
                [fun v' _ => v' = .bool false, fun v' _ => v' = .bool false, fun v' _ => v' = .slice (some ⟨ub, uo, none⟩) us.length cu, fun v' _ => v' = .int .i64 ((k : Nat)), fun v' _ => v' = .pointer (some ⟨ub, uo + k * 4, none⟩), fun v' _ => v' = .pointer (some ⟨ub, uo + k * 4 + 1, none⟩), fun v' _ => v' = .agg #[.int .i64 us[k].1.2.1, .int .i64 us[k].1.2.2], fun v' _ => v' = .slice (some ⟨tb, tz, none⟩) ts.length ct, fun v' _ => v' = .int .i64 ((i : Nat)), fun v' _ => v' = .pointer (some ⟨tb, tz + i * 2, none⟩), fun v' _ => v' = .agg #[.int .i64 ts[i].1, .int .i64 ts[i].2], fun v' _ => v' = .bool false, fun v' _ => v' = .bool false]
                (by kernel_rfl) (by kernel_rfl) rfl ⟨stable_pure _, stable_pure _, stable_pure _, stable_pure _, stable_pure _, stable_pure _, stable_pure _, stable_pure _, stable_pure _, stable_pure _, stable_pure _, stable_pure _, stable_pure _, trivial⟩ ?_
              refine wf_stepK [] [] (by kernel_rfl) (by kernel_rfl) (fun wf hb hf => ?_) (fun t0 => ?_)
              · refine ⟨?_⟩
                go_wp2
                exact ⟨rfl, .bool false, by kernel_rfl, Below.refl _ _, rfl⟩
              refine wf_stepK [0] [fun _ => t0 = .bool false] (by kernel_rfl) (by kernel_rfl) (fun wf hb hf => ?_) (fun t1 => ?_)
              · obtain ⟨rfl, -⟩ := hf
                refine ⟨?_⟩
                go_wp2
                exact ⟨rfl, .bool false, by kernel_rfl, Below.refl _ _, rfl⟩
              refine wf_stepK [1] [fun _ => t1 = .bool false] (by kernel_rfl) (by kernel_rfl) (fun wf hb hf => ?_) (fun t2 => ?_)
              · obtain ⟨rfl, -⟩ := hf
                refine WfOp.yes (by kernel_rfl) ?_
                dsimp only
                go_wp2
                exact ⟨rfl, .slice (some ⟨ub, uo, none⟩) us.length cu, by kernel_rfl, Below.refl _ _, rfl⟩
              refine wf_stepK [1] [fun _ => t1 = .bool false] (by kernel_rfl) (by kernel_rfl) (fun wf hb hf => ?_) (fun t3 => ?_)
              · obtain ⟨rfl, -⟩ := hf
                refine WfOp.yes (by kernel_rfl) ?_
                dsimp only
                go_wp2
                exact ⟨rfl, .int .i64 ((k : Nat)), by kernel_rfl, Below.refl _ _, rfl⟩
              refine wf_stepK [1, 2, 3] [fun _ => t1 = .bool false, fun _ => t2 = .slice (some ⟨ub, uo, none⟩) us.length cu, fun _ => t3 = .int .i64 ((k : Nat))] (by kernel_rfl) (by kernel_rfl) (fun wf hb hf => ?_) (fun t4 => ?_)
              · obtain ⟨rfl, rfl, rfl, -⟩ := hf
                refine WfOp.yes (by kernel_rfl) ?_
                dsimp only
                go_wp2
                exact ⟨rfl, .pointer (some ⟨ub, uo + k * 4, none⟩), by kernel_rfl, Below.refl _ _, rfl⟩
              refine wf_stepK [1, 4] [fun _ => t1 = .bool false, fun _ => t4 = .pointer (some ⟨ub, uo + k * 4, none⟩)] (by kernel_rfl) (by kernel_rfl) (fun wf hb hf => ?_) (fun t5 => ?_)
              · obtain ⟨rfl, rfl, -⟩ := hf
                refine WfOp.yes (by kernel_rfl) ?_
                dsimp only
                go_wp2
                exact ⟨rfl, .pointer (some ⟨ub, uo + k * 4 + 1, none⟩), by kernel_rfl, Below.refl _ _, rfl⟩
              refine wf_stepK [1, 5] [fun _ => t1 = .bool false, fun _ => t5 = .pointer (some ⟨ub, uo + k * 4 + 1, none⟩)] (by kernel_rfl) (by kernel_rfl) (fun wf hb hf => ?_) (fun t6 => ?_)
              · obtain ⟨rfl, rfl, -⟩ := hf
                refine WfOp.yes (by kernel_rfl) ?_
                dsimp only
                have p0 := (hb.cell (p := ⟨ub, uo + k * 4 + 1, none⟩) hub).trans u1
                have p1 := (hb.cell (p := ⟨ub, uo + k * 4 + 2, none⟩) hub).trans u2
                go_wp2
                exact ⟨rfl, .agg #[.int .i64 us[k].1.2.1, .int .i64 us[k].1.2.2], by kernel_rfl, Below.refl _ _, rfl⟩
              refine wf_stepK [1] [fun _ => t1 = .bool false] (by kernel_rfl) (by kernel_rfl) (fun wf hb hf => ?_) (fun t7 => ?_)
              · obtain ⟨rfl, -⟩ := hf
                refine WfOp.yes (by kernel_rfl) ?_
                dsimp only
                go_wp2
                exact ⟨rfl, .slice (some ⟨tb, tz, none⟩) ts.length ct, by kernel_rfl, Below.refl _ _, rfl⟩
              refine wf_stepK [1] [fun _ => t1 = .bool false] (by kernel_rfl) (by kernel_rfl) (fun wf hb hf => ?_) (fun t8 => ?_)
              · obtain ⟨rfl, -⟩ := hf
                refine WfOp.yes (by kernel_rfl) ?_
                dsimp only
                go_wp2
                exact ⟨rfl, .int .i64 ((i : Nat)), by kernel_rfl, Below.refl _ _, rfl⟩
              refine wf_stepK [1, 7, 8] [fun _ => t1 = .bool false, fun _ => t7 = .slice (some ⟨tb, tz, none⟩) ts.length ct, fun _ => t8 = .int .i64 ((i : Nat))] (by kernel_rfl) (by kernel_rfl) (fun wf hb hf => ?_) (fun t9 => ?_)
              · obtain ⟨rfl, rfl, rfl, -⟩ := hf
                refine WfOp.yes (by kernel_rfl) ?_
                dsimp only
                go_wp2
                exact ⟨rfl, .pointer (some ⟨tb, tz + i * 2, none⟩), by kernel_rfl, Below.refl _ _, rfl⟩
              refine wf_stepK [1, 9] [fun _ => t1 = .bool false, fun _ => t9 = .pointer (some ⟨tb, tz + i * 2, none⟩)] (by kernel_rfl) (by kernel_rfl) (fun wf hb hf => ?_) (fun t10 => ?_)
              · obtain ⟨rfl, rfl, -⟩ := hf
                refine WfOp.yes (by kernel_rfl) ?_
                dsimp only
                have p0 := (hb.cell (p := ⟨tb, tz + i * 2, none⟩) htb).trans z1
                have p1 := (hb.cell (p := ⟨tb, tz + i * 2 + 1, none⟩) htb).trans z2
                go_wp2
                exact ⟨rfl, .agg #[.int .i64 ts[i].1, .int .i64 ts[i].2], by kernel_rfl, Below.refl _ _, rfl⟩
              refine wf_stepK [1, 6, 10] [fun _ => t1 = .bool false, fun _ => t6 = .agg #[.int .i64 us[k].1.2.1, .int .i64 us[k].1.2.2], fun _ => t10 = .agg #[.int .i64 ts[i].1, .int .i64 ts[i].2]] (by kernel_rfl) (by kernel_rfl) (fun wf hb hf => ?_) (fun t11 => ?_)
              · obtain ⟨rfl, rfl, rfl, -⟩ := hf
                refine WfOp.yes (by kernel_rfl) ?_
                dsimp only
                go_wp2
                exact ⟨rfl, .bool false, by kernel_rfl, Below.refl _ _, rfl⟩
              refine wf_stepK [1, 11] [fun _ => t1 = .bool false, fun _ => t11 = .bool false] (by kernel_rfl) (by kernel_rfl) (fun wf hb hf => ?_) (fun t12 => ?_)
              · obtain ⟨rfl, rfl, -⟩ := hf
                refine ⟨?_⟩
                go_wp2
                exact ⟨rfl, .bool false, by kernel_rfl, Below.refl _ _, rfl⟩
              refine wf_doneK [12] [fun _ => t12 = .bool false] (by kernel_rfl) (by kernel_rfl) (fun w50 b50 hf => ?_)
              obtain ⟨rfl, -⟩ := hf
              show wpList _ _ _ [_] _ _
              refine wpList_frame (by simp [Act.put]; rfl) ?_
              go_wp2
              go_roundw
              case rel => exact ⟨k + 1, by omega, by go_num, by rw [HST.out]; simp, btr hbv b50⟩
              case measure => simp [intOf]; omega
            · rw [hz] at hst
              have heq := timeIn_b (a := us[k].1.2) (b := ts[i]) (r := true) hz
              have HST := Lib.hid hst
              clear hst hs hz
              go_wp2_with fail
              refine wp_region_facts [[], [0], [0, 1], [0, 1], List.range 4, List.range 5, List.range 6, [0, 1], [0, 1], [0, 1, 7, 8], [0, 1, 7, 8, 9], List.range 11, List.range 12]
                [fun v' _ => v' = .bool false, fun v' _ => v' = .bool false, fun v' _ => v' = .slice (some ⟨ub, uo, none⟩) us.length cu, fun v' _ => v' = .int .i64 ((k : Nat)), fun v' _ => v' = .pointer (some ⟨ub, uo + k * 4, none⟩), fun v' _ => v' = .pointer (some ⟨ub, uo + k * 4 + 1, none⟩), fun v' _ => v' = .agg #[.int .i64 us[k].1.2.1, .int .i64 us[k].1.2.2], fun v' _ => v' = .slice (some ⟨tb, tz, none⟩) ts.length ct, fun v' _ => v' = .int .i64 ((i : Nat)), fun v' _ => v' = .pointer (some ⟨tb, tz + i * 2, none⟩), fun v' _ => v' = .agg #[.int .i64 ts[i].1, .int .i64 ts[i].2], fun v' _ => v' = .bool true, fun v' _ => v' = .bool true]
                (by kernel_rfl) (by kernel_rfl) rfl ⟨stable_pure _, stable_pure _, stable_pure _, stable_pure _, stable_pure _, stable_pure _, stable_pure _, stable_pure _, stable_pure _, stable_pure _, stable_pure _, stable_pure _, stable_pure _, trivial⟩ ?_
              refine wf_stepK [] [] (by kernel_rfl) (by kernel_rfl) (fun wf hb hf => ?_) (fun t0 => ?_)
              · refine ⟨?_⟩
                go_wp2
                exact ⟨rfl, .bool false, by kernel_rfl, Below.refl _ _, rfl⟩
              refine wf_stepK [0] [fun _ => t0 = .bool false] (by kernel_rfl) (by kernel_rfl) (fun wf hb hf => ?_) (fun t1 => ?_)
              · obtain ⟨rfl, -⟩ := hf
                refine ⟨?_⟩
                go_wp2
                exact ⟨rfl, .bool false, by kernel_rfl, Below.refl _ _, rfl⟩
              refine wf_stepK [1] [fun _ => t1 = .bool false] (by kernel_rfl) (by kernel_rfl) (fun wf hb hf => ?_) (fun t2 => ?_)
              · obtain ⟨rfl, -⟩ := hf
                refine WfOp.yes (by kernel_rfl) ?_
                dsimp only
                go_wp2
                exact ⟨rfl, .slice (some ⟨ub, uo, none⟩) us.length cu, by kernel_rfl, Below.refl _ _, rfl⟩
              refine wf_stepK [1] [fun _ => t1 = .bool false] (by kernel_rfl) (by kernel_rfl) (fun wf hb hf => ?_) (fun t3 => ?_)
              · obtain ⟨rfl, -⟩ := hf
                refine WfOp.yes (by kernel_rfl) ?_
                dsimp only
                go_wp2
                exact ⟨rfl, .int .i64 ((k : Nat)), by kernel_rfl, Below.refl _ _, rfl⟩
              refine wf_stepK [1, 2, 3] [fun _ => t1 = .bool false, fun _ => t2 = .slice (some ⟨ub, uo, none⟩) us.length cu, fun _ => t3 = .int .i64 ((k : Nat))] (by kernel_rfl) (by kernel_rfl) (fun wf hb hf => ?_) (fun t4 => ?_)
              · obtain ⟨rfl, rfl, rfl, -⟩ := hf
                refine WfOp.yes (by kernel_rfl) ?_
                dsimp only
                go_wp2
                exact ⟨rfl, .pointer (some ⟨ub, uo + k * 4, none⟩), by kernel_rfl, Below.refl _ _, rfl⟩
              refine wf_stepK [1, 4] [fun _ => t1 = .bool false, fun _ => t4 = .pointer (some ⟨ub, uo + k * 4, none⟩)] (by kernel_rfl) (by kernel_rfl) (fun wf hb hf => ?_) (fun t5 => ?_)
              · obtain ⟨rfl, rfl, -⟩ := hf
                refine WfOp.yes (by kernel_rfl) ?_
                dsimp only
                go_wp2
                exact ⟨rfl, .pointer (some ⟨ub, uo + k * 4 + 1, none⟩), by kernel_rfl, Below.refl _ _, rfl⟩
              refine wf_stepK [1, 5] [fun _ => t1 = .bool false, fun _ => t5 = .pointer (some ⟨ub, uo + k * 4 + 1, none⟩)] (by kernel_rfl) (by kernel_rfl) (fun wf hb hf => ?_) (fun t6 => ?_)
              · obtain ⟨rfl, rfl, -⟩ := hf
                refine WfOp.yes (by kernel_rfl) ?_
                dsimp only
                have p0 := (hb.cell (p := ⟨ub, uo + k * 4 + 1, none⟩) hub).trans u1
                have p1 := (hb.cell (p := ⟨ub, uo + k * 4 + 2, none⟩) hub).trans u2
                go_wp2
                exact ⟨rfl, .agg #[.int .i64 us[k].1.2.1, .int .i64 us[k].1.2.2], by kernel_rfl, Below.refl _ _, rfl⟩
              refine wf_stepK [1] [fun _ => t1 = .bool false] (by kernel_rfl) (by kernel_rfl) (fun wf hb hf => ?_) (fun t7 => ?_)
              · obtain ⟨rfl, -⟩ := hf
                refine WfOp.yes (by kernel_rfl) ?_
                dsimp only
                go_wp2
                exact ⟨rfl, .slice (some ⟨tb, tz, none⟩) ts.length ct, by kernel_rfl, Below.refl _ _, rfl⟩
              refine wf_stepK [1] [fun _ => t1 = .bool false] (by kernel_rfl) (by kernel_rfl) (fun wf hb hf => ?_) (fun t8 => ?_)
              · obtain ⟨rfl, -⟩ := hf
                refine WfOp.yes (by kernel_rfl) ?_
                dsimp only
                go_wp2
                exact ⟨rfl, .int .i64 ((i : Nat)), by kernel_rfl, Below.refl _ _, rfl⟩
              refine wf_stepK [1, 7, 8] [fun _ => t1 = .bool false, fun _ => t7 = .slice (some ⟨tb, tz, none⟩) ts.length ct, fun _ => t8 = .int .i64 ((i : Nat))] (by kernel_rfl) (by kernel_rfl) (fun wf hb hf => ?_) (fun t9 => ?_)
              · obtain ⟨rfl, rfl, rfl, -⟩ := hf
                refine WfOp.yes (by kernel_rfl) ?_
                dsimp only
                go_wp2
                exact ⟨rfl, .pointer (some ⟨tb, tz + i * 2, none⟩), by kernel_rfl, Below.refl _ _, rfl⟩
              refine wf_stepK [1, 9] [fun _ => t1 = .bool false, fun _ => t9 = .pointer (some ⟨tb, tz + i * 2, none⟩)] (by kernel_rfl) (by kernel_rfl) (fun wf hb hf => ?_) (fun t10 => ?_)
              · obtain ⟨rfl, rfl, -⟩ := hf
                refine WfOp.yes (by kernel_rfl) ?_
                dsimp only
                have p0 := (hb.cell (p := ⟨tb, tz + i * 2, none⟩) htb).trans z1
                have p1 := (hb.cell (p := ⟨tb, tz + i * 2 + 1, none⟩) htb).trans z2
                go_wp2
                exact ⟨rfl, .agg #[.int .i64 ts[i].1, .int .i64 ts[i].2], by kernel_rfl, Below.refl _ _, rfl⟩
              refine wf_stepK [1, 6, 10] [fun _ => t1 = .bool false, fun _ => t6 = .agg #[.int .i64 us[k].1.2.1, .int .i64 us[k].1.2.2], fun _ => t10 = .agg #[.int .i64 ts[i].1, .int .i64 ts[i].2]] (by kernel_rfl) (by kernel_rfl) (fun wf hb hf => ?_) (fun t11 => ?_)
              · obtain ⟨rfl, rfl, rfl, -⟩ := hf
                refine WfOp.yes (by kernel_rfl) ?_
                dsimp only
                go_wp2
                exact ⟨rfl, .bool true, by kernel_rfl, Below.refl _ _, rfl⟩
              refine wf_stepK [1, 11] [fun _ => t1 = .bool false, fun _ => t11 = .bool true] (by kernel_rfl) (by kernel_rfl) (fun wf hb hf => ?_) (fun t12 => ?_)
              · obtain ⟨rfl, rfl, -⟩ := hf
                refine ⟨?_⟩
                go_wp2
                exact ⟨rfl, .bool true, by kernel_rfl, Below.refl _ _, rfl⟩
              refine wf_doneK [12] [fun _ => t12 = .bool true] (by kernel_rfl) (by kernel_rfl) (fun w50 b50 hf => ?_)
              obtain ⟨rfl, -⟩ := hf
              show wpList _ _ _ [_] _ _
              refine wpList_frame (by simp [Act.put]; rfl) ?_
              go_wp2
              go_roundw
              case rel => exact ⟨k + 1, by omega, by go_num, by rw [HST.out]; simp, btr hbv b50⟩
              case measure => simp [intOf]; omega
          · rw [hs] at hst
            have HST := Lib.hid hst
            clear hst hs
            go_wp2_with fail
            refine wp_region_facts [[], [0], [0, 1], [0, 1], List.range 4, List.range 5, List.range 6, [0, 1], [0, 1], [0, 1, 7, 8], [0, 1, 7, 8, 9], List.range 11, List.range 12]
              [fun v' _ => v' = .bool true, fun v' _ => v' = .bool true, fun v' _ => v' = undef, fun v' _ => v' = undef, fun v' _ => v' = undef, fun v' _ => v' = undef, fun v' _ => v' = undef, fun v' _ => v' = undef, fun v' _ => v' = undef, fun v' _ => v' = undef, fun v' _ => v' = undef, fun v' _ => v' = undef, fun v' _ => v' = .bool true]
              (by kernel_rfl) (by kernel_rfl) rfl ⟨stable_pure _, stable_pure _, stable_pure _, stable_pure _, stable_pure _, stable_pure _, stable_pure _, stable_pure _, stable_pure _, stable_pure _, stable_pure _, stable_pure _, stable_pure _, trivial⟩ ?_
            refine wf_stepK [] [] (by kernel_rfl) (by kernel_rfl) (fun wf hb hf => ?_) (fun t0 => ?_)
            · refine ⟨?_⟩
              go_wp2
              exact ⟨rfl, .bool true, by kernel_rfl, Below.refl _ _, rfl⟩
            refine wf_stepK [0] [fun _ => t0 = .bool true] (by kernel_rfl) (by kernel_rfl) (fun wf hb hf => ?_) (fun t1 => ?_)
            · obtain ⟨rfl, -⟩ := hf
              refine ⟨?_⟩
              go_wp2
              exact ⟨rfl, .bool true, by kernel_rfl, Below.refl _ _, rfl⟩
            refine wf_stepK [1] [fun _ => t1 = .bool true] (by kernel_rfl) (by kernel_rfl) (fun wf hb hf => ?_) (fun t2 => ?_)
            · obtain ⟨rfl, -⟩ := hf
              exact WfOp.no (by kernel_rfl) rfl
            refine wf_stepK [1] [fun _ => t1 = .bool true] (by kernel_rfl) (by kernel_rfl) (fun wf hb hf => ?_) (fun t3 => ?_)
            · obtain ⟨rfl, -⟩ := hf
              exact WfOp.no (by kernel_rfl) rfl
            refine wf_stepK [1, 2, 3] [fun _ => t1 = .bool true, fun _ => t2 = undef, fun _ => t3 = undef] (by kernel_rfl) (by kernel_rfl) (fun wf hb hf => ?_) (fun t4 => ?_)
            · obtain ⟨rfl, rfl, rfl, -⟩ := hf
              exact WfOp.no (by kernel_rfl) rfl
            refine wf_stepK [1, 4] [fun _ => t1 = .bool true, fun _ => t4 = undef] (by kernel_rfl) (by kernel_rfl) (fun wf hb hf => ?_) (fun t5 => ?_)
            · obtain ⟨rfl, rfl, -⟩ := hf
              exact WfOp.no (by kernel_rfl) rfl
            refine wf_stepK [1, 5] [fun _ => t1 = .bool true, fun _ => t5 = undef] (by kernel_rfl) (by kernel_rfl) (fun wf hb hf => ?_) (fun t6 => ?_)
            · obtain ⟨rfl, rfl, -⟩ := hf
              exact WfOp.no (by kernel_rfl) rfl
            refine wf_stepK [1] [fun _ => t1 = .bool true] (by kernel_rfl) (by kernel_rfl) (fun wf hb hf => ?_) (fun t7 => ?_)
            · obtain ⟨rfl, -⟩ := hf
              exact WfOp.no (by kernel_rfl) rfl
            refine wf_stepK [1] [fun _ => t1 = .bool true] (by kernel_rfl) (by kernel_rfl) (fun wf hb hf => ?_) (fun t8 => ?_)
            · obtain ⟨rfl, -⟩ := hf
              exact WfOp.no (by kernel_rfl) rfl
            refine wf_stepK [1, 7, 8] [fun _ => t1 = .bool true, fun _ => t7 = undef, fun _ => t8 = undef] (by kernel_rfl) (by kernel_rfl) (fun wf hb hf => ?_) (fun t9 => ?_)
            · obtain ⟨rfl, rfl, rfl, -⟩ := hf
              exact WfOp.no (by kernel_rfl) rfl
            refine wf_stepK [1, 9] [fun _ => t1 = .bool true, fun _ => t9 = undef] (by kernel_rfl) (by kernel_rfl) (fun wf hb hf => ?_) (fun t10 => ?_)
            · obtain ⟨rfl, rfl, -⟩ := hf
              exact WfOp.no (by kernel_rfl) rfl
            refine wf_stepK [1, 6, 10] [fun _ => t1 = .bool true, fun _ => t6 = undef, fun _ => t10 = undef] (by kernel_rfl) (by kernel_rfl) (fun wf hb hf => ?_) (fun t11 => ?_)
            · obtain ⟨rfl, rfl, rfl, -⟩ := hf
              exact WfOp.no (by kernel_rfl) rfl
            refine wf_stepK [1, 11] [fun _ => t1 = .bool true, fun _ => t11 = undef] (by kernel_rfl) (by kernel_rfl) (fun wf hb hf => ?_) (fun t12 => ?_)
            · obtain ⟨rfl, rfl, -⟩ := hf
              refine ⟨?_⟩
              go_wp2
              exact ⟨rfl, .bool true, by kernel_rfl, Below.refl _ _, rfl⟩
            refine wf_doneK [12] [fun _ => t12 = .bool true] (by kernel_rfl) (by kernel_rfl) (fun w50 b50 hf => ?_)
            obtain ⟨rfl, -⟩ := hf
            show wpList _ _ _ [_] _ _
            refine wpList_frame (by simp [Act.put]; rfl) ?_
            go_wp2
            go_roundw
            case rel => exact ⟨k + 1, by omega, by go_num, by rw [HST.out]; simp, btr hbv b50⟩
            case measure => simp [intOf]; omega
        · obtain rfl : k = us.length := by omega
          have hin : decide (ts[i] ∈ (uTm us).take us.length) = true := by
            rw [show us.length = (uTm us).length by simp [uTm], List.take_length, decide_eq_true_iff]
            exact (HM.out _).1 (List.getElem_mem hil)
          rw [hin]
          clear hin
          have htb : tb < wr.heap.size := Nat.lt_of_lt_of_le htb0 hbv.size
          have z1 := (hbv.cell (p := ⟨tb, tz + i * 2, none⟩) htb0).trans ku1
          have z2 := (hbv.cell (p := ⟨tb, tz + i * 2 + 1, none⟩) htb0).trans ku2
          by_cases hi0 : (0 : Int) < (i : Int)
          · have HI0 : Hid (0 < i) := by rw [Hid]; omega
            clear hi0
            have hI0 : 0 < i := HI0.out
            have hi1 : i - 1 < ts.length := by omega
            have hbf := fun W => TBFm (srt_get HS.out HI0.out hil) W
            have y1 := (HCT.out (i - 1) (by omega)).1
            have y2 := (HCT.out (i - 1) (by omega)).2
            rw [getD_lt _ hi1] at y1 y2
            have s1 := (hbv.cell (p := ⟨tb, tz + (i - 1) * 2, none⟩) htb0).trans y1
            have s2 := (hbv.cell (p := ⟨tb, tz + (i - 1) * 2 + 1, none⟩) htb0).trans y2
            have HSUB : Hid (((i - 1 : Nat) : Int) = (i : Int) - 1) := by rw [Hid]; omega
            have hdI : ((i - 1 : Nat) : Int) < ts.length := by omega
            clear y1 y2
            clear hI0
            go_wp2_with fail
            refine wp_region_facts [[], [0], [0, 1], [0, 1, 2], List.range 4, List.range 5, List.range 6, List.range 6, [0, 1, 2, 3, 4, 5, 7], List.range 9, List.range 10, List.range 6, List.range 6, [0, 1, 2, 3, 4, 5, 11, 12], [0, 1, 2, 3, 4, 5, 11, 12, 13], List.range 15, List.range 16, List.range 17]
              [fun v' _ => v' = .bool true, fun v' _ => v' = .bool false, fun v' _ => v' = .bool false, fun v' _ => v' = .int .i64 ((i : Nat)), fun v' _ => v' = .bool true, fun v' _ => v' = .bool true, fun v' _ => v' = .slice (some ⟨tb, tz, none⟩) ts.length ct, fun v' _ => v' = .int .i64 ((i : Nat)), fun v' _ => v' = .int .i64 ((i - 1 : Nat) : Int), fun v' _ => v' = .pointer (some ⟨tb, tz + (i - 1) * 2, none⟩), fun v' _ => v' = .agg #[.int .i64 ts[i - 1].1, .int .i64 ts[i - 1].2], fun v' _ => v' = .slice (some ⟨tb, tz, none⟩) ts.length ct, fun v' _ => v' = .int .i64 ((i : Nat)), fun v' _ => v' = .pointer (some ⟨tb, tz + i * 2, none⟩), fun v' _ => v' = .agg #[.int .i64 ts[i].1, .int .i64 ts[i].2], fun v' _ => v' = .bool true, fun v' _ => v' = .bool false, fun v' _ => v' = .bool false]
              (by kernel_rfl) (by kernel_rfl) rfl ⟨stable_pure _, stable_pure _, stable_pure _, stable_pure _, stable_pure _, stable_pure _, stable_pure _, stable_pure _, stable_pure _, stable_pure _, stable_pure _, stable_pure _, stable_pure _, stable_pure _, stable_pure _, stable_pure _, stable_pure _, stable_pure _, trivial⟩ ?_
            refine wf_stepK [] [] (by kernel_rfl) (by kernel_rfl) (fun wf hb hf => ?_) (fun t0 => ?_)
            · refine ⟨?_⟩
              go_wp2
              exact ⟨rfl, .bool true, by kernel_rfl, Below.refl _ _, rfl⟩
            refine wf_stepK [0] [fun _ => t0 = .bool true] (by kernel_rfl) (by kernel_rfl) (fun wf hb hf => ?_) (fun t1 => ?_)
            · obtain ⟨rfl, -⟩ := hf
              refine ⟨?_⟩
              go_wp2
              exact ⟨rfl, .bool false, by kernel_rfl, Below.refl _ _, rfl⟩
            refine wf_stepK [1] [fun _ => t1 = .bool false] (by kernel_rfl) (by kernel_rfl) (fun wf hb hf => ?_) (fun t2 => ?_)
            · obtain ⟨rfl, -⟩ := hf
              refine ⟨?_⟩
              go_wp2
              exact ⟨rfl, .bool false, by kernel_rfl, Below.refl _ _, rfl⟩
            refine wf_stepK [2] [fun _ => t2 = .bool false] (by kernel_rfl) (by kernel_rfl) (fun wf hb hf => ?_) (fun t3 => ?_)
            · obtain ⟨rfl, -⟩ := hf
              refine WfOp.yes (by kernel_rfl) ?_
              dsimp only
              go_wp2
              exact ⟨rfl, .int .i64 ((i : Nat)), by kernel_rfl, Below.refl _ _, rfl⟩
            refine wf_stepK [2, 3] [fun _ => t2 = .bool false, fun _ => t3 = .int .i64 ((i : Nat))] (by kernel_rfl) (by kernel_rfl) (fun wf hb hf => ?_) (fun t4 => ?_)
            · obtain ⟨rfl, rfl, -⟩ := hf
              refine WfOp.yes (by kernel_rfl) ?_
              dsimp only
              go_wp2
              exact ⟨rfl, .bool (decide (0 < i)), by kernel_rfl, Below.refl _ _, congrArg Value.bool (decide_eq_true HI0.out)⟩
            refine wf_stepK [2, 4] [fun _ => t2 = .bool false, fun _ => t4 = .bool true] (by kernel_rfl) (by kernel_rfl) (fun wf hb hf => ?_) (fun t5 => ?_)
            · obtain ⟨rfl, rfl, -⟩ := hf
              refine WfOp.yes (by kernel_rfl) ?_
              dsimp only
              go_wp2
              exact ⟨rfl, .bool true, by kernel_rfl, Below.refl _ _, rfl⟩
            refine wf_stepK [5] [fun _ => t5 = .bool true] (by kernel_rfl) (by kernel_rfl) (fun wf hb hf => ?_) (fun t6 => ?_)
            · obtain ⟨rfl, -⟩ := hf
              refine WfOp.yes (by kernel_rfl) ?_
              dsimp only
              go_wp2
              exact ⟨rfl, .slice (some ⟨tb, tz, none⟩) ts.length ct, by kernel_rfl, Below.refl _ _, rfl⟩
            refine wf_stepK [5] [fun _ => t5 = .bool true] (by kernel_rfl) (by kernel_rfl) (fun wf hb hf => ?_) (fun t7 => ?_)
            · obtain ⟨rfl, -⟩ := hf
              refine WfOp.yes (by kernel_rfl) ?_
              dsimp only
              go_wp2
              exact ⟨rfl, .int .i64 ((i : Nat)), by kernel_rfl, Below.refl _ _, rfl⟩
            refine wf_stepK [5, 7] [fun _ => t5 = .bool true, fun _ => t7 = .int .i64 ((i : Nat))] (by kernel_rfl) (by kernel_rfl) (fun wf hb hf => ?_) (fun t8 => ?_)
            · obtain ⟨rfl, rfl, -⟩ := hf
              refine WfOp.yes (by kernel_rfl) ?_
              dsimp only
              go_wp2
              exact ⟨rfl, .int .i64 ((i - 1 : Nat) : Int), by rw [HSUB.out]; kernel_rfl, Below.refl _ _, rfl⟩
            refine wf_stepK [5, 6, 8] [fun _ => t5 = .bool true, fun _ => t6 = .slice (some ⟨tb, tz, none⟩) ts.length ct, fun _ => t8 = .int .i64 ((i - 1 : Nat) : Int)] (by kernel_rfl) (by kernel_rfl) (fun wf hb hf => ?_) (fun t9 => ?_)
            · obtain ⟨rfl, rfl, rfl, -⟩ := hf
              refine WfOp.yes (by kernel_rfl) ?_
              dsimp only
              go_wp2
              exact ⟨rfl, .pointer (some ⟨tb, tz + (i - 1) * 2, none⟩), by kernel_rfl, Below.refl _ _, rfl⟩
            refine wf_stepK [5, 9] [fun _ => t5 = .bool true, fun _ => t9 = .pointer (some ⟨tb, tz + (i - 1) * 2, none⟩)] (by kernel_rfl) (by kernel_rfl) (fun wf hb hf => ?_) (fun t10 => ?_)
            · obtain ⟨rfl, rfl, -⟩ := hf
              refine WfOp.yes (by kernel_rfl) ?_
              dsimp only
              have p0 := (hb.cell (p := ⟨tb, tz + (i - 1) * 2, none⟩) htb).trans s1
              have p1 := (hb.cell (p := ⟨tb, tz + (i - 1) * 2 + 1, none⟩) htb).trans s2
              go_wp2
              exact ⟨rfl, .agg #[.int .i64 ts[i - 1].1, .int .i64 ts[i - 1].2], by kernel_rfl, Below.refl _ _, rfl⟩
            refine wf_stepK [5] [fun _ => t5 = .bool true] (by kernel_rfl) (by kernel_rfl) (fun wf hb hf => ?_) (fun t11 => ?_)
            · obtain ⟨rfl, -⟩ := hf
              refine WfOp.yes (by kernel_rfl) ?_
              dsimp only
              go_wp2
              exact ⟨rfl, .slice (some ⟨tb, tz, none⟩) ts.length ct, by kernel_rfl, Below.refl _ _, rfl⟩
            refine wf_stepK [5] [fun _ => t5 = .bool true] (by kernel_rfl) (by kernel_rfl) (fun wf hb hf => ?_) (fun t12 => ?_)
            · obtain ⟨rfl, -⟩ := hf
              refine WfOp.yes (by kernel_rfl) ?_
              dsimp only
              go_wp2
              exact ⟨rfl, .int .i64 ((i : Nat)), by kernel_rfl, Below.refl _ _, rfl⟩
            refine wf_stepK [5, 11, 12] [fun _ => t5 = .bool true, fun _ => t11 = .slice (some ⟨tb, tz, none⟩) ts.length ct, fun _ => t12 = .int .i64 ((i : Nat))] (by kernel_rfl) (by kernel_rfl) (fun wf hb hf => ?_) (fun t13 => ?_)
            · obtain ⟨rfl, rfl, rfl, -⟩ := hf
              refine WfOp.yes (by kernel_rfl) ?_
              dsimp only
              go_wp2
              exact ⟨rfl, .pointer (some ⟨tb, tz + i * 2, none⟩), by kernel_rfl, Below.refl _ _, rfl⟩
            refine wf_stepK [5, 13] [fun _ => t5 = .bool true, fun _ => t13 = .pointer (some ⟨tb, tz + i * 2, none⟩)] (by kernel_rfl) (by kernel_rfl) (fun wf hb hf => ?_) (fun t14 => ?_)
            · obtain ⟨rfl, rfl, -⟩ := hf
              refine WfOp.yes (by kernel_rfl) ?_
              dsimp only
              have p0 := (hb.cell (p := ⟨tb, tz + i * 2, none⟩) htb).trans z1
              have p1 := (hb.cell (p := ⟨tb, tz + i * 2 + 1, none⟩) htb).trans z2
              go_wp2
              exact ⟨rfl, .agg #[.int .i64 ts[i].1, .int .i64 ts[i].2], by kernel_rfl, Below.refl _ _, rfl⟩
            refine wf_stepK [5, 10, 14] [fun _ => t5 = .bool true, fun _ => t10 = .agg #[.int .i64 ts[i - 1].1, .int .i64 ts[i - 1].2], fun _ => t14 = .agg #[.int .i64 ts[i].1, .int .i64 ts[i].2]] (by kernel_rfl) (by kernel_rfl) (fun wf hb hf => ?_) (fun t15 => ?_)
            · obtain ⟨rfl, rfl, rfl, -⟩ := hf
              refine WfOp.yes (by kernel_rfl) ?_
              dsimp only
              go_wp2_with (go_at_call 36; refine (hbf _).mono ?_; rintro e w2 ⟨rfl, hb2⟩)
              exact ⟨rfl, .bool true, by kernel_rfl, hb2, rfl⟩
            refine wf_stepK [5, 15] [fun _ => t5 = .bool true, fun _ => t15 = .bool true] (by kernel_rfl) (by kernel_rfl) (fun wf hb hf => ?_) (fun t16 => ?_)
            · obtain ⟨rfl, rfl, -⟩ := hf
              refine WfOp.yes (by kernel_rfl) ?_
              dsimp only
              go_wp2
              exact ⟨rfl, .bool false, by kernel_rfl, Below.refl _ _, rfl⟩
            refine wf_stepK [2, 5, 16] [fun _ => t2 = .bool false, fun _ => t5 = .bool true, fun _ => t16 = .bool false] (by kernel_rfl) (by kernel_rfl) (fun wf hb hf => ?_) (fun t17 => ?_)
            · obtain ⟨rfl, rfl, rfl, -⟩ := hf
              refine WfOp.yes (by kernel_rfl) ?_
              dsimp only
              go_wp2
              exact ⟨rfl, .bool false, by kernel_rfl, Below.refl _ _, rfl⟩
            refine wf_doneK [2, 17] [fun _ => t2 = .bool false, fun _ => t17 = .bool false] (by kernel_rfl) (by kernel_rfl) (fun w60 b60 hf => ?_)
            obtain ⟨rfl, rfl, -⟩ := hf
            show wpList _ _ _ [_] _ _
            refine wpList_frame (by simp [Act.put]; rfl) ?_
            go_wp2
            go_roundw
            case rel => exact ⟨i + 1, by omega, by go_num, btr HBL.out (btr hbv b60)⟩
            case measure => simp [intOf]; omega
          · have HI0 : Hid (¬ 0 < i) := by rw [Hid]; omega
            clear hi0
            go_wp2_with fail
            refine wp_region_facts [[], [0], [0, 1], [0, 1, 2], List.range 4, List.range 5, List.range 6, List.range 6, [0, 1, 2, 3, 4, 5, 7], List.range 9, List.range 10, List.range 6, List.range 6, [0, 1, 2, 3, 4, 5, 11, 12], [0, 1, 2, 3, 4, 5, 11, 12, 13], List.range 15, List.range 16, List.range 17]
              [fun v' _ => v' = .bool true, fun v' _ => v' = .bool false, fun v' _ => v' = .bool false, fun v' _ => v' = .int .i64 ((i : Nat)), fun v' _ => v' = .bool false, fun v' _ => v' = .bool false, fun v' _ => v' = undef, fun v' _ => v' = undef, fun v' _ => v' = undef, fun v' _ => v' = undef, fun v' _ => v' = undef, fun v' _ => v' = undef, fun v' _ => v' = undef, fun v' _ => v' = undef, fun v' _ => v' = undef, fun v' _ => v' = undef, fun v' _ => v' = undef, fun v' _ => v' = .bool false]
              (by kernel_rfl) (by kernel_rfl) rfl ⟨stable_pure _, stable_pure _, stable_pure _, stable_pure _, stable_pure _, stable_pure _, stable_pure _, stable_pure _, stable_pure _, stable_pure _, stable_pure _, stable_pure _, stable_pure _, stable_pure _, stable_pure _, stable_pure _, stable_pure _, stable_pure _, trivial⟩ ?_
            refine wf_stepK [] [] (by kernel_rfl) (by kernel_rfl) (fun wf hb hf => ?_) (fun t0 => ?_)
            · refine ⟨?_⟩
              go_wp2
              exact ⟨rfl, .bool true, by kernel_rfl, Below.refl _ _, rfl⟩
            refine wf_stepK [0] [fun _ => t0 = .bool true] (by kernel_rfl) (by kernel_rfl) (fun wf hb hf => ?_) (fun t1 => ?_)
            · obtain ⟨rfl, -⟩ := hf
              refine ⟨?_⟩
              go_wp2
              exact ⟨rfl, .bool false, by kernel_rfl, Below.refl _ _, rfl⟩
            refine wf_stepK [1] [fun _ => t1 = .bool false] (by kernel_rfl) (by kernel_rfl) (fun wf hb hf => ?_) (fun t2 => ?_)
            · obtain ⟨rfl, -⟩ := hf
              refine ⟨?_⟩
              go_wp2
              exact ⟨rfl, .bool false, by kernel_rfl, Below.refl _ _, rfl⟩
            refine wf_stepK [2] [fun _ => t2 = .bool false] (by kernel_rfl) (by kernel_rfl) (fun wf hb hf => ?_) (fun t3 => ?_)
            · obtain ⟨rfl, -⟩ := hf
              refine WfOp.yes (by kernel_rfl) ?_
              dsimp only
              go_wp2
              exact ⟨rfl, .int .i64 ((i : Nat)), by kernel_rfl, Below.refl _ _, rfl⟩
            refine wf_stepK [2, 3] [fun _ => t2 = .bool false, fun _ => t3 = .int .i64 ((i : Nat))] (by kernel_rfl) (by kernel_rfl) (fun wf hb hf => ?_) (fun t4 => ?_)
            · obtain ⟨rfl, rfl, -⟩ := hf
              refine WfOp.yes (by kernel_rfl) ?_
              dsimp only
              go_wp2
              exact ⟨rfl, .bool (decide (0 < i)), by kernel_rfl, Below.refl _ _, congrArg Value.bool (decide_eq_false HI0.out)⟩
            refine wf_stepK [2, 4] [fun _ => t2 = .bool false, fun _ => t4 = .bool false] (by kernel_rfl) (by kernel_rfl) (fun wf hb hf => ?_) (fun t5 => ?_)
            · obtain ⟨rfl, rfl, -⟩ := hf
              refine WfOp.yes (by kernel_rfl) ?_
              dsimp only
              go_wp2
              exact ⟨rfl, .bool false, by kernel_rfl, Below.refl _ _, rfl⟩
            refine wf_stepK [5] [fun _ => t5 = .bool false] (by kernel_rfl) (by kernel_rfl) (fun wf hb hf => ?_) (fun t6 => ?_)
            · obtain ⟨rfl, -⟩ := hf
              exact WfOp.no (by kernel_rfl) rfl
            refine wf_stepK [5] [fun _ => t5 = .bool false] (by kernel_rfl) (by kernel_rfl) (fun wf hb hf => ?_) (fun t7 => ?_)
            · obtain ⟨rfl, -⟩ := hf
              exact WfOp.no (by kernel_rfl) rfl
            refine wf_stepK [5, 7] [fun _ => t5 = .bool false, fun _ => t7 = undef] (by kernel_rfl) (by kernel_rfl) (fun wf hb hf => ?_) (fun t8 => ?_)
            · obtain ⟨rfl, rfl, -⟩ := hf
              exact WfOp.no (by kernel_rfl) rfl
            refine wf_stepK [5, 6, 8] [fun _ => t5 = .bool false, fun _ => t6 = undef, fun _ => t8 = undef] (by kernel_rfl) (by kernel_rfl) (fun wf hb hf => ?_) (fun t9 => ?_)
            · obtain ⟨rfl, rfl, rfl, -⟩ := hf
              exact WfOp.no (by kernel_rfl) rfl
            refine wf_stepK [5, 9] [fun _ => t5 = .bool false, fun _ => t9 = undef] (by kernel_rfl) (by kernel_rfl) (fun wf hb hf => ?_) (fun t10 => ?_)
            · obtain ⟨rfl, rfl, -⟩ := hf
              exact WfOp.no (by kernel_rfl) rfl
            refine wf_stepK [5] [fun _ => t5 = .bool false] (by kernel_rfl) (by kernel_rfl) (fun wf hb hf => ?_) (fun t11 => ?_)
            · obtain ⟨rfl, -⟩ := hf
              exact WfOp.no (by kernel_rfl) rfl
            refine wf_stepK [5] [fun _ => t5 = .bool false] (by kernel_rfl) (by kernel_rfl) (fun wf hb hf => ?_) (fun t12 => ?_)
            · obtain ⟨rfl, -⟩ := hf
              exact WfOp.no (by kernel_rfl) rfl
            refine wf_stepK [5, 11, 12] [fun _ => t5 = .bool false, fun _ => t11 = undef, fun _ => t12 = undef] (by kernel_rfl) (by kernel_rfl) (fun wf hb hf => ?_) (fun t13 => ?_)
            · obtain ⟨rfl, rfl, rfl, -⟩ := hf
              exact WfOp.no (by kernel_rfl) rfl
            refine wf_stepK [5, 13] [fun _ => t5 = .bool false, fun _ => t13 = undef] (by kernel_rfl) (by kernel_rfl) (fun wf hb hf => ?_) (fun t14 => ?_)
            · obtain ⟨rfl, rfl, -⟩ := hf
              exact WfOp.no (by kernel_rfl) rfl
            refine wf_stepK [5, 10, 14] [fun _ => t5 = .bool false, fun _ => t10 = undef, fun _ => t14 = undef] (by kernel_rfl) (by kernel_rfl) (fun wf hb hf => ?_) (fun t15 => ?_)
            · obtain ⟨rfl, rfl, rfl, -⟩ := hf
              exact WfOp.no (by kernel_rfl) rfl
            refine wf_stepK [5, 15] [fun _ => t5 = .bool false, fun _ => t15 = undef] (by kernel_rfl) (by kernel_rfl) (fun wf hb hf => ?_) (fun t16 => ?_)
            · obtain ⟨rfl, rfl, -⟩ := hf
              exact WfOp.no (by kernel_rfl) rfl
            refine wf_stepK [2, 5, 16] [fun _ => t2 = .bool false, fun _ => t5 = .bool false, fun _ => t16 = undef] (by kernel_rfl) (by kernel_rfl) (fun wf hb hf => ?_) (fun t17 => ?_)
            · obtain ⟨rfl, rfl, rfl, -⟩ := hf
              refine WfOp.yes (by kernel_rfl) ?_
              dsimp only
              go_wp2
              exact ⟨rfl, .bool false, by kernel_rfl, Below.refl _ _, rfl⟩
            refine wf_doneK [2, 17] [fun _ => t2 = .bool false, fun _ => t17 = .bool false] (by kernel_rfl) (by kernel_rfl) (fun w60 b60 hf => ?_)
            obtain ⟨rfl, rfl, -⟩ := hf
            show wpList _ _ _ [_] _ _
            refine wpList_frame (by simp [Act.put]; rfl) ?_
            go_wp2
            go_roundw
            case rel => exact ⟨i + 1, by omega, by go_num, btr HBL.out (btr hbv b60)⟩
            case measure => simp [intOf]; omega
    · obtain rfl : i = ts.length := by omega
      obtain ⟨W1, rfl⟩ : ∃ W1 : World, W1 = wr := ⟨_, rfl⟩
      have hu1 := hu0.below updR hbel
      have hl1 := hl0.below hbel
      have B1 := Lib.hid (btr B0.out hbel)
      clear hu0 hl0 B0 hbel
      have hu0 := hu1
      have hl0 := hl1
      clear hu1 hl1
      go_wp2
      go_loopw [8, 9, 10] (fun ov _ _ wr => ∃ k : Nat, k ≤ us.length ∧ ov = .int .i64 k ∧ Below W1.heap.size W1 wr) (fun ov _ _ _ => us.length - (intOf ov).toNat)
      case atStart => exact ⟨0, by omega, rfl, RowKit.Below.refl _ _⟩
      case round =>
        obtain ⟨k, hk, rfl, hbel⟩ := hrel
        by_cases hkl : k < us.length
        · have hoI : (k : Int) < us.length := by omega
          have hpos : 0 < ts.length := List.length_pos_of_mem ((HM.out us[k].1.2).2 (List.mem_map.2 ⟨us[k], List.getElem_mem hkl, rfl⟩))
          obtain ⟨tb, tz, rfl, htb0, hct⟩ := hl0.below hbel hpos
          obtain ⟨ub, uo, _, _, rfl, hub0, -, ku1, ku2, -⟩ := UpdsAt.get (hu0.below updR hbel) k hkl
          have HBL := Lib.hid hbel
          have HCT := Lib.hid hct
          clear hbel hct
          go_wp2
          obtain ⟨V, rfl⟩ : ∃ V : World, V = wr := ⟨_, rfl⟩
          go_loopw [9, 10] (fun s jv wr => ∃ i : Nat, i ≤ ts.length ∧ jv = .int .i64 i ∧ s = .bool (decide (us[k].1.2 ∈ ts.take i)) ∧ Below V.heap.size V wr) (fun _ jv _ => ts.length - (intOf jv).toNat)
          case atStart => exact ⟨0, by omega, rfl, by simp, RowKit.Below.refl _ _⟩
          case round =>
            obtain ⟨i, hi, rfl, rfl, hbv⟩ := hrel
            by_cases hil : i < ts.length
            · have hiI : (i : Int) < ts.length := by omega
              have v1 := ku1
              have v2 := ku2
              have y1 := (HCT.out i hil).1
              have y2 := (HCT.out i hil).2
              rw [getD_lt _ hil] at y1 y2
              have z1 := (hbv.cell (p := ⟨tb, tz + i * 2, none⟩) htb0).trans y1
              have z2 := (hbv.cell (p := ⟨tb, tz + i * 2 + 1, none⟩) htb0).trans y2
              clear y1 y2
              have u1 := (hbv.cell (p := ⟨ub, uo + k * 4 + 1, none⟩) hub0).trans v1
              have u2 := (hbv.cell (p := ⟨ub, uo + k * 4 + 2, none⟩) hub0).trans v2
              have hub : ub < wr.heap.size := Nat.lt_of_lt_of_le hub0 hbv.size
              have htb : tb < wr.heap.size := Nat.lt_of_lt_of_le htb0 hbv.size
              clear v1 v2
              have hst := mem_takeS hil us[k].1.2
              cases hs : decide (us[k].1.2 ∈ ts.take i)
              · rw [hs] at hst
                cases hz : decide (us[k].1.2 = ts[i])
                · rw [hz] at hst
                  have heq := timeIn_b (a := us[k].1.2) (b := ts[i]) (r := false) hz
                  have HST := Lib.hid hst
                  clear hst hs hz
                  go_wp2_with fail
                  refine wp_region_facts [[], [0], [0, 1], [0, 1], List.range 4, List.range 5, List.range 6, [0, 1], [0, 1], [0, 1, 7, 8], [0, 1, 7, 8, 9], List.range 11, List.range 12]
                    [fun v' _ => v' = .bool false, fun v' _ => v' = .bool false, fun v' _ => v' = .slice (some ⟨ub, uo, none⟩) us.length cu, fun v' _ => v' = .int .i64 ((k : Nat)), fun v' _ => v' = .pointer (some ⟨ub, uo + k * 4, none⟩), fun v' _ => v' = .pointer (some ⟨ub, uo + k * 4 + 1, none⟩), fun v' _ => v' = .agg #[.int .i64 us[k].1.2.1, .int .i64 us[k].1.2.2], fun v' _ => v' = .slice (some ⟨tb, tz, none⟩) ts.length ct, fun v' _ => v' = .int .i64 ((i : Nat)), fun v' _ => v' = .pointer (some ⟨tb, tz + i * 2, none⟩), fun v' _ => v' = .agg #[.int .i64 ts[i].1, .int .i64 ts[i].2], fun v' _ => v' = .bool false, fun v' _ => v' = .bool false]
                    (by kernel_rfl) (by kernel_rfl) rfl ⟨stable_pure _, stable_pure _, stable_pure _, stable_pure _, stable_pure _, stable_pure _, stable_pure _, stable_pure _, stable_pure _, stable_pure _, stable_pure _, stable_pure _, stable_pure _, trivial⟩ ?_
                  refine wf_stepK [] [] (by kernel_rfl) (by kernel_rfl) (fun wf hb hf => ?_) (fun t0 => ?_)
                  · refine ⟨?_⟩
                    go_wp2
                    exact ⟨rfl, .bool false, by kernel_rfl, Below.refl _ _, rfl⟩
                  refine wf_stepK [0] [fun _ => t0 = .bool false] (by kernel_rfl) (by kernel_rfl) (fun wf hb hf => ?_) (fun t1 => ?_)
                  · obtain ⟨rfl, -⟩ := hf
                    refine ⟨?_⟩
                    go_wp2
                    exact ⟨rfl, .bool false, by kernel_rfl, Below.refl _ _, rfl⟩
                  refine wf_stepK [1] [fun _ => t1 = .bool false] (by kernel_rfl) (by kernel_rfl) (fun wf hb hf => ?_) (fun t2 => ?_)
                  · obtain ⟨rfl, -⟩ := hf
                    refine WfOp.yes (by kernel_rfl) ?_
                    dsimp only
                    go_wp2
                    exact ⟨rfl, .slice (some ⟨ub, uo, none⟩) us.length cu, by kernel_rfl, Below.refl _ _, rfl⟩
                  refine wf_stepK [1] [fun _ => t1 = .bool false] (by kernel_rfl) (by kernel_rfl) (fun wf hb hf => ?_) (fun t3 => ?_)
                  · obtain ⟨rfl, -⟩ := hf
                    refine WfOp.yes (by kernel_rfl) ?_
                    dsimp only
                    go_wp2
                    exact ⟨rfl, .int .i64 ((k : Nat)), by kernel_rfl, Below.refl _ _, rfl⟩
                  refine wf_stepK [1, 2, 3] [fun _ => t1 = .bool false, fun _ => t2 = .slice (some ⟨ub, uo, none⟩) us.length cu, fun _ => t3 = .int .i64 ((k : Nat))] (by kernel_rfl) (by kernel_rfl) (fun wf hb hf => ?_) (fun t4 => ?_)
                  · obtain ⟨rfl, rfl, rfl, -⟩ := hf
                    refine WfOp.yes (by kernel_rfl) ?_
                    dsimp only
                    go_wp2
                    exact ⟨rfl, .pointer (some ⟨ub, uo + k * 4, none⟩), by kernel_rfl, Below.refl _ _, rfl⟩
                  refine wf_stepK [1, 4] [fun _ => t1 = .bool false, fun _ => t4 = .pointer (some ⟨ub, uo + k * 4, none⟩)] (by kernel_rfl) (by kernel_rfl) (fun wf hb hf => ?_) (fun t5 => ?_)
                  · obtain ⟨rfl, rfl, -⟩ := hf
                    refine WfOp.yes (by kernel_rfl) ?_
                    dsimp only
                    go_wp2
                    exact ⟨rfl, .pointer (some ⟨ub, uo + k * 4 + 1, none⟩), by kernel_rfl, Below.refl _ _, rfl⟩
                  refine wf_stepK [1, 5] [fun _ => t1 = .bool false, fun _ => t5 = .pointer (some ⟨ub, uo + k * 4 + 1, none⟩)] (by kernel_rfl) (by kernel_rfl) (fun wf hb hf => ?_) (fun t6 => ?_)
                  · obtain ⟨rfl, rfl, -⟩ := hf
                    refine WfOp.yes (by kernel_rfl) ?_
                    dsimp only
                    have p0 := (hb.cell (p := ⟨ub, uo + k * 4 + 1, none⟩) hub).trans u1
                    have p1 := (hb.cell (p := ⟨ub, uo + k * 4 + 2, none⟩) hub).trans u2
                    go_wp2
                    exact ⟨rfl, .agg #[.int .i64 us[k].1.2.1, .int .i64 us[k].1.2.2], by kernel_rfl, Below.refl _ _, rfl⟩
                  refine wf_stepK [1] [fun _ => t1 = .bool false] (by kernel_rfl) (by kernel_rfl) (fun wf hb hf => ?_) (fun t7 => ?_)
                  · obtain ⟨rfl, -⟩ := hf
                    refine WfOp.yes (by kernel_rfl) ?_
                    dsimp only
                    go_wp2
                    exact ⟨rfl, .slice (some ⟨tb, tz, none⟩) ts.length ct, by kernel_rfl, Below.refl _ _, rfl⟩
                  refine wf_stepK [1] [fun _ => t1 = .bool false] (by kernel_rfl) (by kernel_rfl) (fun wf hb hf => ?_) (fun t8 => ?_)
                  · obtain ⟨rfl, -⟩ := hf
                    refine WfOp.yes (by kernel_rfl) ?_
                    dsimp only
                    go_wp2
                    exact ⟨rfl, .int .i64 ((i : Nat)), by kernel_rfl, Below.refl _ _, rfl⟩
                  refine wf_stepK [1, 7, 8] [fun _ => t1 = .bool false, fun _ => t7 = .slice (some ⟨tb, tz, none⟩) ts.length ct, fun _ => t8 = .int .i64 ((i : Nat))] (by kernel_rfl) (by kernel_rfl) (fun wf hb hf => ?_) (fun t9 => ?_)
                  · obtain ⟨rfl, rfl, rfl, -⟩ := hf
                    refine WfOp.yes (by kernel_rfl) ?_
                    dsimp only
                    go_wp2
                    exact ⟨rfl, .pointer (some ⟨tb, tz + i * 2, none⟩), by kernel_rfl, Below.refl _ _, rfl⟩
                  refine wf_stepK [1, 9] [fun _ => t1 = .bool false, fun _ => t9 = .pointer (some ⟨tb, tz + i * 2, none⟩)] (by kernel_rfl) (by kernel_rfl) (fun wf hb hf => ?_) (fun t10 => ?_)
                  · obtain ⟨rfl, rfl, -⟩ := hf
                    refine WfOp.yes (by kernel_rfl) ?_
                    dsimp only
                    have p0 := (hb.cell (p := ⟨tb, tz + i * 2, none⟩) htb).trans z1
                    have p1 := (hb.cell (p := ⟨tb, tz + i * 2 + 1, none⟩) htb).trans z2
                    go_wp2
                    exact ⟨rfl, .agg #[.int .i64 ts[i].1, .int .i64 ts[i].2], by kernel_rfl, Below.refl _ _, rfl⟩
                  refine wf_stepK [1, 6, 10] [fun _ => t1 = .bool false, fun _ => t6 = .agg #[.int .i64 us[k].1.2.1, .int .i64 us[k].1.2.2], fun _ => t10 = .agg #[.int .i64 ts[i].1, .int .i64 ts[i].2]] (by kernel_rfl) (by kernel_rfl) (fun wf hb hf => ?_) (fun t11 => ?_)
                  · obtain ⟨rfl, rfl, rfl, -⟩ := hf
                    refine WfOp.yes (by kernel_rfl) ?_
                    dsimp only
                    go_wp2
                    exact ⟨rfl, .bool false, by kernel_rfl, Below.refl _ _, rfl⟩
                  refine wf_stepK [1, 11] [fun _ => t1 = .bool false, fun _ => t11 = .bool false] (by kernel_rfl) (by kernel_rfl) (fun wf hb hf => ?_) (fun t12 => ?_)
                  · obtain ⟨rfl, rfl, -⟩ := hf
                    refine ⟨?_⟩
                    go_wp2
                    exact ⟨rfl, .bool false, by kernel_rfl, Below.refl _ _, rfl⟩
                  refine wf_doneK [12] [fun _ => t12 = .bool false] (by kernel_rfl) (by kernel_rfl) (fun w50 b50 hf => ?_)
                  obtain ⟨rfl, -⟩ := hf
                  show wpList _ _ _ [_] _ _
                  refine wpList_frame (by simp [Act.put]; rfl) ?_
                  go_wp2
                  go_roundw
                  case rel => exact ⟨i + 1, by omega, by go_num, by rw [HST.out]; simp, btr hbv b50⟩
                  case measure => simp [intOf]; omega
                · rw [hz] at hst
                  have heq := timeIn_b (a := us[k].1.2) (b := ts[i]) (r := true) hz
                  have HST := Lib.hid hst
                  clear hst hs hz
                  go_wp2_with fail
                  refine wp_region_facts [[], [0], [0, 1], [0, 1], List.range 4, List.range 5, List.range 6, [0, 1], [0, 1], [0, 1, 7, 8], [0, 1, 7, 8, 9], List.range 11, List.range 12]
                    [fun v' _ => v' = .bool false, fun v' _ => v' = .bool false, fun v' _ => v' = .slice (some ⟨ub, uo, none⟩) us.length cu, fun v' _ => v' = .int .i64 ((k : Nat)), fun v' _ => v' = .pointer (some ⟨ub, uo + k * 4, none⟩), fun v' _ => v' = .pointer (some ⟨ub, uo + k * 4 + 1, none⟩), fun v' _ => v' = .agg #[.int .i64 us[k].1.2.1, .int .i64 us[k].1.2.2], fun v' _ => v' = .slice (some ⟨tb, tz, none⟩) ts.length ct, fun v' _ => v' = .int .i64 ((i : Nat)), fun v' _ => v' = .pointer (some ⟨tb, tz + i * 2, none⟩), fun v' _ => v' = .agg #[.int .i64 ts[i].1, .int .i64 ts[i].2], fun v' _ => v' = .bool true, fun v' _ => v' = .bool true]
                    (by kernel_rfl) (by kernel_rfl) rfl ⟨stable_pure _, stable_pure _, stable_pure _, stable_pure _, stable_pure _, stable_pure _, stable_pure _, stable_pure _, stable_pure _, stable_pure _, stable_pure _, stable_pure _, stable_pure _, trivial⟩ ?_
                  refine wf_stepK [] [] (by kernel_rfl) (by kernel_rfl) (fun wf hb hf => ?_) (fun t0 => ?_)
                  · refine ⟨?_⟩
                    go_wp2
                    exact ⟨rfl, .bool false, by kernel_rfl, Below.refl _ _, rfl⟩
                  refine wf_stepK [0] [fun _ => t0 = .bool false] (by kernel_rfl) (by kernel_rfl) (fun wf hb hf => ?_) (fun t1 => ?_)
                  · obtain ⟨rfl, -⟩ := hf
                    refine ⟨?_⟩
                    go_wp2
                    exact ⟨rfl, .bool false, by kernel_rfl, Below.refl _ _, rfl⟩
                  refine wf_stepK [1] [fun _ => t1 = .bool false] (by kernel_rfl) (by kernel_rfl) (fun wf hb hf => ?_) (fun t2 => ?_)
                  · obtain ⟨rfl, -⟩ := hf
                    refine WfOp.yes (by kernel_rfl) ?_
                    dsimp only
                    go_wp2
                    exact ⟨rfl, .slice (some ⟨ub, uo, none⟩) us.length cu, by kernel_rfl, Below.refl _ _, rfl⟩
                  refine wf_stepK [1] [fun _ => t1 = .bool false] (by kernel_rfl) (by kernel_rfl) (fun wf hb hf => ?_) (fun t3 => ?_)
                  · obtain ⟨rfl, -⟩ := hf
                    refine WfOp.yes (by kernel_rfl) ?_
                    dsimp only
                    go_wp2
                    exact ⟨rfl, .int .i64 ((k : Nat)), by kernel_rfl, Below.refl _ _, rfl⟩
                  refine wf_stepK [1, 2, 3] [fun _ => t1 = .bool false, fun _ => t2 = .slice (some ⟨ub, uo, none⟩) us.length cu, fun _ => t3 = .int .i64 ((k : Nat))] (by kernel_rfl) (by kernel_rfl) (fun wf hb hf => ?_) (fun t4 => ?_)
                  · obtain ⟨rfl, rfl, rfl, -⟩ := hf
                    refine WfOp.yes (by kernel_rfl) ?_
                    dsimp only
                    go_wp2
                    exact ⟨rfl, .pointer (some ⟨ub, uo + k * 4, none⟩), by kernel_rfl, Below.refl _ _, rfl⟩
                  refine wf_stepK [1, 4] [fun _ => t1 = .bool false, fun _ => t4 = .pointer (some ⟨ub, uo + k * 4, none⟩)] (by kernel_rfl) (by kernel_rfl) (fun wf hb hf => ?_) (fun t5 => ?_)
                  · obtain ⟨rfl, rfl, -⟩ := hf
                    refine WfOp.yes (by kernel_rfl) ?_
                    dsimp only
                    go_wp2
                    exact ⟨rfl, .pointer (some ⟨ub, uo + k * 4 + 1, none⟩), by kernel_rfl, Below.refl _ _, rfl⟩
                  refine wf_stepK [1, 5] [fun _ => t1 = .bool false, fun _ => t5 = .pointer (some ⟨ub, uo + k * 4 + 1, none⟩)] (by kernel_rfl) (by kernel_rfl) (fun wf hb hf => ?_) (fun t6 => ?_)
                  · obtain ⟨rfl, rfl, -⟩ := hf
                    refine WfOp.yes (by kernel_rfl) ?_
                    dsimp only
                    have p0 := (hb.cell (p := ⟨ub, uo + k * 4 + 1, none⟩) hub).trans u1
                    have p1 := (hb.cell (p := ⟨ub, uo + k * 4 + 2, none⟩) hub).trans u2
                    go_wp2
                    exact ⟨rfl, .agg #[.int .i64 us[k].1.2.1, .int .i64 us[k].1.2.2], by kernel_rfl, Below.refl _ _, rfl⟩
                  refine wf_stepK [1] [fun _ => t1 = .bool false] (by kernel_rfl) (by kernel_rfl) (fun wf hb hf => ?_) (fun t7 => ?_)
                  · obtain ⟨rfl, -⟩ := hf
                    refine WfOp.yes (by kernel_rfl) ?_
                    dsimp only
                    go_wp2
                    exact ⟨rfl, .slice (some ⟨tb, tz, none⟩) ts.length ct, by kernel_rfl, Below.refl _ _, rfl⟩
                  refine wf_stepK [1] [fun _ => t1 = .bool false] (by kernel_rfl) (by kernel_rfl) (fun wf hb hf => ?_) (fun t8 => ?_)
                  · obtain ⟨rfl, -⟩ := hf
                    refine WfOp.yes (by kernel_rfl) ?_
                    dsimp only
                    go_wp2
                    exact ⟨rfl, .int .i64 ((i : Nat)), by kernel_rfl, Below.refl _ _, rfl⟩
                  refine wf_stepK [1, 7, 8] [fun _ => t1 = .bool false, fun _ => t7 = .slice (some ⟨tb, tz, none⟩) ts.length ct, fun _ => t8 = .int .i64 ((i : Nat))] (by kernel_rfl) (by kernel_rfl) (fun wf hb hf => ?_) (fun t9 => ?_)
                  · obtain ⟨rfl, rfl, rfl, -⟩ := hf
                    refine WfOp.yes (by kernel_rfl) ?_
                    dsimp only
                    go_wp2
                    exact ⟨rfl, .pointer (some ⟨tb, tz + i * 2, none⟩), by kernel_rfl, Below.refl _ _, rfl⟩
                  refine wf_stepK [1, 9] [fun _ => t1 = .bool false, fun _ => t9 = .pointer (some ⟨tb, tz + i * 2, none⟩)] (by kernel_rfl) (by kernel_rfl) (fun wf hb hf => ?_) (fun t10 => ?_)
                  · obtain ⟨rfl, rfl, -⟩ := hf
                    refine WfOp.yes (by kernel_rfl) ?_
                    dsimp only
                    have p0 := (hb.cell (p := ⟨tb, tz + i * 2, none⟩) htb).trans z1
                    have p1 := (hb.cell (p := ⟨tb, tz + i * 2 + 1, none⟩) htb).trans z2
                    go_wp2
                    exact ⟨rfl, .agg #[.int .i64 ts[i].1, .int .i64 ts[i].2], by kernel_rfl, Below.refl _ _, rfl⟩
                  refine wf_stepK [1, 6, 10] [fun _ => t1 = .bool false, fun _ => t6 = .agg #[.int .i64 us[k].1.2.1, .int .i64 us[k].1.2.2], fun _ => t10 = .agg #[.int .i64 ts[i].1, .int .i64 ts[i].2]] (by kernel_rfl) (by kernel_rfl) (fun wf hb hf => ?_) (fun t11 => ?_)
                  · obtain ⟨rfl, rfl, rfl, -⟩ := hf
                    refine WfOp.yes (by kernel_rfl) ?_
                    dsimp only
                    go_wp2
                    exact ⟨rfl, .bool true, by kernel_rfl, Below.refl _ _, rfl⟩
                  refine wf_stepK [1, 11] [fun _ => t1 = .bool false, fun _ => t11 = .bool true] (by kernel_rfl) (by kernel_rfl) (fun wf hb hf => ?_) (fun t12 => ?_)
                  · obtain ⟨rfl, rfl, -⟩ := hf
                    refine ⟨?_⟩
                    go_wp2
                    exact ⟨rfl, .bool true, by kernel_rfl, Below.refl _ _, rfl⟩
                  refine wf_doneK [12] [fun _ => t12 = .bool true] (by kernel_rfl) (by kernel_rfl) (fun w50 b50 hf => ?_)
                  obtain ⟨rfl, -⟩ := hf
                  show wpList _ _ _ [_] _ _
                  refine wpList_frame (by simp [Act.put]; rfl) ?_
                  go_wp2
                  go_roundw
                  case rel => exact ⟨i + 1, by omega, by go_num, by rw [HST.out]; simp, btr hbv b50⟩
                  case measure => simp [intOf]; omega
              · rw [hs] at hst
                have HST := Lib.hid hst
                clear hst hs
                go_wp2_with fail
                refine wp_region_facts [[], [0], [0, 1], [0, 1], List.range 4, List.range 5, List.range 6, [0, 1], [0, 1], [0, 1, 7, 8], [0, 1, 7, 8, 9], List.range 11, List.range 12]
                  [fun v' _ => v' = .bool true, fun v' _ => v' = .bool true, fun v' _ => v' = undef, fun v' _ => v' = undef, fun v' _ => v' = undef, fun v' _ => v' = undef, fun v' _ => v' = undef, fun v' _ => v' = undef, fun v' _ => v' = undef, fun v' _ => v' = undef, fun v' _ => v' = undef, fun v' _ => v' = undef, fun v' _ => v' = .bool true]
                  (by kernel_rfl) (by kernel_rfl) rfl ⟨stable_pure _, stable_pure _, stable_pure _, stable_pure _, stable_pure _, stable_pure _, stable_pure _, stable_pure _, stable_pure _, stable_pure _, stable_pure _, stable_pure _, stable_pure _, trivial⟩ ?_
                refine wf_stepK [] [] (by kernel_rfl) (by kernel_rfl) (fun wf hb hf => ?_) (fun t0 => ?_)
                · refine ⟨?_⟩
                  go_wp2
                  exact ⟨rfl, .bool true, by kernel_rfl, Below.refl _ _, rfl⟩
                refine wf_stepK [0] [fun _ => t0 = .bool true] (by kernel_rfl) (by kernel_rfl) (fun wf hb hf => ?_) (fun t1 => ?_)
                · obtain ⟨rfl, -⟩ := hf
                  refine ⟨?_⟩
                  go_wp2
                  exact ⟨rfl, .bool true, by kernel_rfl, Below.refl _ _, rfl⟩
                refine wf_stepK [1] [fun _ => t1 = .bool true] (by kernel_rfl) (by kernel_rfl) (fun wf hb hf => ?_) (fun t2 => ?_)
                · obtain ⟨rfl, -⟩ := hf
                  exact WfOp.no (by kernel_rfl) rfl
                refine wf_stepK [1] [fun _ => t1 = .bool true] (by kernel_rfl) (by kernel_rfl) (fun wf hb hf => ?_) (fun t3 => ?_)
                · obtain ⟨rfl, -⟩ := hf
                  exact WfOp.no (by kernel_rfl) rfl
                refine wf_stepK [1, 2, 3] [fun _ => t1 = .bool true, fun _ => t2 = undef, fun _ => t3 = undef] (by kernel_rfl) (by kernel_rfl) (fun wf hb hf => ?_) (fun t4 => ?_)
                · obtain ⟨rfl, rfl, rfl, -⟩ := hf
                  exact WfOp.no (by kernel_rfl) rfl
                refine wf_stepK [1, 4] [fun _ => t1 = .bool true, fun _ => t4 = undef] (by kernel_rfl) (by kernel_rfl) (fun wf hb hf => ?_) (fun t5 => ?_)
                · obtain ⟨rfl, rfl, -⟩ := hf
                  exact WfOp.no (by kernel_rfl) rfl
                refine wf_stepK [1, 5] [fun _ => t1 = .bool true, fun _ => t5 = undef] (by kernel_rfl) (by kernel_rfl) (fun wf hb hf => ?_) (fun t6 => ?_)
                · obtain ⟨rfl, rfl, -⟩ := hf
                  exact WfOp.no (by kernel_rfl) rfl
                refine wf_stepK [1] [fun _ => t1 = .bool true] (by kernel_rfl) (by kernel_rfl) (fun wf hb hf => ?_) (fun t7 => ?_)
                · obtain ⟨rfl, -⟩ := hf
                  exact WfOp.no (by kernel_rfl) rfl
                refine wf_stepK [1] [fun _ => t1 = .bool true] (by kernel_rfl) (by kernel_rfl) (fun wf hb hf => ?_) (fun t8 => ?_)
                · obtain ⟨rfl, -⟩ := hf
                  exact WfOp.no (by kernel_rfl) rfl
                refine wf_stepK [1, 7, 8] [fun _ => t1 = .bool true, fun _ => t7 = undef, fun _ => t8 = undef] (by kernel_rfl) (by kernel_rfl) (fun wf hb hf => ?_) (fun t9 => ?_)
                · obtain ⟨rfl, rfl, rfl, -⟩ := hf
                  exact WfOp.no (by kernel_rfl) rfl
                refine wf_stepK [1, 9] [fun _ => t1 = .bool true, fun _ => t9 = undef] (by kernel_rfl) (by kernel_rfl) (fun wf hb hf => ?_) (fun t10 => ?_)
                · obtain ⟨rfl, rfl, -⟩ := hf
                  exact WfOp.no (by kernel_rfl) rfl
                refine wf_stepK [1, 6, 10] [fun _ => t1 = .bool true, fun _ => t6 = undef, fun _ => t10 = undef] (by kernel_rfl) (by kernel_rfl) (fun wf hb hf => ?_) (fun t11 => ?_)
                · obtain ⟨rfl, rfl, rfl, -⟩ := hf
                  exact WfOp.no (by kernel_rfl) rfl
                refine wf_stepK [1, 11] [fun _ => t1 = .bool true, fun _ => t11 = undef] (by kernel_rfl) (by kernel_rfl) (fun wf hb hf => ?_) (fun t12 => ?_)
                · obtain ⟨rfl, rfl, -⟩ := hf
                  refine ⟨?_⟩
                  go_wp2
                  exact ⟨rfl, .bool true, by kernel_rfl, Below.refl _ _, rfl⟩
                refine wf_doneK [12] [fun _ => t12 = .bool true] (by kernel_rfl) (by kernel_rfl) (fun w50 b50 hf => ?_)
                obtain ⟨rfl, -⟩ := hf
                show wpList _ _ _ [_] _ _
                refine wpList_frame (by simp [Act.put]; rfl) ?_
                go_wp2
                go_roundw
                case rel => exact ⟨i + 1, by omega, by go_num, by rw [HST.out]; simp, btr hbv b50⟩
                case measure => simp [intOf]; omega
            · obtain rfl : i = ts.length := by omega
              have hin : decide (us[k].1.2 ∈ ts.take ts.length) = true := by
                rw [List.take_length, decide_eq_true_iff]
                exact (HM.out _).2 (List.mem_map.2 ⟨us[k], List.getElem_mem hkl, rfl⟩)
              rw [hin]
              clear hin
              go_wp2
              go_roundw
              case rel => exact ⟨k + 1, by omega, by go_num, btr HBL.out hbv⟩
              case measure => simp [intOf]; omega
        · obtain rfl : k = us.length := by omega
          have B2 := btr B1.out hbel
          go_wp2
          go_ret
          exact ⟨rfl, B2⟩

namespace lawFnTraceTimes
theorem own : ownKnob Try.prog.godebug = none := by kernel_rfl
theorem laidOut : laidOutB Try.prog = true := clo_laid
set_option maxRecDepth 100000 in
theorem lifted (os : Os) (started : os.Started) (H : Type) (enc : TypeId × Value → H) :
    ReturnsInHanded {} Try.checked os 5 .any (Rows.fnTraceTimesSpec.pre6 enc Try.prog Try.f5 Rows.fnTraceTimesRow.domain false) (Rows.fnTraceTimesSpec.post enc Try.prog Try.f5 false true false false) := by
  refine returnsInHanded_of_change (C := Try.checked) own started (by kernel_rfl) Try.func5
    (ChangeSpec.witness6 (enc := enc) (C := Try.checked) false ⟨#[], #[.slice none 0 0], []⟩ 8 (by kernel_rfl) (by kernel_rfl) (by kernel_rfl) (by kernel_rfl)) ?_
  intro W base args ds gs before hval0 hW hcnd _
  have hval : ∀ (j : Nat) t v, Try.f5.params[j]? = some t → args[j]? = some v → Value.okWide Try.prog W .any base t v := hval0
  have hW' := hW
  obtain ⟨p, q, hA0, hV, rfl, hfz, hnd⟩ := hW
  have hA : DataW.TrodAll enc Try.prog W 0 (fun _ => true) true Try.f5.params.toList args.toList ds p := hA0
  rw [Try.params5] at hA hval
  obtain ⟨v0, vs0, d0, ds0, p0, q0, hargs, rfl, rfl, h0, r0⟩ := trodAll_cons hA
  obtain ⟨rfl, rfl, rfl⟩ := trodAll_nil r0
  obtain rfl : args = #[v0] := by cases args; simp_all
  obtain ⟨rfl, rfl⟩ := trodVars_none hV
  have k0 := h0
  have lt0 : ∀ x ∈ p0, x.block < W.heap.size := by obtain ⟨m, hm⟩ := k0; exact DataW.trod_lt m _ _ _ hm
  obtain ⟨a0, len0, cap0, rfl⟩ := okWide_slice Try.underlying48 (hval 0 48 v0 rfl rfl)
  obtain ⟨l0, m0, w0⟩ := bytes_of Try.underlying48 Try.underlying5 (by kernel_rfl) h0
  clear hA0 hval0
  refine (FnTraceTimes_walk a0 len0 cap0 W l0 m0 w0).mono fun e W' ⟨he, bel⟩ => ?_
  subst he
  exact ⟨_, rfl, _, _, _, [], _, [], hW', trodAll_mk1 (shut_bool Try.underlying4 _), (trodAll_cons_mk (Below.trod laidOut (by kernel_rfl) (of_decide_eq_true (by kernel_rfl)) k0 bel lt0) trodAll_mk0), rfl, bel.frame _, fun h => by cases h⟩
theorem andTT {a b : Bool} (h1 : a = true) (h2 : b = true) : (a && b) = true := by rw [h1, h2]; rfl
set_option maxHeartbeats 8000000 in
theorem closed : joinedFacts Try.prog 5 Try.f5 Rows.fnTraceTimesSpec Rows.fnTraceTimesRow = true := by
  unfold joinedFacts
  repeat' (with_reducible refine andTT ?_ ?_)
  all_goals (first | (with_reducible exact clo_laid) | (with_reducible exact clo_maps) | (with_reducible exact clo_heard) | (with_reducible exact clo_enter) | ((with_reducible refine clo_plain _ ?_); rfl) | ((with_reducible refine clo_lifts _ ?_); rfl) | (as_aux_lemma => kernel_rfl))

theorem over : Rows.fnTraceTimesRow.holds Try.pinned (OpenSpec.ofChange Rows.fnTraceTimesSpec) :=
  OpenClaim.holds_of_wide 5 Try.f5 rfl rfl rfl rfl rfl rfl rfl ⟨rfl, rfl, rfl, rfl, rfl⟩ rfl rfl rfl rfl rfl (by kernel_rfl) Try.func5 closed
    (of_decide_eq_true (by kernel_rfl)) (by unfold Func.isWrapper; first | (rw [if_pos (by decide +kernel)]; kernel_rfl) | (rw [if_neg (by decide +kernel)]; exact ⟨rfl, rfl⟩))
    (fun os started H enc _ => lifted os started H enc)

/-- THE STATEMENT. -/
theorem proved : Rows.FnTraceTimesSaid := over
end lawFnTraceTimes
end Go.Proofs.Ytkonhjdfcfljpaa
