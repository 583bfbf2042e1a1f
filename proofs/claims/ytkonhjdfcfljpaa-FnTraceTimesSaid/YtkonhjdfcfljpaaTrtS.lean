/- HELPER, no statement of the seat: TraceTimes of the model. -/
import Derived.Test.YtkonhjdfcfljpaaTrt
import Derived.Test.YtkonhjdfcfljpaaSrtT
import Derived.Test.YtkonhjdfcfljpaaZba
import Derived.Test.YtkonhjdfcfljpaaUph
import Derived.Test.YtkonhjdfcfljpaaGrf
namespace Go.Proofs.Ytkonhjdfcfljpaa
open Go.RowKit Go.Sort
set_option linter.unusedSimpArgs false
set_option linter.unusedVariables false

set_option maxRecDepth 100000 in
set_option maxHeartbeats 6400000 in
theorem TraceTimes_s (A : Option Addr) (c : Nat) (us : List Upd) (w : World) (hx : UpdsAt w A us) (hn : us.length ≤ 4194000) (hr : rowsU us 4194304) :
    Calls Try.prog 27 #[.slice A us.length c] w fun e w' => ∃ A' c', e = .returned (.slice A' (TtF us).length c') ∧ TmOwn w' w.heap.size A' c' (TtF us) ∧ Below w.heap.size w w' := by
  have hb0 := bal (Below.refl w.heap.size w) (.cells #[] 52)
  have hl0 := TmOwn.lit w
  have hcon := validTrace_s A c us _ (hx.below updR hb0) (by omega) hr
  cases hv : trB us
  · simp only [hv] at hcon
    have HR : Hid (TtF us = []) := by unfold TtF; rw [hv]; exact rfl
    clear hv
    go_enter Try.func27, Try.ntmps27
    go_wp2_with fail
    refine hcon.mono ?_
    rintro e w1 ⟨rfl, b1⟩
    have HB := Lib.hid (btr hb0 b1)
    have HL := Lib.hid (hl0.below b1)
    clear b1 hb0 hl0
    go_wp2
    go_ret
    exact ⟨_, _, by rw [HR.out]; rfl, by rw [HR.out]; exact HL.out, HB.out⟩
  simp only [hv] at hcon
  have HR : Hid (TtF us = tmsU (uTm us)) := by unfold TtF; rw [hv]; exact rfl
  obtain ⟨i0, hi, hz0, hz1, hz2⟩ := info_parts Try.infoTime
  clear hv
  go_enter Try.func27, Try.ntmps27
  go_wp2_with fail
  refine hcon.mono ?_
  rintro e w1 ⟨rfl, b1⟩
  have HB0 := Lib.hid (btr hb0 b1)
  have HL := Lib.hid (hl0.below b1)
  clear b1 hb0 hl0 hcon
  go_wp2
  go_loopw [3, 4, 5, 6] (fun o iv _ _ wr => ∃ (i g c' : Nat) (l : List Tm), i ≤ us.length ∧ iv = .int .i64 i ∧ o = .slice (some ⟨g, 0, none⟩) l.length c' ∧ Hid (l = tmsU (uTm (us.take i))) ∧ Hid (TmOwn wr w.heap.size (some ⟨g, 0, none⟩) c' l) ∧ Below w.heap.size w wr) (fun _ iv _ _ _ => us.length - (intOf iv).toNat)
  case atStart => exact ⟨0, w.heap.size, 0, [], by omega, rfl, rfl, rfl, HL.out, HB0.out⟩
  case round =>
    obtain ⟨i, g, c', l, hik, rfl, rfl, HLE, HO, hbel⟩ := hrel
    by_cases hlt : i < us.length
    · obtain ⟨ub, uo, RA, rc, rfl, hub0, -, hc1, hc2, -, -, -⟩ := hx.get i hlt
      have hll : l.length ≤ i := by rw [HLE.out]; exact Nat.le_trans (tmsU_len _) (by simp [uTm]; omega)
      have hcap := HO.out.cap
      have hcm : (c' : Int) ≤ 9223372036854775807 := by have := hcap.2; unfold maxLen at this; omega
      have HST : Hid (tmsU (uTm (us.take (i + 1))) = insU l us[i].1.2) := by rw [uTm_take us i hlt, tmsU_snoc, ← HLE.out]; exact rfl
      have HC1 := Lib.hid hc1
      have HC2 := Lib.hid hc2
      have HBO := Lib.hid hbel
      have hiI : (i : Int) < us.length := by omega
      clear hc1 hc2 hbel
      go_wp2
      obtain ⟨V, rfl⟩ : ∃ V : World, V = wr := ⟨_, rfl⟩
      go_loopw [5] (fun kv wr => ∃ k : Nat, k ≤ l.length ∧ kv = .int .i64 k ∧ Hid (∀ j (h : j < l.length), j < k → bfB l[j].1 l[j].2 us[i].1.2.1 us[i].1.2.2 = true) ∧ Below V.heap.size V wr) (fun kv _ => l.length - (intOf kv).toNat)
      case atStart => exact ⟨0, by omega, rfl, fun j h hj => absurd hj (by omega), RowKit.Below.refl _ _⟩
      case round =>
        obtain ⟨k, hk, rfl, hall, hbv⟩ := hrel
        have hbel := btr HBO.out hbv
        have hor := HO.out.below hbv
        have hub : ub < wr.heap.size := Nat.lt_of_lt_of_le hub0 hbel.size
        have r1 := (hbel.cell (p := ⟨ub, uo + i * 4 + 1, none⟩) hub0).trans HC1.out
        have r2 := (hbel.cell (p := ⟨ub, uo + i * 4 + 2, none⟩) hub0).trans HC2.out
        have hgb : g < wr.heap.size := (World.ownsRow.lt hor g rfl).2
        by_cases hkl : k < l.length
        · have hkI : (k : Int) < l.length := by omega
          have gk := timeL_get l k hkl
          rw [show l.getD k (0, 0) = l[k] by simp [hkl]] at gk
          have q0 := (World.ownsRow.cellAt hor (k * 2) (by omega)).trans gk.1
          have q1 := (World.ownsRow.cellAt hor (k * 2 + 1) (by omega)).trans gk.2
          have HOR := Lib.hid hor
          clear gk hor
          by_cases hz : bfB l[k].1 l[k].2 us[i].1.2.1 us[i].1.2.2 = true
          · have hbf := fun W => timeBefore_s l[k].1 l[k].2 us[i].1.2.1 us[i].1.2.2 W
            simp only [hz] at hbf
            have HA : Hid (∀ j (h : j < l.length), j < k + 1 → bfB l[j].1 l[j].2 us[i].1.2.1 us[i].1.2.2 = true) := fun j h hj => by
              rcases Nat.lt_or_ge j k with h2 | h2
              · exact hall.out j h h2
              · obtain rfl : j = k := by omega
                exact hz
            clear hz
            go_wp2_with fail
            refine wp_region_facts [[], [], [1], [0, 1, 2], List.range 4, List.range 5, List.range 5, List.range 7, List.range 8, List.range 5, List.range 5, [0, 1, 2, 3, 4, 9, 10], [0, 1, 2, 3, 4, 9, 10, 11], [0, 1, 2, 3, 4, 9, 10, 11, 12], List.range 14]
              [fun v' _ => v' = .int .i64 ((k : Nat)), fun v' _ => v' = .slice (some ⟨g, 0, none⟩) l.length c', fun v' _ => v' = .int .i64 ((l.length : Nat)), fun v' _ => v' = .bool true, fun v' _ => v' = .bool true, fun v' _ => v' = .slice (some ⟨g, 0, none⟩) l.length c', fun v' _ => v' = .int .i64 ((k : Nat)), fun v' _ => v' = .pointer (some ⟨g, k * 2, none⟩), fun v' _ => v' = .agg #[.int .i64 l[k].1, .int .i64 l[k].2], fun v' _ => v' = .slice (some ⟨ub, uo, none⟩) us.length c, fun v' _ => v' = .int .i64 ((i : Nat)), fun v' _ => v' = .pointer (some ⟨ub, uo + i * 4, none⟩), fun v' _ => v' = .pointer (some ⟨ub, uo + i * 4 + 1, none⟩), fun v' _ => v' = .agg #[.int .i64 us[i].1.2.1, .int .i64 us[i].1.2.2], fun v' _ => v' = .bool true]
              (by kernel_rfl) (by kernel_rfl) rfl ⟨stable_pure _, stable_pure _, stable_pure _, stable_pure _, stable_pure _, stable_pure _, stable_pure _, stable_pure _, stable_pure _, stable_pure _, stable_pure _, stable_pure _, stable_pure _, stable_pure _, stable_pure _, trivial⟩ ?_
            refine wf_stepK [] [] (by kernel_rfl) (by kernel_rfl) (fun wf hb hf => ?_) (fun t0 => ?_)
            · refine ⟨?_⟩
              go_wp2
              exact ⟨rfl, .int .i64 ((k : Nat)), by kernel_rfl, Below.refl _ _, rfl⟩
            refine wf_stepK [] [] (by kernel_rfl) (by kernel_rfl) (fun wf hb hf => ?_) (fun t1 => ?_)
            · refine ⟨?_⟩
              go_wp2
              exact ⟨rfl, .slice (some ⟨g, 0, none⟩) l.length c', by kernel_rfl, Below.refl _ _, rfl⟩
            refine wf_stepK [1] [fun _ => t1 = .slice (some ⟨g, 0, none⟩) l.length c'] (by kernel_rfl) (by kernel_rfl) (fun wf hb hf => ?_) (fun t2 => ?_)
            · obtain ⟨rfl, -⟩ := hf
              refine ⟨?_⟩
              go_wp2
              exact ⟨rfl, .int .i64 ((l.length : Nat)), by kernel_rfl, Below.refl _ _, rfl⟩
            refine wf_stepK [0, 2] [fun _ => t0 = .int .i64 ((k : Nat)), fun _ => t2 = .int .i64 ((l.length : Nat))] (by kernel_rfl) (by kernel_rfl) (fun wf hb hf => ?_) (fun t3 => ?_)
            · obtain ⟨rfl, rfl, -⟩ := hf
              refine ⟨?_⟩
              go_wp2
              exact ⟨rfl, .bool true, by kernel_rfl, Below.refl _ _, rfl⟩
            refine wf_stepK [3] [fun _ => t3 = .bool true] (by kernel_rfl) (by kernel_rfl) (fun wf hb hf => ?_) (fun t4 => ?_)
            · obtain ⟨rfl, -⟩ := hf
              refine ⟨?_⟩
              go_wp2
              exact ⟨rfl, .bool true, by kernel_rfl, Below.refl _ _, rfl⟩
            refine wf_stepK [4] [fun _ => t4 = .bool true] (by kernel_rfl) (by kernel_rfl) (fun wf hb hf => ?_) (fun t5 => ?_)
            · obtain ⟨rfl, -⟩ := hf
              refine WfOp.yes (by kernel_rfl) ?_
              dsimp only
              go_wp2
              exact ⟨rfl, .slice (some ⟨g, 0, none⟩) l.length c', by kernel_rfl, Below.refl _ _, rfl⟩
            refine wf_stepK [4] [fun _ => t4 = .bool true] (by kernel_rfl) (by kernel_rfl) (fun wf hb hf => ?_) (fun t6 => ?_)
            · obtain ⟨rfl, -⟩ := hf
              refine WfOp.yes (by kernel_rfl) ?_
              dsimp only
              go_wp2
              exact ⟨rfl, .int .i64 ((k : Nat)), by kernel_rfl, Below.refl _ _, rfl⟩
            refine wf_stepK [4, 5, 6] [fun _ => t4 = .bool true, fun _ => t5 = .slice (some ⟨g, 0, none⟩) l.length c', fun _ => t6 = .int .i64 ((k : Nat))] (by kernel_rfl) (by kernel_rfl) (fun wf hb hf => ?_) (fun t7 => ?_)
            · obtain ⟨rfl, rfl, rfl, -⟩ := hf
              refine WfOp.yes (by kernel_rfl) ?_
              dsimp only
              go_wp2
              exact ⟨rfl, .pointer (some ⟨g, k * 2, none⟩), by kernel_rfl, Below.refl _ _, rfl⟩
            refine wf_stepK [4, 7] [fun _ => t4 = .bool true, fun _ => t7 = .pointer (some ⟨g, k * 2, none⟩)] (by kernel_rfl) (by kernel_rfl) (fun wf hb hf => ?_) (fun t8 => ?_)
            · obtain ⟨rfl, rfl, -⟩ := hf
              refine WfOp.yes (by kernel_rfl) ?_
              dsimp only
              have p0 := (hb.cell (p := ⟨g, k * 2, none⟩) hgb).trans q0
              have p1 := (hb.cell (p := ⟨g, k * 2 + 1, none⟩) hgb).trans q1
              go_wp2
              exact ⟨rfl, .agg #[.int .i64 l[k].1, .int .i64 l[k].2], by kernel_rfl, Below.refl _ _, rfl⟩
            refine wf_stepK [4] [fun _ => t4 = .bool true] (by kernel_rfl) (by kernel_rfl) (fun wf hb hf => ?_) (fun t9 => ?_)
            · obtain ⟨rfl, -⟩ := hf
              refine WfOp.yes (by kernel_rfl) ?_
              dsimp only
              go_wp2
              exact ⟨rfl, .slice (some ⟨ub, uo, none⟩) us.length c, by kernel_rfl, Below.refl _ _, rfl⟩
            refine wf_stepK [4] [fun _ => t4 = .bool true] (by kernel_rfl) (by kernel_rfl) (fun wf hb hf => ?_) (fun t10 => ?_)
            · obtain ⟨rfl, -⟩ := hf
              refine WfOp.yes (by kernel_rfl) ?_
              dsimp only
              go_wp2
              exact ⟨rfl, .int .i64 ((i : Nat)), by kernel_rfl, Below.refl _ _, rfl⟩
            refine wf_stepK [4, 9, 10] [fun _ => t4 = .bool true, fun _ => t9 = .slice (some ⟨ub, uo, none⟩) us.length c, fun _ => t10 = .int .i64 ((i : Nat))] (by kernel_rfl) (by kernel_rfl) (fun wf hb hf => ?_) (fun t11 => ?_)
            · obtain ⟨rfl, rfl, rfl, -⟩ := hf
              refine WfOp.yes (by kernel_rfl) ?_
              dsimp only
              go_wp2
              exact ⟨rfl, .pointer (some ⟨ub, uo + i * 4, none⟩), by kernel_rfl, Below.refl _ _, rfl⟩
            refine wf_stepK [4, 11] [fun _ => t4 = .bool true, fun _ => t11 = .pointer (some ⟨ub, uo + i * 4, none⟩)] (by kernel_rfl) (by kernel_rfl) (fun wf hb hf => ?_) (fun t12 => ?_)
            · obtain ⟨rfl, rfl, -⟩ := hf
              refine WfOp.yes (by kernel_rfl) ?_
              dsimp only
              go_wp2
              exact ⟨rfl, .pointer (some ⟨ub, uo + i * 4 + 1, none⟩), by kernel_rfl, Below.refl _ _, rfl⟩
            refine wf_stepK [4, 12] [fun _ => t4 = .bool true, fun _ => t12 = .pointer (some ⟨ub, uo + i * 4 + 1, none⟩)] (by kernel_rfl) (by kernel_rfl) (fun wf hb hf => ?_) (fun t13 => ?_)
            · obtain ⟨rfl, rfl, -⟩ := hf
              refine WfOp.yes (by kernel_rfl) ?_
              dsimp only
              have p0 := (hb.cell (p := ⟨ub, uo + i * 4 + 1, none⟩) hub).trans r1
              have p1 := (hb.cell (p := ⟨ub, uo + i * 4 + 2, none⟩) hub).trans r2
              go_wp2
              exact ⟨rfl, .agg #[.int .i64 us[i].1.2.1, .int .i64 us[i].1.2.2], by kernel_rfl, Below.refl _ _, rfl⟩
            refine wf_stepK [4, 8, 13] [fun _ => t4 = .bool true, fun _ => t8 = .agg #[.int .i64 l[k].1, .int .i64 l[k].2], fun _ => t13 = .agg #[.int .i64 us[i].1.2.1, .int .i64 us[i].1.2.2]] (by kernel_rfl) (by kernel_rfl) (fun wf hb hf => ?_) (fun t14 => ?_)
            · obtain ⟨rfl, rfl, rfl, -⟩ := hf
              refine WfOp.yes (by kernel_rfl) ?_
              dsimp only
              go_wp2_with (go_at_call 78; refine (hbf _).mono ?_; rintro e w2 ⟨rfl, hb2⟩)
              exact ⟨rfl, .bool true, by kernel_rfl, hb2, rfl⟩
            refine wf_doneK [4, 14] [fun _ => t4 = .bool true, fun _ => t14 = .bool true] (by kernel_rfl) (by kernel_rfl) (fun w5 b5 hf => ?_)
            obtain ⟨rfl, rfl, -⟩ := hf
            show wpList _ _ _ [_] _ _
            refine wpList_frame (by simp [Act.put]; rfl) ?_
            go_wp2
            go_roundw
            case rel => exact ⟨k + 1, by omega, by go_num, HA, btr hbv b5⟩
            case measure => simp [intOf]; omega
          · have hz2 : bfB l[k].1 l[k].2 us[i].1.2.1 us[i].1.2.2 = false := by simpa using hz
            have hbf := fun W => timeBefore_s l[k].1 l[k].2 us[i].1.2.1 us[i].1.2.2 W
            simp only [hz2] at hbf
            have HP : Hid (plc us[i].1.2 l = k) := plc_of us[i].1.2 l k hk hall.out (fun _ => hz2)
            clear hz hz2
            go_wp2_with fail
            refine wp_region_facts [[], [], [1], [0, 1, 2], List.range 4, List.range 5, List.range 5, List.range 7, List.range 8, List.range 5, List.range 5, [0, 1, 2, 3, 4, 9, 10], [0, 1, 2, 3, 4, 9, 10, 11], [0, 1, 2, 3, 4, 9, 10, 11, 12], List.range 14]
              [fun v' _ => v' = .int .i64 ((k : Nat)), fun v' _ => v' = .slice (some ⟨g, 0, none⟩) l.length c', fun v' _ => v' = .int .i64 ((l.length : Nat)), fun v' _ => v' = .bool true, fun v' _ => v' = .bool true, fun v' _ => v' = .slice (some ⟨g, 0, none⟩) l.length c', fun v' _ => v' = .int .i64 ((k : Nat)), fun v' _ => v' = .pointer (some ⟨g, k * 2, none⟩), fun v' _ => v' = .agg #[.int .i64 l[k].1, .int .i64 l[k].2], fun v' _ => v' = .slice (some ⟨ub, uo, none⟩) us.length c, fun v' _ => v' = .int .i64 ((i : Nat)), fun v' _ => v' = .pointer (some ⟨ub, uo + i * 4, none⟩), fun v' _ => v' = .pointer (some ⟨ub, uo + i * 4 + 1, none⟩), fun v' _ => v' = .agg #[.int .i64 us[i].1.2.1, .int .i64 us[i].1.2.2], fun v' _ => v' = .bool false]
              (by kernel_rfl) (by kernel_rfl) rfl ⟨stable_pure _, stable_pure _, stable_pure _, stable_pure _, stable_pure _, stable_pure _, stable_pure _, stable_pure _, stable_pure _, stable_pure _, stable_pure _, stable_pure _, stable_pure _, stable_pure _, stable_pure _, trivial⟩ ?_
            refine wf_stepK [] [] (by kernel_rfl) (by kernel_rfl) (fun wf hb hf => ?_) (fun t0 => ?_)
            · refine ⟨?_⟩
              go_wp2
              exact ⟨rfl, .int .i64 ((k : Nat)), by kernel_rfl, Below.refl _ _, rfl⟩
            refine wf_stepK [] [] (by kernel_rfl) (by kernel_rfl) (fun wf hb hf => ?_) (fun t1 => ?_)
            · refine ⟨?_⟩
              go_wp2
              exact ⟨rfl, .slice (some ⟨g, 0, none⟩) l.length c', by kernel_rfl, Below.refl _ _, rfl⟩
            refine wf_stepK [1] [fun _ => t1 = .slice (some ⟨g, 0, none⟩) l.length c'] (by kernel_rfl) (by kernel_rfl) (fun wf hb hf => ?_) (fun t2 => ?_)
            · obtain ⟨rfl, -⟩ := hf
              refine ⟨?_⟩
              go_wp2
              exact ⟨rfl, .int .i64 ((l.length : Nat)), by kernel_rfl, Below.refl _ _, rfl⟩
            refine wf_stepK [0, 2] [fun _ => t0 = .int .i64 ((k : Nat)), fun _ => t2 = .int .i64 ((l.length : Nat))] (by kernel_rfl) (by kernel_rfl) (fun wf hb hf => ?_) (fun t3 => ?_)
            · obtain ⟨rfl, rfl, -⟩ := hf
              refine ⟨?_⟩
              go_wp2
              exact ⟨rfl, .bool true, by kernel_rfl, Below.refl _ _, rfl⟩
            refine wf_stepK [3] [fun _ => t3 = .bool true] (by kernel_rfl) (by kernel_rfl) (fun wf hb hf => ?_) (fun t4 => ?_)
            · obtain ⟨rfl, -⟩ := hf
              refine ⟨?_⟩
              go_wp2
              exact ⟨rfl, .bool true, by kernel_rfl, Below.refl _ _, rfl⟩
            refine wf_stepK [4] [fun _ => t4 = .bool true] (by kernel_rfl) (by kernel_rfl) (fun wf hb hf => ?_) (fun t5 => ?_)
            · obtain ⟨rfl, -⟩ := hf
              refine WfOp.yes (by kernel_rfl) ?_
              dsimp only
              go_wp2
              exact ⟨rfl, .slice (some ⟨g, 0, none⟩) l.length c', by kernel_rfl, Below.refl _ _, rfl⟩
            refine wf_stepK [4] [fun _ => t4 = .bool true] (by kernel_rfl) (by kernel_rfl) (fun wf hb hf => ?_) (fun t6 => ?_)
            · obtain ⟨rfl, -⟩ := hf
              refine WfOp.yes (by kernel_rfl) ?_
              dsimp only
              go_wp2
              exact ⟨rfl, .int .i64 ((k : Nat)), by kernel_rfl, Below.refl _ _, rfl⟩
            refine wf_stepK [4, 5, 6] [fun _ => t4 = .bool true, fun _ => t5 = .slice (some ⟨g, 0, none⟩) l.length c', fun _ => t6 = .int .i64 ((k : Nat))] (by kernel_rfl) (by kernel_rfl) (fun wf hb hf => ?_) (fun t7 => ?_)
            · obtain ⟨rfl, rfl, rfl, -⟩ := hf
              refine WfOp.yes (by kernel_rfl) ?_
              dsimp only
              go_wp2
              exact ⟨rfl, .pointer (some ⟨g, k * 2, none⟩), by kernel_rfl, Below.refl _ _, rfl⟩
            refine wf_stepK [4, 7] [fun _ => t4 = .bool true, fun _ => t7 = .pointer (some ⟨g, k * 2, none⟩)] (by kernel_rfl) (by kernel_rfl) (fun wf hb hf => ?_) (fun t8 => ?_)
            · obtain ⟨rfl, rfl, -⟩ := hf
              refine WfOp.yes (by kernel_rfl) ?_
              dsimp only
              have p0 := (hb.cell (p := ⟨g, k * 2, none⟩) hgb).trans q0
              have p1 := (hb.cell (p := ⟨g, k * 2 + 1, none⟩) hgb).trans q1
              go_wp2
              exact ⟨rfl, .agg #[.int .i64 l[k].1, .int .i64 l[k].2], by kernel_rfl, Below.refl _ _, rfl⟩
            refine wf_stepK [4] [fun _ => t4 = .bool true] (by kernel_rfl) (by kernel_rfl) (fun wf hb hf => ?_) (fun t9 => ?_)
            · obtain ⟨rfl, -⟩ := hf
              refine WfOp.yes (by kernel_rfl) ?_
              dsimp only
              go_wp2
              exact ⟨rfl, .slice (some ⟨ub, uo, none⟩) us.length c, by kernel_rfl, Below.refl _ _, rfl⟩
            refine wf_stepK [4] [fun _ => t4 = .bool true] (by kernel_rfl) (by kernel_rfl) (fun wf hb hf => ?_) (fun t10 => ?_)
            · obtain ⟨rfl, -⟩ := hf
              refine WfOp.yes (by kernel_rfl) ?_
              dsimp only
              go_wp2
              exact ⟨rfl, .int .i64 ((i : Nat)), by kernel_rfl, Below.refl _ _, rfl⟩
            refine wf_stepK [4, 9, 10] [fun _ => t4 = .bool true, fun _ => t9 = .slice (some ⟨ub, uo, none⟩) us.length c, fun _ => t10 = .int .i64 ((i : Nat))] (by kernel_rfl) (by kernel_rfl) (fun wf hb hf => ?_) (fun t11 => ?_)
            · obtain ⟨rfl, rfl, rfl, -⟩ := hf
              refine WfOp.yes (by kernel_rfl) ?_
              dsimp only
              go_wp2
              exact ⟨rfl, .pointer (some ⟨ub, uo + i * 4, none⟩), by kernel_rfl, Below.refl _ _, rfl⟩
            refine wf_stepK [4, 11] [fun _ => t4 = .bool true, fun _ => t11 = .pointer (some ⟨ub, uo + i * 4, none⟩)] (by kernel_rfl) (by kernel_rfl) (fun wf hb hf => ?_) (fun t12 => ?_)
            · obtain ⟨rfl, rfl, -⟩ := hf
              refine WfOp.yes (by kernel_rfl) ?_
              dsimp only
              go_wp2
              exact ⟨rfl, .pointer (some ⟨ub, uo + i * 4 + 1, none⟩), by kernel_rfl, Below.refl _ _, rfl⟩
            refine wf_stepK [4, 12] [fun _ => t4 = .bool true, fun _ => t12 = .pointer (some ⟨ub, uo + i * 4 + 1, none⟩)] (by kernel_rfl) (by kernel_rfl) (fun wf hb hf => ?_) (fun t13 => ?_)
            · obtain ⟨rfl, rfl, -⟩ := hf
              refine WfOp.yes (by kernel_rfl) ?_
              dsimp only
              have p0 := (hb.cell (p := ⟨ub, uo + i * 4 + 1, none⟩) hub).trans r1
              have p1 := (hb.cell (p := ⟨ub, uo + i * 4 + 2, none⟩) hub).trans r2
              go_wp2
              exact ⟨rfl, .agg #[.int .i64 us[i].1.2.1, .int .i64 us[i].1.2.2], by kernel_rfl, Below.refl _ _, rfl⟩
            refine wf_stepK [4, 8, 13] [fun _ => t4 = .bool true, fun _ => t8 = .agg #[.int .i64 l[k].1, .int .i64 l[k].2], fun _ => t13 = .agg #[.int .i64 us[i].1.2.1, .int .i64 us[i].1.2.2]] (by kernel_rfl) (by kernel_rfl) (fun wf hb hf => ?_) (fun t14 => ?_)
            · obtain ⟨rfl, rfl, rfl, -⟩ := hf
              refine WfOp.yes (by kernel_rfl) ?_
              dsimp only
              go_wp2_with (go_at_call 78; refine (hbf _).mono ?_; rintro e w2 ⟨rfl, hb2⟩)
              exact ⟨rfl, .bool false, by kernel_rfl, hb2, rfl⟩
            refine wf_doneK [4, 14] [fun _ => t4 = .bool true, fun _ => t14 = .bool false] (by kernel_rfl) (by kernel_rfl) (fun w5 b5 hf => ?_)
            obtain ⟨rfl, rfl, -⟩ := hf
            show wpList _ _ _ [_] _ _
            refine wpList_frame (by simp [Act.put]; rfl) ?_
            have hb6 := btr hbel b5
            have q0' := (b5.cell (p := ⟨g, k * 2, none⟩) hgb).trans q0
            have q1' := (b5.cell (p := ⟨g, k * 2 + 1, none⟩) hgb).trans q1
            have r1' := (b5.cell (p := ⟨ub, uo + i * 4 + 1, none⟩) hub).trans r1
            have r2' := (b5.cell (p := ⟨ub, uo + i * 4 + 2, none⟩) hub).trans r2
            have hor5 := HOR.out.below b5
            have hgb5 : g < w5.heap.size := Nat.lt_of_lt_of_le hgb b5.size
            have hub5 : ub < w5.heap.size := Nat.lt_of_lt_of_le hub b5.size
            clear q0 q1 r1 r2 hbf hbel hbv hgb hub HOR b5
            have q0 := q0'
            have q1 := q1'
            have r1 := r1'
            have r2 := r2'
            have hgb := hgb5
            have hub := hub5
            clear q0' q1' r1' r2' hgb5 hub5
            by_cases he : l[k] = us[i].1.2
            · have heq := timeIn_b (a := l[k]) (b := us[i].1.2) (r := true) (by simp [he])
              have HSN : Hid (insU l us[i].1.2 = l) := by unfold insU; rw [HP.out, List.getElem?_eq_getElem hkl, he, if_pos rfl]; exact rfl
              have HO5 := Lib.hid hor5
              clear he hor5
              go_wp2_with fail
              refine wp_region_facts [[], [], [1], [0, 1, 2], List.range 4, List.range 5, List.range 5, List.range 7, List.range 8, List.range 5, List.range 5, [0, 1, 2, 3, 4, 9, 10], [0, 1, 2, 3, 4, 9, 10, 11], [0, 1, 2, 3, 4, 9, 10, 11, 12], List.range 14]
                [fun v' _ => v' = .int .i64 ((k : Nat)), fun v' _ => v' = .slice (some ⟨g, 0, none⟩) l.length c', fun v' _ => v' = .int .i64 ((l.length : Nat)), fun v' _ => v' = .bool true, fun v' _ => v' = .bool true, fun v' _ => v' = .slice (some ⟨g, 0, none⟩) l.length c', fun v' _ => v' = .int .i64 ((k : Nat)), fun v' _ => v' = .pointer (some ⟨g, k * 2, none⟩), fun v' _ => v' = .agg #[.int .i64 l[k].1, .int .i64 l[k].2], fun v' _ => v' = .slice (some ⟨ub, uo, none⟩) us.length c, fun v' _ => v' = .int .i64 ((i : Nat)), fun v' _ => v' = .pointer (some ⟨ub, uo + i * 4, none⟩), fun v' _ => v' = .pointer (some ⟨ub, uo + i * 4 + 1, none⟩), fun v' _ => v' = .agg #[.int .i64 us[i].1.2.1, .int .i64 us[i].1.2.2], fun v' _ => v' = .bool true]
                (by kernel_rfl) (by kernel_rfl) rfl ⟨stable_pure _, stable_pure _, stable_pure _, stable_pure _, stable_pure _, stable_pure _, stable_pure _, stable_pure _, stable_pure _, stable_pure _, stable_pure _, stable_pure _, stable_pure _, stable_pure _, stable_pure _, trivial⟩ ?_
              refine wf_stepK [] [] (by kernel_rfl) (by kernel_rfl) (fun wf hb hf => ?_) (fun t0 => ?_)
              · refine ⟨?_⟩
                go_wp2
                exact ⟨rfl, .int .i64 ((k : Nat)), by kernel_rfl, Below.refl _ _, rfl⟩
              refine wf_stepK [] [] (by kernel_rfl) (by kernel_rfl) (fun wf hb hf => ?_) (fun t1 => ?_)
              · refine ⟨?_⟩
                go_wp2
                exact ⟨rfl, .slice (some ⟨g, 0, none⟩) l.length c', by kernel_rfl, Below.refl _ _, rfl⟩
              refine wf_stepK [1] [fun _ => t1 = .slice (some ⟨g, 0, none⟩) l.length c'] (by kernel_rfl) (by kernel_rfl) (fun wf hb hf => ?_) (fun t2 => ?_)
              · obtain ⟨rfl, -⟩ := hf
                refine ⟨?_⟩
                go_wp2
                exact ⟨rfl, .int .i64 ((l.length : Nat)), by kernel_rfl, Below.refl _ _, rfl⟩
              refine wf_stepK [0, 2] [fun _ => t0 = .int .i64 ((k : Nat)), fun _ => t2 = .int .i64 ((l.length : Nat))] (by kernel_rfl) (by kernel_rfl) (fun wf hb hf => ?_) (fun t3 => ?_)
              · obtain ⟨rfl, rfl, -⟩ := hf
                refine ⟨?_⟩
                go_wp2
                exact ⟨rfl, .bool true, by kernel_rfl, Below.refl _ _, rfl⟩
              refine wf_stepK [3] [fun _ => t3 = .bool true] (by kernel_rfl) (by kernel_rfl) (fun wf hb hf => ?_) (fun t4 => ?_)
              · obtain ⟨rfl, -⟩ := hf
                refine ⟨?_⟩
                go_wp2
                exact ⟨rfl, .bool true, by kernel_rfl, Below.refl _ _, rfl⟩
              refine wf_stepK [4] [fun _ => t4 = .bool true] (by kernel_rfl) (by kernel_rfl) (fun wf hb hf => ?_) (fun t5 => ?_)
              · obtain ⟨rfl, -⟩ := hf
                refine WfOp.yes (by kernel_rfl) ?_
                dsimp only
                go_wp2
                exact ⟨rfl, .slice (some ⟨g, 0, none⟩) l.length c', by kernel_rfl, Below.refl _ _, rfl⟩
              refine wf_stepK [4] [fun _ => t4 = .bool true] (by kernel_rfl) (by kernel_rfl) (fun wf hb hf => ?_) (fun t6 => ?_)
              · obtain ⟨rfl, -⟩ := hf
                refine WfOp.yes (by kernel_rfl) ?_
                dsimp only
                go_wp2
                exact ⟨rfl, .int .i64 ((k : Nat)), by kernel_rfl, Below.refl _ _, rfl⟩
              refine wf_stepK [4, 5, 6] [fun _ => t4 = .bool true, fun _ => t5 = .slice (some ⟨g, 0, none⟩) l.length c', fun _ => t6 = .int .i64 ((k : Nat))] (by kernel_rfl) (by kernel_rfl) (fun wf hb hf => ?_) (fun t7 => ?_)
              · obtain ⟨rfl, rfl, rfl, -⟩ := hf
                refine WfOp.yes (by kernel_rfl) ?_
                dsimp only
                go_wp2
                exact ⟨rfl, .pointer (some ⟨g, k * 2, none⟩), by kernel_rfl, Below.refl _ _, rfl⟩
              refine wf_stepK [4, 7] [fun _ => t4 = .bool true, fun _ => t7 = .pointer (some ⟨g, k * 2, none⟩)] (by kernel_rfl) (by kernel_rfl) (fun wf hb hf => ?_) (fun t8 => ?_)
              · obtain ⟨rfl, rfl, -⟩ := hf
                refine WfOp.yes (by kernel_rfl) ?_
                dsimp only
                have p0 := (hb.cell (p := ⟨g, k * 2, none⟩) hgb).trans q0
                have p1 := (hb.cell (p := ⟨g, k * 2 + 1, none⟩) hgb).trans q1
                go_wp2
                exact ⟨rfl, .agg #[.int .i64 l[k].1, .int .i64 l[k].2], by kernel_rfl, Below.refl _ _, rfl⟩
              refine wf_stepK [4] [fun _ => t4 = .bool true] (by kernel_rfl) (by kernel_rfl) (fun wf hb hf => ?_) (fun t9 => ?_)
              · obtain ⟨rfl, -⟩ := hf
                refine WfOp.yes (by kernel_rfl) ?_
                dsimp only
                go_wp2
                exact ⟨rfl, .slice (some ⟨ub, uo, none⟩) us.length c, by kernel_rfl, Below.refl _ _, rfl⟩
              refine wf_stepK [4] [fun _ => t4 = .bool true] (by kernel_rfl) (by kernel_rfl) (fun wf hb hf => ?_) (fun t10 => ?_)
              · obtain ⟨rfl, -⟩ := hf
                refine WfOp.yes (by kernel_rfl) ?_
                dsimp only
                go_wp2
                exact ⟨rfl, .int .i64 ((i : Nat)), by kernel_rfl, Below.refl _ _, rfl⟩
              refine wf_stepK [4, 9, 10] [fun _ => t4 = .bool true, fun _ => t9 = .slice (some ⟨ub, uo, none⟩) us.length c, fun _ => t10 = .int .i64 ((i : Nat))] (by kernel_rfl) (by kernel_rfl) (fun wf hb hf => ?_) (fun t11 => ?_)
              · obtain ⟨rfl, rfl, rfl, -⟩ := hf
                refine WfOp.yes (by kernel_rfl) ?_
                dsimp only
                go_wp2
                exact ⟨rfl, .pointer (some ⟨ub, uo + i * 4, none⟩), by kernel_rfl, Below.refl _ _, rfl⟩
              refine wf_stepK [4, 11] [fun _ => t4 = .bool true, fun _ => t11 = .pointer (some ⟨ub, uo + i * 4, none⟩)] (by kernel_rfl) (by kernel_rfl) (fun wf hb hf => ?_) (fun t12 => ?_)
              · obtain ⟨rfl, rfl, -⟩ := hf
                refine WfOp.yes (by kernel_rfl) ?_
                dsimp only
                go_wp2
                exact ⟨rfl, .pointer (some ⟨ub, uo + i * 4 + 1, none⟩), by kernel_rfl, Below.refl _ _, rfl⟩
              refine wf_stepK [4, 12] [fun _ => t4 = .bool true, fun _ => t12 = .pointer (some ⟨ub, uo + i * 4 + 1, none⟩)] (by kernel_rfl) (by kernel_rfl) (fun wf hb hf => ?_) (fun t13 => ?_)
              · obtain ⟨rfl, rfl, -⟩ := hf
                refine WfOp.yes (by kernel_rfl) ?_
                dsimp only
                have p0 := (hb.cell (p := ⟨ub, uo + i * 4 + 1, none⟩) hub).trans r1
                have p1 := (hb.cell (p := ⟨ub, uo + i * 4 + 2, none⟩) hub).trans r2
                go_wp2
                exact ⟨rfl, .agg #[.int .i64 us[i].1.2.1, .int .i64 us[i].1.2.2], by kernel_rfl, Below.refl _ _, rfl⟩
              refine wf_stepK [4, 8, 13] [fun _ => t4 = .bool true, fun _ => t8 = .agg #[.int .i64 l[k].1, .int .i64 l[k].2], fun _ => t13 = .agg #[.int .i64 us[i].1.2.1, .int .i64 us[i].1.2.2]] (by kernel_rfl) (by kernel_rfl) (fun wf hb hf => ?_) (fun t14 => ?_)
              · obtain ⟨rfl, rfl, rfl, -⟩ := hf
                refine WfOp.yes (by kernel_rfl) ?_
                dsimp only
                go_wp2
                exact ⟨rfl, .bool true, by kernel_rfl, Below.refl _ _, rfl⟩
              refine wf_doneK [4, 14] [fun _ => t4 = .bool true, fun _ => t14 = .bool true] (by kernel_rfl) (by kernel_rfl) (fun w6 b6 hf => ?_)
              obtain ⟨rfl, rfl, -⟩ := hf
              show wpList _ _ _ [_] _ _
              refine wpList_frame (by simp [Act.put]; rfl) ?_
              have HB7 := Lib.hid (btr hb6 b6)
              have HO7 := Lib.hid (HO5.out.below b6)
              clear q0 q1 r1 r2 b6 hb6
              go_wp2
              go_roundw
              case rel => exact ⟨i + 1, g, c', l, by omega, by go_num, rfl, by unfold Hid; rw [HST.out, HSN.out], HO7.out, HB7.out⟩
              case measure => simp [intOf]; omega
            · have heq := timeIn_b (a := l[k]) (b := us[i].1.2) (r := false) (by simp [he])
              have HSN : Hid (insU l us[i].1.2 = l.take k ++ [us[i].1.2] ++ l.drop k) := by
                unfold insU insAt
                rw [HP.out, List.getElem?_eq_getElem hkl, if_neg (fun e => he (by injection e))]
                exact rfl
              have HO5 := Lib.hid hor5
              clear he hor5
              go_wp2_with fail
              refine wp_region_facts [[], [], [1], [0, 1, 2], List.range 4, List.range 5, List.range 5, List.range 7, List.range 8, List.range 5, List.range 5, [0, 1, 2, 3, 4, 9, 10], [0, 1, 2, 3, 4, 9, 10, 11], [0, 1, 2, 3, 4, 9, 10, 11, 12], List.range 14]
                [fun v' _ => v' = .int .i64 ((k : Nat)), fun v' _ => v' = .slice (some ⟨g, 0, none⟩) l.length c', fun v' _ => v' = .int .i64 ((l.length : Nat)), fun v' _ => v' = .bool true, fun v' _ => v' = .bool true, fun v' _ => v' = .slice (some ⟨g, 0, none⟩) l.length c', fun v' _ => v' = .int .i64 ((k : Nat)), fun v' _ => v' = .pointer (some ⟨g, k * 2, none⟩), fun v' _ => v' = .agg #[.int .i64 l[k].1, .int .i64 l[k].2], fun v' _ => v' = .slice (some ⟨ub, uo, none⟩) us.length c, fun v' _ => v' = .int .i64 ((i : Nat)), fun v' _ => v' = .pointer (some ⟨ub, uo + i * 4, none⟩), fun v' _ => v' = .pointer (some ⟨ub, uo + i * 4 + 1, none⟩), fun v' _ => v' = .agg #[.int .i64 us[i].1.2.1, .int .i64 us[i].1.2.2], fun v' _ => v' = .bool false]
                (by kernel_rfl) (by kernel_rfl) rfl ⟨stable_pure _, stable_pure _, stable_pure _, stable_pure _, stable_pure _, stable_pure _, stable_pure _, stable_pure _, stable_pure _, stable_pure _, stable_pure _, stable_pure _, stable_pure _, stable_pure _, stable_pure _, trivial⟩ ?_
              refine wf_stepK [] [] (by kernel_rfl) (by kernel_rfl) (fun wf hb hf => ?_) (fun t0 => ?_)
              · refine ⟨?_⟩
                go_wp2
                exact ⟨rfl, .int .i64 ((k : Nat)), by kernel_rfl, Below.refl _ _, rfl⟩
              refine wf_stepK [] [] (by kernel_rfl) (by kernel_rfl) (fun wf hb hf => ?_) (fun t1 => ?_)
              · refine ⟨?_⟩
                go_wp2
                exact ⟨rfl, .slice (some ⟨g, 0, none⟩) l.length c', by kernel_rfl, Below.refl _ _, rfl⟩
              refine wf_stepK [1] [fun _ => t1 = .slice (some ⟨g, 0, none⟩) l.length c'] (by kernel_rfl) (by kernel_rfl) (fun wf hb hf => ?_) (fun t2 => ?_)
              · obtain ⟨rfl, -⟩ := hf
                refine ⟨?_⟩
                go_wp2
                exact ⟨rfl, .int .i64 ((l.length : Nat)), by kernel_rfl, Below.refl _ _, rfl⟩
              refine wf_stepK [0, 2] [fun _ => t0 = .int .i64 ((k : Nat)), fun _ => t2 = .int .i64 ((l.length : Nat))] (by kernel_rfl) (by kernel_rfl) (fun wf hb hf => ?_) (fun t3 => ?_)
              · obtain ⟨rfl, rfl, -⟩ := hf
                refine ⟨?_⟩
                go_wp2
                exact ⟨rfl, .bool true, by kernel_rfl, Below.refl _ _, rfl⟩
              refine wf_stepK [3] [fun _ => t3 = .bool true] (by kernel_rfl) (by kernel_rfl) (fun wf hb hf => ?_) (fun t4 => ?_)
              · obtain ⟨rfl, -⟩ := hf
                refine ⟨?_⟩
                go_wp2
                exact ⟨rfl, .bool true, by kernel_rfl, Below.refl _ _, rfl⟩
              refine wf_stepK [4] [fun _ => t4 = .bool true] (by kernel_rfl) (by kernel_rfl) (fun wf hb hf => ?_) (fun t5 => ?_)
              · obtain ⟨rfl, -⟩ := hf
                refine WfOp.yes (by kernel_rfl) ?_
                dsimp only
                go_wp2
                exact ⟨rfl, .slice (some ⟨g, 0, none⟩) l.length c', by kernel_rfl, Below.refl _ _, rfl⟩
              refine wf_stepK [4] [fun _ => t4 = .bool true] (by kernel_rfl) (by kernel_rfl) (fun wf hb hf => ?_) (fun t6 => ?_)
              · obtain ⟨rfl, -⟩ := hf
                refine WfOp.yes (by kernel_rfl) ?_
                dsimp only
                go_wp2
                exact ⟨rfl, .int .i64 ((k : Nat)), by kernel_rfl, Below.refl _ _, rfl⟩
              refine wf_stepK [4, 5, 6] [fun _ => t4 = .bool true, fun _ => t5 = .slice (some ⟨g, 0, none⟩) l.length c', fun _ => t6 = .int .i64 ((k : Nat))] (by kernel_rfl) (by kernel_rfl) (fun wf hb hf => ?_) (fun t7 => ?_)
              · obtain ⟨rfl, rfl, rfl, -⟩ := hf
                refine WfOp.yes (by kernel_rfl) ?_
                dsimp only
                go_wp2
                exact ⟨rfl, .pointer (some ⟨g, k * 2, none⟩), by kernel_rfl, Below.refl _ _, rfl⟩
              refine wf_stepK [4, 7] [fun _ => t4 = .bool true, fun _ => t7 = .pointer (some ⟨g, k * 2, none⟩)] (by kernel_rfl) (by kernel_rfl) (fun wf hb hf => ?_) (fun t8 => ?_)
              · obtain ⟨rfl, rfl, -⟩ := hf
                refine WfOp.yes (by kernel_rfl) ?_
                dsimp only
                have p0 := (hb.cell (p := ⟨g, k * 2, none⟩) hgb).trans q0
                have p1 := (hb.cell (p := ⟨g, k * 2 + 1, none⟩) hgb).trans q1
                go_wp2
                exact ⟨rfl, .agg #[.int .i64 l[k].1, .int .i64 l[k].2], by kernel_rfl, Below.refl _ _, rfl⟩
              refine wf_stepK [4] [fun _ => t4 = .bool true] (by kernel_rfl) (by kernel_rfl) (fun wf hb hf => ?_) (fun t9 => ?_)
              · obtain ⟨rfl, -⟩ := hf
                refine WfOp.yes (by kernel_rfl) ?_
                dsimp only
                go_wp2
                exact ⟨rfl, .slice (some ⟨ub, uo, none⟩) us.length c, by kernel_rfl, Below.refl _ _, rfl⟩
              refine wf_stepK [4] [fun _ => t4 = .bool true] (by kernel_rfl) (by kernel_rfl) (fun wf hb hf => ?_) (fun t10 => ?_)
              · obtain ⟨rfl, -⟩ := hf
                refine WfOp.yes (by kernel_rfl) ?_
                dsimp only
                go_wp2
                exact ⟨rfl, .int .i64 ((i : Nat)), by kernel_rfl, Below.refl _ _, rfl⟩
              refine wf_stepK [4, 9, 10] [fun _ => t4 = .bool true, fun _ => t9 = .slice (some ⟨ub, uo, none⟩) us.length c, fun _ => t10 = .int .i64 ((i : Nat))] (by kernel_rfl) (by kernel_rfl) (fun wf hb hf => ?_) (fun t11 => ?_)
              · obtain ⟨rfl, rfl, rfl, -⟩ := hf
                refine WfOp.yes (by kernel_rfl) ?_
                dsimp only
                go_wp2
                exact ⟨rfl, .pointer (some ⟨ub, uo + i * 4, none⟩), by kernel_rfl, Below.refl _ _, rfl⟩
              refine wf_stepK [4, 11] [fun _ => t4 = .bool true, fun _ => t11 = .pointer (some ⟨ub, uo + i * 4, none⟩)] (by kernel_rfl) (by kernel_rfl) (fun wf hb hf => ?_) (fun t12 => ?_)
              · obtain ⟨rfl, rfl, -⟩ := hf
                refine WfOp.yes (by kernel_rfl) ?_
                dsimp only
                go_wp2
                exact ⟨rfl, .pointer (some ⟨ub, uo + i * 4 + 1, none⟩), by kernel_rfl, Below.refl _ _, rfl⟩
              refine wf_stepK [4, 12] [fun _ => t4 = .bool true, fun _ => t12 = .pointer (some ⟨ub, uo + i * 4 + 1, none⟩)] (by kernel_rfl) (by kernel_rfl) (fun wf hb hf => ?_) (fun t13 => ?_)
              · obtain ⟨rfl, rfl, -⟩ := hf
                refine WfOp.yes (by kernel_rfl) ?_
                dsimp only
                have p0 := (hb.cell (p := ⟨ub, uo + i * 4 + 1, none⟩) hub).trans r1
                have p1 := (hb.cell (p := ⟨ub, uo + i * 4 + 2, none⟩) hub).trans r2
                go_wp2
                exact ⟨rfl, .agg #[.int .i64 us[i].1.2.1, .int .i64 us[i].1.2.2], by kernel_rfl, Below.refl _ _, rfl⟩
              refine wf_stepK [4, 8, 13] [fun _ => t4 = .bool true, fun _ => t8 = .agg #[.int .i64 l[k].1, .int .i64 l[k].2], fun _ => t13 = .agg #[.int .i64 us[i].1.2.1, .int .i64 us[i].1.2.2]] (by kernel_rfl) (by kernel_rfl) (fun wf hb hf => ?_) (fun t14 => ?_)
              · obtain ⟨rfl, rfl, rfl, -⟩ := hf
                refine WfOp.yes (by kernel_rfl) ?_
                dsimp only
                go_wp2
                exact ⟨rfl, .bool false, by kernel_rfl, Below.refl _ _, rfl⟩
              refine wf_doneK [4, 14] [fun _ => t4 = .bool true, fun _ => t14 = .bool false] (by kernel_rfl) (by kernel_rfl) (fun w6 b6 hf => ?_)
              obtain ⟨rfl, rfl, -⟩ := hf
              show wpList _ _ _ [_] _ _
              refine wpList_frame (by simp [Act.put]; rfl) ?_
              have hor6 := HO5.out.below b6
              have hb7 := btr hb6 b6
              have p1 := (b6.cell (p := ⟨ub, uo + i * 4 + 1, none⟩) hub).trans r1
              have p2 := (b6.cell (p := ⟨ub, uo + i * 4 + 2, none⟩) hub).trans r2
              have hub6 : ub < w6.heap.size := Nat.lt_of_lt_of_le hub b6.size
              clear q0 q1 r1 r2 hb6 b6
              have hkc : ¬ c' = k := by omega
              have hc0 : ¬ c' = 0 := by omega
              have hz : Below w6.heap.size w6 (w6.alloc (.cells #[] 52)) := bal (Below.refl _ _) _
              have hlit := TmOwn.lit w6
              have hs1 := tms_src ((hor6.below hz).at_.take k)
              have hkt : (l.take k).length = k := by rw [List.length_take]; omega
              rw [hkt] at hs1
              have hsz7 : w6.heap.size ≤ (w6.alloc (.cells #[] 52)).heap.size := hz.size
              have HO6 := Lib.hid hor6
              have HP1 := Lib.hid p1
              have HP2 := Lib.hid p2
              clear hor6 p1 p2
              go_wp2_with (at_builtin; refine wpList_append_src _ rfl _ _ 30 rfl w6.heap.size 52 i0 (.agg #[.int .i64 0, .int .i64 0]) 2 16 Try.underlying30 hi hz0 hz1 hz2 rfl (by decide) _ _ _ rfl hlit (some ⟨g, 0, none⟩) k c' (timeL (l.take k)) rfl (by rw [timeL_len, hkt]) hs1.1 hs1.2 (tms_one _) (by simp [maxLen]; omega) (by simp; omega) hsz7 ?_)
              intro v1 w8 hown1 hgr1 _
              obtain ⟨A8, c8, hv8⟩ := own_slice hown1
              subst hv8
              have hz8 : Below w6.heap.size w6 w8 := hz.grown hgr1 hsz7 (fun q hq => (hlit.lt q (by rw [ownBlock_slice] at hq; exact hq)).1)
              have ho8 : TmOwn w8 w6.heap.size A8 c8 (l.take k) := by unfold TmOwn; rw [hkt]; simpa [timeL] using hown1
              have t1 := (hz8.cell (p := ⟨ub, uo + i * 4 + 1, none⟩) hub6).trans HP1.out
              have t2 := (hz8.cell (p := ⟨ub, uo + i * 4 + 2, none⟩) hub6).trans HP2.out
              have HO8 := Lib.hid ho8
              have hz9 := bal hz8 (.cells #[.int .i64 us[i].1.2.1, .int .i64 us[i].1.2.2] 52)
              have hsz9 := hz9.size
              try simp only [List.length_nil, Nat.zero_add] at hown1
              try simp only [List.length_nil, Nat.zero_add]
              clear hgr1 hs1 hlit hz ho8
              have ho9 : (w8.alloc (.cells #[.int .i64 us[i].1.2.1, .int .i64 us[i].1.2.2] 52)).ownsRow w6.heap.size 52 2 (.slice A8 k c8) k (timeL (l.take k)) := by
                have := World.ownsRow.alloc HO8.out (.cells #[.int .i64 us[i].1.2.1, .int .i64 us[i].1.2.2] 52)
                rw [hkt] at this
                exact this
              clear hown1
              go_wp2_with (at_builtin; refine wpList_append_src _ rfl _ _ 30 rfl w6.heap.size 52 i0 (.agg #[.int .i64 0, .int .i64 0]) 2 16 Try.underlying30 hi hz0 hz1 hz2 rfl (by decide) _ _ _ rfl ho9 (some ⟨w8.heap.size, 0, none⟩) 1 1 [.int .i64 us[i].1.2.1, .int .i64 us[i].1.2.2] rfl rfl (fun e => by cases e) (tm_srcs _ _) (tm_ones _ _) (by unfold maxLen; omega) (by omega) hsz9 ?_)
              intro v2 w10 hown2 hgr2 _
              have hz10 : Below w6.heap.size w6 w10 := hz9.grown hgr2 hsz9 (fun q hq => (HO8.out.lt q (by rw [ownBlock_slice] at hq; exact hq)).1)
              obtain ⟨A10, c10, hv10⟩ := own_slice hown2
              subst hv10
              have ho10 : TmOwn w10 w6.heap.size A10 c10 (l.take k ++ [us[i].1.2]) := by
                unfold TmOwn
                rw [timeL_append, List.length_append, hkt]
                first | exact hown2 | (rw [List.take_length]; exact hown2)
              have hor10 := HO6.out.below hz10
              have hsz10 := hz10.size
              have hdl : (l.drop k).length = l.length - k := List.length_drop
              have hs3 := (tms_src (hor10.at_.drop k)).2
              clear hgr2 t1 t2 ho9 hz9 hz8
              go_wp2_with (at_builtin; refine wpList_append_src _ rfl _ _ 30 rfl w6.heap.size 52 i0 (.agg #[.int .i64 0, .int .i64 0]) 2 16 Try.underlying30 hi hz0 hz1 hz2 rfl (by decide) _ _ _ rfl hown2 (some ⟨g, k * 2, none⟩) _ _ (timeL (l.drop k)) rfl (by rw [timeL_len, hdl]) (fun e => by cases e) hs3 (tms_one _) (by unfold maxLen; omega) (by omega) hsz10 ?_)
              intro v3 w11 hown3 hgr3 _
              have hz11 : Below w6.heap.size w6 w11 := hz10.grown hgr3 hsz10 (fun q hq => (ho10.lt q (by rw [ownBlock_slice] at hq; exact hq)).1)
              obtain ⟨A11, c11, hv11⟩ := own_slice hown3
              subst hv11
              have hln : (l.take k ++ [us[i].1.2] ++ l.drop k).length = l.length + 1 := by simp <;> omega
              have ho11 : TmOwn w11 w.heap.size A11 c11 (l.take k ++ [us[i].1.2] ++ l.drop k) := by
                refine TmOwn.mono (base := w6.heap.size) ?_ hb7.size
                unfold TmOwn
                rw [timeL_append, timeL_append, hln, show l.length + 1 = k + 1 + (l.length - k) by omega]
                first | exact hown3 | (rw [List.append_assoc]; exact hown3) | (rw [List.take_length]; exact hown3) | (rw [List.append_assoc, List.take_length, List.drop_length]; exact hown3)
              obtain ⟨g11, rfl, _, _, _, _⟩ : ∃ g', A11 = some ⟨g', 0, none⟩ ∧ w.heap.size ≤ g' ∧ g' < w11.heap.size ∧ (l.take k ++ [us[i].1.2] ++ l.drop k).length ≤ c11 ∧ c11 ≤ maxLen := by
                rcases ownsRow_form ho11 with ⟨_, _, h0⟩ | h0
                · omega
                · exact h0
              rw [← HSN.out] at ho11
              have HLN : Hid ((insU l us[i].1.2).length = k + 1 + (l.length - k)) := by rw [HSN.out, hln]; unfold Hid; omega
              have HO11 := Lib.hid ho11
              have HB11 : Hid (Below w.heap.size w w11) := hb7.trans (hz11.mono hb7.size)
              clear hown3 hgr3 ho11 hz11 ho10 hor10 hown2 hz10 hs3
              go_wp2
              go_roundw
              case rel => exact ⟨i + 1, g11, c11, insU l us[i].1.2, by omega, by go_num, by rw [HLN.out], HST.out.symm, HO11.out, HB11.out⟩
              case measure => simp [intOf]; omega
        · obtain rfl : k = l.length := by omega
          have HP : Hid (plc us[i].1.2 l = l.length) := plc_of us[i].1.2 l l.length hk hall.out (fun h => absurd h (Nat.lt_irrefl _))
          have HSN : Hid (insU l us[i].1.2 = l.take l.length ++ [us[i].1.2] ++ l.drop l.length) := by
            unfold insU insAt
            rw [HP.out, List.getElem?_eq_none (Nat.le_refl _), if_neg (by simp)]
            exact rfl
          have HOR := Lib.hid hor
          clear hor
          go_wp2_with fail
          refine wp_region_facts [[], [], [1], [0, 1, 2], List.range 4, List.range 5, List.range 5, List.range 7, List.range 8, List.range 5, List.range 5, [0, 1, 2, 3, 4, 9, 10], [0, 1, 2, 3, 4, 9, 10, 11], [0, 1, 2, 3, 4, 9, 10, 11, 12], List.range 14]
            [fun v' _ => v' = .int .i64 ((l.length : Nat)), fun v' _ => v' = .slice (some ⟨g, 0, none⟩) l.length c', fun v' _ => v' = .int .i64 ((l.length : Nat)), fun v' _ => v' = .bool false, fun v' _ => v' = .bool false, fun v' _ => v' = undef, fun v' _ => v' = undef, fun v' _ => v' = undef, fun v' _ => v' = undef, fun v' _ => v' = undef, fun v' _ => v' = undef, fun v' _ => v' = undef, fun v' _ => v' = undef, fun v' _ => v' = undef, fun v' _ => v' = undef]
            (by kernel_rfl) (by kernel_rfl) rfl ⟨stable_pure _, stable_pure _, stable_pure _, stable_pure _, stable_pure _, stable_pure _, stable_pure _, stable_pure _, stable_pure _, stable_pure _, stable_pure _, stable_pure _, stable_pure _, stable_pure _, stable_pure _, trivial⟩ ?_
          refine wf_stepK [] [] (by kernel_rfl) (by kernel_rfl) (fun wf hb hf => ?_) (fun t0 => ?_)
          · refine ⟨?_⟩
            go_wp2
            exact ⟨rfl, .int .i64 ((l.length : Nat)), by kernel_rfl, Below.refl _ _, rfl⟩
          refine wf_stepK [] [] (by kernel_rfl) (by kernel_rfl) (fun wf hb hf => ?_) (fun t1 => ?_)
          · refine ⟨?_⟩
            go_wp2
            exact ⟨rfl, .slice (some ⟨g, 0, none⟩) l.length c', by kernel_rfl, Below.refl _ _, rfl⟩
          refine wf_stepK [1] [fun _ => t1 = .slice (some ⟨g, 0, none⟩) l.length c'] (by kernel_rfl) (by kernel_rfl) (fun wf hb hf => ?_) (fun t2 => ?_)
          · obtain ⟨rfl, -⟩ := hf
            refine ⟨?_⟩
            go_wp2
            exact ⟨rfl, .int .i64 ((l.length : Nat)), by kernel_rfl, Below.refl _ _, rfl⟩
          refine wf_stepK [0, 2] [fun _ => t0 = .int .i64 ((l.length : Nat)), fun _ => t2 = .int .i64 ((l.length : Nat))] (by kernel_rfl) (by kernel_rfl) (fun wf hb hf => ?_) (fun t3 => ?_)
          · obtain ⟨rfl, rfl, -⟩ := hf
            refine ⟨?_⟩
            go_wp2
            exact ⟨rfl, .bool false, by kernel_rfl, Below.refl _ _, rfl⟩
          refine wf_stepK [3] [fun _ => t3 = .bool false] (by kernel_rfl) (by kernel_rfl) (fun wf hb hf => ?_) (fun t4 => ?_)
          · obtain ⟨rfl, -⟩ := hf
            refine ⟨?_⟩
            go_wp2
            exact ⟨rfl, .bool false, by kernel_rfl, Below.refl _ _, rfl⟩
          refine wf_stepK [4] [fun _ => t4 = .bool false] (by kernel_rfl) (by kernel_rfl) (fun wf hb hf => ?_) (fun t5 => ?_)
          · obtain ⟨rfl, -⟩ := hf
            exact WfOp.no (by kernel_rfl) rfl
          refine wf_stepK [4] [fun _ => t4 = .bool false] (by kernel_rfl) (by kernel_rfl) (fun wf hb hf => ?_) (fun t6 => ?_)
          · obtain ⟨rfl, -⟩ := hf
            exact WfOp.no (by kernel_rfl) rfl
          refine wf_stepK [4, 5, 6] [fun _ => t4 = .bool false, fun _ => t5 = undef, fun _ => t6 = undef] (by kernel_rfl) (by kernel_rfl) (fun wf hb hf => ?_) (fun t7 => ?_)
          · obtain ⟨rfl, rfl, rfl, -⟩ := hf
            exact WfOp.no (by kernel_rfl) rfl
          refine wf_stepK [4, 7] [fun _ => t4 = .bool false, fun _ => t7 = undef] (by kernel_rfl) (by kernel_rfl) (fun wf hb hf => ?_) (fun t8 => ?_)
          · obtain ⟨rfl, rfl, -⟩ := hf
            exact WfOp.no (by kernel_rfl) rfl
          refine wf_stepK [4] [fun _ => t4 = .bool false] (by kernel_rfl) (by kernel_rfl) (fun wf hb hf => ?_) (fun t9 => ?_)
          · obtain ⟨rfl, -⟩ := hf
            exact WfOp.no (by kernel_rfl) rfl
          refine wf_stepK [4] [fun _ => t4 = .bool false] (by kernel_rfl) (by kernel_rfl) (fun wf hb hf => ?_) (fun t10 => ?_)
          · obtain ⟨rfl, -⟩ := hf
            exact WfOp.no (by kernel_rfl) rfl
          refine wf_stepK [4, 9, 10] [fun _ => t4 = .bool false, fun _ => t9 = undef, fun _ => t10 = undef] (by kernel_rfl) (by kernel_rfl) (fun wf hb hf => ?_) (fun t11 => ?_)
          · obtain ⟨rfl, rfl, rfl, -⟩ := hf
            exact WfOp.no (by kernel_rfl) rfl
          refine wf_stepK [4, 11] [fun _ => t4 = .bool false, fun _ => t11 = undef] (by kernel_rfl) (by kernel_rfl) (fun wf hb hf => ?_) (fun t12 => ?_)
          · obtain ⟨rfl, rfl, -⟩ := hf
            exact WfOp.no (by kernel_rfl) rfl
          refine wf_stepK [4, 12] [fun _ => t4 = .bool false, fun _ => t12 = undef] (by kernel_rfl) (by kernel_rfl) (fun wf hb hf => ?_) (fun t13 => ?_)
          · obtain ⟨rfl, rfl, -⟩ := hf
            exact WfOp.no (by kernel_rfl) rfl
          refine wf_stepK [4, 8, 13] [fun _ => t4 = .bool false, fun _ => t8 = undef, fun _ => t13 = undef] (by kernel_rfl) (by kernel_rfl) (fun wf hb hf => ?_) (fun t14 => ?_)
          · obtain ⟨rfl, rfl, rfl, -⟩ := hf
            exact WfOp.no (by kernel_rfl) rfl
          refine wf_doneK [4, 14] [fun _ => t4 = .bool false, fun _ => t14 = undef] (by kernel_rfl) (by kernel_rfl) (fun w5 b5 hf => ?_)
          obtain ⟨rfl, rfl, -⟩ := hf
          show wpList _ _ _ [_] _ _
          refine wpList_frame (by simp [Act.put]; rfl) ?_
          have hb6 := btr hbel b5
          have r1' := (b5.cell (p := ⟨ub, uo + i * 4 + 1, none⟩) hub).trans r1
          have r2' := (b5.cell (p := ⟨ub, uo + i * 4 + 2, none⟩) hub).trans r2
          have hor5 := HOR.out.below b5
          have hub5 : ub < w5.heap.size := Nat.lt_of_lt_of_le hub b5.size
          clear r1 r2 hbel hbv hgb hub HOR b5
          go_wp2_with fail
          refine wp_region_facts [[], [], [1], [0, 1, 2], List.range 4, List.range 5, List.range 5, List.range 7, List.range 8, List.range 5, List.range 5, [0, 1, 2, 3, 4, 9, 10], [0, 1, 2, 3, 4, 9, 10, 11], [0, 1, 2, 3, 4, 9, 10, 11, 12], List.range 14]
            [fun v' _ => v' = .int .i64 ((l.length : Nat)), fun v' _ => v' = .slice (some ⟨g, 0, none⟩) l.length c', fun v' _ => v' = .int .i64 ((l.length : Nat)), fun v' _ => v' = .bool false, fun v' _ => v' = .bool false, fun v' _ => v' = undef, fun v' _ => v' = undef, fun v' _ => v' = undef, fun v' _ => v' = undef, fun v' _ => v' = undef, fun v' _ => v' = undef, fun v' _ => v' = undef, fun v' _ => v' = undef, fun v' _ => v' = undef, fun v' _ => v' = undef]
            (by kernel_rfl) (by kernel_rfl) rfl ⟨stable_pure _, stable_pure _, stable_pure _, stable_pure _, stable_pure _, stable_pure _, stable_pure _, stable_pure _, stable_pure _, stable_pure _, stable_pure _, stable_pure _, stable_pure _, stable_pure _, stable_pure _, trivial⟩ ?_
          refine wf_stepK [] [] (by kernel_rfl) (by kernel_rfl) (fun wf hb hf => ?_) (fun t0 => ?_)
          · refine ⟨?_⟩
            go_wp2
            exact ⟨rfl, .int .i64 ((l.length : Nat)), by kernel_rfl, Below.refl _ _, rfl⟩
          refine wf_stepK [] [] (by kernel_rfl) (by kernel_rfl) (fun wf hb hf => ?_) (fun t1 => ?_)
          · refine ⟨?_⟩
            go_wp2
            exact ⟨rfl, .slice (some ⟨g, 0, none⟩) l.length c', by kernel_rfl, Below.refl _ _, rfl⟩
          refine wf_stepK [1] [fun _ => t1 = .slice (some ⟨g, 0, none⟩) l.length c'] (by kernel_rfl) (by kernel_rfl) (fun wf hb hf => ?_) (fun t2 => ?_)
          · obtain ⟨rfl, -⟩ := hf
            refine ⟨?_⟩
            go_wp2
            exact ⟨rfl, .int .i64 ((l.length : Nat)), by kernel_rfl, Below.refl _ _, rfl⟩
          refine wf_stepK [0, 2] [fun _ => t0 = .int .i64 ((l.length : Nat)), fun _ => t2 = .int .i64 ((l.length : Nat))] (by kernel_rfl) (by kernel_rfl) (fun wf hb hf => ?_) (fun t3 => ?_)
          · obtain ⟨rfl, rfl, -⟩ := hf
            refine ⟨?_⟩
            go_wp2
            exact ⟨rfl, .bool false, by kernel_rfl, Below.refl _ _, rfl⟩
          refine wf_stepK [3] [fun _ => t3 = .bool false] (by kernel_rfl) (by kernel_rfl) (fun wf hb hf => ?_) (fun t4 => ?_)
          · obtain ⟨rfl, -⟩ := hf
            refine ⟨?_⟩
            go_wp2
            exact ⟨rfl, .bool false, by kernel_rfl, Below.refl _ _, rfl⟩
          refine wf_stepK [4] [fun _ => t4 = .bool false] (by kernel_rfl) (by kernel_rfl) (fun wf hb hf => ?_) (fun t5 => ?_)
          · obtain ⟨rfl, -⟩ := hf
            exact WfOp.no (by kernel_rfl) rfl
          refine wf_stepK [4] [fun _ => t4 = .bool false] (by kernel_rfl) (by kernel_rfl) (fun wf hb hf => ?_) (fun t6 => ?_)
          · obtain ⟨rfl, -⟩ := hf
            exact WfOp.no (by kernel_rfl) rfl
          refine wf_stepK [4, 5, 6] [fun _ => t4 = .bool false, fun _ => t5 = undef, fun _ => t6 = undef] (by kernel_rfl) (by kernel_rfl) (fun wf hb hf => ?_) (fun t7 => ?_)
          · obtain ⟨rfl, rfl, rfl, -⟩ := hf
            exact WfOp.no (by kernel_rfl) rfl
          refine wf_stepK [4, 7] [fun _ => t4 = .bool false, fun _ => t7 = undef] (by kernel_rfl) (by kernel_rfl) (fun wf hb hf => ?_) (fun t8 => ?_)
          · obtain ⟨rfl, rfl, -⟩ := hf
            exact WfOp.no (by kernel_rfl) rfl
          refine wf_stepK [4] [fun _ => t4 = .bool false] (by kernel_rfl) (by kernel_rfl) (fun wf hb hf => ?_) (fun t9 => ?_)
          · obtain ⟨rfl, -⟩ := hf
            exact WfOp.no (by kernel_rfl) rfl
          refine wf_stepK [4] [fun _ => t4 = .bool false] (by kernel_rfl) (by kernel_rfl) (fun wf hb hf => ?_) (fun t10 => ?_)
          · obtain ⟨rfl, -⟩ := hf
            exact WfOp.no (by kernel_rfl) rfl
          refine wf_stepK [4, 9, 10] [fun _ => t4 = .bool false, fun _ => t9 = undef, fun _ => t10 = undef] (by kernel_rfl) (by kernel_rfl) (fun wf hb hf => ?_) (fun t11 => ?_)
          · obtain ⟨rfl, rfl, rfl, -⟩ := hf
            exact WfOp.no (by kernel_rfl) rfl
          refine wf_stepK [4, 11] [fun _ => t4 = .bool false, fun _ => t11 = undef] (by kernel_rfl) (by kernel_rfl) (fun wf hb hf => ?_) (fun t12 => ?_)
          · obtain ⟨rfl, rfl, -⟩ := hf
            exact WfOp.no (by kernel_rfl) rfl
          refine wf_stepK [4, 12] [fun _ => t4 = .bool false, fun _ => t12 = undef] (by kernel_rfl) (by kernel_rfl) (fun wf hb hf => ?_) (fun t13 => ?_)
          · obtain ⟨rfl, rfl, -⟩ := hf
            exact WfOp.no (by kernel_rfl) rfl
          refine wf_stepK [4, 8, 13] [fun _ => t4 = .bool false, fun _ => t8 = undef, fun _ => t13 = undef] (by kernel_rfl) (by kernel_rfl) (fun wf hb hf => ?_) (fun t14 => ?_)
          · obtain ⟨rfl, rfl, rfl, -⟩ := hf
            exact WfOp.no (by kernel_rfl) rfl
          refine wf_doneK [4, 14] [fun _ => t4 = .bool false, fun _ => t14 = undef] (by kernel_rfl) (by kernel_rfl) (fun w6 b6 hf => ?_)
          obtain ⟨rfl, rfl, -⟩ := hf
          show wpList _ _ _ [_] _ _
          refine wpList_frame (by simp [Act.put]; rfl) ?_
          have hor6 := hor5.below b6
          have hb7 := btr hb6 b6
          have p1 := (b6.cell (p := ⟨ub, uo + i * 4 + 1, none⟩) hub5).trans r1'
          have p2 := (b6.cell (p := ⟨ub, uo + i * 4 + 2, none⟩) hub5).trans r2'
          have hub6 : ub < w6.heap.size := Nat.lt_of_lt_of_le hub5 b6.size
          clear r1' r2' hb6 b6 hor5
          by_cases hkc : c' = l.length
          · subst hkc
            by_cases h0 : l.length = 0
            · obtain rfl := List.eq_nil_of_length_eq_zero h0
              have hz : Below w6.heap.size w6 (w6.alloc (.cells #[] 52)) := bal (Below.refl _ _) _
              have hlit := TmOwn.lit w6
              have t1 := (hz.cell (p := ⟨ub, uo + i * 4 + 1, none⟩) hub6).trans p1
              have t2 := (hz.cell (p := ⟨ub, uo + i * 4 + 2, none⟩) hub6).trans p2
              have hz9 := bal hz (.cells #[.int .i64 us[i].1.2.1, .int .i64 us[i].1.2.2] 52)
              have hsz9 := hz9.size
              have ho9 : ((w6.alloc (.cells #[] 52)).alloc (.cells #[.int .i64 us[i].1.2.1, .int .i64 us[i].1.2.2] 52)).ownsRow w6.heap.size 52 2 (.slice (some ⟨w6.heap.size, 0, none⟩) 0 0) 0 [] := World.ownsRow.alloc hlit _
              have hsr := tm_srcs (w1 := w6.alloc (.cells #[] 52)) (E := 52) us[i].1.2.1 us[i].1.2.2
              clear hz hor6 p1 p2
              go_wp2_with (at_builtin; refine wpList_append_src _ rfl _ _ 30 rfl w6.heap.size 52 i0 (.agg #[.int .i64 0, .int .i64 0]) 2 16 Try.underlying30 hi hz0 hz1 hz2 rfl (by decide) _ _ _ rfl ho9 (some ⟨w6.heap.size + 1, 0, none⟩) 1 1 [.int .i64 us[i].1.2.1, .int .i64 us[i].1.2.2] rfl rfl (fun e => by cases e) (by simpa using hsr) (tm_ones _ _) (by simp [maxLen]) (by omega) hsz9 ?_)
              intro v2 w10 hown2 hgr2 _
              have hz10 : Below w6.heap.size w6 w10 := hz9.grown hgr2 hsz9 (fun q hq => (hlit.lt q hq).1)
              obtain ⟨A10, c10, hv10⟩ := own_slice hown2
              subst hv10
              have ho10 : TmOwn w10 w.heap.size A10 c10 [us[i].1.2] := TmOwn.mono (base := w6.heap.size) (by simpa [TmOwn, timeL] using hown2) hb7.size
              obtain ⟨g10, rfl, _, _, _, _⟩ : ∃ g', A10 = some ⟨g', 0, none⟩ ∧ w.heap.size ≤ g' ∧ g' < w10.heap.size ∧ [us[i].1.2].length ≤ c10 ∧ c10 ≤ maxLen := by
                rcases ownsRow_form ho10 with ⟨_, _, h0⟩ | h0
                · simp at h0
                · exact h0
              have HSE : Hid (insU [] us[i].1.2 = [us[i].1.2]) := by rw [HSN.out]; exact rfl
              have HO10 := Lib.hid ho10
              have HB10 : Hid (Below w.heap.size w w10) := hb7.trans (hz10.mono hb7.size)
              clear hown2 hgr2 ho9 hz9 ho10 hz10 hsr t1 t2 hlit
              go_wp2
              go_roundw
              case rel => exact ⟨i + 1, g10, c10, [us[i].1.2], by omega, by go_num, rfl, by unfold Hid; rw [HST.out, HSE.out], HO10.out, HB10.out⟩
              case measure => simp [intOf]; omega
            · skip
              have hz : Below w6.heap.size w6 (w6.alloc (.cells #[] 52)) := bal (Below.refl _ _) _
              have hlit := TmOwn.lit w6
              have hs1 := tms_src ((hor6.below hz).at_.take l.length)
              have hkt : (l.take l.length).length = l.length := by rw [List.length_take]; omega
              rw [hkt] at hs1
              have hsz7 : w6.heap.size ≤ (w6.alloc (.cells #[] 52)).heap.size := hz.size
              have HO6 := Lib.hid hor6
              have HP1 := Lib.hid p1
              have HP2 := Lib.hid p2
              clear hor6 p1 p2
              go_wp2_with (at_builtin; refine wpList_append_src _ rfl _ _ 30 rfl w6.heap.size 52 i0 (.agg #[.int .i64 0, .int .i64 0]) 2 16 Try.underlying30 hi hz0 hz1 hz2 rfl (by decide) _ _ _ rfl hlit (some ⟨g, 0, none⟩) l.length l.length (timeL (l.take l.length)) rfl (by rw [timeL_len, hkt]) hs1.1 hs1.2 (tms_one _) (by simp [maxLen]; omega) (by simp; omega) hsz7 ?_)
              intro v1 w8 hown1 hgr1 _
              obtain ⟨A8, c8, hv8⟩ := own_slice hown1
              subst hv8
              have hz8 : Below w6.heap.size w6 w8 := hz.grown hgr1 hsz7 (fun q hq => (hlit.lt q (by rw [ownBlock_slice] at hq; exact hq)).1)
              have ho8 : TmOwn w8 w6.heap.size A8 c8 (l.take l.length) := by unfold TmOwn; rw [hkt]; simpa [timeL] using hown1
              have t1 := (hz8.cell (p := ⟨ub, uo + i * 4 + 1, none⟩) hub6).trans HP1.out
              have t2 := (hz8.cell (p := ⟨ub, uo + i * 4 + 2, none⟩) hub6).trans HP2.out
              have HO8 := Lib.hid ho8
              have hz9 := bal hz8 (.cells #[.int .i64 us[i].1.2.1, .int .i64 us[i].1.2.2] 52)
              have hsz9 := hz9.size
              try simp only [List.length_nil, Nat.zero_add] at hown1
              try simp only [List.length_nil, Nat.zero_add]
              clear hgr1 hs1 hlit hz ho8
              have ho9 : (w8.alloc (.cells #[.int .i64 us[i].1.2.1, .int .i64 us[i].1.2.2] 52)).ownsRow w6.heap.size 52 2 (.slice A8 l.length c8) l.length (timeL (l.take l.length)) := by
                have := World.ownsRow.alloc HO8.out (.cells #[.int .i64 us[i].1.2.1, .int .i64 us[i].1.2.2] 52)
                rw [hkt] at this
                exact this
              clear hown1
              go_wp2_with (at_builtin; refine wpList_append_src _ rfl _ _ 30 rfl w6.heap.size 52 i0 (.agg #[.int .i64 0, .int .i64 0]) 2 16 Try.underlying30 hi hz0 hz1 hz2 rfl (by decide) _ _ _ rfl ho9 (some ⟨w8.heap.size, 0, none⟩) 1 1 [.int .i64 us[i].1.2.1, .int .i64 us[i].1.2.2] rfl rfl (fun e => by cases e) (tm_srcs _ _) (tm_ones _ _) (by unfold maxLen; omega) (by omega) hsz9 ?_)
              intro v2 w10 hown2 hgr2 _
              have hz10 : Below w6.heap.size w6 w10 := hz9.grown hgr2 hsz9 (fun q hq => (HO8.out.lt q (by rw [ownBlock_slice] at hq; exact hq)).1)
              obtain ⟨A10, c10, hv10⟩ := own_slice hown2
              subst hv10
              have ho10 : TmOwn w10 w6.heap.size A10 c10 (l.take l.length ++ [us[i].1.2]) := by
                unfold TmOwn
                rw [timeL_append, List.length_append, hkt]
                first | exact hown2 | (rw [List.take_length]; exact hown2)
              have hor10 := HO6.out.below hz10
              have hsz10 := hz10.size
              have hdl : (l.drop l.length).length = l.length - l.length := List.length_drop
              have hs3 := (show ∀ a, (some ⟨g, 0, none⟩ : Option Addr) = some a → ∀ j u, (timeL (l.drop l.length))[j]? = some u → w10.cell? (a.add j) = some u from fun a e j u hu => by rw [List.drop_length] at hu; simp [timeL] at hu)
              clear hgr2 t1 t2 ho9 hz9 hz8
              go_wp2_with (at_builtin; refine wpList_append_src _ rfl _ _ 30 rfl w6.heap.size 52 i0 (.agg #[.int .i64 0, .int .i64 0]) 2 16 Try.underlying30 hi hz0 hz1 hz2 rfl (by decide) _ _ _ rfl hown2 (some ⟨g, 0, none⟩) _ _ (timeL (l.drop l.length)) rfl (by rw [timeL_len, hdl]; simp) (fun e => by cases e) hs3 (tms_one _) (by unfold maxLen; omega) (by omega) hsz10 ?_)
              intro v3 w11 hown3 hgr3 _
              have hz11 : Below w6.heap.size w6 w11 := hz10.grown hgr3 hsz10 (fun q hq => (ho10.lt q (by rw [ownBlock_slice] at hq; exact hq)).1)
              obtain ⟨A11, c11, hv11⟩ := own_slice hown3
              subst hv11
              have hln : (l.take l.length ++ [us[i].1.2] ++ l.drop l.length).length = l.length + 1 := by simp <;> omega
              have ho11 : TmOwn w11 w.heap.size A11 c11 (l.take l.length ++ [us[i].1.2] ++ l.drop l.length) := by
                refine TmOwn.mono (base := w6.heap.size) ?_ hb7.size
                unfold TmOwn
                rw [timeL_append, timeL_append, hln, show l.length + 1 = l.length + 1 + (0) by omega]
                first | exact hown3 | (rw [List.append_assoc]; exact hown3) | (rw [List.take_length]; exact hown3) | (rw [List.append_assoc, List.take_length, List.drop_length]; exact hown3)
              obtain ⟨g11, rfl, _, _, _, _⟩ : ∃ g', A11 = some ⟨g', 0, none⟩ ∧ w.heap.size ≤ g' ∧ g' < w11.heap.size ∧ (l.take l.length ++ [us[i].1.2] ++ l.drop l.length).length ≤ c11 ∧ c11 ≤ maxLen := by
                rcases ownsRow_form ho11 with ⟨_, _, h0⟩ | h0
                · omega
                · exact h0
              rw [← HSN.out] at ho11
              have HLN : Hid ((insU l us[i].1.2).length = l.length + 1 + (0)) := by rw [HSN.out, hln]; unfold Hid; omega
              have HO11 := Lib.hid ho11
              have HB11 : Hid (Below w.heap.size w w11) := hb7.trans (hz11.mono hb7.size)
              clear hown3 hgr3 ho11 hz11 ho10 hor10 hown2 hz10 hs3
              go_wp2
              go_roundw
              case rel => exact ⟨i + 1, g11, c11, insU l us[i].1.2, by omega, by go_num, by rw [HLN.out], HST.out.symm, HO11.out, HB11.out⟩
              case measure => simp [intOf]; omega
          · have hc0 : ¬ c' = 0 := by omega
            have hz : Below w6.heap.size w6 (w6.alloc (.cells #[] 52)) := bal (Below.refl _ _) _
            have hlit := TmOwn.lit w6
            have hs1 := tms_src ((hor6.below hz).at_.take l.length)
            have hkt : (l.take l.length).length = l.length := by rw [List.length_take]; omega
            rw [hkt] at hs1
            have hsz7 : w6.heap.size ≤ (w6.alloc (.cells #[] 52)).heap.size := hz.size
            have HO6 := Lib.hid hor6
            have HP1 := Lib.hid p1
            have HP2 := Lib.hid p2
            clear hor6 p1 p2
            go_wp2_with (at_builtin; refine wpList_append_src _ rfl _ _ 30 rfl w6.heap.size 52 i0 (.agg #[.int .i64 0, .int .i64 0]) 2 16 Try.underlying30 hi hz0 hz1 hz2 rfl (by decide) _ _ _ rfl hlit (some ⟨g, 0, none⟩) l.length c' (timeL (l.take l.length)) rfl (by rw [timeL_len, hkt]) hs1.1 hs1.2 (tms_one _) (by simp [maxLen]; omega) (by simp; omega) hsz7 ?_)
            intro v1 w8 hown1 hgr1 _
            obtain ⟨A8, c8, hv8⟩ := own_slice hown1
            subst hv8
            have hz8 : Below w6.heap.size w6 w8 := hz.grown hgr1 hsz7 (fun q hq => (hlit.lt q (by rw [ownBlock_slice] at hq; exact hq)).1)
            have ho8 : TmOwn w8 w6.heap.size A8 c8 (l.take l.length) := by unfold TmOwn; rw [hkt]; simpa [timeL] using hown1
            have t1 := (hz8.cell (p := ⟨ub, uo + i * 4 + 1, none⟩) hub6).trans HP1.out
            have t2 := (hz8.cell (p := ⟨ub, uo + i * 4 + 2, none⟩) hub6).trans HP2.out
            have HO8 := Lib.hid ho8
            have hz9 := bal hz8 (.cells #[.int .i64 us[i].1.2.1, .int .i64 us[i].1.2.2] 52)
            have hsz9 := hz9.size
            try simp only [List.length_nil, Nat.zero_add] at hown1
            try simp only [List.length_nil, Nat.zero_add]
            clear hgr1 hs1 hlit hz ho8
            have ho9 : (w8.alloc (.cells #[.int .i64 us[i].1.2.1, .int .i64 us[i].1.2.2] 52)).ownsRow w6.heap.size 52 2 (.slice A8 l.length c8) l.length (timeL (l.take l.length)) := by
              have := World.ownsRow.alloc HO8.out (.cells #[.int .i64 us[i].1.2.1, .int .i64 us[i].1.2.2] 52)
              rw [hkt] at this
              exact this
            clear hown1
            go_wp2_with (at_builtin; refine wpList_append_src _ rfl _ _ 30 rfl w6.heap.size 52 i0 (.agg #[.int .i64 0, .int .i64 0]) 2 16 Try.underlying30 hi hz0 hz1 hz2 rfl (by decide) _ _ _ rfl ho9 (some ⟨w8.heap.size, 0, none⟩) 1 1 [.int .i64 us[i].1.2.1, .int .i64 us[i].1.2.2] rfl rfl (fun e => by cases e) (tm_srcs _ _) (tm_ones _ _) (by unfold maxLen; omega) (by omega) hsz9 ?_)
            intro v2 w10 hown2 hgr2 _
            have hz10 : Below w6.heap.size w6 w10 := hz9.grown hgr2 hsz9 (fun q hq => (HO8.out.lt q (by rw [ownBlock_slice] at hq; exact hq)).1)
            obtain ⟨A10, c10, hv10⟩ := own_slice hown2
            subst hv10
            have ho10 : TmOwn w10 w6.heap.size A10 c10 (l.take l.length ++ [us[i].1.2]) := by
              unfold TmOwn
              rw [timeL_append, List.length_append, hkt]
              first | exact hown2 | (rw [List.take_length]; exact hown2)
            have hor10 := HO6.out.below hz10
            have hsz10 := hz10.size
            have hdl : (l.drop l.length).length = l.length - l.length := List.length_drop
            have hs3 := (show ∀ a, (some ⟨g, l.length * 2, none⟩ : Option Addr) = some a → ∀ j u, (timeL (l.drop l.length))[j]? = some u → w10.cell? (a.add j) = some u from fun a e j u hu => by rw [List.drop_length] at hu; simp [timeL] at hu)
            clear hgr2 t1 t2 ho9 hz9 hz8
            go_wp2_with (at_builtin; refine wpList_append_src _ rfl _ _ 30 rfl w6.heap.size 52 i0 (.agg #[.int .i64 0, .int .i64 0]) 2 16 Try.underlying30 hi hz0 hz1 hz2 rfl (by decide) _ _ _ rfl hown2 (some ⟨g, l.length * 2, none⟩) _ _ (timeL (l.drop l.length)) rfl (by rw [timeL_len, hdl]; simp) (fun e => by cases e) hs3 (tms_one _) (by unfold maxLen; omega) (by omega) hsz10 ?_)
            intro v3 w11 hown3 hgr3 _
            have hz11 : Below w6.heap.size w6 w11 := hz10.grown hgr3 hsz10 (fun q hq => (ho10.lt q (by rw [ownBlock_slice] at hq; exact hq)).1)
            obtain ⟨A11, c11, hv11⟩ := own_slice hown3
            subst hv11
            have hln : (l.take l.length ++ [us[i].1.2] ++ l.drop l.length).length = l.length + 1 := by simp <;> omega
            have ho11 : TmOwn w11 w.heap.size A11 c11 (l.take l.length ++ [us[i].1.2] ++ l.drop l.length) := by
              refine TmOwn.mono (base := w6.heap.size) ?_ hb7.size
              unfold TmOwn
              rw [timeL_append, timeL_append, hln, show l.length + 1 = l.length + 1 + (0) by omega]
              first | exact hown3 | (rw [List.append_assoc]; exact hown3) | (rw [List.take_length]; exact hown3) | (rw [List.append_assoc, List.take_length, List.drop_length]; exact hown3)
            obtain ⟨g11, rfl, _, _, _, _⟩ : ∃ g', A11 = some ⟨g', 0, none⟩ ∧ w.heap.size ≤ g' ∧ g' < w11.heap.size ∧ (l.take l.length ++ [us[i].1.2] ++ l.drop l.length).length ≤ c11 ∧ c11 ≤ maxLen := by
              rcases ownsRow_form ho11 with ⟨_, _, h0⟩ | h0
              · omega
              · exact h0
            rw [← HSN.out] at ho11
            have HLN : Hid ((insU l us[i].1.2).length = l.length + 1 + (0)) := by rw [HSN.out, hln]; unfold Hid; omega
            have HO11 := Lib.hid ho11
            have HB11 : Hid (Below w.heap.size w w11) := hb7.trans (hz11.mono hb7.size)
            clear hown3 hgr3 ho11 hz11 ho10 hor10 hown2 hz10 hs3
            go_wp2
            go_roundw
            case rel => exact ⟨i + 1, g11, c11, insU l us[i].1.2, by omega, by go_num, by rw [HLN.out], HST.out.symm, HO11.out, HB11.out⟩
            case measure => simp [intOf]; omega
    · obtain rfl : i = us.length := by omega
      rw [List.take_length] at HLE
      have HB := Lib.hid hbel
      clear hbel
      go_wp2
      go_ret
      exact ⟨_, _, by rw [HR.out, ← HLE.out]; rfl, by rw [HR.out, ← HLE.out]; exact HO.out, HB.out⟩
end Go.Proofs.Ytkonhjdfcfljpaa
