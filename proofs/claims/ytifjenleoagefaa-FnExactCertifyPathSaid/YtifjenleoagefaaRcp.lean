/- HELPER, no statement of the seat: the vertices of a set, one by one; where the loop stops, it is told which came before. -/
import Derived.Test.YtifjenleoagefaaRc
namespace Go.Proofs.Ytifjenleoagefaa
open Go.RowKit Go.Sort Go.Shelf
set_option linter.unusedSimpArgs false
set_option linter.unusedVariables false
attribute [local go_sem] Oper.semAt_some

set_option maxRecDepth 100000 in
set_option maxHeartbeats 3200000 in
theorem vertices_stopsP (Bs : Nat) (a : Nat) (n₀ : Nat) (w0 : World) (Bl : List Nat) (hBs : Blk w0 Bs 59 #[.int .u32 (a : Int)]) (ha : a < 1048576) (hgd : GoodO Bl n₀ w0) (hno : ¬ OwB Bl w0 Bs) :
    ∀ n, 1 ≤ n → SeqStopsK Fence.wide n Try.prog 92 #[.pointer (some ⟨Bs, 0, none⟩)] encN (KpO Bl n₀) (fun ys => ys = vtxF a) (fun pre => ∃ k, ∃ hk : k < 20, a.testBit k = true ∧ pre = vTo a k ++ [⟨k, hk⟩]) (vtxF a).length w0 := by
  intro n h1 l J Jx W hW' hJ hJx hY h0
  have hW : KpV Bl n₀ Bs a W := KpV.below ⟨hBs, hgd, hno⟩ hW'
  clear hgd hW' hBs hno
  refine callsIn_of_wp Try.func92 rfl trivial ?_ rfl
  simp only [Try.ntmps92, List.size_toArray, List.length_cons, List.length_nil, Nat.reduceAdd, Nat.reduceSub, Array.replicate_succ, Array.replicate_zero, List.push_toArray, List.append_toArray, List.nil_append, List.cons_append]
  gi_wp2
  gi_loopw [4] (fun i wr => ∃ k : Nat, k ≤ 20 ∧ i = .int .i64 k ∧ J (vTo a k) wr ∧ KpV Bl n₀ Bs a wr) (fun i _ => 20 - (intOf i).toNat)
  case atStart => exact ⟨0, Nat.zero_le _, rfl, h0, hW⟩
  case round =>
    obtain ⟨k, hk, rfl, hJs, hbel⟩ := hrel
    by_cases hlt : k < 20
    · have hb0 := hbel.1.cell 0
      simp at hb0
      have hlt' : (k : Int) < 20 := by omega
      have hset := setOfVertex_w k hlt
      cases hbit : a.testBit k
      · have hand := and_no (show a < 4294967296 by omega) hlt hbit
        have HV := Lib.hid (vTo_no hlt hbit)
        have HB := Lib.hid hbel
        have HJ := Lib.hid hJs
        clear hbit hbel hJs
        have c0 := cgrow hb0
        have hsb := fun W => (hset W).mono (fun e w' (h : e = _ ∧ W = w') => (⟨h.1, h.2 ▸ Below.refl _ _⟩ : e = _ ∧ Below W.heap.size W w'))
        gi_wp2_with fail
        refine wpIn_region_quiet_below rfl (by kernel_rfl) (by kernel_rfl) ?_
        repeat (gi_big_quiet_step (fail))
        refine Go.BigFrame.wpQuietIn_want (askedIn_wide _ _ _ _) (by kernel_rfl) (fun K hK => ?_)
        gi_big_quiet_op
        apply Exists.intro
        refine ⟨fun _ => ?_, ?_⟩
        · gi_at_call 80
          exact CallsIn.regrown_of (callsIn_wide.2 (hsb _))
        refine hK _ ?_
        repeat (gi_big_quiet_step (fail))
        refine Go.BigFrame.wpQuietIn_skip (askedIn_wide _ _ _ _) (by kernel_rfl) (wpQuietIn_frame (by simp [Act.put]; rfl) ?_)
        repeat (gi_big_quiet_step (fail))
        refine wpQuietIn_nil ?_
        rintro wq ⟨p, rfl⟩
        have HJ2 := Lib.hid (abides_below hJ HJ.out (below_regrown wr p.d p.os))
        have HB2 := Lib.hid (HB.out.below (below_regrown wr p.d p.os))
        clear c0 hb0 hand hset hsb HJ HB
        generalize grow (redrawn wr p.d) p.os = wq at *
        gi_wp2
        go_roundw
        case rel => exact ⟨k + 1, by omega, by simp, by rw [HV.out]; exact HJ2.out, HB2.out⟩
        case measure => simp [intOf]; omega
      · have hand := and_yes (show a < 4294967296 by omega) hlt hbit
        have hne := bitOf_ne k
        obtain ⟨fn, tmps, assign, body, hy, hR⟩ := hY (vTo a k) ⟨k, hlt⟩ wr.drew (abides_below hJ hJs (Below.refl _ _).drew) (vTo_lt hbit hlt)
        have HBIT := Lib.hid hbit
        have HV := Lib.hid (vTo_yes hlt hbit)
        have HB := Lib.hid hbel
        clear hbit hbel hJs
        gi_wp2_with fail
        have hR2 := hR.mono (fun e W3 (h : (e = _ ∧ _ ∧ _) ∨ (e = _ ∧ _)) => (h.elim (fun h => ⟨true, h.1, .inl ⟨rfl, h.2⟩⟩) (fun h => ⟨false, h.1, .inr ⟨rfl, h.2⟩⟩) : ∃ b : Bool, e = .returned (.bool b) ∧ (b = true ∧ J (vTo a k ++ [⟨k, hlt⟩]) W3 ∧ KpO Bl n₀ wr.drew W3 ∨ b = false ∧ Jx (vTo a k ++ [⟨k, hlt⟩]) W3)))
        clear hR
        gi_region_with (first | (refine ⟨trivial, ?_⟩; gi_at_call 80; refine (callsIn_wide.2 (hset _)).mono ?_; rintro e w2 ⟨rfl, rfl⟩) | (refine hR2.mono ?_; rintro e W3 ⟨bb, rfl, hbb⟩))
        all_goals
          rcases hbb with ⟨rfl, hJ3, hk3⟩ | ⟨rfl, hJx3⟩
          · have HJ3 := Lib.hid hJ3
            have HK3 := Lib.hid hk3
            clear hJ3 hk3
            gi_wp2
            go_roundw
            case rel => exact ⟨k + 1, by omega, by simp, by rw [HV.out]; exact HJ3.out, (HB.out.below (Below.refl _ _).drew).kp HK3.out⟩
            case measure => simp [intOf]; omega
          · gi_wp2
            refine bodyPost_ret (results_none rfl _ _ _) rfl ?_
            exact ⟨⟨_, rfl⟩, .inr ⟨_, ⟨k, hlt, HBIT.out, rfl⟩, hJx3⟩⟩
    · obtain rfl : k = 20 := by omega
      rw [vTo_end] at hJs
      gi_wp2
      go_end0
      exact ⟨⟨_, rfl⟩, .inl ⟨_, rfl, hJs⟩⟩
end Go.Proofs.Ytifjenleoagefaa
