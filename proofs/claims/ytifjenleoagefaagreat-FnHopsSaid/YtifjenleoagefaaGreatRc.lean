/- HELPER, no statement of the seat: the vertices of a set, one by one. -/
import Derived.Test.YtifjenleoagefaaGreatCgl
import Derived.Test.YtifjenleoagefaaGreatRfn
import Derived.Stop.RegionWithIn
import Derived.Lib.QuietBelowIn
import Derived.Sort.QuietLawsIn
namespace Go.Proofs.YtifjenleoagefaaGreat
open Go.RowKit Go.Sort Go.Shelf
set_option linter.unusedSimpArgs false
set_option linter.unusedVariables false
attribute [local go_sem] Oper.semAt_some
theorem askedIn_wide (P : Program) (o : Oper) (a : Act) (C : World → Prop) : Oper.askedIn Fence.wide P o a C := fun _ _ _ _ => trivial
theorem wpQuietIn_frame {F : Fence} {n : Nat} {P : Program} {ops : Array Oper} {C : World → Prop} {Q : Act → Prop} {l : List Oper} {a b : Act} (h : a = b) (k : wpQuietIn F n P ops C Q l b) : wpQuietIn F n P ops C Q l a := h ▸ k

def vTo (a k : Nat) : List (Fin 20) := ((List.finRange 20).take k).filter fun y => a.testBit y.1
def vtxF (a : Nat) : List (Fin 20) := (List.finRange 20).filter fun y => a.testBit y.1
theorem vtxF_val (a : Nat) : (vtxF a).map Fin.val = vtx a := by
  have h : (List.finRange 20).map Fin.val = List.range 20 := by decide
  unfold vtx vtxF
  rw [← h, List.filter_map]
  rfl
theorem vTo_take {k : Nat} (hk : k < 20) : (List.finRange 20).take (k + 1) = (List.finRange 20).take k ++ [⟨k, hk⟩] := by
  rw [List.take_succ_eq_append_getElem (by simp; exact hk)]
  simp
theorem vTo_yes {a k : Nat} (hk : k < 20) (h : a.testBit k = true) : vTo a (k + 1) = vTo a k ++ [⟨k, hk⟩] := by
  unfold vTo
  rw [vTo_take hk, List.filter_append]
  simp [h]
theorem vTo_no {a k : Nat} (hk : k < 20) (h : a.testBit k = false) : vTo a (k + 1) = vTo a k := by
  unfold vTo
  rw [vTo_take hk, List.filter_append]
  simp [h]
theorem vTo_end (a : Nat) : vTo a 20 = vtxF a := by
  unfold vTo vtxF
  rw [List.take_of_length_le (by simp)]
theorem vTo_lt {a k : Nat} (h : a.testBit k = true) (hk : k < 20) : (vTo a k).length < (vtxF a).length := by
  have h1 : (vTo a (k + 1)).length ≤ (vtxF a).length := by
    unfold vTo vtxF
    exact List.Sublist.length_le (List.Sublist.filter _ (List.take_sublist _ _))
  rw [vTo_yes hk h, List.length_append] at h1
  simp at h1
  omega
theorem and_yes {a k : Nat} (ha : a < 4294967296) (hk : k < 20) (h : a.testBit k = true) : bits .and .u32 ((a : Nat) : Int) ((bitOf k : Nat) : Int) = ((bitOf k : Nat) : Int) := by
  rw [u32_and_nat _ _ ha (by have := bitOf_lt hk; omega)]
  unfold bitOf
  rw [nat_bit]
  rw [Nat.testBit_eq_decide_div_mod_eq, decide_eq_true_eq] at h
  rw [h, Nat.one_mul]
theorem and_no {a k : Nat} (ha : a < 4294967296) (hk : k < 20) (h : a.testBit k = false) : bits .and .u32 ((a : Nat) : Int) ((bitOf k : Nat) : Int) = 0 := by
  rw [u32_and_nat _ _ ha (by have := bitOf_lt hk; omega)]
  unfold bitOf
  rw [nat_bit]
  rw [Nat.testBit_eq_decide_div_mod_eq, decide_eq_false_iff_not] at h
  have : a / 2 ^ k % 2 = 0 := by omega
  rw [this, Nat.zero_mul]
  rfl
theorem bitOf_ne (k : Nat) : (((bitOf k : Nat) : Int) != 0) = true := by
  have : 0 < bitOf k := Nat.two_pow_pos k
  simp; omega
abbrev encN (y : Fin 20) : Array Value := #[.int .i64 ((y.1 : Nat) : Int)]
theorem vertices_i (a : Nat) (w : World) :
    Calls Tryz.prog 25 #[.int .u32 (a : Int)] w fun e w' => e = .returned (.func (.func 57) #[] #[.pointer (some ⟨w.heap.size, 0, none⟩)]) ∧ Blk w' w.heap.size 47 #[.int .u32 (a : Int)] ∧ Below w.heap.size w w' := by
  go_enter Tryz.func25, Tryz.ntmps25
  go_wp2
  go_ret
  exact ⟨rfl, Blk.newAt rfl, bal (Below.refl _ _) _⟩
/-- The iterator's own box, apart from what the loop owns. -/
def KpV (Bl : List Nat) (n₀ Bs a : Nat) (W : World) : Prop := Blk W Bs 47 #[.int .u32 (a : Int)] ∧ GoodO Bl n₀ W ∧ ¬ OwB Bl W Bs
theorem KpV.below {Bl : List Nat} {n₀ Bs a : Nat} {W W' : World} (h : KpV Bl n₀ Bs a W) (hb : Below W.heap.size W W') : KpV Bl n₀ Bs a W' :=
  ⟨h.1.below hb, h.2.1.below hb, fun ho => h.2.2 ((owB_same (fun B hB => hb.block B (h.2.1.1 B hB).2) Bs).1 ho)⟩
theorem KpV.kp {Bl : List Nat} {n₀ Bs a : Nat} {W W' : World} (h : KpV Bl n₀ Bs a W) (hk : KpO Bl n₀ W W') : KpV Bl n₀ Bs a W' := by
  have := hk.blk h.2.1 h.1 h.2.2
  exact ⟨this.1, this.2.1, this.2.2⟩
set_option maxRecDepth 100000 in
set_option maxHeartbeats 3200000 in
theorem vertices_stops (Bs : Nat) (a : Nat) (n₀ : Nat) (w0 : World) (Bl : List Nat) (hBs : Blk w0 Bs 47 #[.int .u32 (a : Int)]) (ha : a < 1048576) (hgd : GoodO Bl n₀ w0) (hno : ¬ OwB Bl w0 Bs) :
    ∀ n, 1 ≤ n → SeqStopsK Fence.wide n Tryz.prog 57 #[.pointer (some ⟨Bs, 0, none⟩)] encN (KpO Bl n₀) (fun ys => ys = vtxF a) (fun _ => True) (vtxF a).length w0 := by
  intro n h1 l J Jx W hW' hJ hJx hY h0
  have hW : KpV Bl n₀ Bs a W := KpV.below ⟨hBs, hgd, hno⟩ hW'
  clear hgd hW' hBs hno
  refine callsIn_of_wp Tryz.func57 rfl trivial ?_ rfl
  simp only [Tryz.ntmps57, List.size_toArray, List.length_cons, List.length_nil, Nat.reduceAdd, Nat.reduceSub, Array.replicate_succ, Array.replicate_zero, List.push_toArray, List.append_toArray, List.nil_append, List.cons_append]
  gi_wp2
  gi_loopw [4] (fun i wr => ∃ k : Nat, k ≤ 20 ∧ i = .int .i64 k ∧ J (vTo a k) wr ∧ KpV Bl n₀ Bs a wr) (fun i _ => 20 - (intOf i).toNat)
  case atStart => exact ⟨0, Nat.zero_le _, rfl, h0, hW⟩
  case round =>
    obtain ⟨k, hk, rfl, hJs, hbel⟩ := hrel
    by_cases hlt : k < 20
    · have hb0 := hbel.1.cell 0
      simp at hb0
      have hlt' : (k : Int) < 20 := by omega
      have hset := setOfVertex_w k hlt
      cases hbit : a.testBit k
      · have hand := and_no (show a < 4294967296 by omega) hlt hbit
        have HV := Lib.hid (vTo_no hlt hbit)
        have HB := Lib.hid hbel
        have HJ := Lib.hid hJs
        clear hbit hbel hJs
        have c0 := cgrow hb0
        have hsb := fun W => (hset W).mono (fun e w' (h : e = _ ∧ W = w') => (⟨h.1, h.2 ▸ Below.refl _ _⟩ : e = _ ∧ Below W.heap.size W w'))
        gi_wp2_with fail
        refine wpIn_region_quiet_below rfl (by kernel_rfl) (by kernel_rfl) ?_
        repeat (gi_big_quiet_step (fail))
        refine Go.BigFrame.wpQuietIn_want (askedIn_wide _ _ _ _) (by kernel_rfl) (fun K hK => ?_)
        gi_big_quiet_op
        apply Exists.intro
        refine ⟨fun _ => ?_, ?_⟩
        · gi_at_call 51
          exact CallsIn.regrown_of (callsIn_wide.2 (hsb _))
        refine hK _ ?_
        repeat (gi_big_quiet_step (fail))
        refine Go.BigFrame.wpQuietIn_skip (askedIn_wide _ _ _ _) (by kernel_rfl) (wpQuietIn_frame (by simp [Act.put]; rfl) ?_)
        repeat (gi_big_quiet_step (fail))
        refine wpQuietIn_nil ?_
        rintro wq ⟨p, rfl⟩
        have HJ2 := Lib.hid (abides_below hJ HJ.out (below_regrown wr p.d p.os))
        have HB2 := Lib.hid (HB.out.below (below_regrown wr p.d p.os))
        clear c0 hb0 hand hset hsb HJ HB
        generalize grow (redrawn wr p.d) p.os = wq at *
        gi_wp2
        go_roundw
        case rel => exact ⟨k + 1, by omega, by simp, by rw [HV.out]; exact HJ2.out, HB2.out⟩
        case measure => simp [intOf]; omega
      · have hand := and_yes (show a < 4294967296 by omega) hlt hbit
        have hne := bitOf_ne k
        obtain ⟨fn, tmps, assign, body, hy, hR⟩ := hY (vTo a k) ⟨k, hlt⟩ wr.drew (abides_below hJ hJs (Below.refl _ _).drew) (vTo_lt hbit hlt)
        have HV := Lib.hid (vTo_yes hlt hbit)
        have HB := Lib.hid hbel
        clear hbit hbel hJs
        gi_wp2_with fail
        have hR2 := hR.mono (fun e W3 (h : (e = _ ∧ _ ∧ _) ∨ (e = _ ∧ _)) => (h.elim (fun h => ⟨true, h.1, .inl ⟨rfl, h.2⟩⟩) (fun h => ⟨false, h.1, .inr ⟨rfl, h.2⟩⟩) : ∃ b : Bool, e = .returned (.bool b) ∧ (b = true ∧ J (vTo a k ++ [⟨k, hlt⟩]) W3 ∧ KpO Bl n₀ wr.drew W3 ∨ b = false ∧ Jx (vTo a k ++ [⟨k, hlt⟩]) W3)))
        clear hR
        gi_region_with (first | (refine ⟨trivial, ?_⟩; gi_at_call 51; refine (callsIn_wide.2 (hset _)).mono ?_; rintro e w2 ⟨rfl, rfl⟩) | (refine hR2.mono ?_; rintro e W3 ⟨bb, rfl, hbb⟩))
        all_goals
          rcases hbb with ⟨rfl, hJ3, hk3⟩ | ⟨rfl, hJx3⟩
          · have HJ3 := Lib.hid hJ3
            have HK3 := Lib.hid hk3
            clear hJ3 hk3
            gi_wp2
            go_roundw
            case rel => exact ⟨k + 1, by omega, by simp, by rw [HV.out]; exact HJ3.out, (HB.out.below (Below.refl _ _).drew).kp HK3.out⟩
            case measure => simp [intOf]; omega
          · gi_wp2
            refine bodyPost_ret (results_none rfl _ _ _) rfl ?_
            exact ⟨⟨_, rfl⟩, .inr ⟨_, trivial, hJx3⟩⟩
    · obtain rfl : k = 20 := by omega
      rw [vTo_end] at hJs
      gi_wp2
      go_end0
      exact ⟨⟨_, rfl⟩, .inl ⟨_, rfl, hJs⟩⟩
end Go.Proofs.YtifjenleoagefaaGreat
