/- HELPER, no statement of the seat: isSubset and firstOf of the laws, and what holds of keys. -/
import Derived.Test.YtjlpkfcdkmcjnaaGrd
import Derived.Test.YtjlpkfcdkmcjnaaKeysI
import Derived.Test.YtjlpkfcdkmcjnaaGrpE
import Derived.Test.YtjlpkfcdkmcjnaaDrawZ
namespace Go.Proofs.Ytjlpkfcdkmcjnaa
open Go.RowKit Go.Sort
set_option linter.unusedSimpArgs false
set_option linter.unusedVariables false

/-! ### What holds of keys -/
theorem keys_mem {z : List Ent} {m : Nat} (h : zsB z = true) (h1 : 1 ≤ m) (hm : m ≤ wid z) {e : Ent} (he : e ∈ KeysF z m) : e.2 = 1 ∧ ∃ t ∈ z, 0 < t.2 ∧ t.1.take m = e.1 := by
  rw [KeysF_yes h h1 hm, DisF_of (zsB_NormF _)] at he
  obtain ⟨h2, q, hq, hqe⟩ := disL_mem he
  refine ⟨h2, ?_⟩
  have hq2 : q ∈ nz (NormL ((disL z).map (keyE m))) := by
    unfold NormF at hq
    split at hq
    · unfold chkF at hq
      split at hq
      · exact hq
      · cases hq
    · cases hq
  rcases AddL_key (List.mem_filter.1 hq2).1 with ⟨p, hp, _⟩ | ⟨p, hp, e2⟩
  · cases hp
  · obtain ⟨d, hd, rfl⟩ := List.mem_map.1 hp
    obtain ⟨t, ht, rfl⟩ := List.mem_map.1 hd
    have := List.mem_filter.1 ht
    refine ⟨t, this.1, by simpa using this.2, ?_⟩
    rw [← hqe, e2]
    rfl
theorem keys_group {z : List Ent} {m : Nat} (h : zsB z = true) (h1 : 1 ≤ m) (hm : m ≤ wid z) {e : Ent} (he : e ∈ KeysF z m) : 0 < (DisF (GrpF z e.1)).length := by
  obtain ⟨_, t, ht, hp, hk⟩ := keys_mem h h1 hm he
  have hl : e.1.length = m := by
    rw [← hk, List.length_take, zsB_wid h t ht]
    omega
  have hG : GrpF z e.1 = z.filter (fun x => grpB e.1 x.1) := by
    unfold GrpF
    rw [if_pos (by simp [h]; omega)]
  rw [hG, DisF_of (zsB_filter _ h)]
  have : (t.1, (1 : Int)) ∈ disL (z.filter fun x => grpB e.1 x.1) := by
    refine List.mem_map.2 ⟨t, List.mem_filter.2 ⟨List.mem_filter.2 ⟨ht, ?_⟩, by simpa using hp⟩, rfl⟩
    simp [grpB, hl, hk]
  exact List.length_pos_of_mem this
theorem keys_zs {z : List Ent} {m : Nat} (h : zsB z = true) (h1 : 1 ≤ m) (hm : m ≤ wid z) : zsB (KeysF z m) = true := by
  rw [KeysF_yes h h1 hm]
  exact zsB_DisF (zsB_NormF _)
theorem keys_set {z : List Ent} {m : Nat} (h : zsB z = true) (h1 : 1 ≤ m) (hm : m ≤ wid z) : setB (KeysF z m) = true := by
  rw [KeysF_yes h h1 hm]
  exact setB_DisF (zsB_NormF _)
theorem keys_weight {z : List Ent} {m : Nat} (h : zsB z = true) (h1 : 1 ≤ m) (hm : m ≤ wid z) : ∀ e ∈ KeysF z m, WeightF (KeysF z m) e.1 ≠ 0 := fun e he => by
  obtain ⟨j, hj, rfl⟩ := List.getElem_of_mem he
  rw [W_at (keys_zs h h1 hm) hj, (keys_mem h h1 hm (List.getElem_mem hj)).1]
  decide
theorem allC_first (m : Nat) : allC m = firstC m := rfl
theorem keys_again {z : List Ent} {m : Nat} (h : zsB z = true) (h1 : 1 ≤ m) (hm : m ≤ wid z) (h6 : m ≤ 6) : DisF (MapF (DisF z) (allC m)) = KeysF z m := by
  rw [KeysF_yes h h1 hm, DisF_of h, allC_first, ← keys_map h hm]
  rcases Nat.eq_zero_or_pos (disL z).length with h0 | hp
  · rw [List.eq_nil_of_length_eq_zero h0, MapF_no (colB_zero _)]
    simp [NormF, NormL, nz, chkF]
  · have hw : wid (disL z) = wid z := wid_of (fun e he => by
      obtain ⟨_, q, hq, hqe⟩ := disL_mem he
      rw [← hqe]
      exact zsB_wid h q hq) hp
    have hc : colB (firstC m) (wid (disL z)) = true := by
      rw [hw]
      simp only [colB, decide_eq_true_eq]
      refine ⟨by rw [firstC_len]; exact h1, by rw [firstC_len]; exact h6, fun c hc => ?_⟩
      obtain ⟨i, hi, rfl⟩ := List.mem_map.1 hc
      have := List.mem_range.1 hi
      omega
    simp [MapF, zsB_dis h, hc]

/-! ### The laws' own functions -/
set_option maxHeartbeats 800000 in
theorem isSubset_yes (A : Option Addr) (c : Nat) (a : List Ent) (B : Option Addr) (d : Nat) (b : List Ent) (w : World) (hx : EntsAt w A a) (hy : EntsAt w B b) (hn : a.length ≤ 4194304) (hr : rowsIn a 4194304) (hm : b.length ≤ 4194304) (hs : rowsIn b 4194304) (hall : ∀ e ∈ a, WeightF b e.1 ≠ 0) :
    Calls Try.prog 36 #[.slice A a.length c, .slice B b.length d] w fun e w' => e = .returned (.bool true) ∧ Below w.heap.size w w' := by
  have HALL := Lib.hid hall
  have HX := Lib.hid hx
  clear hall hx
  go_enter Try.func36, Try.ntmps36
  go_wp2
  go_loopw [5] (fun i wr => ∃ k : Nat, k ≤ a.length ∧ i = .int .i64 k ∧ Below w.heap.size w wr) (fun i _ => a.length - (intOf i).toNat)
  case atStart => exact ⟨0, by omega, rfl, Below.refl _ _⟩
  case round =>
    obtain ⟨k, hk, rfl, hbel⟩ := hrel
    by_cases hlt : k < a.length
    · obtain ⟨b0, off, RA, rc, hAe, hbl, hc0, -, -, hrow⟩ := HX.out.get k hlt
      have q0 := (hbel.cell (p := ⟨b0, off + k * 2, none⟩) hbl).trans hc0
      subst hAe
      have hlt' : (k : Int) < a.length := by omega
      have hrl := hr.get hlt
      obtain ⟨x, hx⟩ : ∃ x, WeightF b a[k].1 = x := ⟨_, rfl⟩
      have hx0 : (x == 0) = false := by rw [beq_eq_false_iff_ne, ← hx]; exact HALL.out _ (List.getElem_mem hlt)
      have HW := Lib.hid hx
      clear hx hc0
      go_wp2_with fail
      refine (weightZ x HW.out (hy.below entR hbel) (hrow.below hbel) hm hs hrl).mono ?_
      rintro e w1 ⟨rfl, b1⟩
      have hb1 := btr hbel b1
      clear q0
      go_wp2
      go_roundw
      case rel => exact ⟨k + 1, by omega, by go_num, hb1⟩
      case measure => simp [intOf]; omega
    · obtain rfl : k = a.length := by omega
      go_wp2
      go_ret
      exact ⟨rfl, hbel⟩
set_option maxHeartbeats 1600000 in
theorem firstOf_l (n : Nat) (w : World) (hn : n ≤ 100) :
    Calls Try.prog 37 #[.int .i64 (n : Nat)] w fun e w' => ∃ A' c', e = .returned (.slice A' (allC n).length c') ∧ IntsAt w' A' (allC n) ∧ Below w.heap.size w w' := by
  obtain ⟨i0, hi, hz0, hz1, hz2⟩ := info_parts Try.infoInt
  have hw0 : (w.alloc (.cells #[] 3)).ownsRow w.heap.size 3 1 (.slice (some ⟨w.heap.size, 0, none⟩) 0 0) 0 ([].map (Value.int .i64)) := World.ownsRow_lit (base := w.heap.size) (size := 1) (e := 3) w #[] 0 (Nat.le_refl _) (by simp [maxLen]) (by simp)
  have HW0 := Lib.hid hw0
  clear hw0
  go_enter Try.func37, Try.ntmps37
  go_wp2
  go_loopw [3, 4] (fun v i wr => ∃ (k : Nat) (A' : Option Addr) (c' : Nat), k ≤ n ∧ i = .int .i64 (k : Nat) ∧ v = .slice A' k c' ∧ wr.ownsRow w.heap.size 3 1 (.slice A' k c') k ((allC k).map (Value.int .i64)) ∧ Below w.heap.size w wr) (fun _ i _ => n - (intOf i).toNat)
  case atStart => exact ⟨0, _, _, by omega, rfl, rfl, HW0.out, bal (Below.refl _ _) _⟩
  case round =>
    obtain ⟨k, A', c', hk, rfl, rfl, hown, bm⟩ := hrel
    have hsm := bm.size
    by_cases hlt : k < n
    · have hlt' : (k : Int) < n := by omega
      have HO := Lib.hid hown
      clear hown
      go_wp2_with (at_builtin; refine wpList_append_src _ rfl _ _ 32 rfl w.heap.size 3 i0 (.int .i64 0) 1 8 Try.underlying32 hi hz0 hz1 hz2 rfl (by decide) _ _ _ rfl (HO.out.alloc _) (some ⟨wr.heap.size, 0, none⟩) 1 1 [.int .i64 (k : Nat)] rfl rfl (fun h => by cases h) (intZ_srcs _) (intZ_ones _) (by unfold maxLen; omega) (by omega) (by simp; omega) ?_)
      intro v' wA hown' hgrow _
      obtain ⟨A3, c3, rfl⟩ := own_slice hown'
      have hbA : Below w.heap.size w wA := (bal bm _).grown hgrow (by simp; omega) (fun q hq => (World.ownsRow.lt HO.out q hq).1)
      have HO3 : Hid (wA.ownsRow w.heap.size 3 1 (.slice A3 (k + 1) c3) (k + 1) ((allC (k + 1)).map (Value.int .i64))) := by
        rw [Hid, allC_step, List.map_append]
        exact hown'
      clear hown' hgrow HO
      go_wp2
      go_roundw
      case rel => exact ⟨k + 1, A3, c3, by omega, by go_num, rfl, HO3.out, hbA⟩
      case measure => simp [intOf]; omega
    · obtain rfl : k = n := by omega
      have hal : (allC k).length = k := by simp [allC]
      have HI : Hid (IntsAt wr A' (allC k)) := by
        have h : IntsOwn wr w.heap.size A' c' (allC k) := by
          have : wr.ownsRow w.heap.size 3 1 (.slice A' (allC k).length c') (allC k).length ((allC k).map (Value.int .i64)) := by rw [hal]; exact hown
          simpa [IntsOwn] using this
        exact h.at_
      clear hown
      go_wp2
      go_ret
      exact ⟨A', c', by rw [hal]; rfl, HI.out, bm⟩
end Go.Proofs.Ytjlpkfcdkmcjnaa
