/- HELPER, no statement of the seat: Z-sets added one after the other. -/
import Derived.Test.YtjikdlldochhcabAddI
import Derived.Test.YtjikdlldochhcabAddZ
import Derived.Test.YtjikdlldochhcabZsm
namespace Go.Proofs.Ytjikdlldochhcab
open Go.RowKit Go.Sort
set_option linter.unusedSimpArgs false
set_option linter.unusedVariables false

theorem chkF_zs (z : List Ent) : zsB (chkF z) = true := by
  unfold chkF
  split
  · assumption
  · rfl
theorem AddF_zs (a b : List Ent) : zsB (AddF a b) = true := by
  unfold AddF
  split
  · exact chkF_zs _
  · rfl
theorem AddF_of {a b : List Ent} (ha : zsB a = true) (hb : zsB b = true) : AddF a b = chkF (nz (AddL a b)) := by simp [AddF, ha, hb]
def gatL (zs : List Zs) : Zs := zs.foldl AddF []
theorem gatL_step {zs : List Zs} {k : Nat} (h : k < zs.length) : gatL (zs.take (k + 1)) = AddF (gatL (zs.take k)) zs[k] := by
  rw [List.take_succ_eq_append_getElem h, gatL, List.foldl_append]
  rfl
theorem gatL_zs (zs : List Zs) : zsB (gatL zs) = true := by
  have : ∀ (zs : List Zs) (a : Zs), zsB a = true → zsB (zs.foldl AddF a) = true := by
    intro zs
    induction zs with
    | nil => intro a h; exact h
    | cons z l ih => intro a _; exact ih _ (AddF_zs a z)
  exact this zs [] rfl
def allZ (zs : List Zs) : Bool := zs.all zsB
theorem allZ_get {zs : List Zs} (h : allZ zs = true) {k : Nat} (hk : k < zs.length) : zsB zs[k] = true := List.all_eq_true.1 h _ (List.getElem_mem hk)
theorem allZ_bad {zs : List Zs} {k : Nat} (hk : k < zs.length) (h : zsB zs[k] = false) : allZ zs = false := by
  unfold allZ
  rw [List.all_eq_false]
  exact ⟨zs[k], List.getElem_mem hk, by simp [h]⟩
def upZ (zs : List Zs) (k : Nat) : Prop := ∀ j (h : j < zs.length), j < k → zsB zs[j] = true
theorem upZ_step {zs : List Zs} {k : Nat} (h : upZ zs k) (e : ∀ (hk : k < zs.length), zsB zs[k] = true) : upZ zs (k + 1) := fun j hj hlt => by
  rcases Nat.lt_succ_iff_lt_or_eq.1 hlt with h' | rfl
  · exact h j hj h'
  · exact e hj
theorem upZ_end {zs : List Zs} (h : upZ zs zs.length) : allZ zs = true := by
  unfold allZ
  rw [List.all_eq_true]
  intro z hz
  obtain ⟨j, hj, rfl⟩ := List.getElem_of_mem hz
  exact h j hj hj
def gatF (zs : List Zs) : Zs := if allZ zs = true ∧ zs.length ≤ 8 then gatL zs else []
theorem gatF_zs (zs : List Zs) : zsB (gatF zs) = true := by
  unfold gatF
  split
  · exact gatL_zs zs
  · rfl
theorem gatF_len (zs : List Zs) : (gatF zs).length ≤ 400 := zsB_len (gatF_zs zs)
theorem gatF_row (zs : List Zs) : rowsIn (gatF zs) 6 := zsB_row (gatF_zs zs)
theorem rowsIn_big {z : Zs} (h : zsB z = true) : z.length ≤ 4194304 ∧ rowsIn z 4194304 :=
  ⟨by have := zsB_len h; omega, fun e he => by have := zsB_row h e he; omega⟩
theorem endNoE (w W : World) (h : Below w.heap.size w W) : EntsOw (W.alloc (.cells #[] 50)) (news w (W.alloc (.cells #[] 50))) (some ⟨W.heap.size, 0, none⟩) 0 [] :=
  ⟨_, _, SlF.made EntO 2 50 W #[] 0 (by simp [maxLen]) (by simp) ⟨h.size, by simp⟩ (fun q hq => by have := hq.2; simpa using this)⟩
set_option maxHeartbeats 1600000 in
theorem gather_s (A : Option Addr) (c : Nat) (zs : List Zs) (w : World) (hx : ZssAt w A zs) (hz : allZ zs = true) (hn : zs.length ≤ 4194304) :
    Calls Try.prog 51 #[.slice A zs.length c] w fun e w' => ∃ A' c', e = .returned (.slice A' (gatL zs).length c') ∧ EntsOw w' (news w w') A' c' (gatL zs) ∧ Below w.heap.size w w' := by
  have HZ := Lib.hid hz
  clear hz
  have HE := Lib.hid (endNoE w w (Below.refl _ _))
  go_enter Try.func51, Try.ntmps51
  go_wp2
  go_loopw [3, 4] (fun o i wr => ∃ (k : Nat) (A' : Option Addr) (c' : Nat) (L : Zs), k ≤ zs.length ∧ i = .int .i64 (k : Nat) ∧ gatL (zs.take k) = L ∧ o = .slice A' L.length c' ∧ EntsOw wr (news w wr) A' c' L ∧ Below w.heap.size w wr) (fun _ i _ => zs.length - (intOf i).toNat)
  case atStart => exact ⟨0, _, 0, [], by omega, rfl, rfl, rfl, HE.out, bal (Below.refl _ _) _⟩
  case round =>
    obtain ⟨k, A', c', L, hk, rfl, hL, rfl, hown, hbel⟩ := hrel
    clear HE
    have HL := Lib.hid hL
    clear hL
    by_cases hlt : k < zs.length
    · obtain ⟨b, off, ZA, zc, rfl, hbl, hc0, hml, hzz⟩ := hx.get k hlt
      have q0 := (hbel.cell (p := ⟨b, off + k, none⟩) hbl).trans hc0
      have hzr : EntsAt wr ZA zs[k] := SlAt.below entR hzz hbel
      have hLz : zsB L = true := by rw [← HL.out]; exact gatL_zs _
      have hst := gatL_step hlt
      rw [HL.out, AddF_of hLz (allZ_get HZ.out hlt)] at hst
      have HS := Lib.hid hst
      have hcon := add_s A' c' L ZA zc zs[k] wr (EntsOw.at_ hown) hzr hLz (allZ_get HZ.out hlt)
      clear hst hc0 hzz hLz hown hzr
      go_wp2_with fail
      refine hcon.mono ?_
      rintro e w2 ⟨A2, c2, rfl, ho2, b2⟩
      have HO := Lib.hid (ho2.mono (S' := news w w2) (fun q hq => ⟨Nat.le_trans hbel.size hq.1, hq.2⟩) (fun q hq => hq.2))
      have HB := Lib.hid (btr hbel b2)
      clear hcon ho2 b2 hbel q0
      go_wp2
      go_roundw
      case rel => exact ⟨k + 1, A2, c2, _, by omega, by go_num, HS.out, rfl, HO.out, HB.out⟩
      case measure => simp [intOf]; omega
    · obtain rfl : k = zs.length := by omega
      have HT : Hid (gatL zs = L) := by have := HL.out; rwa [List.take_length] at this
      go_wp2
      go_ret
      exact ⟨A', c', by rw [HT.out]; rfl, by rw [HT.out]; exact hown, hbel⟩
set_option maxHeartbeats 1600000 in
theorem added_i (A : Option Addr) (c : Nat) (zs : List Zs) (w : World) (hx : ZssC w A zs) (hz : allZ zs = true) (hn : zs.length ≤ 4194304) :
    Calls Try.prog 52 #[.slice A zs.length c] w fun e w' => ∃ A' c', e = .returned (.slice A' (gatL zs).length c') ∧ EntsOw w' (news w w') A' c' (gatL zs) ∧ Below w.heap.size w w' := by
  have HZ := Lib.hid hz
  clear hz
  go_enter Try.func52, Try.ntmps52
  go_wp2
  go_loopw [3, 5, 8] (fun o _ i wr => ∃ (k : Nat) (A' : Option Addr) (c' : Nat) (L : Zs), k ≤ zs.length ∧ i = .int .i64 (k : Nat) ∧ gatL (zs.take k) = L ∧ o = .slice A' L.length c' ∧ EntsOw wr (news w wr) A' c' L ∧ Below w.heap.size w wr) (fun _ _ i _ => zs.length - (intOf i).toNat)
  case atStart => exact ⟨0, none, 0, [], by omega, rfl, rfl, rfl, SlOw.nil (fun q hq => hq.2), Below.refl _ _⟩
  case round =>
    obtain ⟨k, A', c', L, hk, rfl, hL, rfl, hown, hbel⟩ := hrel
    have HL := Lib.hid hL
    clear hL
    by_cases hlt : k < zs.length
    · obtain ⟨b, off, ZA, zc, rfl, hbl, hc0, hzc, hcm, hzz⟩ := hx.get k hlt
      have q0 := (hbel.cell (p := ⟨b, off + k, none⟩) hbl).trans hc0
      have hzr : EntsAt wr ZA zs[k] := SlAt.below entR hzz hbel
      have hLz : zsB L = true := by rw [← HL.out]; exact gatL_zs _
      have hKz := allZ_get HZ.out hlt
      have hst := gatL_step hlt
      rw [HL.out] at hst
      have HS := Lib.hid hst
      have hcon := Add_i A' c' L ZA zc zs[k] wr (EntsOw.at_ hown) hzr (EntsOw.len_cap hown).1 hzc (rowsIn_big hLz).1 (rowsIn_big hLz).2 (rowsIn_big hKz).1 (rowsIn_big hKz).2
      clear hst hc0 hzz hLz hKz hown hzr
      go_wp2_with fail
      refine hcon.mono ?_
      rintro e w2 ⟨A2, c2, rfl, ho2, b2⟩
      have HO := Lib.hid (ho2.mono (S' := news w w2) (fun q hq => ⟨Nat.le_trans hbel.size hq.1, hq.2⟩) (fun q hq => hq.2))
      have HB := Lib.hid (btr hbel b2)
      clear hcon ho2 b2 hbel q0
      go_wp2
      go_roundw
      case rel => exact ⟨k + 1, A2, c2, _, by omega, by go_num, HS.out, rfl, HO.out, HB.out⟩
      case measure => simp [intOf]; omega
    · obtain rfl : k = zs.length := by omega
      have HT : Hid (gatL zs = L) := by have := HL.out; rwa [List.take_length] at this
      go_wp2
      go_ret
      exact ⟨A', c', by rw [HT.out]; rfl, by rw [HT.out]; exact hown, hbel⟩
set_option maxHeartbeats 1600000 in
theorem Gather_s (A : Option Addr) (c : Nat) (zs : List Zs) (w : World) (hx : ZssC w A zs) (hn : zs.length ≤ 4194304) (hr : zsIn zs 4194304) :
    Calls Try.prog 23 #[.slice A zs.length c] w fun e w' => ∃ A' c', e = .returned (.slice A' (gatF zs).length c') ∧ EntsOw w' (news w w') A' c' (gatF zs) ∧ Below w.heap.size w w' := by
  go_enter Try.func23, Try.ntmps23
  go_wp2
  go_loopw [3] (fun i wr => ∃ k : Nat, k ≤ zs.length ∧ i = .int .i64 (k : Nat) ∧ upZ zs k ∧ Below w.heap.size w wr) (fun i _ => zs.length - (intOf i).toNat)
  case atStart => exact ⟨0, by omega, rfl, fun j _ h => absurd h (by omega), Below.refl _ _⟩
  case round =>
    obtain ⟨k, hk, rfl, hup, hbel⟩ := hrel
    have HU := Lib.hid hup
    clear hup
    by_cases hlt : k < zs.length
    · obtain ⟨b, off, ZA, zc, rfl, hbl, hc0, hzc, hcm, hzz⟩ := hx.get k hlt
      have q0 := (hbel.cell (p := ⟨b, off + k, none⟩) hbl).trans hc0
      have hzr : EntsAt wr ZA zs[k] := SlAt.below entR hzz hbel
      have hrl := hr.get hlt
      have hvz := validZSet_s ZA zc zs[k] wr hzr hrl.1 hrl.2
      clear hc0 hzz hzr
      cases e1 : zsB zs[k]
      · rw [e1] at hvz
        have HF : Hid (gatF zs = []) := by simp [Hid, gatF, allZ_bad hlt e1]
        clear e1
        go_wp2_with fail
        refine hvz.mono ?_
        rintro e w2 ⟨rfl, b2⟩
        have HE := Lib.hid (endNoE w w2 (btr hbel b2))
        have HB := Lib.hid (btr hbel b2)
        clear hvz b2 hbel q0
        go_wp2
        go_ret
        exact ⟨_, 0, by rw [HF.out]; rfl, by rw [HF.out]; exact HE.out, bal HB.out _⟩
      · rw [e1] at hvz
        have HK := Lib.hid e1
        clear e1
        go_wp2_with fail
        refine hvz.mono ?_
        rintro e w2 ⟨rfl, b2⟩
        have HB := Lib.hid (btr hbel b2)
        clear hvz b2 hbel q0
        go_wp2
        go_roundw
        case rel => exact ⟨k + 1, by omega, by go_num, upZ_step HU.out (fun _ => HK.out), HB.out⟩
        case measure => simp [intOf]; omega
    · obtain rfl : k = zs.length := by omega
      have hall := upZ_end HU.out
      by_cases h8 : zs.length ≤ 8
      · have HR : Hid (gatF zs = gatL zs) := by simp [Hid, gatF, hall, h8]
        have h8' : ¬ (8 : Int) < zs.length := by omega
        have hcon := gather_s A c zs wr ((ZssC.at_ hx).below hbel) hall hn
        clear hall
        go_wp2_with fail
        refine hcon.mono ?_
        rintro e w2 ⟨A2, c2, rfl, ho2, b2⟩
        have HO := Lib.hid (ho2.mono (S' := news w w2) (fun q hq => ⟨Nat.le_trans hbel.size hq.1, hq.2⟩) (fun q hq => hq.2))
        have HB := Lib.hid (btr hbel b2)
        clear hcon ho2 b2 hbel
        go_wp2
        go_ret
        exact ⟨A2, c2, by rw [HR.out]; rfl, by rw [HR.out]; exact HO.out, HB.out⟩
      · have HF : Hid (gatF zs = []) := by simp [Hid, gatF, h8]
        have h8' : (8 : Int) < zs.length := by omega
        have HE := Lib.hid (endNoE w wr hbel)
        clear hall
        go_wp2
        go_ret
        exact ⟨_, 0, by rw [HF.out]; rfl, by rw [HF.out]; exact HE.out, bal hbel _⟩
set_option maxHeartbeats 1600000 in
theorem Gather_i (A : Option Addr) (c : Nat) (zs : List Zs) (w : World) (hx : ZssC w A zs) (hn : zs.length ≤ 4194304) (hr : zsIn zs 4194304) :
    Calls Try.prog 25 #[.slice A zs.length c] w fun e w' => ∃ A' c', e = .returned (.slice A' (gatF zs).length c') ∧ EntsOw w' (news w w') A' c' (gatF zs) ∧ Below w.heap.size w w' := by
  have HN : Hid (∀ W, Below w.heap.size w W → EntsOw W (news w W) none 0 []) := fun W _ => SlOw.nil (fun q hq => hq.2)
  by_cases h8 : zs.length ≤ 8
  · have h8' : ¬ (8 : Int) < zs.length := by omega
    go_enter Try.func25, Try.ntmps25
    go_wp2
    go_loopw [4, 10] (fun _ i wr => ∃ k : Nat, k ≤ zs.length ∧ i = .int .i64 (k : Nat) ∧ upZ zs k ∧ Below w.heap.size w wr) (fun _ i _ => zs.length - (intOf i).toNat)
    case atStart => exact ⟨0, by omega, rfl, fun j _ h => absurd h (by omega), Below.refl _ _⟩
    case round =>
      obtain ⟨k, hk, rfl, hup, hbel⟩ := hrel
      have HU := Lib.hid hup
      clear hup
      by_cases hlt : k < zs.length
      · obtain ⟨b, off, ZA, zc, rfl, hbl, hc0, hzc, hcm, hzz⟩ := hx.get k hlt
        have q0 := (hbel.cell (p := ⟨b, off + k, none⟩) hbl).trans hc0
        have hzr : EntsAt wr ZA zs[k] := SlAt.below entR hzz hbel
        have hrl := hr.get hlt
        have hvz := ValidZSet_i ZA zc zs[k] wr hzr hrl.1 hrl.2
        clear hc0 hzz hzr
        cases e1 : zsB zs[k]
        · rw [e1] at hvz
          have HF : Hid (gatF zs = []) := by simp [Hid, gatF, allZ_bad hlt e1]
          clear e1
          go_wp2_with fail
          refine hvz.mono ?_
          rintro e w2 ⟨rfl, b2⟩
          have HB := Lib.hid (btr hbel b2)
          clear hvz b2 hbel q0
          go_wp2
          go_ret
          exact ⟨none, 0, by rw [HF.out]; rfl, by rw [HF.out]; exact HN.out _ HB.out, HB.out⟩
        · rw [e1] at hvz
          have HK := Lib.hid e1
          clear e1
          go_wp2_with fail
          refine hvz.mono ?_
          rintro e w2 ⟨rfl, b2⟩
          have HB := Lib.hid (btr hbel b2)
          clear hvz b2 hbel q0
          go_wp2
          go_roundw
          case rel => exact ⟨k + 1, by omega, by go_num, upZ_step HU.out (fun _ => HK.out), HB.out⟩
          case measure => simp [intOf]; omega
      · obtain rfl : k = zs.length := by omega
        have hall := upZ_end HU.out
        have HR : Hid (gatF zs = gatL zs) := by simp [Hid, gatF, hall, h8]
        have hcon := added_i A c zs wr (SlAt.below zlC hx hbel) hall hn
        clear hall
        go_wp2_with fail
        refine hcon.mono ?_
        rintro e w2 ⟨A2, c2, rfl, ho2, b2⟩
        have HO := Lib.hid (ho2.mono (S' := news w w2) (fun q hq => ⟨Nat.le_trans hbel.size hq.1, hq.2⟩) (fun q hq => hq.2))
        have HB := Lib.hid (btr hbel b2)
        clear hcon ho2 b2 hbel
        go_wp2
        go_ret
        exact ⟨A2, c2, by rw [HR.out]; rfl, by rw [HR.out]; exact HO.out, HB.out⟩
  · have HF : Hid (gatF zs = []) := by simp [Hid, gatF, h8]
    have h8' : (8 : Int) < zs.length := by omega
    go_enter Try.func25, Try.ntmps25
    go_wp2
    go_ret
    exact ⟨none, 0, by rw [HF.out]; rfl, by rw [HF.out]; exact HN.out _ (Below.refl _ _), Below.refl _ _⟩
end Go.Proofs.Ytjikdlldochhcab
