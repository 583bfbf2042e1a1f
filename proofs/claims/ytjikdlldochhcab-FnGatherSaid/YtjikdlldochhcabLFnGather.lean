/- The law FnGather returns true at every two codes; no condition. -/
import Derived.Test.YtjikdlldochhcabGat
import Derived.Test.YtjikdlldochhcabAlk
import Derived.Test.YtjikdlldochhcabDrawL
import Derived.Test.YtjikdlldochhcabEqZ
import Derived.Test.YtjikdlldochhcabClo
import Derived.Carry
import Derived.ChangeOld
import Derived.Lib.SmallJoins
import Derived.Lib.QuietBelow
namespace Go.Proofs.Ytjikdlldochhcab
open Go.ChangeShapes Go.WideShapes Go.ChangeAt Go.RowKit Go.Sort
set_option linter.unusedVariables false
set_option linter.unusedSimpArgs false

def EnC (z : List Ent) (v : Value) (w : World) : Prop := ∃ A c, v = .slice A z.length c ∧ EntsAt w A z ∧ z.length ≤ c
theorem stable_enC (z : List Ent) : Stable (EnC z) := fun _ _ _ hb ⟨A, c, e, h, k⟩ => ⟨A, c, e, h.below entR hb, k⟩
def SubV (n : Nat) (l : List Zs) (v : Value) (w : World) : Prop := ∃ A c, v = .slice A n c ∧ ZssC w A l
theorem stable_subV (n : Nat) (l : List Zs) : Stable (SubV n l) := fun _ _ _ hb ⟨A, c, e, h⟩ => ⟨A, c, e, SlAt.below zlC h hb⟩
theorem ZssC.take {w : World} {A : Option Addr} {zs : List Zs} (h : ZssC w A zs) (k : Nat) : ZssC w A (zs.take k) := fun hn => by
  have hl : (zs.take k).length ≤ zs.length := by simp; omega
  obtain ⟨b, off, e, hlt, hc⟩ := h (by omega)
  refine ⟨b, off, e, hlt, fun j hj => ?_⟩
  obtain ⟨cs, h1, h2, h3⟩ := hc j (by omega)
  exact ⟨cs, h1, h2, by rw [List.getElem_take]; exact h3⟩
theorem ZssC.drop {w : World} {b : Nat} {zs : List Zs} (h : ZssC w (some ⟨b, 0, none⟩) zs) (k : Nat) : ZssC w (some ⟨b, k, none⟩) (zs.drop k) := fun hn => by
  have hl : (zs.drop k).length = zs.length - k := List.length_drop
  obtain ⟨b', off, e, hlt, hc⟩ := h (by omega)
  injection e with e
  injection e with e1 e2
  subst e1
  subst e2
  refine ⟨b, k, rfl, hlt, fun j hj => ?_⟩
  obtain ⟨cs, h1, h2, h3⟩ := hc (k + j) (by omega)
  refine ⟨cs, h1, fun i hi => ?_, by rw [List.getElem_drop]; exact h3⟩
  have := h2 i hi
  rw [← this]
  congr 2
  omega
theorem gatL_Sm {q : Nat} : ∀ (l : List Zs) (a : Zs) (n : Nat) (b : Int), Sm q n b a → 0 ≤ b → (∀ z ∈ l, Sm q 12 9 z) → n + 12 * l.length ≤ 400 → b + 9 * (l.length : Int) ≤ 1000000 →
    Sm q (n + 12 * l.length) (b + 9 * (l.length : Int)) (l.foldl AddF a) ∧ ∀ r, wsum (l.foldl AddF a) r = wsum a r + wsum (l.flatten) r
  | [], a, n, b, ha, _, _, _, _ => ⟨by simpa using ha, fun r => by simp [wsum_nil]⟩
  | z :: l, a, n, b, ha, hb, hl, hn, hw => by
    have hz := hl z (by simp)
    simp only [List.length_cons] at hn hw
    have h1 := ha.add hz hb (by omega) (by omega) (by omega)
    have h2 := gatL_Sm l (AddF a z) (n + 12) (b + 9) h1 (by omega) (fun y hy => hl y (by simp [hy])) (by omega) (by omega)
    refine ⟨?_, fun r => ?_⟩
    · have h3 := h2.1
      simp only [List.length_cons, List.foldl_cons]
      rw [show n + 12 * (l.length + 1) = n + 12 + 12 * l.length by omega, show b + 9 * ((l.length + 1 : Nat) : Int) = b + 9 + 9 * (l.length : Int) by omega]
      exact h3
    · rw [List.foldl_cons, h2.2 r, ha.add_wsum hz hb (by omega) (by omega) (by omega) r, List.flatten_cons, wsum_append]
      omega
theorem allZ_Sm {zs : List Zs} {q : Nat} (h : ∀ z ∈ zs, Sm q 12 9 z) : allZ zs = true := List.all_eq_true.2 (fun z hz => (h z hz).zs)
theorem gatF_Sm {zs : List Zs} {q : Nat} (h : ∀ z ∈ zs, Sm q 12 9 z) (hl : zs.length ≤ 8) : gatF zs = gatL zs := by simp [gatF, allZ_Sm h, hl]
theorem gatL_split {zs : List Zs} {q : Nat} (h : ∀ z ∈ zs, Sm q 12 9 z) (hl : zs.length ≤ 8) (k : Nat) : AddF (gatL (zs.take k)) (gatL (zs.drop k)) = gatL zs := by
  have h1 := gatL_Sm (zs.take k) [] 0 0 (Sm.nil _ _ _) (by omega) (fun z hz => h z (List.mem_of_mem_take hz)) (by simp; omega) (by simp; omega)
  have h2 := gatL_Sm (zs.drop k) [] 0 0 (Sm.nil _ _ _) (by omega) (fun z hz => h z (List.mem_of_mem_drop hz)) (by simp; omega) (by simp; omega)
  have h3 := gatL_Sm zs [] 0 0 (Sm.nil _ _ _) (by omega) h (by simp; omega) (by omega)
  have l1 : (zs.take k).length ≤ 8 := by simp; omega
  have l2 : (zs.drop k).length ≤ 8 := by simp; omega
  refine zs_ext (h1.1.add h2.1 (by omega) (by omega) (by omega) (by omega)).zs h3.1.zs (fun r => ?_)
  have e1 := h1.1.add_wsum h2.1 (by omega) (by omega) (by omega) (by omega) r
  refine e1.trans ?_
  have a1 := h1.2 r
  have a2 := h2.2 r
  have a3 := h3.2 r
  have a4 : wsum zs.flatten r = wsum (zs.take k).flatten r + wsum (zs.drop k).flatten r := by rw [← wsum_append, ← List.flatten_append, List.take_append_drop]
  rw [wsum_nil] at a1 a2 a3
  show wsum ((zs.take k).foldl AddF []) r + wsum ((zs.drop k).foldl AddF []) r = wsum (zs.foldl AddF []) r
  omega
theorem gatF_one {z : Zs} (h : zsB z = true) : gatF [z] = z := by
  have : allZ [z] = true := by simp [allZ, h]
  simp only [gatF, this, gatL, List.foldl_cons, List.foldl_nil]
  rw [if_pos ⟨trivial, by simp⟩, AddF_comm, AddF_nil h]
set_option maxRecDepth 100000 in
set_option maxHeartbeats 6400000 in
theorem FnGather_walk (A : Option Addr) (n c : Nat) (B : Option Addr) (m d : Nat) (w : World) (hc : n ≤ c) (hl : n ≤ maxLen) (hb : BytesAt w w.heap.size A n) (hd : m ≤ d) (hlm : m ≤ maxLen) (hbm : BytesAt w w.heap.size B m) :
    Calls Try.prog 8 #[.slice A n c, .slice B m d] w fun e w' => e = .returned (.bool true) ∧ Below w.heap.size w w' := by
  unfold maxLen at hl hlm
  by_cases hbign : 1048576 < n
  · have hb' : (1048576 : Int) < n := by omega
    go_enter Try.func8, Try.ntmps8
    go_wp2
    go_ret
    exact ⟨rfl, Below.refl _ _⟩
  by_cases hbigm : 1048576 < m
  · have hb' : (1048576 : Int) < m := by omega
    have hbn' : (n : Int) ≤ 1048576 := by omega
    go_enter Try.func8, Try.ntmps8
    go_wp2
    go_ret
    exact ⟨rfl, Below.refl _ _⟩
  have hbn' : (n : Int) ≤ 1048576 := by omega
  have hbm' : (m : Int) ≤ 1048576 := by omega
  have HB := Lib.hid hb
  clear hb hbm hbign hbigm
  go_enter Try.func8, Try.ntmps8
  go_wp2_with fail
  refine (DrawGather_r _ _ _ _ HB.out hc (by omega)).mono ?_
  rintro e w1 ⟨zs, AZS, cz, rfl, ho, hl9, hzb, hAn, B1⟩
  have hC := ZssOw.atC ho
  have hcap := ZssOw.len_cap ho
  obtain ⟨b, rfl⟩ : ∃ b, AZS = some ⟨b, 0, none⟩ := by
    obtain ⟨css, FF, h⟩ := ho
    rcases h.form with ⟨h1, _, _⟩ | ⟨g, h1, _⟩
    · exact absurd h1 hAn
    · exact ⟨g, h1⟩
  have hzi := hzb.in_
  clear ho hzb hAn
  obtain ⟨hcap1, hcap2⟩ := hcap
  have hcap3 : (cz : Int) ≤ 9223372036854775807 := by unfold maxLen at hcap2; omega
  go_wp2_with fail
  refine (Gather_i _ _ zs _ hC (by omega) hzi).mono ?_
  rintro e w2 ⟨AZ, cZ, rfl, oZ, b2⟩
  have B2 := btr B1 b2
  have hZ2 := EntsOw.at_ oZ
  have hzl := gatF_len zs
  have hZl : (gatF zs).length ≤ 4194304 := by omega
  have hZr : rowsIn (gatF zs) 4194304 := fun e he => by have := gatF_row zs e he; omega
  have hspec := fun W (h : ZssC W (some ⟨b, 0, none⟩) zs) => Gather_s (some ⟨b, 0, none⟩) cz zs W h (by omega) hzi
  clear oZ
  generalize hZZ : gatF zs = ZZ at *
  have HZZ := Lib.hid hZZ
  clear hZZ
  go_wp2_with fail
  refine (hspec _ (SlAt.below zlC hC b2)).mono ?_
  rintro e w3 ⟨AS, cS, rfl, oS, b3⟩
  have B3 := btr B2 b3
  have hS3 := EntsOw.at_ oS
  clear oS
  go_wp2_with fail
  refine (equalZ (xs := ZZ) (ys := ZZ) true (decide_eq_true rfl) (hZ2.below entR b3) hS3 hZl hZl hZr hZr).mono ?_
  rintro e w4 ⟨rfl, b4⟩
  have B4 := btr B3 b4
  have hC4 : ZssC w4 (some ⟨b, 0, none⟩) zs := SlAt.below zlC hC (btr (btr b2 b3) b4)
  have hZ4 := hZ2.below entR (btr b3 b4)
  clear hS3 hC hZ2 b2 b3 b4
  by_cases h8 : zs.length ≤ 8
  case neg =>
    have h8' : (8 : Int) < zs.length := by omega
    clear h8
    go_wp2_with fail
    refine (hspec _ hC4).mono ?_
    rintro e w5 ⟨AS2, cS2, rfl, oS2, b5⟩
    have hS5 := EntsOw.at_ oS2
    clear oS2 hspec
    go_wp2_with fail
    refine (equalZ (xs := ZZ) (ys := ZZ) true (decide_eq_true rfl) (hZ4.below entR b5) hS5 hZl hZl hZr hZr).mono ?_
    rintro e w6 ⟨rfl, b6⟩
    go_wp2
    go_ret
    exact ⟨rfl, btr B4 (btr b5 b6)⟩
  have h8' : ¬ (8 : Int) < zs.length := by omega
  have hal := alike_l (some ⟨b, 0, none⟩) cz zs w4 (ZssC.at_ hC4) (by omega) hzi
  clear hspec
  cases ha : alkB zs
  · rw [ha] at hal
    clear ha HZZ
    go_wp2_with fail
    refine hal.mono ?_
    rintro e w5 ⟨rfl, b5⟩
    go_wp2
    go_ret
    exact ⟨rfl, btr B4 b5⟩
  rw [ha] at hal
  obtain ⟨q, hq⟩ := alkB_Sm ha
  obtain ⟨k, hkm⟩ : ∃ k : Nat, (m : Int) % ((zs.length : Int) + 1) = (k : Int) := ⟨((m : Int) % ((zs.length : Int) + 1)).toNat, by have := Int.emod_nonneg (m : Int) (b := (zs.length : Int) + 1) (by omega); omega⟩
  have hkl : k ≤ zs.length := by have := Int.emod_lt_of_pos (m : Int) (b := (zs.length : Int) + 1) (by omega); omega
  have HSP : Hid (AddF (gatL (zs.take k)) (gatL (zs.drop k)) = ZZ) := by rw [Hid, ← HZZ.out, gatF_Sm hq h8]; exact gatL_split hq h8 k
  have HGT : Hid (gatF (zs.take k) = gatL (zs.take k)) := gatF_Sm (fun z hz => hq z (List.mem_of_mem_take hz)) (by simp; omega)
  have HGM : Hid (gatF (zs.drop k) = gatL (zs.drop k)) := gatF_Sm (fun z hz => hq z (List.mem_of_mem_drop hz)) (by simp; omega)
  have HZS : Hid (∀ (i : Nat) (h : i < zs.length), zsB zs[i] = true) := fun i h => (hq _ (List.getElem_mem h)).zs
  have HQ := Lib.hid hq
  clear ha hq
  have htl : (zs.take k).length = k := by simp; omega
  have hdl : (zs.drop k).length = zs.length - k := by simp
  have hTin : zsIn (zs.take k) 4194304 := fun z hz => hzi z (List.mem_of_mem_take hz)
  have hMin : zsIn (zs.drop k) 4194304 := fun z hz => hzi z (List.mem_of_mem_drop hz)
  have hGt := fun (A : Option Addr) (c : Nat) (W : World) (h : ZssC W A (zs.take k)) => Gather_i A c (zs.take k) W h (by omega) hTin
  have hGm := fun (A : Option Addr) (c : Nat) (W : World) (h : ZssC W A (zs.drop k)) => Gather_i A c (zs.drop k) W h (by omega) hMin
  simp only [htl, HGT.out] at hGt
  simp only [hdl, HGM.out] at hGm
  have hAdd := fun (A B : Option Addr) (c d : Nat) (W : World) (h1 : EntsAt W A (gatL (zs.take k))) (h2 : EntsAt W B (gatL (zs.drop k))) (k1 : (gatL (zs.take k)).length ≤ c) (k2 : (gatL (zs.drop k)).length ≤ d) => Add_i A c (gatL (zs.take k)) B d (gatL (zs.drop k)) W h1 h2 k1 k2 (rowsIn_big (gatL_zs _)).1 (rowsIn_big (gatL_zs _)).2 (rowsIn_big (gatL_zs _)).1 (rowsIn_big (gatL_zs _)).2
  rw [HSP.out] at hAdd
  have HMN : Hid (∀ (h : zs.length - k = 0) (A : Option Addr) (W : World), ZssC W A (zs.drop k)) := fun h A W hp => absurd hp (by rw [hdl]; omega)
  go_wp2_with fail
  refine hal.mono ?_
  rintro e w5 ⟨rfl, b5⟩
  have B5 := btr B4 b5
  have hC5 : ZssC w5 (some ⟨b, 0, none⟩) zs := SlAt.below zlC hC4 b5
  have hZ5 := hZ4.below entR b5
  have hT5 : ZssC w5 (some ⟨b, 0, none⟩) (zs.take k) := hC5.take k
  have hM5 : ZssC w5 (some ⟨b, k, none⟩) (zs.drop k) := hC5.drop k
  have hMnil := HMN.out
  clear hal hC4 hZ4 b5 B1 B2 B3 B4 HSP HGT HGM HMN HQ
  generalize zs.take k = TT at *
  generalize zs.drop k = MM at *
  have hki : (k : Int) ≤ zs.length := by omega
  have hkc : (k : Int) ≤ cz := by omega
  have hk00 : (0 : Int) ≤ (k : Int) := by omega
  have hMx : (0 : Int) < (zs.length : Int) + 1 := by omega
  clear htl hdl
  have HC5 := Lib.hid hC5
  clear hC5
  by_cases hkz : k = 0
  · have HKZ := Lib.hid hkz
    clear hkz
    go_wp2_with fail
    rw [hkm]
    clear hkm
    refine wp_region_facts [[], [], [0, 1], [0, 1, 2], [], [], [4, 5], [4, 5, 6], List.range 8, [], List.range 10, List.range 11, List.range 12, List.range 13, List.range 14, List.range 15, List.range 16, List.range 17, List.range 15, [0, 1, 2, 3, 4, 5, 6, 7, 8, 9, 10, 11, 12, 13, 14, 18], [0, 1, 2, 3, 4, 5, 6, 7, 8, 9, 10, 11, 12, 13, 14, 18, 19], List.range 21, List.range 22, List.range 23]
      [fun v' _ => v' = .slice (some ⟨b, 0, none⟩) zs.length cz, fun v' _ => v' = .int .i64 ((k : Int)), SubV k TT, EnC (gatL TT), fun v' _ => v' = .slice (some ⟨b, 0, none⟩) zs.length cz, fun v' _ => v' = .int .i64 ((k : Int)), SubV (zs.length - k) MM, EnC (gatL MM), EnC ZZ, fun v' _ => v' = .slice AZ ZZ.length cZ, fun v' _ => v' = .bool true, fun v' _ => v' = .bool true, fun v' _ => v' = .int .i64 ((k : Int)), fun v' _ => v' = .bool true, fun v' _ => v' = .bool true, fun v' _ => v' = undef, fun v' _ => v' = undef, fun v' _ => v' = undef, fun v' _ => v' = undef, fun v' _ => v' = undef, fun v' _ => v' = undef, fun v' _ => v' = undef, fun v' _ => v' = .bool true, fun v' _ => v' = .bool true]
      (by kernel_rfl) (by kernel_rfl) rfl ⟨stable_pure _, stable_pure _, stable_subV _ _, stable_enC _, stable_pure _, stable_pure _, stable_subV _ _, stable_enC _, stable_enC _, stable_pure _, stable_pure _, stable_pure _, stable_pure _, stable_pure _, stable_pure _, stable_pure _, stable_pure _, stable_pure _, stable_pure _, stable_pure _, stable_pure _, stable_pure _, stable_pure _, stable_pure _, trivial⟩ ?_
    refine wf_stepK [] [] (by kernel_rfl) (by kernel_rfl) (fun wf hb hf => ?_) (fun t0 => ?_)
    · refine ⟨?_⟩
      go_wp2
      exact ⟨rfl, .slice (some ⟨b, 0, none⟩) zs.length cz, by kernel_rfl, Below.refl _ _, rfl⟩
    refine wf_stepK [] [] (by kernel_rfl) (by kernel_rfl) (fun wf hb hf => ?_) (fun t1 => ?_)
    · refine ⟨?_⟩
      go_wp2
      exact ⟨rfl, .int .i64 ((k : Int)), by kernel_rfl, Below.refl _ _, rfl⟩
    refine wf_stepK [0, 1] [fun _ => t0 = .slice (some ⟨b, 0, none⟩) zs.length cz, fun _ => t1 = .int .i64 ((k : Int))] (by kernel_rfl) (by kernel_rfl) (fun wf hb hf => ?_) (fun t2 => ?_)
    · obtain ⟨rfl, rfl, -⟩ := hf
      refine ⟨?_⟩
      have hS1 := SlAt.below zlC hT5 hb
      go_wp2
      exact ⟨rfl, .slice (some ⟨b, 0, none⟩) k cz, by kernel_rfl, Below.refl _ _, _, _, rfl, hS1⟩
    refine wf_stepK [2] [SubV k TT t2] (by kernel_rfl) (by kernel_rfl) (fun wf hb hf => ?_) (fun t3 => ?_)
    · obtain ⟨⟨AT, cT, rfl, hS1⟩, -⟩ := hf
      refine ⟨?_⟩
      go_wp2_with (go_at_call 25; refine (hGt _ _ _ hS1).mono ?_; rintro e w2 ⟨AQ, cQ, rfl, oQ, hb2⟩)
      exact ⟨rfl, .slice AQ (gatL TT).length cQ, by kernel_rfl, hb2, AQ, cQ, rfl, SlOw.at_ entO oQ, (EntsOw.len_cap oQ).1⟩
    refine wf_stepK [] [] (by kernel_rfl) (by kernel_rfl) (fun wf hb hf => ?_) (fun t4 => ?_)
    · refine ⟨?_⟩
      go_wp2
      exact ⟨rfl, .slice (some ⟨b, 0, none⟩) zs.length cz, by kernel_rfl, Below.refl _ _, rfl⟩
    refine wf_stepK [] [] (by kernel_rfl) (by kernel_rfl) (fun wf hb hf => ?_) (fun t5 => ?_)
    · refine ⟨?_⟩
      go_wp2
      exact ⟨rfl, .int .i64 ((k : Int)), by kernel_rfl, Below.refl _ _, rfl⟩
    refine wf_stepK [4, 5] [fun _ => t4 = .slice (some ⟨b, 0, none⟩) zs.length cz, fun _ => t5 = .int .i64 ((k : Int))] (by kernel_rfl) (by kernel_rfl) (fun wf hb hf => ?_) (fun t6 => ?_)
    · obtain ⟨rfl, rfl, -⟩ := hf
      refine ⟨?_⟩
      have hS2 := SlAt.below zlC hM5 hb
      by_cases hck : cz = k
      · have HLK : Hid (zs.length - k = 0) := by simp only [Hid]; omega
        have hck2 : (cz = k) = True := eq_true hck
        clear hck
        go_wp2
        exact ⟨rfl, .slice (some ⟨b, 0, none⟩) (zs.length - k) (cz - k), by kernel_rfl, Below.refl _ _, _, _, rfl, hMnil HLK.out _ _⟩
      · go_wp2
        exact ⟨rfl, .slice (some ⟨b, k, none⟩) (zs.length - k) (cz - k), by kernel_rfl, Below.refl _ _, _, _, rfl, hS2⟩
    refine wf_stepK [6] [SubV (zs.length - k) MM t6] (by kernel_rfl) (by kernel_rfl) (fun wf hb hf => ?_) (fun t7 => ?_)
    · obtain ⟨⟨AM, cM, rfl, hS2⟩, -⟩ := hf
      refine ⟨?_⟩
      go_wp2_with (go_at_call 25; refine (hGm _ _ _ hS2).mono ?_; rintro e w2 ⟨AQ, cQ, rfl, oQ, hb2⟩)
      exact ⟨rfl, .slice AQ (gatL MM).length cQ, by kernel_rfl, hb2, AQ, cQ, rfl, SlOw.at_ entO oQ, (EntsOw.len_cap oQ).1⟩
    refine wf_stepK [3, 7] [EnC (gatL TT) t3, EnC (gatL MM) t7] (by kernel_rfl) (by kernel_rfl) (fun wf hb hf => ?_) (fun t8 => ?_)
    · obtain ⟨⟨AG1, cG1, rfl, hE1, hk1⟩, ⟨AG2, cG2, rfl, hE2, hk2⟩, -⟩ := hf
      refine ⟨?_⟩
      go_wp2_with (go_at_call 33; refine (hAdd _ _ _ _ _ hE1 hE2 hk1 hk2).mono ?_; rintro e w2 ⟨AQ, cQ, rfl, oQ, hb2⟩)
      exact ⟨rfl, .slice AQ ZZ.length cQ, by kernel_rfl, hb2, AQ, cQ, rfl, SlOw.at_ entO oQ, (EntsOw.len_cap oQ).1⟩
    refine wf_stepK [] [] (by kernel_rfl) (by kernel_rfl) (fun wf hb hf => ?_) (fun t9 => ?_)
    · refine ⟨?_⟩
      go_wp2
      exact ⟨rfl, .slice AZ ZZ.length cZ, by kernel_rfl, Below.refl _ _, rfl⟩
    refine wf_stepK [8, 9] [EnC ZZ t8, fun _ => t9 = .slice AZ ZZ.length cZ] (by kernel_rfl) (by kernel_rfl) (fun wf hb hf => ?_) (fun t10 => ?_)
    · obtain ⟨⟨AA, cA, rfl, hEA, hkA⟩, rfl, -⟩ := hf
      refine ⟨?_⟩
      go_wp2_with (go_at_call 30; refine (equalZ (xs := ZZ) (ys := ZZ) true (decide_eq_true rfl) hEA (hZ5.below entR hb) hZl hZl hZr hZr).mono ?_; rintro e w2 ⟨rfl, hb2⟩)
      exact ⟨rfl, .bool true, by kernel_rfl, hb2, rfl⟩
    refine wf_stepK [10] [fun _ => t10 = .bool true] (by kernel_rfl) (by kernel_rfl) (fun wf hb hf => ?_) (fun t11 => ?_)
    · obtain ⟨rfl, -⟩ := hf
      refine ⟨?_⟩
      go_wp2
      exact ⟨rfl, .bool true, by kernel_rfl, Below.refl _ _, rfl⟩
    refine wf_stepK [11] [fun _ => t11 = .bool true] (by kernel_rfl) (by kernel_rfl) (fun wf hb hf => ?_) (fun t12 => ?_)
    · obtain ⟨rfl, -⟩ := hf
      refine WfOp.yes (by kernel_rfl) ?_
      dsimp only
      go_wp2
      exact ⟨rfl, .int .i64 ((k : Int)), by kernel_rfl, Below.refl _ _, rfl⟩
    refine wf_stepK [11, 12] [fun _ => t11 = .bool true, fun _ => t12 = .int .i64 ((k : Int))] (by kernel_rfl) (by kernel_rfl) (fun wf hb hf => ?_) (fun t13 => ?_)
    · obtain ⟨rfl, rfl, -⟩ := hf
      refine WfOp.yes (by kernel_rfl) ?_
      dsimp only
      have hk0 : ((k : Int) == 0) = true := by have := HKZ.out; simp; omega
      go_wp2
      exact ⟨rfl, .bool true, by kernel_rfl, Below.refl _ _, rfl⟩
    refine wf_stepK [11, 13] [fun _ => t11 = .bool true, fun _ => t13 = .bool true] (by kernel_rfl) (by kernel_rfl) (fun wf hb hf => ?_) (fun t14 => ?_)
    · obtain ⟨rfl, rfl, -⟩ := hf
      refine WfOp.yes (by kernel_rfl) ?_
      dsimp only
      go_wp2
      exact ⟨rfl, .bool true, by kernel_rfl, Below.refl _ _, rfl⟩
    refine wf_stepK [14] [fun _ => t14 = .bool true] (by kernel_rfl) (by kernel_rfl) (fun wf hb hf => ?_) (fun t15 => ?_)
    · obtain ⟨rfl, -⟩ := hf
      exact WfOp.no (by kernel_rfl) rfl
    refine wf_stepK [14, 15] [fun _ => t14 = .bool true, fun _ => t15 = undef] (by kernel_rfl) (by kernel_rfl) (fun wf hb hf => ?_) (fun t16 => ?_)
    · obtain ⟨rfl, rfl, -⟩ := hf
      exact WfOp.no (by kernel_rfl) rfl
    refine wf_stepK [14, 16] [fun _ => t14 = .bool true, fun _ => t16 = undef] (by kernel_rfl) (by kernel_rfl) (fun wf hb hf => ?_) (fun t17 => ?_)
    · obtain ⟨rfl, rfl, -⟩ := hf
      exact WfOp.no (by kernel_rfl) rfl
    refine wf_stepK [14] [fun _ => t14 = .bool true] (by kernel_rfl) (by kernel_rfl) (fun wf hb hf => ?_) (fun t18 => ?_)
    · obtain ⟨rfl, -⟩ := hf
      exact WfOp.no (by kernel_rfl) rfl
    refine wf_stepK [14, 18] [fun _ => t14 = .bool true, fun _ => t18 = undef] (by kernel_rfl) (by kernel_rfl) (fun wf hb hf => ?_) (fun t19 => ?_)
    · obtain ⟨rfl, rfl, -⟩ := hf
      exact WfOp.no (by kernel_rfl) rfl
    refine wf_stepK [14, 19] [fun _ => t14 = .bool true, fun _ => t19 = undef] (by kernel_rfl) (by kernel_rfl) (fun wf hb hf => ?_) (fun t20 => ?_)
    · obtain ⟨rfl, rfl, -⟩ := hf
      exact WfOp.no (by kernel_rfl) rfl
    refine wf_stepK [14, 17, 20] [fun _ => t14 = .bool true, fun _ => t17 = undef, fun _ => t20 = undef] (by kernel_rfl) (by kernel_rfl) (fun wf hb hf => ?_) (fun t21 => ?_)
    · obtain ⟨rfl, rfl, rfl, -⟩ := hf
      exact WfOp.no (by kernel_rfl) rfl
    refine wf_stepK [11, 14, 21] [fun _ => t11 = .bool true, fun _ => t14 = .bool true, fun _ => t21 = undef] (by kernel_rfl) (by kernel_rfl) (fun wf hb hf => ?_) (fun t22 => ?_)
    · obtain ⟨rfl, rfl, rfl, -⟩ := hf
      refine WfOp.yes (by kernel_rfl) ?_
      dsimp only
      go_wp2
      exact ⟨rfl, .bool true, by kernel_rfl, Below.refl _ _, rfl⟩
    refine wf_stepK [11, 22] [fun _ => t11 = .bool true, fun _ => t22 = .bool true] (by kernel_rfl) (by kernel_rfl) (fun wf hb hf => ?_) (fun t23 => ?_)
    · obtain ⟨rfl, rfl, -⟩ := hf
      refine ⟨?_⟩
      go_wp2
      exact ⟨rfl, .bool true, by kernel_rfl, Below.refl _ _, rfl⟩
    refine wf_doneK [23] [fun _ => t23 = .bool true] (by kernel_rfl) (by kernel_rfl) (fun w9 b9 hf => ?_)
    obtain ⟨rfl, -⟩ := hf
    show wpList _ _ _ [_] _ _
    refine wpList_frame (by simp [Act.put]; rfl) ?_
    have HBB := Lib.hid (btr B5 b9)
    clear hGt hGm hAdd hT5 hM5 hZ5 hMnil b9
    go_wp2
    go_ret
    exact ⟨rfl, HBB.out⟩
  · have hz0 : 0 < zs.length := by omega
    have hz0' : (0 : Int) < zs.length := by omega
    obtain ⟨b', off, ZA, zc, hbe, hbl, hc0, hzc, hzcm, hz⟩ := HC5.out.get 0 hz0
    injection hbe with hbe
    injection hbe with hbe1 hbe2
    subst hbe1
    subst hbe2
    simp only [Nat.zero_add] at hc0
    have q0 := hc0
    have hzr := hz
    have hz1 := (hzi.get hz0).1
    have hz2 := (hzi.get hz0).2
    have hO5 : ZssC w5 (some ⟨b, 0, none⟩) [zs[0]] := by
      have h := HC5.out.take 1
      have e : zs.take 1 = [zs[0]] := by
        rw [show 1 = 0 + 1 from rfl, List.take_succ_eq_append_getElem hz0]
        simp
      rwa [e] at h
    have h1c : (1 : Int) ≤ cz := by omega
    have hG1 := fun (A : Option Addr) (c : Nat) (W : World) (h : ZssC W A [zs[0]]) => Gather_i A c [zs[0]] W h (by simp) (fun z hz => by simp at hz; subst hz; exact ⟨hz1, hz2⟩)
    rw [gatF_one (HZS.out 0 hz0)] at hG1
    simp only [List.length_cons, List.length_nil, Nat.zero_add] at hG1
    clear hc0 hz
    go_wp2_with fail
    rw [hkm]
    clear hkm
    refine wp_region_facts [[], [], [0, 1], [0, 1, 2], [], [], [4, 5], [4, 5, 6], List.range 8, [], List.range 10, List.range 11, List.range 12, List.range 13, List.range 14, List.range 15, List.range 16, List.range 17, List.range 15, [0, 1, 2, 3, 4, 5, 6, 7, 8, 9, 10, 11, 12, 13, 14, 18], [0, 1, 2, 3, 4, 5, 6, 7, 8, 9, 10, 11, 12, 13, 14, 18, 19], List.range 21, List.range 22, List.range 23]
      [fun v' _ => v' = .slice (some ⟨b, 0, none⟩) zs.length cz, fun v' _ => v' = .int .i64 ((k : Int)), SubV k TT, EnC (gatL TT), fun v' _ => v' = .slice (some ⟨b, 0, none⟩) zs.length cz, fun v' _ => v' = .int .i64 ((k : Int)), SubV (zs.length - k) MM, EnC (gatL MM), EnC ZZ, fun v' _ => v' = .slice AZ ZZ.length cZ, fun v' _ => v' = .bool true, fun v' _ => v' = .bool true, fun v' _ => v' = .int .i64 ((k : Int)), fun v' _ => v' = .bool false, fun v' _ => v' = .bool false, fun v' _ => v' = .slice (some ⟨b, 0, none⟩) zs.length cz, SubV 1 [zs[0]], EnC zs[0], fun v' _ => v' = .slice (some ⟨b, 0, none⟩) zs.length cz, fun v' _ => v' = .pointer (some ⟨b, 0, none⟩), fun v' _ => v' = .slice ZA zs[0].length zc, fun v' _ => v' = .bool true, fun v' _ => v' = .bool true, fun v' _ => v' = .bool true]
      (by kernel_rfl) (by kernel_rfl) rfl ⟨stable_pure _, stable_pure _, stable_subV _ _, stable_enC _, stable_pure _, stable_pure _, stable_subV _ _, stable_enC _, stable_enC _, stable_pure _, stable_pure _, stable_pure _, stable_pure _, stable_pure _, stable_pure _, stable_pure _, stable_subV _ _, stable_enC _, stable_pure _, stable_pure _, stable_pure _, stable_pure _, stable_pure _, stable_pure _, trivial⟩ ?_
    refine wf_stepK [] [] (by kernel_rfl) (by kernel_rfl) (fun wf hb hf => ?_) (fun t0 => ?_)
    · refine ⟨?_⟩
      go_wp2
      exact ⟨rfl, .slice (some ⟨b, 0, none⟩) zs.length cz, by kernel_rfl, Below.refl _ _, rfl⟩
    refine wf_stepK [] [] (by kernel_rfl) (by kernel_rfl) (fun wf hb hf => ?_) (fun t1 => ?_)
    · refine ⟨?_⟩
      go_wp2
      exact ⟨rfl, .int .i64 ((k : Int)), by kernel_rfl, Below.refl _ _, rfl⟩
    refine wf_stepK [0, 1] [fun _ => t0 = .slice (some ⟨b, 0, none⟩) zs.length cz, fun _ => t1 = .int .i64 ((k : Int))] (by kernel_rfl) (by kernel_rfl) (fun wf hb hf => ?_) (fun t2 => ?_)
    · obtain ⟨rfl, rfl, -⟩ := hf
      refine ⟨?_⟩
      have hS1 := SlAt.below zlC hT5 hb
      go_wp2
      exact ⟨rfl, .slice (some ⟨b, 0, none⟩) k cz, by kernel_rfl, Below.refl _ _, _, _, rfl, hS1⟩
    refine wf_stepK [2] [SubV k TT t2] (by kernel_rfl) (by kernel_rfl) (fun wf hb hf => ?_) (fun t3 => ?_)
    · obtain ⟨⟨AT, cT, rfl, hS1⟩, -⟩ := hf
      refine ⟨?_⟩
      go_wp2_with (go_at_call 25; refine (hGt _ _ _ hS1).mono ?_; rintro e w2 ⟨AQ, cQ, rfl, oQ, hb2⟩)
      exact ⟨rfl, .slice AQ (gatL TT).length cQ, by kernel_rfl, hb2, AQ, cQ, rfl, SlOw.at_ entO oQ, (EntsOw.len_cap oQ).1⟩
    refine wf_stepK [] [] (by kernel_rfl) (by kernel_rfl) (fun wf hb hf => ?_) (fun t4 => ?_)
    · refine ⟨?_⟩
      go_wp2
      exact ⟨rfl, .slice (some ⟨b, 0, none⟩) zs.length cz, by kernel_rfl, Below.refl _ _, rfl⟩
    refine wf_stepK [] [] (by kernel_rfl) (by kernel_rfl) (fun wf hb hf => ?_) (fun t5 => ?_)
    · refine ⟨?_⟩
      go_wp2
      exact ⟨rfl, .int .i64 ((k : Int)), by kernel_rfl, Below.refl _ _, rfl⟩
    refine wf_stepK [4, 5] [fun _ => t4 = .slice (some ⟨b, 0, none⟩) zs.length cz, fun _ => t5 = .int .i64 ((k : Int))] (by kernel_rfl) (by kernel_rfl) (fun wf hb hf => ?_) (fun t6 => ?_)
    · obtain ⟨rfl, rfl, -⟩ := hf
      refine ⟨?_⟩
      have hS2 := SlAt.below zlC hM5 hb
      by_cases hck : cz = k
      · have HLK : Hid (zs.length - k = 0) := by simp only [Hid]; omega
        have hck2 : (cz = k) = True := eq_true hck
        clear hck
        go_wp2
        exact ⟨rfl, .slice (some ⟨b, 0, none⟩) (zs.length - k) (cz - k), by kernel_rfl, Below.refl _ _, _, _, rfl, hMnil HLK.out _ _⟩
      · go_wp2
        exact ⟨rfl, .slice (some ⟨b, k, none⟩) (zs.length - k) (cz - k), by kernel_rfl, Below.refl _ _, _, _, rfl, hS2⟩
    refine wf_stepK [6] [SubV (zs.length - k) MM t6] (by kernel_rfl) (by kernel_rfl) (fun wf hb hf => ?_) (fun t7 => ?_)
    · obtain ⟨⟨AM, cM, rfl, hS2⟩, -⟩ := hf
      refine ⟨?_⟩
      go_wp2_with (go_at_call 25; refine (hGm _ _ _ hS2).mono ?_; rintro e w2 ⟨AQ, cQ, rfl, oQ, hb2⟩)
      exact ⟨rfl, .slice AQ (gatL MM).length cQ, by kernel_rfl, hb2, AQ, cQ, rfl, SlOw.at_ entO oQ, (EntsOw.len_cap oQ).1⟩
    refine wf_stepK [3, 7] [EnC (gatL TT) t3, EnC (gatL MM) t7] (by kernel_rfl) (by kernel_rfl) (fun wf hb hf => ?_) (fun t8 => ?_)
    · obtain ⟨⟨AG1, cG1, rfl, hE1, hk1⟩, ⟨AG2, cG2, rfl, hE2, hk2⟩, -⟩ := hf
      refine ⟨?_⟩
      go_wp2_with (go_at_call 33; refine (hAdd _ _ _ _ _ hE1 hE2 hk1 hk2).mono ?_; rintro e w2 ⟨AQ, cQ, rfl, oQ, hb2⟩)
      exact ⟨rfl, .slice AQ ZZ.length cQ, by kernel_rfl, hb2, AQ, cQ, rfl, SlOw.at_ entO oQ, (EntsOw.len_cap oQ).1⟩
    refine wf_stepK [] [] (by kernel_rfl) (by kernel_rfl) (fun wf hb hf => ?_) (fun t9 => ?_)
    · refine ⟨?_⟩
      go_wp2
      exact ⟨rfl, .slice AZ ZZ.length cZ, by kernel_rfl, Below.refl _ _, rfl⟩
    refine wf_stepK [8, 9] [EnC ZZ t8, fun _ => t9 = .slice AZ ZZ.length cZ] (by kernel_rfl) (by kernel_rfl) (fun wf hb hf => ?_) (fun t10 => ?_)
    · obtain ⟨⟨AA, cA, rfl, hEA, hkA⟩, rfl, -⟩ := hf
      refine ⟨?_⟩
      go_wp2_with (go_at_call 30; refine (equalZ (xs := ZZ) (ys := ZZ) true (decide_eq_true rfl) hEA (hZ5.below entR hb) hZl hZl hZr hZr).mono ?_; rintro e w2 ⟨rfl, hb2⟩)
      exact ⟨rfl, .bool true, by kernel_rfl, hb2, rfl⟩
    refine wf_stepK [10] [fun _ => t10 = .bool true] (by kernel_rfl) (by kernel_rfl) (fun wf hb hf => ?_) (fun t11 => ?_)
    · obtain ⟨rfl, -⟩ := hf
      refine ⟨?_⟩
      go_wp2
      exact ⟨rfl, .bool true, by kernel_rfl, Below.refl _ _, rfl⟩
    refine wf_stepK [11] [fun _ => t11 = .bool true] (by kernel_rfl) (by kernel_rfl) (fun wf hb hf => ?_) (fun t12 => ?_)
    · obtain ⟨rfl, -⟩ := hf
      refine WfOp.yes (by kernel_rfl) ?_
      dsimp only
      go_wp2
      exact ⟨rfl, .int .i64 ((k : Int)), by kernel_rfl, Below.refl _ _, rfl⟩
    refine wf_stepK [11, 12] [fun _ => t11 = .bool true, fun _ => t12 = .int .i64 ((k : Int))] (by kernel_rfl) (by kernel_rfl) (fun wf hb hf => ?_) (fun t13 => ?_)
    · obtain ⟨rfl, rfl, -⟩ := hf
      refine WfOp.yes (by kernel_rfl) ?_
      dsimp only
      have hk0 : ((k : Int) == 0) = false := by rw [beq_eq_false_iff_ne]; omega
      go_wp2
      exact ⟨rfl, .bool false, by kernel_rfl, Below.refl _ _, rfl⟩
    refine wf_stepK [11, 13] [fun _ => t11 = .bool true, fun _ => t13 = .bool false] (by kernel_rfl) (by kernel_rfl) (fun wf hb hf => ?_) (fun t14 => ?_)
    · obtain ⟨rfl, rfl, -⟩ := hf
      refine WfOp.yes (by kernel_rfl) ?_
      dsimp only
      go_wp2
      exact ⟨rfl, .bool false, by kernel_rfl, Below.refl _ _, rfl⟩
    refine wf_stepK [14] [fun _ => t14 = .bool false] (by kernel_rfl) (by kernel_rfl) (fun wf hb hf => ?_) (fun t15 => ?_)
    · obtain ⟨rfl, -⟩ := hf
      refine WfOp.yes (by kernel_rfl) ?_
      dsimp only
      go_wp2
      exact ⟨rfl, .slice (some ⟨b, 0, none⟩) zs.length cz, by kernel_rfl, Below.refl _ _, rfl⟩
    refine wf_stepK [14, 15] [fun _ => t14 = .bool false, fun _ => t15 = .slice (some ⟨b, 0, none⟩) zs.length cz] (by kernel_rfl) (by kernel_rfl) (fun wf hb hf => ?_) (fun t16 => ?_)
    · obtain ⟨rfl, rfl, -⟩ := hf
      refine WfOp.yes (by kernel_rfl) ?_
      dsimp only
      have hS3 := SlAt.below zlC hO5 hb
      go_wp2
      exact ⟨rfl, .slice (some ⟨b, 0, none⟩) 1 cz, by kernel_rfl, Below.refl _ _, _, _, rfl, hS3⟩
    refine wf_stepK [14, 16] [fun _ => t14 = .bool false, SubV 1 [zs[0]] t16] (by kernel_rfl) (by kernel_rfl) (fun wf hb hf => ?_) (fun t17 => ?_)
    · obtain ⟨rfl, ⟨AO, cO, rfl, hS3⟩, -⟩ := hf
      refine WfOp.yes (by kernel_rfl) ?_
      dsimp only
      go_wp2_with (go_at_call 25; refine (hG1 _ _ _ hS3).mono ?_; rintro e w2 ⟨AQ, cQ, rfl, oQ, hb2⟩)
      exact ⟨rfl, .slice AQ zs[0].length cQ, by kernel_rfl, hb2, AQ, cQ, rfl, SlOw.at_ entO oQ, (EntsOw.len_cap oQ).1⟩
    refine wf_stepK [14] [fun _ => t14 = .bool false] (by kernel_rfl) (by kernel_rfl) (fun wf hb hf => ?_) (fun t18 => ?_)
    · obtain ⟨rfl, -⟩ := hf
      refine WfOp.yes (by kernel_rfl) ?_
      dsimp only
      go_wp2
      exact ⟨rfl, .slice (some ⟨b, 0, none⟩) zs.length cz, by kernel_rfl, Below.refl _ _, rfl⟩
    refine wf_stepK [14, 18] [fun _ => t14 = .bool false, fun _ => t18 = .slice (some ⟨b, 0, none⟩) zs.length cz] (by kernel_rfl) (by kernel_rfl) (fun wf hb hf => ?_) (fun t19 => ?_)
    · obtain ⟨rfl, rfl, -⟩ := hf
      refine WfOp.yes (by kernel_rfl) ?_
      dsimp only
      go_wp2
      exact ⟨rfl, .pointer (some ⟨b, 0, none⟩), by kernel_rfl, Below.refl _ _, rfl⟩
    refine wf_stepK [14, 19] [fun _ => t14 = .bool false, fun _ => t19 = .pointer (some ⟨b, 0, none⟩)] (by kernel_rfl) (by kernel_rfl) (fun wf hb hf => ?_) (fun t20 => ?_)
    · obtain ⟨rfl, rfl, -⟩ := hf
      refine WfOp.yes (by kernel_rfl) ?_
      dsimp only
      have cz0 := (hb.cell (p := ⟨b, 0, none⟩) hbl).trans q0
      go_wp2
      exact ⟨rfl, .slice ZA zs[0].length zc, by kernel_rfl, Below.refl _ _, rfl⟩
    refine wf_stepK [14, 17, 20] [fun _ => t14 = .bool false, EnC zs[0] t17, fun _ => t20 = .slice ZA zs[0].length zc] (by kernel_rfl) (by kernel_rfl) (fun wf hb hf => ?_) (fun t21 => ?_)
    · obtain ⟨rfl, ⟨AG3, cG3, rfl, hE3, hk3⟩, rfl, -⟩ := hf
      refine WfOp.yes (by kernel_rfl) ?_
      dsimp only
      go_wp2_with (go_at_call 30; refine (equalZ (xs := zs[0]) (ys := zs[0]) true (decide_eq_true rfl) hE3 (hzr.below entR hb) hz1 hz1 hz2 hz2).mono ?_; rintro e w2 ⟨rfl, hb2⟩)
      exact ⟨rfl, .bool true, by kernel_rfl, hb2, rfl⟩
    refine wf_stepK [11, 14, 21] [fun _ => t11 = .bool true, fun _ => t14 = .bool false, fun _ => t21 = .bool true] (by kernel_rfl) (by kernel_rfl) (fun wf hb hf => ?_) (fun t22 => ?_)
    · obtain ⟨rfl, rfl, rfl, -⟩ := hf
      refine WfOp.yes (by kernel_rfl) ?_
      dsimp only
      go_wp2
      exact ⟨rfl, .bool true, by kernel_rfl, Below.refl _ _, rfl⟩
    refine wf_stepK [11, 22] [fun _ => t11 = .bool true, fun _ => t22 = .bool true] (by kernel_rfl) (by kernel_rfl) (fun wf hb hf => ?_) (fun t23 => ?_)
    · obtain ⟨rfl, rfl, -⟩ := hf
      refine ⟨?_⟩
      go_wp2
      exact ⟨rfl, .bool true, by kernel_rfl, Below.refl _ _, rfl⟩
    refine wf_doneK [23] [fun _ => t23 = .bool true] (by kernel_rfl) (by kernel_rfl) (fun w9 b9 hf => ?_)
    obtain ⟨rfl, -⟩ := hf
    show wpList _ _ _ [_] _ _
    refine wpList_frame (by simp [Act.put]; rfl) ?_
    have HBB := Lib.hid (btr B5 b9)
    clear hGt hGm hG1 hAdd hT5 hM5 hO5 hZ5 hMnil b9 hzr q0
    go_wp2
    go_ret
    exact ⟨rfl, HBB.out⟩

namespace lawFnGather
theorem own : ownKnob Try.prog.godebug = none := by kernel_rfl
theorem laidOut : laidOutB Try.prog = true := clo_laid
set_option maxRecDepth 100000 in
theorem lifted (os : Os) (started : os.Started) (H : Type) (enc : TypeId × Value → H) :
    ReturnsInHanded {} Try.checked os 8 .any (Rows.fnGatherSpec.pre6 enc Try.prog Try.f8 Rows.fnGatherRow.domain false) (Rows.fnGatherSpec.post enc Try.prog Try.f8 false true false false) := by
  refine returnsInHanded_of_change (C := Try.checked) own started (by kernel_rfl) Try.func8
    (ChangeSpec.witness6 (enc := enc) (C := Try.checked) false ⟨#[], #[.slice none 0 0, .slice none 0 0], []⟩ 8 (by kernel_rfl) (by kernel_rfl) (by kernel_rfl) (by kernel_rfl)) ?_
  intro W base args ds gs before hval0 hW hcnd _
  have hval : ∀ (j : Nat) t v, Try.f8.params[j]? = some t → args[j]? = some v → Value.okWide Try.prog W .any base t v := hval0
  have hW' := hW
  obtain ⟨p, q, hA0, hV, rfl, hfz, hnd⟩ := hW
  have hA : DataW.TrodAll enc Try.prog W 0 (fun _ => true) true Try.f8.params.toList args.toList ds p := hA0
  rw [Try.params8] at hA hval
  obtain ⟨v0, vs0, d0, ds0, p0, q0, hargs, rfl, rfl, h0, r0⟩ := trodAll_cons hA
  obtain ⟨v1, vs1, d1, ds1, p1, q1, rfl, rfl, rfl, h1, r1⟩ := trodAll_cons r0
  obtain ⟨rfl, rfl, rfl⟩ := trodAll_nil r1
  obtain rfl : args = #[v0, v1] := by cases args; simp_all
  obtain ⟨rfl, rfl⟩ := trodVars_none hV
  have k0 := h0
  have lt0 : ∀ x ∈ p0, x.block < W.heap.size := by obtain ⟨m, hm⟩ := k0; exact DataW.trod_lt m _ _ _ hm
  obtain ⟨a0, len0, cap0, rfl⟩ := okWide_slice Try.underlying43 (hval 0 43 v0 rfl rfl)
  obtain ⟨l0, m0, w0⟩ := bytes_of Try.underlying43 Try.underlying5 (by kernel_rfl) h0
  have k1 := h1
  have lt1 : ∀ x ∈ p1, x.block < W.heap.size := by obtain ⟨m, hm⟩ := k1; exact DataW.trod_lt m _ _ _ hm
  obtain ⟨a1, len1, cap1, rfl⟩ := okWide_slice Try.underlying43 (hval 1 43 v1 rfl rfl)
  obtain ⟨l1, m1, w1⟩ := bytes_of Try.underlying43 Try.underlying5 (by kernel_rfl) h1
  clear hA0 hval0
  refine (FnGather_walk a0 len0 cap0 a1 len1 cap1 W l0 m0 w0 l1 m1 w1).mono fun e W' ⟨he, bel⟩ => ?_
  subst he
  exact ⟨_, rfl, _, _, _, [], _, [], hW', trodAll_mk1 (shut_bool Try.underlying4 _), (trodAll_cons_mk (Below.trod laidOut (by kernel_rfl) (of_decide_eq_true (by kernel_rfl)) k0 bel lt0) (trodAll_cons_mk (Below.trod laidOut (by kernel_rfl) (of_decide_eq_true (by kernel_rfl)) k1 bel lt1) trodAll_mk0)), rfl, bel.frame _, fun h => by cases h⟩
theorem andTT {a b : Bool} (h1 : a = true) (h2 : b = true) : (a && b) = true := by rw [h1, h2]; rfl
set_option maxHeartbeats 8000000 in
theorem closed : joinedFacts Try.prog 8 Try.f8 Rows.fnGatherSpec Rows.fnGatherRow = true := by
  unfold joinedFacts
  repeat' (with_reducible refine andTT ?_ ?_)
  all_goals (first | (with_reducible exact clo_laid) | (with_reducible exact clo_maps) | (with_reducible exact clo_heard) | (with_reducible exact clo_enter) | ((with_reducible refine clo_plain _ ?_); rfl) | ((with_reducible refine clo_lifts _ ?_); rfl) | (as_aux_lemma => kernel_rfl))

theorem over : Rows.fnGatherRow.holds Try.pinned (OpenSpec.ofChange Rows.fnGatherSpec) :=
  OpenClaim.holds_of_wide 8 Try.f8 rfl rfl rfl rfl rfl rfl rfl ⟨rfl, rfl, rfl, rfl, rfl⟩ rfl rfl rfl rfl rfl (by kernel_rfl) Try.func8 closed
    (of_decide_eq_true (by kernel_rfl)) (by unfold Func.isWrapper; first | (rw [if_pos (by decide +kernel)]; kernel_rfl) | (rw [if_neg (by decide +kernel)]; exact ⟨rfl, rfl⟩))
    (fun os started H enc _ => lifted os started H enc)

/-- THE STATEMENT. -/
theorem proved : Rows.FnGatherSaid := over
end lawFnGather
end Go.Proofs.Ytjikdlldochhcab
