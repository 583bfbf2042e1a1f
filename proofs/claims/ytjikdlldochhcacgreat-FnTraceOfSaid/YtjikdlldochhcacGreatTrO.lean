/- HELPER, no statement of the seat: TraceOf of both sides. -/
import Derived.Test.YtjikdlldochhcacGreatTrL
import Derived.Test.YtjikdlldochhcacGreatMapU
import Derived.Test.YtjikdlldochhcacGreatZbn
namespace Go.Proofs.YtjikdlldochhcacGreat
open Go.RowKit Go.Sort
set_option linter.unusedSimpArgs false
set_option linter.unusedVariables false

def EnV (z : List Ent) (v : Value) (w : World) : Prop := ∃ A c, v = .slice A z.length c ∧ EntsAt w A z
theorem stable_enV (z : List Ent) : Stable (EnV z) := fun _ _ _ hb ⟨A, c, e, h⟩ => ⟨A, c, e, h.below entR hb⟩
def UpN (w0 : World) (z : List Upd) (n : Nat) (v : Value) (w : World) : Prop := ∃ A c, v = .slice A n c ∧ UpdsOw w (news w0 w) A c z
theorem stable_upN (w0 : World) (z : List Upd) (n : Nat) : Stable (UpN w0 z n) := fun _ _ _ hb ⟨A, c, e, h⟩ => ⟨A, c, e, (h.below updO hb).mono (fun _ hq => ⟨hq.1, Nat.lt_of_lt_of_le hq.2 hb.size⟩) (fun _ hq => hq.2)⟩
theorem endNoU (w W : World) (h : Below w.heap.size w W) : UpdsOw (W.alloc (.cells #[] 54)) (news w (W.alloc (.cells #[] 54))) (some ⟨W.heap.size, 0, none⟩) 0 [] :=
  ⟨_, _, SlF.made UpdO 4 54 W #[] 0 (by simp [maxLen]) (by simp) ⟨h.size, by simp⟩ (fun q hq => by have := hq.2; simpa using this)⟩

/-! ### Updates at an epoch -/
set_option maxRecDepth 100000 in
set_option maxHeartbeats 1600000 in
theorem updatesAt_s (A : Option Addr) (c : Nat) (z : List Ent) (n : Int) (w : World) (hx : EntsAt w A z) (hn : z.length ≤ 4194303) (hr : rowsIn z 4194304) :
    Calls Tryz.prog 21 #[.slice A z.length c, .agg #[.int .i64 n, .int .i64 0]] w fun e w' => ∃ A' c', e = .returned (.slice A' (z.map (atE n)).length c') ∧ UpdsOw w' (news w w') A' c' (z.map (atE n)) ∧ Below w.heap.size w w' := by
  obtain ⟨i0, hi, hz0, hz1, hz2⟩ := info_parts Tryz.infoUpd
  obtain ⟨W1, hW1⟩ : ∃ W1, W1 = w.alloc (.cells #[.int .i64 n, .int .i64 0] 40) := ⟨_, rfl⟩
  have HB1 : Hid (Blk W1 w.heap.size 40 #[.int .i64 n, .int .i64 0]) := by rw [hW1]; exact Blk.newAt rfl
  have HW : Hid (Below w.heap.size w W1) := by rw [hW1]; exact bal (Below.refl _ _) _
  have hx1 : EntsAt W1 A z := hx.below entR HW.out
  have hWs : w.heap.size < W1.heap.size := HB1.out.lt
  have HE := Lib.hid (endNoU W1 W1 (Below.refl _ _))
  have HST : Hid (∀ k (h : k < z.length), (z.map (atE n)).take (k + 1) = (z.map (atE n)).take k ++ [atE n z[k]]) := fun k h => by
    rw [List.take_succ_eq_append_getElem (by simpa using h), List.getElem_map]
  have HML : Hid ((z.map (atE n)).length = z.length) := by simp [Hid]
  have HEQ := Lib.hid hW1
  clear hW1 hx
  generalize hMM : z.map (atE n) = MM at *
  go_enter Tryz.func21, Tryz.ntmps21
  go_wp2
  go_loopw [5, 6] (fun vv i wr => ∃ k A' c', k ≤ z.length ∧ i = .int .i64 (k : Nat) ∧ vv = .slice A' k c' ∧ UpdsOw wr (news W1 wr) A' c' (MM.take k) ∧ Below W1.heap.size W1 wr) (fun _ i _ => z.length - (intOf i).toNat)
  case atStart =>
    obtain rfl := HEQ.out
    exact ⟨0, _, _, by omega, rfl, rfl, by rw [List.take_zero]; simpa using HE.out, bal (Below.refl _ _) _⟩
  case round =>
    obtain ⟨k, A', c', hk, rfl, rfl, ⟨css, FF2, hown⟩, hbel⟩ := hrel
    clear HEQ HE
    by_cases hlt : k < z.length
    · obtain ⟨b, off, RA, rc, rfl, hbl, hc0, hc1, -, hrow⟩ := hx1.get k hlt
      have q0 := (hbel.cell (p := ⟨b, off + k * 2, none⟩) hbl).trans hc0
      have q1 := (hbel.cell (p := ⟨b, off + k * 2 + 1, none⟩) hbl).trans hc1
      have hrl := hr.get hlt
      have hst := HST.out k hlt
      have hkl : (MM.take k).length = k := by have := HML.out; simp; omega
      have hs1 := hbel.size
      have hlt' : (k : Int) < z.length := by omega
      have HF := Lib.hid hown
      have HS := Lib.hid hst
      have HBB := Lib.hid (HB1.out.below hbel)
      clear hown hst hc0 hc1
      go_wp2_with fail
      refine wp_region_facts [[], [], [], [1, 2], [1, 2, 3], [1, 2, 3, 4], [1, 2, 3, 4, 5], [], [], [], [8, 9], [8, 9, 10], [8, 9, 10, 11], [1, 2, 3, 4, 5, 6, 7, 8, 9, 10, 11, 12], [1, 2, 3, 4, 5, 6, 7, 8, 9, 10, 11, 12, 13]]
        [fun v' _ => v' = .slice A' k c', fun v' _ => v' = .slice (some ⟨b, off, none⟩) z.length c, fun v' _ => v' = .int .i64 ((k : Int)), fun v' _ => v' = .pointer (some ⟨b, off + k * 2, none⟩), fun v' _ => v' = .pointer (some ⟨b, off + k * 2, none⟩), fun v' _ => v' = .slice RA z[k].1.length rc, RowV wr.heap.size z[k].1, fun v' _ => v' = .agg #[.int .i64 n, .int .i64 0], fun v' _ => v' = .slice (some ⟨b, off, none⟩) z.length c, fun v' _ => v' = .int .i64 ((k : Int)), fun v' _ => v' = .pointer (some ⟨b, off + k * 2, none⟩), fun v' _ => v' = .pointer (some ⟨b, off + k * 2 + 1, none⟩), fun v' _ => v' = .int .i64 (z[k].2), UpdW wr.heap.size z[k].1 n 0 z[k].2, UBox wr.heap.size z[k].1 n 0 z[k].2]
        (by kernel_rfl) (by kernel_rfl) rfl ⟨stable_pure _, stable_pure _, stable_pure _, stable_pure _, stable_pure _, stable_pure _, stable_rowV _ _, stable_pure _, stable_pure _, stable_pure _, stable_pure _, stable_pure _, stable_pure _, stable_updW _ _ _ _ _, stable_uBox _ _ _ _ _, trivial⟩ ?_
      refine wf_stepK [] [] (by kernel_rfl) (by kernel_rfl) (fun wf hb hf => ?_) (fun t0 => ?_)
      · refine ⟨?_⟩
        go_wp2
        exact ⟨rfl, .slice A' k c', by kernel_rfl, Below.refl _ _, rfl⟩
      refine wf_stepK [] [] (by kernel_rfl) (by kernel_rfl) (fun wf hb hf => ?_) (fun t1 => ?_)
      · refine ⟨?_⟩
        go_wp2
        exact ⟨rfl, .slice (some ⟨b, off, none⟩) z.length c, by kernel_rfl, Below.refl _ _, rfl⟩
      refine wf_stepK [] [] (by kernel_rfl) (by kernel_rfl) (fun wf hb hf => ?_) (fun t2 => ?_)
      · refine ⟨?_⟩
        go_wp2
        exact ⟨rfl, .int .i64 ((k : Int)), by kernel_rfl, Below.refl _ _, rfl⟩
      refine wf_stepK [1, 2] [fun _ => t1 = .slice (some ⟨b, off, none⟩) z.length c, fun _ => t2 = .int .i64 ((k : Int))] (by kernel_rfl) (by kernel_rfl) (fun wf hb hf => ?_) (fun t3 => ?_)
      · obtain ⟨rfl, rfl, -⟩ := hf
        refine ⟨?_⟩
        go_wp2
        exact ⟨rfl, .pointer (some ⟨b, off + k * 2, none⟩), by kernel_rfl, Below.refl _ _, rfl⟩
      refine wf_stepK [3] [fun _ => t3 = .pointer (some ⟨b, off + k * 2, none⟩)] (by kernel_rfl) (by kernel_rfl) (fun wf hb hf => ?_) (fun t4 => ?_)
      · obtain ⟨rfl, -⟩ := hf
        refine ⟨?_⟩
        go_wp2
        exact ⟨rfl, .pointer (some ⟨b, off + k * 2, none⟩), by kernel_rfl, Below.refl _ _, rfl⟩
      refine wf_stepK [4] [fun _ => t4 = .pointer (some ⟨b, off + k * 2, none⟩)] (by kernel_rfl) (by kernel_rfl) (fun wf hb hf => ?_) (fun t5 => ?_)
      · obtain ⟨rfl, -⟩ := hf
        refine ⟨?_⟩
        have cz := (hb.cell (p := ⟨b, off + k * 2, none⟩) (Nat.lt_of_lt_of_le hbl hs1)).trans q0
        go_wp2
        exact ⟨rfl, .slice RA z[k].1.length rc, by kernel_rfl, Below.refl _ _, rfl⟩
      refine wf_stepK [5] [fun _ => t5 = .slice RA z[k].1.length rc] (by kernel_rfl) (by kernel_rfl) (fun wf hb hf => ?_) (fun t6 => ?_)
      · obtain ⟨rfl, -⟩ := hf
        refine ⟨?_⟩
        go_wp2_with (go_at_call 52; refine (copyInts_s _ _ _ _ ((hrow.below hbel).below hb) hrl).mono ?_; rintro e w2 ⟨AN, cN, rfl, oN, hb2⟩)
        exact ⟨rfl, .slice AN z[k].1.length cN, by kernel_rfl, hb2, AN, cN, rfl, oN.mono hb.size⟩
      refine wf_stepK [] [] (by kernel_rfl) (by kernel_rfl) (fun wf hb hf => ?_) (fun t7 => ?_)
      · refine ⟨?_⟩
        have pc0 := (HBB.out.below hb).cell 0
        have pc1 := (HBB.out.below hb).cell 1
        simp at pc0 pc1
        go_wp2
        exact ⟨rfl, .agg #[.int .i64 n, .int .i64 0], by kernel_rfl, Below.refl _ _, rfl⟩
      refine wf_stepK [] [] (by kernel_rfl) (by kernel_rfl) (fun wf hb hf => ?_) (fun t8 => ?_)
      · refine ⟨?_⟩
        go_wp2
        exact ⟨rfl, .slice (some ⟨b, off, none⟩) z.length c, by kernel_rfl, Below.refl _ _, rfl⟩
      refine wf_stepK [] [] (by kernel_rfl) (by kernel_rfl) (fun wf hb hf => ?_) (fun t9 => ?_)
      · refine ⟨?_⟩
        go_wp2
        exact ⟨rfl, .int .i64 ((k : Int)), by kernel_rfl, Below.refl _ _, rfl⟩
      refine wf_stepK [8, 9] [fun _ => t8 = .slice (some ⟨b, off, none⟩) z.length c, fun _ => t9 = .int .i64 ((k : Int))] (by kernel_rfl) (by kernel_rfl) (fun wf hb hf => ?_) (fun t10 => ?_)
      · obtain ⟨rfl, rfl, -⟩ := hf
        refine ⟨?_⟩
        go_wp2
        exact ⟨rfl, .pointer (some ⟨b, off + k * 2, none⟩), by kernel_rfl, Below.refl _ _, rfl⟩
      refine wf_stepK [10] [fun _ => t10 = .pointer (some ⟨b, off + k * 2, none⟩)] (by kernel_rfl) (by kernel_rfl) (fun wf hb hf => ?_) (fun t11 => ?_)
      · obtain ⟨rfl, -⟩ := hf
        refine ⟨?_⟩
        go_wp2
        exact ⟨rfl, .pointer (some ⟨b, off + k * 2 + 1, none⟩), by kernel_rfl, Below.refl _ _, rfl⟩
      refine wf_stepK [11] [fun _ => t11 = .pointer (some ⟨b, off + k * 2 + 1, none⟩)] (by kernel_rfl) (by kernel_rfl) (fun wf hb hf => ?_) (fun t12 => ?_)
      · obtain ⟨rfl, -⟩ := hf
        refine ⟨?_⟩
        have cz := (hb.cell (p := ⟨b, off + k * 2 + 1, none⟩) (Nat.lt_of_lt_of_le hbl hs1)).trans q1
        go_wp2
        exact ⟨rfl, .int .i64 (z[k].2), by kernel_rfl, Below.refl _ _, rfl⟩
      refine wf_stepK [6, 7, 12] [RowV wr.heap.size z[k].1 t6, fun _ => t7 = .agg #[.int .i64 n, .int .i64 0], fun _ => t12 = .int .i64 (z[k].2)] (by kernel_rfl) (by kernel_rfl) (fun wf hb hf => ?_) (fun t13 => ?_)
      · obtain ⟨⟨AP, cP, rfl, hop⟩, rfl, rfl, -⟩ := hf
        refine ⟨?_⟩
        go_wp2
        exact ⟨rfl, .agg #[.slice AP z[k].1.length cP, .int .i64 n, .int .i64 0, .int .i64 z[k].2], by kernel_rfl, Below.refl _ _, AP, cP, rfl, hop⟩
      refine wf_stepK [13] [UpdW wr.heap.size z[k].1 n 0 z[k].2 t13] (by kernel_rfl) (by kernel_rfl) (fun wf hb hf => ?_) (fun t14 => ?_)
      · obtain ⟨⟨AP, cP, rfl, hop⟩, -⟩ := hf
        refine ⟨?_⟩
        go_wp2
        exact ⟨rfl, .slice (some ⟨wf.heap.size, 0, none⟩) 1 1, by kernel_rfl, bal (Below.refl _ _) _, wf.heap.size, AP, cP, rfl, hb.size, Blk.newAt rfl, hop.below (bal (Below.refl _ _) _)⟩
      refine wf_doneK [0, 14] [fun _ => t0 = .slice A' k c', UBox wr.heap.size z[k].1 n 0 z[k].2 t14] (by kernel_rfl) (by kernel_rfl) (fun w9 b9 hf => ?_)
      obtain ⟨rfl, ⟨g, AP, cP, rfl, hg0, hgB, hop⟩, -⟩ := hf
      show wpList _ _ _ [_, _] _ _
      refine wpList_frame (by simp [Act.put]; rfl) ?_
      have hF1 := HF.out.loc updO (fun q hq => b9.block q hq.2)
      have hrow2 := hF1.row
      rw [hkl] at hrow2
      have hbase : ∀ q, blk A' = some q → W1.heap.size ≤ q := fun q hq => (HF.out.top q hq).1
      have hsC := b9.size
      have hglt := hgB.lt
      go_wp2_with (at_builtin; refine wpList_append_src _ rfl _ _ 24 rfl W1.heap.size 54 i0 (.agg #[.slice none 0 0, .int .i64 0, .int .i64 0, .int .i64 0]) 4 48 Tryz.underlying24 hi hz0 hz1 hz2 rfl (by decide) _ _ _ rfl (ownsRow_base hrow2 hbase) (some ⟨g, 0, none⟩) 1 1 [.slice AP z[k].1.length cP, .int .i64 n, .int .i64 0, .int .i64 z[k].2] rfl rfl (fun h => by cases h) (blk_srcs hgB rfl) upd_ones (by unfold maxLen; omega) (by omega) (by omega) ?_)
      intro v' w3 hown' hgrow hloc
      rw [ownBlock_slice] at hgrow hloc
      have hp := HF.out.pushB (w2 := w3) hbel b9 hop (by rw [hkl]; exact hown') hgrow hloc
      rw [hkl, show MM.take k ++ [((z[k].1, (n, 0)), z[k].2)] = MM.take (k + 1) from HS.out.symm] at hp
      obtain ⟨A3, c3, rfl, ho3, hb3⟩ := hp
      have HO := Lib.hid ho3
      have HB := Lib.hid hb3
      clear hown' hgrow hloc ho3 hb3 hrow2 hbase hop b9 hbel hrow HF hF1 hgB q0 q1 HBB
      go_wp2
      go_roundw
      case rel => exact ⟨k + 1, A3, c3, by omega, by go_num, rfl, HO.out, HB.out⟩
      case measure => simp [intOf]; omega
    · obtain rfl : k = z.length := by omega
      have hTL : MM.take z.length = MM := List.take_of_length_le (by have := HML.out; omega)
      have HO : Hid (UpdsOw wr (news w wr) A' c' MM) := by
        rw [hTL] at hown
        exact (show UpdsOw wr (news W1 wr) A' c' MM from ⟨_, _, hown⟩).mono (fun q hq => ⟨by have := hq.1; omega, hq.2⟩) (fun q hq => hq.2)
      have HB := Lib.hid (btr HW.out hbel)
      clear hown hbel
      go_wp2
      go_ret
      exact ⟨A', c', by rw [HML.out]; rfl, HO.out, HB.out⟩

/-! ### Updates one after the other, whose rows lie elsewhere -/
def rbk (cs : List Value) : Option Nat := match cs with
  | .slice A _ _ :: _ => blk A
  | _ => none
structure AllAt (B : Nat) (w : World) (A : Option Addr) (c : Nat) (L : List Upd) (css : List (List Value)) : Prop where
  row : w.ownsRow B 54 4 (.slice A L.length c) L.length css.flatten
  rd : RdL UpdR w css L
  sep : ∀ cs ∈ css, ∀ k, rbk cs = some k → blk A ≠ some k ∧ k < w.heap.size
theorem AllAt.below {B : Nat} {w w' : World} {A : Option Addr} {c : Nat} {L : List Upd} {css : List (List Value)} (h : AllAt B w A c L css) (hb : Below w.heap.size w w') : AllAt B w' A c L css :=
  ⟨ownsRow_below h.row hb, h.rd.below updR hb, fun cs hc k hk => ⟨(h.sep cs hc k hk).1, Nat.lt_of_lt_of_le (h.sep cs hc k hk).2 hb.size⟩⟩
theorem UpdR.kept {w w' : World} {cs : List Value} {e : Upd} (h : UpdR w cs e) (hs : w.heap.size ≤ w'.heap.size) (hk : ∀ k, rbk cs = some k → w'.heap[k]? = w.heap[k]?) : UpdR w' cs e := by
  obtain ⟨RA, rc, rfl, l, hi⟩ := h.form
  have hi' : IntsAt w' RA e.1.1 := fun hp => by
    obtain ⟨b, off, e1, hlt, hc⟩ := hi hp
    refine ⟨b, off, e1, Nat.lt_of_lt_of_le hlt hs, fun j hj => ?_⟩
    rw [← hc j hj]
    exact World.cell?_of_block (a := ⟨b, off + j, none⟩) (hk b (by rw [e1]; rfl))
  exact ⟨[_, _, _], [_], rfl, ⟨[_], [_, _], rfl, ⟨RA, rc, rfl, l, hi'⟩, ⟨[_], [_], rfl, rfl, rfl⟩⟩, rfl⟩
theorem RdL.app {α : Type} {R : Rd α} {w : World} {css dss : List (List Value)} {xs ys : List α} (h : RdL R w css xs) (k : RdL R w dss ys) : RdL R w (css ++ dss) (xs ++ ys) := by
  refine ⟨by simp [h.len, k.len], fun j h1 h2 => ?_⟩
  have hl := h.len
  by_cases e : j < css.length
  · rw [List.getElem_append_left e, List.getElem_append_left (by omega)]
    exact h.elt j e (by omega)
  · rw [List.getElem_append_right (by omega), List.getElem_append_right (by omega)]
    have := k.elt (j - css.length) (by simp at h1; omega) (by simp at h2; omega)
    simpa [hl] using this
theorem AllAt.app {B : Nat} {w w' : World} {A A' : Option Addr} {c c' : Nat} {L U : List Upd} {css dss : List (List Value)} (h : AllAt B w A c L css) (hrd : RdL UpdR w dss U) (hs : ∀ cs ∈ dss, ∀ k, rbk cs = some k → blk A ≠ some k ∧ k < w.heap.size)
    (hrow : w'.ownsRow B 54 4 (.slice A' (L.length + U.length) c') (L.length + U.length) (css.flatten ++ dss.flatten)) (hg : w.grownBy w' (blk A)) (hl : ∀ k, blk A' = some k → blk A = some k ∨ w.heap.size ≤ k) :
    AllAt B w' A' c' (L ++ U) (css ++ dss) := by
  have keep : ∀ {ds : List (List Value)} {xs : List Upd}, RdL UpdR w ds xs → (∀ cs ∈ ds, ∀ k, rbk cs = some k → blk A ≠ some k ∧ k < w.heap.size) → RdL UpdR w' ds xs := fun {ds xs} r s =>
    ⟨r.len, fun j h1 h2 => (r.elt j h1 h2).kept hg.size (fun k hk => hg.block k (s _ (List.getElem_mem h1) k hk).2 (fun e => (s _ (List.getElem_mem h1) k hk).1 e.symm))⟩
  have sp : ∀ cs, (∀ k, rbk cs = some k → blk A ≠ some k ∧ k < w.heap.size) → ∀ k, rbk cs = some k → blk A' ≠ some k ∧ k < w'.heap.size := fun cs s k hk =>
    ⟨fun e => by
      rcases hl k e with h1 | h1
      · exact (s k hk).1 h1
      · have := (s k hk).2; omega, Nat.lt_of_lt_of_le (s k hk).2 hg.size⟩
  refine ⟨?_, (keep h.rd h.sep).app (keep hrd hs), fun cs hc => ?_⟩
  · rw [List.length_append, List.flatten_append]
    exact hrow
  · rcases List.mem_append.1 hc with hc | hc
    · exact sp cs (h.sep cs hc)
    · exact sp cs (hs cs hc)
theorem AllAt.at_ {B : Nat} {w : World} {A : Option Addr} {c : Nat} {L : List Upd} {css : List (List Value)} (h : AllAt B w A c L css) : UpdsAt w A L := h.rd.at_ updR rfl h.row
/-- The cells of a list of updates of its own. -/
theorem UpdsOw.cells {w : World} {S : Fp} {A : Option Addr} {c : Nat} {U : List Upd} (h : UpdsOw w S A c U) : ∃ dss : List (List Value), RdL UpdR w dss U ∧ (∀ cs ∈ dss, ∀ k, rbk cs = some k → S k) ∧ (A = none → U.length = 0) ∧ (∀ a, A = some a → ∀ j u, dss.flatten[j]? = some u → w.cell? (a.add j) = some u) ∧ ∀ u ∈ dss.flatten, u.oneCell' = true := by
  obtain ⟨css, F, h⟩ := h
  refine ⟨css, ⟨h.clen, fun j h1 h2 => updO.rd (h.elt j h1 h2)⟩, fun cs hc k hk => ?_, fun e => ?_, fun a e j u hu => ?_, fun u hu => ?_⟩
  · obtain ⟨j, hj, rfl⟩ := List.getElem_of_mem hc
    obtain ⟨RA, rc, hcs, hF, _⟩ := (h.elt j hj (by rw [← h.clen]; exact hj)).form
    rw [hcs] at hk
    exact (h.sub j k (hF k hk)).1
  · rcases h.form with ⟨_, _, rfl⟩ | ⟨g, e', _⟩
    · rfl
    · rw [e] at e'; cases e'
  · rcases h.form with ⟨e', _, _⟩ | ⟨g, e', _, _, _, _⟩
    · rw [e] at e'; cases e'
    · subst e'
      injection e with e
      subst e
      have hr : w.ownsRow 0 54 4 (.slice (some ⟨g, 0, none⟩) U.length c) U.length css.flatten := h.row
      have hj : j < U.length * 4 := by
        rcases Nat.lt_or_ge j (U.length * 4) with hj | hj
        · exact hj
        · rw [List.getElem?_eq_none (by rw [flat_len h.elen, h.clen]; exact hj)] at hu; cases hu
      have := World.ownsRow.cellAt hr j hj
      have ha : (⟨g, 0, none⟩ : Addr).add j = ⟨g, j, none⟩ := by unfold Addr.add; by_cases h0 : j = 0 <;> simp [h0]
      rw [ha, this, hu]
  · obtain ⟨cs, hc, hu⟩ := List.mem_flatten.1 hu
    obtain ⟨j, hj, rfl⟩ := List.getElem_of_mem hc
    exact updO.one (h.elt j hj (by rw [← h.clen]; exact hj)) u hu

/-! ### The model -/
set_option maxRecDepth 100000 in
set_option maxHeartbeats 3200000 in
theorem TraceOf_s (A : Option Addr) (c : Nat) (zs : List Zs) (w : World) (hx : ZssC w A zs) (hn : zs.length ≤ 4194304) (hr : zsIn zs 4194304) :
    Calls Tryz.prog 6 #[.slice A zs.length c] w fun e w' => ∃ A' c', e = .returned (.slice A' (TrF zs).length c') ∧ UpdsOw w' (news w w') A' c' (TrF zs) ∧ Below w.heap.size w w' := by
  obtain ⟨i0, hi, hz0, hz1, hz2⟩ := info_parts Tryz.infoUpd
  obtain ⟨W0, hW0⟩ : ∃ W0, W0 = w.alloc (.cells #[] 54) := ⟨_, rfl⟩
  obtain ⟨W1, hW1⟩ : ∃ W1, W1 = W0.alloc (.cells #[] 52) := ⟨_, rfl⟩
  have hB0 : Below w.heap.size w W0 := by rw [hW0]; exact bal (Below.refl _ _) _
  have hB1 : Below w.heap.size w W1 := by rw [hW1]; exact bal hB0 _
  have hA1 : AllAt w.heap.size W1 (some ⟨w.heap.size, 0, none⟩) 0 [] [] := by
    have h0 : AllAt w.heap.size W0 (some ⟨w.heap.size, 0, none⟩) 0 [] [] := by
      rw [hW0]
      exact ⟨World.ownsRow_lit (base := w.heap.size) (size := 4) (e := 54) w #[] 0 (Nat.le_refl _) (by simp [maxLen]) (by simp), RdL.nil, fun cs h => by cases h⟩
    rw [hW1]
    exact h0.below (bal (Below.refl _ _) _)
  have hE1 : EntsAt W1 (some ⟨W0.heap.size, 0, none⟩) [] := fun h => absurd h (by simp)
  by_cases h1 : zs.length ≤ 100
  case neg =>
    have HF := Lib.hid (TrF_no1 h1)
    have h1' : (100 : Int) < zs.length := by omega
    have HE : Hid (UpdsOw (W1.alloc (.cells #[] 54)) (news w (W1.alloc (.cells #[] 54))) (some ⟨W1.heap.size, 0, none⟩) 0 []) := endNoU w W1 hB1
    have HBW := Lib.hid (bal hB1 (.cells #[] 54))
    clear h1 hA1 hE1 hB0 hB1
    subst hW1
    subst hW0
    go_enter Tryz.func6, Tryz.ntmps6
    go_wp2
    go_ret
    exact ⟨_, 0, by rw [HF.out]; rfl, by rw [HF.out]; simpa using HE.out, HBW.out⟩
  have h1' : ¬ (100 : Int) < zs.length := by omega
  have HEQ : Hid (W1 = (w.alloc (.cells #[] 54)).alloc (.cells #[] 52)) := by rw [Hid, hW1, hW0]
  have HG0 : Hid (W0.heap.size = w.heap.size + 1) := by rw [Hid, hW0]; simp
  have HB1 := Lib.hid hB1
  have HA1 := Lib.hid hA1
  have hs1 := hB1.size
  clear hA1 hE1 hB0 hB1 hW0 hW1
  go_enter Tryz.func6, Tryz.ntmps6
  go_wp2
  refine abs_world (fun W => W = W1) HEQ.out.symm ?_
  rintro W rfl
  clear HEQ
  go_loopw [5] (fun i wr => ∃ k : Nat, k ≤ zs.length ∧ i = .int .i64 (k : Nat) ∧ upZ zs k ∧ Below W.heap.size W wr) (fun i _ => zs.length - (intOf i).toNat)
  case atStart => exact ⟨0, by omega, rfl, fun j _ h => absurd h (by omega), Below.refl _ _⟩
  case round =>
    obtain ⟨k, hk, rfl, hup, hbel⟩ := hrel
    have HU := Lib.hid hup
    clear hup
    by_cases hlt : k < zs.length
    · obtain ⟨b, off, ZA, zc, rfl, hbl, hc0, hzc, hcm, hzz⟩ := hx.get k hlt
      have hBB := btr HB1.out hbel
      have q0 := (hBB.cell (p := ⟨b, off + k, none⟩) hbl).trans hc0
      have hzr : EntsAt wr ZA zs[k] := SlAt.below entR hzz hBB
      have hrl := hr.get hlt
      have hvz := validZSet_s ZA zc zs[k] wr hzr hrl.1 hrl.2
      clear hc0 hzz hzr
      cases e1 : zsB zs[k]
      · rw [e1] at hvz
        have HF := Lib.hid (TrF_no2 (allZ_bad hlt e1))
        clear e1
        go_wp2_with fail
        refine hvz.mono ?_
        rintro e w2 ⟨rfl, b2⟩
        have HE := Lib.hid (endNoU w w2 (btr hBB b2))
        have HB := Lib.hid (btr hBB b2)
        clear hvz b2 hbel q0 hBB
        go_wp2
        go_ret
        exact ⟨_, 0, by rw [HF.out]; rfl, by rw [HF.out]; exact HE.out, bal HB.out _⟩
      · rw [e1] at hvz
        have HK := Lib.hid e1
        clear e1
        go_wp2_with fail
        refine hvz.mono ?_
        rintro e w2 ⟨rfl, b2⟩
        have HB := Lib.hid (btr hbel b2)
        clear hvz b2 hbel q0 hBB
        go_wp2
        go_roundw
        case rel => exact ⟨k + 1, by omega, by go_num, upZ_step HU.out (fun _ => HK.out), HB.out⟩
        case measure => simp [intOf]; omega
    · obtain rfl : k = zs.length := by omega
      have HALL := Lib.hid (upZ_end HU.out)
      have HAV := Lib.hid (HA1.out.below hbel)
      have HBV := Lib.hid (btr HB1.out hbel)
      have hsV := hbel.size
      clear HU HA1 hbel HB1
      obtain ⟨V, rfl⟩ : ∃ V : World, V = wr := ⟨wr, rfl⟩
      go_wp2
      go_loopw [3, 4, 6] (fun o p i wr => ∃ (k : Nat) (A' : Option Addr) (c' : Nat) (css : List (List Value)) (AP : Option Addr) (cP : Nat), k ≤ zs.length ∧ i = .int .i64 (k : Nat) ∧ o = .slice A' (trTo zs k).length c' ∧ AllAt w.heap.size wr A' c' (trTo zs k) css ∧ p = .slice AP (prevZ zs k).length cP ∧ EntsAt wr AP (prevZ zs k) ∧ Below w.heap.size w wr) (fun _ _ i _ => zs.length - (intOf i).toNat)
      case atStart => exact ⟨0, _, 0, [], _, 0, by omega, rfl, rfl, HAV.out, rfl, (fun h => absurd h (by simp [prevZ])), HBV.out⟩
      case round =>
        obtain ⟨k, A', c', css, AP, cP, hk, rfl, rfl, hall, rfl, hpr, hbel⟩ := hrel
        clear HAV HBV
        have hs2 := hbel.size
        by_cases hlt : k < zs.length
        · obtain ⟨b, off, ZA, zc, rfl, hbl, hc0, hzc, hcm, hzz⟩ := hx.get k hlt
          have q0 := (hbel.cell (p := ⟨b, off + k, none⟩) hbl).trans hc0
          have hzr : EntsAt wr ZA zs[k] := SlAt.below entR hzz hbel
          have hrl := hr.get hlt
          have hkz := allZ_get HALL.out hlt
          have hpz := prevZ_zs HALL.out k
          have hlt' : (k : Int) < zs.length := by omega
          have hb2 : b < wr.heap.size := Nat.lt_of_lt_of_le hbl hs2
          have hdf : chkF (nz (AddL zs[k] (negL (prevZ zs k)))) = dfZ zs k := by
            rw [dfZ, NegF_of hpz, List.getD_eq_getElem?_getD, List.getElem?_eq_getElem hlt, Option.getD_some, AddF_of hkz (zsB_negL hpz)]
          have hadd := fun (A B : Option Addr) (c d : Nat) (W : World) (h1 : EntsAt W A zs[k]) (h2 : EntsAt W B (negL (prevZ zs k))) => add_s A c zs[k] B d (negL (prevZ zs k)) W h1 h2 hkz (zsB_negL hpz)
          rw [hdf] at hadd
          have hDz := dfZ_zs zs k
          have HPV : Hid (prevZ zs (k + 1) = zs[k]) := by simp [Hid, prevZ, hlt]
          have HTS := Lib.hid (trTo_succ zs k)
          have hTL := trTo_len zs k
          have HZZ := Lib.hid hzz
          have hneg := fun (W : World) (h : EntsAt W AP (prevZ zs k)) => negate_s AP cP (prevZ zs k) W h (by have := zsB_len hpz; omega) (fun e he => by have := zsB_row hpz e he; omega) hpz
          clear hdf hc0 hzz
          generalize dfZ zs k = D at *
          generalize prevZ zs k = P at *
          generalize hL : trTo zs k = L at *
          have hDl := zsB_len hDz
          have hDr := zsB_row hDz
          have HAL := Lib.hid hall
          clear hL hall hkz hpz
          go_wp2_with fail
          refine wp_region_facts [[], [], [], [1, 2], [1, 2, 3], [], [5], [1, 2, 3, 4, 5, 6], [], [8], [1, 2, 3, 4, 5, 6, 7, 8, 9]]
            [fun v' _ => v' = .slice A' L.length c', fun v' _ => v' = .slice (some ⟨b, off, none⟩) zs.length c, fun v' _ => v' = .int .i64 ((k : Int)), fun v' _ => v' = .pointer (some ⟨b, off + k, none⟩), fun v' _ => v' = .slice ZA zs[k].length zc, fun v' _ => v' = .slice AP P.length cP, EnV (negL P), EnV D, fun v' _ => v' = .int .i64 ((k : Int)), fun v' _ => v' = .agg #[.int .i64 (k : Int), .int .i64 0], UpN wr (D.map (atE (k : Int))) D.length]
            (by kernel_rfl) (by kernel_rfl) rfl ⟨stable_pure _, stable_pure _, stable_pure _, stable_pure _, stable_pure _, stable_pure _, stable_enV _, stable_enV _, stable_pure _, stable_pure _, stable_upN _ _ _, trivial⟩ ?_
          refine wf_stepK [] [] (by kernel_rfl) (by kernel_rfl) (fun wf hb hf => ?_) (fun t0 => ?_)
          · refine ⟨?_⟩
            go_wp2
            exact ⟨rfl, .slice A' L.length c', by kernel_rfl, Below.refl _ _, rfl⟩
          refine wf_stepK [] [] (by kernel_rfl) (by kernel_rfl) (fun wf hb hf => ?_) (fun t1 => ?_)
          · refine ⟨?_⟩
            go_wp2
            exact ⟨rfl, .slice (some ⟨b, off, none⟩) zs.length c, by kernel_rfl, Below.refl _ _, rfl⟩
          refine wf_stepK [] [] (by kernel_rfl) (by kernel_rfl) (fun wf hb hf => ?_) (fun t2 => ?_)
          · refine ⟨?_⟩
            go_wp2
            exact ⟨rfl, .int .i64 ((k : Int)), by kernel_rfl, Below.refl _ _, rfl⟩
          refine wf_stepK [1, 2] [fun _ => t1 = .slice (some ⟨b, off, none⟩) zs.length c, fun _ => t2 = .int .i64 ((k : Int))] (by kernel_rfl) (by kernel_rfl) (fun wf hb hf => ?_) (fun t3 => ?_)
          · obtain ⟨rfl, rfl, -⟩ := hf
            refine ⟨?_⟩
            go_wp2
            exact ⟨rfl, .pointer (some ⟨b, off + k, none⟩), by kernel_rfl, Below.refl _ _, rfl⟩
          refine wf_stepK [3] [fun _ => t3 = .pointer (some ⟨b, off + k, none⟩)] (by kernel_rfl) (by kernel_rfl) (fun wf hb hf => ?_) (fun t4 => ?_)
          · obtain ⟨rfl, -⟩ := hf
            refine ⟨?_⟩
            have cz := (hb.cell (p := ⟨b, off + k, none⟩) hb2).trans q0
            go_wp2
            exact ⟨rfl, .slice ZA zs[k].length zc, by kernel_rfl, Below.refl _ _, rfl⟩
          refine wf_stepK [] [] (by kernel_rfl) (by kernel_rfl) (fun wf hb hf => ?_) (fun t5 => ?_)
          · refine ⟨?_⟩
            go_wp2
            exact ⟨rfl, .slice AP P.length cP, by kernel_rfl, Below.refl _ _, rfl⟩
          refine wf_stepK [5] [fun _ => t5 = .slice AP P.length cP] (by kernel_rfl) (by kernel_rfl) (fun wf hb hf => ?_) (fun t6 => ?_)
          · obtain ⟨rfl, -⟩ := hf
            refine ⟨?_⟩
            go_wp2_with (go_at_call 23; refine (hneg _ (hpr.below entR hb)).mono ?_; rintro e w2 ⟨AQ, cQ, rfl, oQ, hb2⟩)
            exact ⟨rfl, .slice AQ (negL P).length cQ, by kernel_rfl, hb2, AQ, cQ, rfl, SlOw.at_ entO oQ⟩
          refine wf_stepK [4, 6] [fun _ => t4 = .slice ZA zs[k].length zc, EnV (negL P) t6] (by kernel_rfl) (by kernel_rfl) (fun wf hb hf => ?_) (fun t7 => ?_)
          · obtain ⟨rfl, ⟨AN, cN, rfl, hN⟩, -⟩ := hf
            refine ⟨?_⟩
            go_wp2_with (go_at_call 22; refine (hadd _ _ _ _ _ (hzr.below entR hb) hN).mono ?_; rintro e w2 ⟨AQ, cQ, rfl, oQ, hb2⟩)
            exact ⟨rfl, .slice AQ D.length cQ, by kernel_rfl, hb2, AQ, cQ, rfl, SlOw.at_ entO oQ⟩
          refine wf_stepK [] [] (by kernel_rfl) (by kernel_rfl) (fun wf hb hf => ?_) (fun t8 => ?_)
          · refine ⟨?_⟩
            go_wp2
            exact ⟨rfl, .int .i64 ((k : Int)), by kernel_rfl, Below.refl _ _, rfl⟩
          refine wf_stepK [8] [fun _ => t8 = .int .i64 ((k : Int))] (by kernel_rfl) (by kernel_rfl) (fun wf hb hf => ?_) (fun t9 => ?_)
          · obtain ⟨rfl, -⟩ := hf
            refine ⟨?_⟩
            go_wp2
            exact ⟨rfl, .agg #[.int .i64 (k : Int), .int .i64 0], by kernel_rfl, Below.refl _ _, rfl⟩
          refine wf_stepK [7, 9] [EnV D t7, fun _ => t9 = .agg #[.int .i64 (k : Int), .int .i64 0]] (by kernel_rfl) (by kernel_rfl) (fun wf hb hf => ?_) (fun t10 => ?_)
          · obtain ⟨⟨AD, cD, rfl, hD⟩, rfl, -⟩ := hf
            refine ⟨?_⟩
            go_wp2_with (go_at_call 21; refine (updatesAt_s _ _ D (k : Int) _ hD (by omega) (fun e he => by have := hDr e he; omega)).mono ?_; rintro e w2 ⟨AQ, cQ, rfl, oQ, hb2⟩)
            exact ⟨rfl, .slice AQ D.length cQ, by kernel_rfl, hb2, AQ, cQ, rfl, oQ.mono (fun _ hq => ⟨Nat.le_trans hb.size hq.1, hq.2⟩) (fun _ hq => hq.2)⟩
          refine wf_doneK [0, 10] [fun _ => t0 = .slice A' L.length c', UpN wr (D.map (atE (k : Int))) D.length t10] (by kernel_rfl) (by kernel_rfl) (fun w9 b9 hf => ?_)
          obtain ⟨rfl, ⟨AU, cU, rfl, hU⟩, -⟩ := hf
          show wpList _ _ _ [_, _] _ _
          refine wpList_frame (by simp [Act.put]; rfl) ?_
          obtain ⟨dss, hrdU, hsU, hnU, hcU, h1U⟩ := UpdsOw.cells hU
          have hall2 := HAL.out.below b9
          have hUl : (D.map (atE (k : Int))).length ≤ 400 := by rw [List.length_map]; exact hDl
          have hlenU := flat_len (hrdU.elen updR)
          rw [hrdU.len, List.length_map] at hlenU
          have hnU2 : AU = none → D.length = 0 := fun e => by have := hnU e; rwa [List.length_map] at this
          have hsp : ∀ cs ∈ dss, ∀ q, rbk cs = some q → blk A' ≠ some q ∧ q < w9.heap.size := fun cs hc q hq => by
            have h := hsU cs hc q hq
            refine ⟨fun e => ?_, h.2⟩
            rcases ownsRow_form HAL.out.row with ⟨e2, _, _⟩ | ⟨g, e2, _, hg2, _⟩
            · rw [e2] at e; cases e
            · rw [e2] at e; injection e with e; have := h.1; simp at e; omega
          have hs9 := b9.size
          have hrow2 := hall2.row
          go_wp2_with (at_builtin; refine wpList_append_src _ rfl _ _ 24 rfl w.heap.size 54 i0 (.agg #[.slice none 0 0, .int .i64 0, .int .i64 0, .int .i64 0]) 4 48 Tryz.underlying24 hi hz0 hz1 hz2 rfl (by decide) _ _ _ rfl hrow2 AU D.length cU dss.flatten rfl hlenU hnU2 hcU h1U (by unfold maxLen; omega) (by omega) (by omega) ?_)
          intro v' w3 hown' hgrow hloc
          obtain ⟨A3, c3, rfl⟩ := own_slice hown'
          simp only [ownBlock_slice] at hgrow hloc
          have hown2 := hown'
          rw [show D.length = (D.map (atE (k : Int))).length from (List.length_map _).symm] at hown2
          have happ := hall2.app hrdU hsp hown2 hgrow hloc
          have hbb : Below w.heap.size w w3 := (btr hbel b9).grown hgrow (Nat.le_trans hs2 hs9) (fun q hq => (World.ownsRow.lt hrow2 q (by rw [ownBlock_slice]; exact hq)).1)
          rw [← HTS.out] at happ
          have HAP := Lib.hid happ
          have HLL : Hid (L.length + D.length = (trTo zs (k + 1)).length) := by rw [Hid, HTS.out, List.length_append, List.length_map]
          have q3 := (hbb.cell (p := ⟨b, off + k, none⟩) hbl).trans ((hbel.cell (p := ⟨b, off + k, none⟩) hbl).symm.trans q0)
          have HZ3 : Hid (EntsAt w3 ZA zs[k]) := SlAt.below entR HZZ.out hbb
          have HBB := Lib.hid hbb
          clear hown' hown2 hnU2 hgrow hloc happ hbb hrow2 hall2 hU hrdU hsU hnU hcU h1U hsp hlenU b9 hbel q0 hzr hpr hadd hneg HAL
          go_wp2
          go_roundw
          case rel => exact ⟨k + 1, A3, c3, _, ZA, zc, by omega, by go_num, by rw [← HLL.out], HAP.out, by rw [HPV.out], by rw [HPV.out]; exact HZ3.out, HBB.out⟩
          case measure => simp [intOf]; omega
        · obtain rfl : k = zs.length := by omega
          have HTY := Lib.hid (TrF_yes h1 HALL.out)
          have hTL := trTo_len zs zs.length
          have hcon := consolidate_w A' c' (trTo zs zs.length) wr hall.at_ (by omega) (fun e he => by have := trTo_rows zs zs.length e he; omega) (trTo_wt h1)
          rw [← HTY.out] at hcon
          clear hall hpr
          go_wp2_with fail
          refine hcon.mono ?_
          rintro e w4 ⟨A4, c4, rfl, ho4, b4⟩
          have HO := Lib.hid (ho4.mono (S' := news w w4) (fun q hq => ⟨Nat.le_trans hs2 hq.1, hq.2⟩) (fun q hq => hq.2))
          have HB := Lib.hid (btr hbel b4)
          clear hcon ho4 b4 hbel
          go_wp2
          go_ret
          exact ⟨A4, c4, rfl, HO.out, HB.out⟩

/-! ### The program -/
theorem endNilU (w : World) : ∀ W, Below w.heap.size w W → UpdsOw W (news w W) none 0 [] := fun W _ => SlOw.nil (fun q hq => hq.2)
theorem GrownS.far {a w w' w'' : World} {S : Fp} {row : Option Nat} (g : GrownS a w S) (b : Below w.heap.size w w') (h : w'.grownBy w'' row) (hr : ∀ k, row = some k → S k ∨ a.heap.size ≤ k) : GrownS a w'' S :=
  ⟨h.os.trans (b.os.trans g.os), h.tape.trans (b.tape.trans g.tape), h.output.trans (b.output.trans g.output), Nat.le_trans g.size (Nat.le_trans b.size h.size), fun k hk hn =>
    (h.block k (Nat.lt_of_lt_of_le hk (Nat.le_trans g.size b.size)) (fun e => by
      rcases hr k e.symm with h1 | h1
      · exact hn h1
      · omega)).trans ((b.block k (Nat.lt_of_lt_of_le hk g.size)).trans (g.block k hk hn))⟩
theorem RdL.one {α : Type} {R : Rd α} {w : World} {cs : List Value} {x : α} (h : R w cs x) : RdL R w [cs] [x] := by simpa using RdL.snoc RdL.nil h
theorem UpdR.mkk {w : World} {A : Option Addr} {c : Nat} {xs : List Int} {p q x : Int} (l : xs.length ≤ maxLen) (h : IntsAt w A xs) : UpdR w [.slice A xs.length c, .int .i64 p, .int .i64 q, .int .i64 x] ((xs, (p, q)), x) :=
  ⟨[_, _, _], [_], rfl, ⟨[_], [_, _], rfl, ⟨A, c, rfl, l, h⟩, ⟨[_], [_], rfl, rfl, rfl⟩⟩, rfl⟩
theorem rbk_upd {RA : Option Addr} {n rc : Nat} {p q x : Int} : rbk [.slice RA n rc, .int .i64 p, .int .i64 q, .int .i64 x] = blk RA := rfl
set_option maxRecDepth 100000 in
set_option maxHeartbeats 6400000 in
theorem TraceOf_i (A : Option Addr) (c : Nat) (zs : List Zs) (w : World) (hx : ZssC w A zs) (hn : zs.length ≤ 4194304) (hr : zsIn zs 4194304) :
    Calls Tryz.prog 8 #[.slice A zs.length c] w fun e w' => ∃ A' c', e = .returned (.slice A' (TrF zs).length c') ∧ UpdsOw w' (news w w') A' c' (TrF zs) ∧ Below w.heap.size w w' := by
  obtain ⟨i0, hi, hz0, hz1, hz2⟩ := info_parts Tryz.infoUpd
  have HN := Lib.hid (endNilU w)
  by_cases h1 : zs.length ≤ 100
  case neg =>
    have HF := Lib.hid (TrF_no1 h1)
    have h1' : (100 : Int) < zs.length := by omega
    clear h1
    go_enter Tryz.func8, Tryz.ntmps8
    go_wp2
    go_ret
    exact ⟨none, 0, by rw [HF.out]; rfl, by rw [HF.out]; exact HN.out _ (Below.refl _ _), Below.refl _ _⟩
  have h1' : ¬ (100 : Int) < zs.length := by omega
  go_enter Tryz.func8, Tryz.ntmps8
  go_wp2
  go_loopw [3, 4, 5, 6, 14] (fun o p _ _ i wr => ∃ (k : Nat) (A' : Option Addr) (c' : Nat) (css : List (List Value)) (AP : Option Addr) (cP : Nat), k ≤ zs.length ∧ i = .int .i64 (k : Nat) ∧ o = .slice A' (trTo zs k).length c' ∧ AllAt w.heap.size wr A' c' (trTo zs k) css ∧ p = .slice AP (prevZ zs k).length cP ∧ EntsAt wr AP (prevZ zs k) ∧ upZ zs k ∧ Below w.heap.size w wr) (fun _ _ _ _ i _ => zs.length - (intOf i).toNat)
  case atStart => exact ⟨0, none, 0, [], none, 0, by omega, rfl, rfl, ⟨World.ownsRow_nil _ _ _ _, RdL.nil, fun cs h => by cases h⟩, rfl, (fun h => absurd h (by simp [prevZ])), fun j _ h => absurd h (by omega), Below.refl _ _⟩
  case round =>
    obtain ⟨k, A', c', css, AP, cP, hk, rfl, rfl, hall, rfl, hpr, hup, hbel⟩ := hrel
    have hs2 := hbel.size
    have HU := Lib.hid hup
    clear hup
    by_cases hlt : k < zs.length
    · obtain ⟨b, off, ZA, zc, rfl, hbl, hc0, hzc, hcm, hzz⟩ := hx.get k hlt
      have q0 := (hbel.cell (p := ⟨b, off + k, none⟩) hbl).trans hc0
      have hzr : EntsAt wr ZA zs[k] := SlAt.below entR hzz hbel
      have hrl := hr.get hlt
      have hvz := ValidZSet_i ZA zc zs[k] wr hzr hrl.1 hrl.2
      cases e1 : zsB zs[k]
      · rw [e1] at hvz
        have HF := Lib.hid (TrF_no2 (allZ_bad hlt e1))
        clear e1 hc0 hzz hzr hall hpr
        go_wp2_with fail
        refine hvz.mono ?_
        rintro e w2 ⟨rfl, b2⟩
        have HB := Lib.hid (btr hbel b2)
        clear hvz b2 hbel q0
        go_wp2
        go_ret
        exact ⟨none, 0, by rw [HF.out]; rfl, by rw [HF.out]; exact HN.out _ HB.out, HB.out⟩
      rw [e1] at hvz
      have hpz : zsB (prevZ zs k) = true := by
        cases k with
        | zero => rfl
        | succ j => show zsB (zs.getD j []) = true; rw [List.getD_eq_getElem?_getD, List.getElem?_eq_getElem (by omega)]; exact HU.out j (by omega) (by omega)
      have HUS := Lib.hid (upZ_step HU.out (fun _ => e1))
      have hdf : AddF zs[k] (NegF (prevZ zs k)) = dfZ zs k := by
        rw [dfZ, List.getD_eq_getElem?_getD, List.getElem?_eq_getElem hlt, Option.getD_some]
      have hPl := zsB_len hpz
      have hPr : rowsIn (prevZ zs k) 4194304 := fun e he => by have := zsB_row hpz e he; omega
      have hNz := zsB_NegF hpz
      have hNl := zsB_len hNz
      have hNr : rowsIn (NegF (prevZ zs k)) 4194304 := fun e he => by have := zsB_row hNz e he; omega
      have hneg := fun (W : World) (h : EntsAt W AP (prevZ zs k)) => Negate_i AP cP (prevZ zs k) W h (by omega) hPr
      have hadd := fun (B : Option Addr) (d : Nat) (W : World) (h1 : EntsAt W ZA zs[k]) (h2 : EntsAt W B (NegF (prevZ zs k))) (hd : (NegF (prevZ zs k)).length ≤ d) => Add_i ZA zc zs[k] B d (NegF (prevZ zs k)) W h1 h2 hzc hd hrl.1 hrl.2 (by omega) hNr
      rw [hdf] at hadd
      have hDz := dfZ_zs zs k
      have HPV : Hid (prevZ zs (k + 1) = zs[k]) := by simp [Hid, prevZ, hlt]
      have HTS := Lib.hid (trTo_succ zs k)
      have hTL := trTo_len zs k
      have HZZ := Lib.hid hzz
      clear hdf hc0 hzz e1 hNz hNr hPr hpz hNl
      generalize dfZ zs k = D at *
      generalize NegF (prevZ zs k) = NP at *
      generalize prevZ zs k = P at *
      generalize hL : trTo zs k = L at *
      have hDl := zsB_len hDz
      have hDr := zsB_row hDz
      have HAL := Lib.hid hall
      clear hL hall
      go_wp2_with fail
      refine hvz.mono ?_
      rintro e w2 ⟨rfl, b2⟩
      clear hvz
      go_wp2_with fail
      refine (hneg _ (hpr.below entR b2)).mono ?_
      rintro e w3 ⟨AN, cN, rfl, oN, b3⟩
      clear hneg
      have hcN := EntsOw.len_cap oN
      go_wp2_with fail
      refine (hadd _ _ _ (hzr.below entR (btr b2 b3)) (EntsOw.at_ oN) hcN.1).mono ?_
      rintro e w4 ⟨AD, cD, rfl, oD, b4⟩
      have hB4 := btr (btr b2 b3) b4
      have hs4 := hB4.size
      have hs34 := (btr b2 b3).size
      have HAL4 := Lib.hid (HAL.out.below hB4)
      have HOD := Lib.hid oD
      have HB4 := Lib.hid (btr hbel hB4)
      have hA4 : ∀ q, blk A' = some q → w.heap.size ≤ q ∧ q < wr.heap.size := fun q hq => World.ownsRow.lt HAL.out.row q (by rw [ownBlock_slice]; exact hq)
      have HA4 := Lib.hid hA4
      have HX0 := Lib.hid hbel
      clear hadd oN oD b2 b3 b4 hB4 hbel q0 hzr hpr HAL hA4
      have HML : Hid ((D.map (atE (k : Int))).length = D.length) := by simp [Hid]
      obtain ⟨V, rfl⟩ : ∃ V : World, V = wr := ⟨wr, rfl⟩
      go_wp2
      go_loopw [3, 8, 27] (fun o _ i wr => ∃ (m : Nat) (A2 : Option Addr) (c2 : Nat) (css2 : List (List Value)), m ≤ D.length ∧ i = .int .i64 (m : Nat) ∧ o = .slice A2 (L.length + m) c2 ∧ AllAt w.heap.size wr A2 c2 (L ++ (D.map (atE (k : Int))).take m) css2 ∧ EntsOw wr (news w3 w4) AD cD D ∧ GrownS w4 wr (fun q => blk A' = some q) ∧ (∀ q, blk A2 = some q → blk A' = some q ∨ w4.heap.size ≤ q)) (fun _ _ i _ => D.length - (intOf i).toNat)
      case atStart => exact ⟨0, A', c', css, by omega, rfl, rfl, by rw [List.take_zero, List.append_nil]; exact HAL4.out, HOD.out, GrownS.refl _ _, fun q hq => .inl hq⟩
      case round =>
        obtain ⟨m, A2, c2, css2, hm, rfl, rfl, hall, ⟨cssD, FD, hD⟩, hgr, hA2⟩ := hrel
        clear HAL4 HOD
        by_cases hml : m < D.length
        · rcases hD.form with ⟨_, _, h0⟩ | ⟨g, rfl, hSg, hgl, hgc, hgm⟩
          · rw [h0] at hml; simp at hml
          have hcl : m < cssD.length := by rw [hD.clen]; exact hml
          have hel := hD.elt m hcl hml
          obtain ⟨RA, rc, hcs, hFb, hrow⟩ := hel.form
          have hc0 := hD.cell m hcl 0 (by omega)
          have hc1 := hD.cell m hcl 1 (by omega)
          rw [hcs] at hc0 hc1
          simp at hc0 hc1
          have hrl6 := hDr D[m] (List.getElem_mem hml)
          have hlen : (L ++ (D.map (atE (k : Int))).take m).length = L.length + m := by rw [List.length_append, List.length_take, HML.out]; omega
          have hRA : ∀ q, blk RA = some q → w3.heap.size ≤ q ∧ q < w4.heap.size := fun q hq => (hD.sub m q (hFb q hq)).1
          have hsep : ∀ q, blk RA = some q → blk A2 ≠ some q := fun q hq e => by
            have h := hRA q hq
            rcases hA2 q e with h2 | h2
            · have := HA4.out q h2; omega
            · omega
          have HD := Lib.hid hD
          have HGR := Lib.hid hgr
          have HALL := Lib.hid hall
          have HROW := Lib.hid hrow
          have hsg := hgr.size
          have hmlt : (m : Int) < D.length := by omega
          have hrow2 := hall.row
          rw [hlen] at hrow2
          have HLN := Lib.hid hlen
          have HAA2 := Lib.hid hA2
          have HRA := Lib.hid hRA
          have HSEP := Lib.hid hsep
          have hsw : w.heap.size ≤ wr.heap.size := Nat.le_trans HB4.out.size hsg
          clear hD hel hcs hFb hgr hall hrow hlen hA2 hRA hsep
          go_wp2_with (at_builtin; refine wpList_append_src _ rfl _ _ 24 rfl w.heap.size 54 i0 (.agg #[.slice none 0 0, .int .i64 0, .int .i64 0, .int .i64 0]) 4 48 Tryz.underlying24 hi hz0 hz1 hz2 rfl (by decide) _ _ _ rfl ((ownsRow_below hrow2 (bal (Below.refl _ _) _)).alloc _) (some ⟨wr.heap.size + 1, 0, none⟩) 1 1 [.slice RA D[m].1.length rc, .int .i64 (k : Int), .int .i64 0, .int .i64 D[m].2] rfl rfl (fun h => by cases h) (blk_srcs (Blk.newAt (by simp)) rfl) upd_ones (by unfold maxLen; omega) (by omega) (by simp; omega) ?_)
          intro v' wq hown' hgrow hloc
          obtain ⟨A3, c3, rfl⟩ := own_slice hown'
          simp only [ownBlock_slice] at hgrow hloc
          have hBb : Below wr.heap.size wr ((wr.alloc (.cells #[.slice RA D[m].1.length rc, .int .i64 D[m].2] 52)).alloc (.cells #[.slice RA D[m].1.length rc, .int .i64 (k : Int), .int .i64 0, .int .i64 D[m].2] 54)) := bal (bal (Below.refl _ _) _) _
          have hall3 := HALL.out.below hBb
          have hsb := hBb.size
          have hrd1 : RdL UpdR ((wr.alloc (.cells #[.slice RA D[m].1.length rc, .int .i64 D[m].2] 52)).alloc (.cells #[.slice RA D[m].1.length rc, .int .i64 (k : Int), .int .i64 0, .int .i64 D[m].2] 54)) [[.slice RA D[m].1.length rc, .int .i64 (k : Int), .int .i64 0, .int .i64 D[m].2]] [atE (k : Int) D[m]] := by
            exact RdL.one (UpdR.mkk (by unfold maxLen; omega) (HROW.out.at_.below hBb))
          have hown2 : wq.ownsRow w.heap.size 54 4 (.slice A3 ((L ++ (D.map (atE (k : Int))).take m).length + [atE (k : Int) D[m]].length) c3) ((L ++ (D.map (atE (k : Int))).take m).length + [atE (k : Int) D[m]].length) (css2.flatten ++ [[Value.slice RA D[m].1.length rc, .int .i64 (k : Int), .int .i64 0, .int .i64 D[m].2]].flatten) := by
            rw [HLN.out]
            simpa using hown'
          have happ := hall3.app hrd1 (fun cs hc q hq => by
            simp at hc
            subst hc
            have hq' : blk RA = some q := hq
            exact ⟨HSEP.out q hq', by have := (HRA.out q hq').2; omega⟩) hown2 hgrow (fun q hq => by have := hloc q hq; simpa using this)
          rw [List.append_assoc, show (D.map (atE (k : Int))).take m ++ [atE (k : Int) D[m]] = (D.map (atE (k : Int))).take (m + 1) by rw [List.take_succ_eq_append_getElem (by rw [HML.out]; exact hml), List.getElem_map]] at happ
          have hg2 := HGR.out.far hBb hgrow (fun q hq => HAA2.out q hq)
          have hD2 : EntsOw wq (news w3 w4) (some ⟨g, 0, none⟩) cD D := ⟨_, _, HD.out.loc entO (fun q hq => by
            have h1 : wq.heap[q]? = ((wr.alloc (.cells #[.slice RA D[m].1.length rc, .int .i64 D[m].2] 52)).alloc (.cells #[.slice RA D[m].1.length rc, .int .i64 (k : Int), .int .i64 0, .int .i64 D[m].2] 54)).heap[q]? := hgrow.block q (by have := hq.2; omega) (fun e => by
              rcases HAA2.out q e.symm with h2 | h2
              · have := HA4.out q h2; have := hq.1; omega
              · have := hq.2; omega)
            exact h1.trans (hBb.block q (by have := hq.2; omega)))⟩
          have HP := Lib.hid happ
          have HG2 := Lib.hid hg2
          have HD2 := Lib.hid hD2
          have HL3 : Hid (∀ q, blk A3 = some q → blk A' = some q ∨ w4.heap.size ≤ q) := fun q hq => by
            rcases hloc q hq with h1 | h1
            · exact HAA2.out q h1
            · right; omega
          clear happ hg2 hD2 hown2 hrd1 hall3 hBb hloc hgrow hown' hrow2 hc0 hc1 HD HGR HALL HAA2
          go_wp2
          go_roundw
          case rel => exact ⟨m + 1, A3, c3, _, by omega, by go_num, by rw [Nat.add_assoc], HP.out, HD2.out, HG2.out, HL3.out⟩
          case measure => simp [intOf]; omega
        · obtain rfl : m = D.length := by omega
          have hTK : (D.map (atE (k : Int))).take D.length = D.map (atE (k : Int)) := List.take_of_length_le (by rw [HML.out]; exact Nat.le_refl _)
          rw [hTK, ← HTS.out] at hall
          have HP := Lib.hid hall
          have hBE : Below w.heap.size w wr := hgr.below HB4.out (fun q hq => (HA4.out q hq).1)
          have HZ3 : Hid (EntsAt wr ZA zs[k]) := SlAt.below entR HZZ.out hBE
          have HLL : Hid (L.length + D.length = (trTo zs (k + 1)).length) := by rw [Hid, HTS.out, List.length_append, List.length_map]
          have HB3 := Lib.hid hBE
          clear hall hBE hgr hD hA2 hTK
          go_wp2
          go_roundw
          case rel => exact ⟨k + 1, A2, c2, _, ZA, zc, by omega, by go_num, by rw [← HLL.out], HP.out, by rw [HPV.out], by rw [HPV.out]; exact HZ3.out, HUS.out, HB3.out⟩
          case measure => simp [intOf]; omega
    · obtain rfl : k = zs.length := by omega
      have hcs := TrF_cons h1 (upZ_end HU.out)
      have hTL := trTo_len zs zs.length
      have hcon := Consolidate_i A' c' (trTo zs zs.length) wr hall.at_ (by omega) (fun e he => by have := trTo_rows zs zs.length e he; omega)
      rw [hcs] at hcon
      clear hall hpr hcs
      go_wp2_with fail
      refine hcon.mono ?_
      rintro e w4 ⟨A4, c4, rfl, ho4, b4⟩
      have HO := Lib.hid (ho4.mono (S' := news w w4) (fun q hq => ⟨Nat.le_trans hs2 hq.1, hq.2⟩) (fun q hq => hq.2))
      have HB := Lib.hid (btr hbel b4)
      clear hcon ho4 b4 hbel
      go_wp2
      go_ret
      exact ⟨A4, c4, rfl, HO.out, HB.out⟩
end Go.Proofs.YtjikdlldochhcacGreat
