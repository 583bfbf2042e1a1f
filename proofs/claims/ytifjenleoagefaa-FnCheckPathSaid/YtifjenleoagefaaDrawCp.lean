/- HELPER, no statement of the seat: drawn edges with a path. -/
import Derived.Test.YtifjenleoagefaaCgi
import Derived.Test.YtifjenleoagefaaCgg
import Derived.Test.YtifjenleoagefaaCgf
namespace Go.Proofs.Ytifjenleoagefaa
open Go.RowKit Go.Sort
set_option linter.unusedSimpArgs false
set_option linter.unusedVariables false

def EdgP (w : World) (e : Ending) (w' : World) : Prop := ∃ (z : List Ent) (A' : Option Addr) (c' : Nat) (x y : Int) (P : Option Addr) (d : Nat) (p : List Int), e = .returned (.tuple #[.slice A' z.length c', .int .i64 x, .int .i64 y, .slice P p.length d]) ∧ EdP w' A' c' z ∧ IntsAt w' P p ∧ p.length ≤ d ∧ p.length ≤ 500 ∧ Below w.heap.size w w'
theorem intsOwn_rd {w w' : World} {b g : Nat} {A : Option Addr} {c : Nat} {xs : List Int} (h : IntsOwn w b A c xs) (hg : w.grownBy w' (some g)) (hlt : g < b) : IntsOwn w' b A c xs :=
  IntsOwn.kept h hg (fun a ha e => by
    injection e with e
    rcases h.form with ⟨h0, _⟩ | ⟨k, h0, h1, _⟩
    · rw [h0] at ha; cases ha
    · rw [h0] at ha; injection ha with ha; subst ha; simp at e; omega)
theorem IntsAt.takeN {w : World} {A : Option Addr} {xs : List Int} (h : IntsAt w A xs) (n : Nat) : IntsAt w A (xs.take n) := fun hn => by
  rw [List.length_take] at hn
  obtain ⟨b, off, e, h1, h2⟩ := h (by omega)
  refine ⟨b, off, e, h1, fun j hj => ?_⟩
  rw [List.length_take] at hj
  have := h2 j (by omega)
  rw [this]
  simp [List.getD, List.getElem?_take, show j < n by omega]
theorem gGx {w w1 w2 : World} {g : Nat} {B : Option Nat} (h : w.grownBy w1 (some g)) (hg : w1.grownBy w2 B) (hB : ∀ k, B = some k → w.heap.size ≤ k) : w.grownBy w2 (some g) :=
  ⟨hg.os.trans h.os, hg.tape.trans h.tape, hg.output.trans h.output, Nat.le_trans h.size hg.size, fun k hk hn => (hg.block k (Nat.lt_of_lt_of_le hk h.size) (fun e => by have := hB k (by first | exact e | exact e.symm); omega)).trans (h.block k hk hn)⟩
theorem EdgP.mk {w W : World} {z : List Ent} {A' : Option Addr} {c' : Nat} {x y : Int} {P : Option Addr} {d L : Nat} {p : List Int} (hE : EdP W A' c' z ∧ Below w.heap.size w W) (hp : IntsAt W P p) (hl : p.length = L) (hc : L ≤ d) (hm : L ≤ 500) : EdgP w (.returned (.tuple #[.slice A' z.length c', .int .i64 x, .int .i64 y, .slice P L d])) W := by
  subst hl
  exact ⟨z, A', c', x, y, P, d, p, rfl, hE.1, hp, hc, hm, hE.2⟩
theorem PthF_pos {es : List Ent} {x y : Int} (h : PthB es x y = true) : 0 < (PthF es x y).length := by
  rw [PthF, if_pos h, pathL, List.length_append]; simp
theorem PthF_lenP (es : List Ent) (x y : Int) : (PthF es x y).length ≤ 402 := by
  unfold PthF
  split
  · rename_i h
    simp only [PthB, Bool.and_eq_true, decide_eq_true_eq, inB] at h
    obtain ⟨he, hx, hy, _⟩ := h
    have := dist_le (relOf_ok he) (x := x.toNat) (y := y.toNat) (by omega) (by omega)
    rw [pathL, List.length_append, walkP_len]
    simp; omega
  · simp
set_option maxRecDepth 100000 in
set_option maxHeartbeats 12800000 in
theorem DrawCheckPath_r (A : Option Addr) (n c : Nat) (w : World) (hb : BytesAt w w.heap.size A n) (hc : n ≤ c) (hn : n ≤ 1048576) :
    Calls Try.prog 32 #[.slice A n c] w (EdgP w) := by
  obtain ⟨i0, hi, hz0, hz1, hz2⟩ := info_parts Try.infoInt
  go_enter Try.func32, Try.ntmps32
  go_wp2_with fail
  refine (newReader_r _ _ _ _ hb hc hn).mono ?_
  rintro e w1 ⟨A1, m1, c1, rfl, r1, b1⟩
  clear hb
  go_wp2_with fail
  refine (anyEdges_r _ _ _ _ _ _ r1 (by omega)).mono ?_
  rintro e w3 ⟨z, A3, c3, q3, rfl, hz, hq1, hq2, r3, g3⟩
  have hs1 := r1.1.lt
  have hs3 := g3.size
  have HB3 := Lib.hid (gbelow b1 g3 (Nat.le_refl _))
  have HZ := Lib.hid hz
  clear hz b1 g3 r1
  go_wp2_with fail
  refine (pick_r _ _ _ _ _ _ _ r3 (by omega) (by omega)).mono ?_
  rintro e w4 ⟨x, rfl, x0, x1, r4, g4⟩
  go_wp2_with fail
  refine (pick_r _ _ _ _ _ _ _ r4 (by omega) (by omega)).mono ?_
  rintro e w5 ⟨y, rfl, y0, y1, r5, g5⟩
  have hx1 := x1 (by omega)
  have hy1 := y1 (by omega)
  have g35 := g4.trans g5
  have hzr : ∀ (W : World), w3.grownBy W (some w.heap.size) → EntsOw W (news w1 w3) A3 c3 z := fun W hg => SlOw.loc entO HZ.out.1 (fun k hk => hg.block k hk.2 (fun e => by injection e with e; have := hk.1; omega))
  have HZR := Lib.hid hzr
  have hcp := CertifyPath_s A3 c3 z x y w5 (SlOw.at_ entO (hzr _ g35)) (by have := HZ.out.2.1; omega) (fun e he => by have := HZ.out.2.2.1 e he; omega)
  have hs5 := g35.size
  have HG5 := Lib.hid g35
  have HFL := Lib.hid (PthF_lenP z x y)
  have HFP := Lib.hid (fun h => PthF_pos (es := z) (x := x) (y := y) h)
  have HEN : Hid (∀ (W : World), w3.grownBy W (some w.heap.size) → EdP W A3 c3 z ∧ Below w.heap.size w W) := fun W hg => ⟨⟨SlOw.at_ entO (HZR.out W hg), EntsOw.cap (HZR.out W hg), by have := HZ.out.2.1; omega, HZ.out.2.2.1⟩, gbelow HB3.out hg (Nat.le_refl _)⟩
  generalize PthF z x y = F at *
  clear x1 y1 r3 r4 g4 g5 g35 hzr HZ HB3
  cases hB : PthB z x y
  · rw [hB] at hcp
    clear hB
    go_wp2_with fail
    refine hcp.mono ?_
    rintro e w6 ⟨A6, c6, rfl, ho6, b6⟩
    have r6 := r5.below b6
    have HG6 := Lib.hid (gB HG5.out b6)
    have hs6 := b6.size
    clear hcp ho6 b6 r5
    go_wp2_with fail
    refine (pick_r _ _ _ _ _ _ _ r6 (by omega) (by omega)).mono ?_
    rintro e w7 ⟨jj, rfl, jj0, jj1, r7, g7⟩
    have hs7 := g7.size
    have hbl : Below w7.heap.size w7 (w7.alloc (.cells #[.int .i64 x, .int .i64 jj, .int .i64 y] 3)) := bal (Below.refl _ _) _
    have ho7 : IntsOwn (w7.alloc (.cells #[.int .i64 x, .int .i64 jj, .int .i64 y] 3)) w5.heap.size (some ⟨w7.heap.size, 0, none⟩) 3 [x, jj, y] := IntsOwn.mono (base := w7.heap.size) (World.ownsRow_lit (base := w7.heap.size) (size := 1) (e := 3) w7 #[.int .i64 x, .int .i64 jj, .int .i64 y] 3 (Nat.le_refl _) (by simp [maxLen]) (by simp)) (by omega)
    have rr := r7.below hbl
    have HG7 := Lib.hid (gB (HG6.out.trans g7) hbl)
    have hpl := Lib.hid (show (0 : Nat) < 3 by decide)
    have hpm := Lib.hid (show (3 : Nat) ≤ 402 by decide)
    clear jj1 r6 r7 g7 HG6 HG5 hbl
    have hgb : w.heap.size < w5.heap.size := by omega
    go_wp2_with fail
    refine (pick_r _ _ _ _ _ _ _ rr (by omega) (by omega)).mono ?_
    rintro e w8 ⟨j, rfl, j0, j1, r8, g8⟩
    have hj1 := j1 (by omega)
    have ho8 := intsOwn_rd ho7 g8 hgb
    have HG8 := Lib.hid (HG7.out.trans g8)
    have hs8 := g8.size
    have hs58 : w5.heap.size ≤ w8.heap.size := by first | omega | (simp at hs8; omega)
    have hcap : 3 ≤ 3 := by have := ho8.cap; first | exact this | simpa using this
    clear j1 rr g8 ho7 HG7
    by_cases e0 : j = 0
    · subst e0
      go_wp2_with fail
      refine (pick_r _ _ _ _ _ _ _ r8 (by omega) (by have := hpm.out; omega)).mono ?_
      rintro e w9 ⟨k, rfl, k0, k1, r9, g9⟩
      have hk1 := k1 (by have := hpl.out; omega)
      obtain ⟨k, rfl⟩ := Int.eq_ofNat_of_zero_le k0
      have hkL : k < 3 := by omega
      go_wp2_with fail
      refine (pick_r _ _ _ _ _ _ _ r9 (by omega) (by omega)).mono ?_
      rintro e w10 ⟨v, rfl, v0, v1, r10, g10⟩
      have ho10 := intsOwn_rd (intsOwn_rd ho8 g9 hgb) g10 hgb
      have HG10 := Lib.hid ((HG8.out.trans g9).trans g10)
      have hG1 : w5.heap.size ≤ w7.heap.size := by omega
      have hcl := (IntsAt.cellG (IntsOwn.at_ ho10) (k := k) (by first | exact hkL | simpa using hkL)).2
      rw [Nat.zero_add] at hcl
      have hfr := World.ownsRow.frozenAt ho10 k
      have hst := World.ownsRow.stored ho10 k (.int .i64 v)
      have hrow : IntsOwn (w10.setCell ⟨w7.heap.size, k, none⟩ (.int .i64 v)) w5.heap.size (some ⟨w7.heap.size, 0, none⟩) 3 (List.set [x, jj, y] k v) := by
        unfold IntsOwn; rw [List.length_set, List.map_set]; exact hst.1
      have HF := Lib.hid (And.intro (IntsOwn.at_ hrow) (gGx HG10.out hst.2 (fun q h => by injection h with h; omega)))
      clear hst hrow ho10 HG10 HG8 ho8 r8 r9 r10 g9 g10 k1 v1
      generalize gi [x, jj, y] k = old at *
      go_wp2_with fail
      exact bodyPost_ret (v := .tuple #[.slice A3 z.length c3, .int .i64 x, .int .i64 y, .slice (some ⟨w7.heap.size, 0, none⟩) 3 3]) (by simp [results, Try.results32, go_sem]) rfl (EdgP.mk (HEN.out _ HF.out.2) HF.out.1 (by simp) hcap (by have := hpm.out; omega))
    have e0b : (j == 0) = false := by simpa using e0
    by_cases e1 : j = 1
    · subst e1
      go_wp2_with fail
      refine (pick_r _ _ _ _ _ _ _ r8 (by omega) (by omega)).mono ?_
      rintro e w9 ⟨v, rfl, v0, v1, r9, g9⟩
      have ho9 := intsOwn_rd ho8 g9 hgb
      have HG9 := Lib.hid (HG8.out.trans g9)
      have HXR := Lib.hid ho9
      have hs9 := g9.size
      have hlm : 3 ≤ 402 := hpm.out
      clear ho8 ho9 r8 r9 g9 HG8 v1 e0
      go_wp2_with (at_builtin; refine wpList_append_src _ rfl _ _ 24 rfl w5.heap.size 3 i0 (.int .i64 0) 1 8 Try.underlying24 hi hz0 hz1 hz2 rfl (by decide) _ _ _ rfl (show World.ownsRow _ _ _ _ (.slice (some ⟨w7.heap.size, 0, none⟩) 3 3) 3 _ from IntsOwn.below HXR.out (bal (Below.refl _ _) _)) (some ⟨w9.heap.size, 0, none⟩) 1 1 [.int .i64 v] rfl rfl (fun h => by cases h) (intZ_src1 _) (intZ_one1 _) (by unfold maxLen; first | omega | (simp; try omega)) (by omega) (by simp; try omega) ?_)
      intro v' w6 hown' hgrow hloc
      obtain ⟨A4, c4, rfl⟩ := own_slice hown'
      have hrow : IntsOwn w6 w5.heap.size A4 c4 ([x, jj, y] ++ [v]) := by
        have : w6.ownsRow w5.heap.size 3 1 (.slice A4 ([x, jj, y] ++ [v]).length c4) ([x, jj, y] ++ [v]).length (([x, jj, y] ++ [v]).map (Value.int .i64)) := by simpa using hown'
        exact this
      have hcap4 : 3 + 1 ≤ c4 := by have := hrow.cap; rw [List.length_append] at this; exact this
      have HF := Lib.hid (And.intro (IntsOwn.at_ hrow) (gGx (gB HG9.out (bal (Below.refl _ _) _)) hgrow (fun q h => by have := (World.ownsRow.lt HXR.out q h).1; omega)))
      clear hrow hown' hgrow hloc HXR HG9
      go_wp2_with fail
      exact bodyPost_ret (v := .tuple #[.slice A3 z.length c3, .int .i64 x, .int .i64 y, .slice A4 (3 + 1) c4]) (by simp [results, Try.results32, go_sem]) rfl (EdgP.mk (HEN.out _ HF.out.2) HF.out.1 (by simp) hcap4 (by omega))
    have e1b : (j == 1) = false := by simpa using e1
    have HF := Lib.hid (And.intro (IntsOwn.at_ ho8) HG8.out)
    clear ho8 HG8 r8
    by_cases e2 : j = 2
    · subst e2
      clear e0 e1
      have HTK := Lib.hid (HF.out.1.takeN 2)
      have hl1 : (0 : Int) ≤ (3 : Int) - 1 := by have := hpl.out; omega
      have hl2 : (3 : Int) - 1 ≤ 3 := by omega
      have hl3 : ((3 : Int) - 1).toNat = 2 := by omega
      have hlm := hpm.out
      have hlp := hpl.out
      go_wp2_with fail
      exact bodyPost_ret (v := .tuple #[.slice A3 z.length c3, .int .i64 x, .int .i64 y, .slice (some ⟨w7.heap.size, 0, none⟩) 2 3]) (by simp [results, Try.results32, go_sem]) rfl (EdgP.mk (HEN.out _ HF.out.2) HTK.out (by simp; try omega) (by omega) (by omega))
    have e2b : (j == 2) = false := by simpa using e2
    have hlm := hpm.out
    clear e0 e1 e2
    go_wp2_with fail
    exact bodyPost_ret (v := .tuple #[.slice A3 z.length c3, .int .i64 x, .int .i64 y, .slice (some ⟨w7.heap.size, 0, none⟩) 3 3]) (by simp [results, Try.results32, go_sem]) rfl (EdgP.mk (HEN.out _ HF.out.2) HF.out.1 (by simp) hcap (by omega))
  · rw [hB] at hcp
    have hpl : Hid (0 < F.length) := HFP.out hB
    have hpm : Hid (F.length ≤ 402) := HFL.out
    clear hB HFP
    go_wp2_with fail
    refine hcp.mono ?_
    rintro e w6 ⟨A6, c6, rfl, ho7, b6⟩
    have rr := r5.below b6
    have HG7 := Lib.hid (gB HG5.out b6)
    have hs6 := b6.size
    clear hcp b6 r5
    have hgb : w.heap.size < w5.heap.size := by omega
    go_wp2_with fail
    refine (pick_r _ _ _ _ _ _ _ rr (by omega) (by omega)).mono ?_
    rintro e w8 ⟨j, rfl, j0, j1, r8, g8⟩
    have hj1 := j1 (by omega)
    have ho8 := intsOwn_rd ho7 g8 hgb
    have HG8 := Lib.hid (HG7.out.trans g8)
    have hs8 := g8.size
    have hs58 : w5.heap.size ≤ w8.heap.size := by first | omega | (simp at hs8; omega)
    have hcap : F.length ≤ c6 := by have := ho8.cap; first | exact this | simpa using this
    clear j1 rr g8 ho7 HG7
    by_cases e0 : j = 0
    · subst e0
      go_wp2_with fail
      refine (pick_r _ _ _ _ _ _ _ r8 (by omega) (by have := hpm.out; omega)).mono ?_
      rintro e w9 ⟨k, rfl, k0, k1, r9, g9⟩
      have hk1 := k1 (by have := hpl.out; omega)
      obtain ⟨k, rfl⟩ := Int.eq_ofNat_of_zero_le k0
      have hkL : k < F.length := by omega
      go_wp2_with fail
      refine (pick_r _ _ _ _ _ _ _ r9 (by omega) (by omega)).mono ?_
      rintro e w10 ⟨v, rfl, v0, v1, r10, g10⟩
      have ho10 := intsOwn_rd (intsOwn_rd ho8 g9 hgb) g10 hgb
      have HG10 := Lib.hid ((HG8.out.trans g9).trans g10)
      obtain ⟨G, hAe, hG1, hG2⟩ : ∃ G, A6 = some ⟨G, 0, none⟩ ∧ w5.heap.size ≤ G ∧ G < w10.heap.size := by
        rcases ho10.form with ⟨_, h⟩ | h
        · have := hpl.out; rw [h] at this; exact absurd this (by simp)
        · exact h
      subst hAe
      have hcl := (IntsAt.cellG (IntsOwn.at_ ho10) (k := k) (by first | exact hkL | simpa using hkL)).2
      rw [Nat.zero_add] at hcl
      have hfr := World.ownsRow.frozenAt ho10 k
      have hst := World.ownsRow.stored ho10 k (.int .i64 v)
      have hrow : IntsOwn (w10.setCell ⟨G, k, none⟩ (.int .i64 v)) w5.heap.size (some ⟨G, 0, none⟩) c6 (List.set F k v) := by
        unfold IntsOwn; rw [List.length_set, List.map_set]; exact hst.1
      have HF := Lib.hid (And.intro (IntsOwn.at_ hrow) (gGx HG10.out hst.2 (fun q h => by injection h with h; omega)))
      clear hst hrow ho10 HG10 HG8 ho8 r8 r9 r10 g9 g10 k1 v1
      generalize gi F k = old at *
      go_wp2_with fail
      exact bodyPost_ret (v := .tuple #[.slice A3 z.length c3, .int .i64 x, .int .i64 y, .slice (some ⟨G, 0, none⟩) F.length c6]) (by simp [results, Try.results32, go_sem]) rfl (EdgP.mk (HEN.out _ HF.out.2) HF.out.1 (by simp) hcap (by have := hpm.out; omega))
    have e0b : (j == 0) = false := by simpa using e0
    by_cases e1 : j = 1
    · subst e1
      go_wp2_with fail
      refine (pick_r _ _ _ _ _ _ _ r8 (by omega) (by omega)).mono ?_
      rintro e w9 ⟨v, rfl, v0, v1, r9, g9⟩
      have ho9 := intsOwn_rd ho8 g9 hgb
      have HG9 := Lib.hid (HG8.out.trans g9)
      have HXR := Lib.hid ho9
      have hs9 := g9.size
      have hlm : F.length ≤ 402 := hpm.out
      clear ho8 ho9 r8 r9 g9 HG8 v1 e0
      go_wp2_with (at_builtin; refine wpList_append_src _ rfl _ _ 24 rfl w5.heap.size 3 i0 (.int .i64 0) 1 8 Try.underlying24 hi hz0 hz1 hz2 rfl (by decide) _ _ _ rfl (show World.ownsRow _ _ _ _ (.slice A6 F.length c6) F.length _ from IntsOwn.below HXR.out (bal (Below.refl _ _) _)) (some ⟨w9.heap.size, 0, none⟩) 1 1 [.int .i64 v] rfl rfl (fun h => by cases h) (intZ_src1 _) (intZ_one1 _) (by unfold maxLen; first | omega | (simp; try omega)) (by omega) (by simp; try omega) ?_)
      intro v' w6 hown' hgrow hloc
      obtain ⟨A4, c4, rfl⟩ := own_slice hown'
      have hrow : IntsOwn w6 w5.heap.size A4 c4 (F ++ [v]) := by
        have : w6.ownsRow w5.heap.size 3 1 (.slice A4 (F ++ [v]).length c4) (F ++ [v]).length ((F ++ [v]).map (Value.int .i64)) := by simpa using hown'
        exact this
      have hcap4 : F.length + 1 ≤ c4 := by have := hrow.cap; rw [List.length_append] at this; exact this
      have HF := Lib.hid (And.intro (IntsOwn.at_ hrow) (gGx (gB HG9.out (bal (Below.refl _ _) _)) hgrow (fun q h => by have := (World.ownsRow.lt HXR.out q h).1; omega)))
      clear hrow hown' hgrow hloc HXR HG9
      go_wp2_with fail
      exact bodyPost_ret (v := .tuple #[.slice A3 z.length c3, .int .i64 x, .int .i64 y, .slice A4 (F.length + 1) c4]) (by simp [results, Try.results32, go_sem]) rfl (EdgP.mk (HEN.out _ HF.out.2) HF.out.1 (by simp) hcap4 (by omega))
    have e1b : (j == 1) = false := by simpa using e1
    have HF := Lib.hid (And.intro (IntsOwn.at_ ho8) HG8.out)
    clear ho8 HG8 r8
    by_cases e2 : j = 2
    · subst e2
      clear e0 e1
      obtain ⟨G, goff, hAe⟩ := HF.out.1.open2 hpl.out
      have HTK := Lib.hid (HF.out.1.takeN (F.length - 1))
      subst hAe
      have hl1 : (0 : Int) ≤ (F.length : Int) - 1 := by have := hpl.out; omega
      have hl2 : (F.length : Int) - 1 ≤ c6 := by omega
      have hl3 : ((F.length : Int) - 1).toNat = (F.length - 1) := by omega
      have hlm := hpm.out
      have hlp := hpl.out
      go_wp2_with fail
      exact bodyPost_ret (v := .tuple #[.slice A3 z.length c3, .int .i64 x, .int .i64 y, .slice (some ⟨G, goff, none⟩) (F.length - 1) c6]) (by simp [results, Try.results32, go_sem]) rfl (EdgP.mk (HEN.out _ HF.out.2) HTK.out (by simp; try omega) (by omega) (by omega))
    have e2b : (j == 2) = false := by simpa using e2
    have hlm := hpm.out
    clear e0 e1 e2
    go_wp2_with fail
    exact bodyPost_ret (v := .tuple #[.slice A3 z.length c3, .int .i64 x, .int .i64 y, .slice A6 F.length c6]) (by simp [results, Try.results32, go_sem]) rfl (EdgP.mk (HEN.out _ HF.out.2) HF.out.1 (by simp) hcap (by omega))
end Go.Proofs.Ytifjenleoagefaa
