/- HELPER, no statement of the seat: the model's rounds of a closure, and its closure. -/
import Derived.Test.YtifjenleoagefaaGreatRs
import Derived.Test.YtifjenleoagefaaGreatCga
import Derived.Test.YtifjenleoagefaaGreatAddZ
import Derived.Test.YtifjenleoagefaaGreatEdg
import Derived.Test.YtifjenleoagefaaGreatZss
namespace Go.Proofs.YtifjenleoagefaaGreat
open Go.RowKit Go.Sort
set_option linter.unusedSimpArgs false
set_option linter.unusedVariables false

theorem zl_srcsR {w : World} {A : Option Addr} {n c : Nat} {E : TypeId} : ∀ a, some (⟨w.heap.size, 0, none⟩ : Addr) = some a → ∀ j u, [Value.slice A n c][j]? = some u → (w.alloc (.cells #[.slice A n c] E)).cell? (a.add j) = some u := by
  intro a e j u hu
  injection e with e
  subst e
  match j, hu with
  | 0, hu => simp at hu; subst hu; simp [Addr.add]
theorem zl_onesR {A : Option Addr} {n c : Nat} : ∀ u ∈ [Value.slice A n c], u.oneCell' = true := by
  intro u hu
  simp at hu
  subst hu
  rfl
def lenV : Value → Nat
  | .slice _ n _ => n
  | _ => 0
theorem SlF.nextZ {n0 N : Nat} {wr w3 : World} {A Ad : Option Addr} {c cd : Nat} {zs : List Zs} {z : Zs} {css : List (List Value)} {F : Nat → Fp} {v' : Value}
    (h : SlF ZlO 1 23 wr (fun k => n0 ≤ k ∧ k < N) A c zs css F) (hn : n0 ≤ N) (hN : N ≤ wr.heap.size) (hz : EntsOw wr (fun k => N ≤ k ∧ k < wr.heap.size) Ad cd z)
    (hrow : w3.ownsRow 0 23 1 v' (zs.length + 1) (css.flatten ++ [.slice Ad z.length cd])) (hg : (wr.alloc (.cells #[.slice Ad z.length cd] 23)).grownBy w3 (blk A)) (hl : ∀ k, v'.ownBlock = some k → blk A = some k ∨ wr.heap.size + 1 ≤ k) :
    ∃ A' c', v' = .slice A' (zs.length + 1) c' ∧ SlOw ZlO 1 23 w3 (fun k => n0 ≤ k ∧ k < w3.heap.size) A' c' (zs ++ [z]) ∧ EntsAt w3 Ad z ∧ (∀ {S : Fp} {B : Option Addr} {d : Nat} {y : Zs}, (∀ k, S k → N ≤ k) → EntsOw wr S B d y → EntsAt w3 B y) ∧ wr.heap.size ≤ w3.heap.size ∧ (∀ k, k < n0 → w3.heap[k]? = wr.heap[k]?) := by
  obtain ⟨A', c', rfl⟩ := own_slice hrow
  rw [ownBlock_slice] at hl
  have hs3 := hg.size
  simp at hs3
  have hA0 : ∀ k, blk A = some k → n0 ≤ k ∧ k < N := fun k hk => h.top k hk
  have hb1 : ∀ k, k < wr.heap.size → blk A ≠ some k → w3.heap[k]? = wr.heap[k]? := fun k hk hn => (hg.block k (by simp; omega) (fun e => hn e.symm)).trans (Below.heap_alloc _ _ _ hk)
  have hfar : ∀ {S : Fp} {B : Option Addr} {d : Nat} {y : Zs}, (∀ k, S k → N ≤ k) → EntsOw wr S B d y → EntsAt w3 B y := fun {S B d y} hS ho =>
    SlOw.at_ entO (ho.loc entO (fun k hk => hb1 k (by obtain ⟨css, F, hf⟩ := ho; exact hf.lt k hk) (fun e => by have := (hA0 k e).2; have := hS k hk; omega)))
  have hzl : ZlO wr (fun k => N ≤ k ∧ k < wr.heap.size) [.slice Ad z.length cd] z := ⟨Ad, cd, rfl, hz⟩
  refine ⟨A', c', rfl, ⟨_, _, SlF.push zlO h hzl (U := fun k => n0 ≤ k ∧ k < w3.heap.size) (fun k h1 h2 => by have := h1.1; have := h2.2; omega) hrow hb1 (fun k hk => (hl k hk).imp id (fun e => by omega)) (fun k hk => ?_) (fun k hk => hk.2)⟩, hfar (fun k hk => hk.1) hz, hfar, by omega, fun k hk => hb1 k (by omega) (fun e => by have := (hA0 k e).1; omega)⟩
  rcases hk with hk | hk | hk
  · exact ⟨hk.1, by have := hk.2; omega⟩
  · exact ⟨by have := hk.1; omega, by have := hk.2; omega⟩
  · have h3 := (World.ownsRow.lt hrow k (by rw [ownBlock_slice]; exact hk)).2
    rcases hl k hk with e | e
    · exact ⟨(hA0 k e).1, h3⟩
    · exact ⟨by omega, h3⟩
theorem prs_addR {f q : List Nat} (hf : OkR f) (hq : OkR q) (hd : DisjR f q) : chkF (nz (AddL (prs f) (prs q))) = prs (orR f q) := by
  have h := add_prs hf hq hd
  rw [AddF, prs_zs, prs_zs] at h
  simpa using h
theorem prs_smallR (q : List Nat) : rowsIn (prs q) 4194304 := fun e he => by have := (prs_row q e he).2; omega
set_option maxRecDepth 100000 in
set_option maxHeartbeats 3200000 in
theorem closureRounds_r (A : Option Addr) (c : Nat) (r : List Nat) (w : World) (hx : EntsAt w A (prs r)) (hr : OkR r) :
    Calls Tryz.prog 30 #[.slice A (prs r).length c] w fun e w' => ∃ A' c', e = .returned (.slice A' (rds r).length c') ∧ SlOw ZlO 1 23 w' (news w w') A' c' ((rds r).map prs) ∧ Below w.heap.size w w' := by
  obtain ⟨i0, hi, hz0, hz1, hz2⟩ := info_parts Tryz.infoZl
  have hl4 := prs_len r
  have hbZ : Below w.heap.size w ((w.alloc (.cells #[] 23)).alloc (.cells #[] 33)) := bal (bal (Below.refl _ _) _) _
  have hcp := copyZSet_s A c (prs r) ((w.alloc (.cells #[] 23)).alloc (.cells #[] 33)) (hx.below entR hbZ) (by omega) (prs_smallR r)
  have hO0 := SlF.made ZlO 1 23 w #[] 0 (by simp [maxLen]) (by simp) (S := fun k => w.heap.size ≤ k ∧ k < w.heap.size + 1) ⟨Nat.le_refl _, by simp⟩ (fun k hk => by have := hk.2; simpa using this)
  have HX := Lib.hid hx
  have HO0 := Lib.hid hO0
  have HL := Lib.hid (restR_len hr)
  go_enter Tryz.func30, Tryz.ntmps30
  go_wp2_with fail
  refine hcp.mono ?_
  clear hcp
  rintro e w1 ⟨Ad0, cd0, rfl, ho1, b1⟩
  have hsz1 := b1.size
  simp at hsz1
  have ho1' : EntsOw w1 (fun k => w.heap.size + 1 ≤ k ∧ k < w1.heap.size) Ad0 cd0 (prs r) := SlOw.mono ho1 (fun k hk => ⟨by have := hk.1; simp at this; omega, hk.2⟩) (fun k hk => hk.2)
  have hA0 := SlF.made EntO 2 33 (w.alloc (.cells #[] 23)) #[] 0 (by simp [maxLen]) (by simp) (S := fun k => w.heap.size + 1 ≤ k ∧ k < w.heap.size + 2) ⟨by simp, by simp⟩ (fun k hk => by have := hk.2; simp; omega)
  have hA1 : EntsOw w1 (fun k => w.heap.size + 1 ≤ k ∧ k < w1.heap.size) (some ⟨w.heap.size + 1, 0, none⟩) 0 [] := by
    have h2 := (hA0.loc entO (w' := w1) (fun k hk => b1.block k (by simp; omega))).mono (S' := fun k => w.heap.size + 1 ≤ k ∧ k < w1.heap.size) (fun k hk => ⟨hk.1, by have := hk.2; omega⟩) (fun k hk => hk.2)
    simp at h2
    exact ⟨_, _, h2⟩
  have HD0 := Lib.hid (And.intro ho1' (And.intro (btr hbZ b1) hA1))
  have hbb : Below (w.alloc (.cells #[] 23)).heap.size (w.alloc (.cells #[] 23)) w1 := btr (bal (Below.refl _ _) _) b1
  have HO1 : Hid (SlOw ZlO 1 23 w1 (fun k => w.heap.size ≤ k ∧ k < w.heap.size + 1) (some ⟨w.heap.size, 0, none⟩) 0 []) := ⟨_, _, HO0.out.loc zlO (fun k hk => hbb.block k (by have := hk.2; simp; omega))⟩
  clear ho1 ho1' hA0 hA1 hbb b1 hbZ hO0 HO0 hx
  go_wp2
  go_loopw [3, 4, 5] (fun ov av dv wr => ∃ (f q : List Nat) (pre : List Zs) (Ao Aa Ad : Option Addr) (co ca cd N : Nat), ov = .slice Ao pre.length co ∧ av = .slice Aa (prs f).length ca ∧ dv = .slice Ad (prs q).length cd ∧ RdInv f q ∧ Hid (pre ++ (restR r f q).map prs = (rds r).map prs) ∧ SlOw ZlO 1 23 wr (fun k => w.heap.size ≤ k ∧ k < N) Ao co pre ∧ EntsOw wr (fun k => N ≤ k ∧ k < wr.heap.size) Aa ca (prs f) ∧ EntsOw wr (fun k => N ≤ k ∧ k < wr.heap.size) Ad cd (prs q) ∧ w.heap.size ≤ N ∧ N ≤ wr.heap.size ∧ Below w.heap.size w wr) (fun _ av _ _ => 400 - lenV av)
  case atStart =>
    refine ⟨zeroR, r, [], _, some ⟨w.heap.size + 1, 0, none⟩, _, 0, 0, _, w.heap.size + 1, rfl, by rw [prs_zero]; rfl, rfl, RdInv.start hr, rfl, HO1.out, by rw [prs_zero]; exact HD0.out.2.2, HD0.out.1, by omega, by omega, HD0.out.2.1⟩
  case round =>
    obtain ⟨f, q, pre, Ao, Aa, Ad, co, ca, cd, N, rfl, rfl, rfl, hI, hpre, ⟨css, F, hO⟩, hA, hD, hN, hN2, hbel⟩ := hrel
    have HN2 := Lib.hid hN2
    have HN := Lib.hid hN
    have hqo : OkR q := hI.okl
    have hfo : OkR f := hI.okf
    have hlq := prs_len q
    have hlf := prs_len f
    by_cases hz : q = zeroR
    · have hzl : (prs q).length = 0 := by rw [hz, prs_zero]; rfl
      have hp0 : pre = (rds r).map prs := by
        have := hpre.out
        rw [hz, restR_end] at this
        simpa using this
      have HP := Lib.hid hp0
      clear hp0
      have HO := Lib.hid (hO.mono (S' := news w wr) (fun k hk => ⟨hk.1, by have := hk.2; omega⟩) (fun k hk => hk.2))
      have HB := Lib.hid hbel
      clear hO hA hD hbel hz hI hpre
      go_wp2
      go_ret
      have hp := HP.out
      subst hp
      rw [List.length_map]
      exact ⟨Ao, co, rfl, ⟨_, _, HO.out⟩, HB.out⟩
    · have hlp : 0 < (prs q).length := by
        rcases Nat.eq_zero_or_pos (prs q).length with h | h
        · exact absurd ((rel_zero hqo).2 (List.length_eq_zero_iff.1 h)) hz
        · exact h
      have hlpI : (0 : Int) < (prs q).length := by omega
      have hpl : pre.length ≤ 400 := by
        have h1 := congrArg List.length hpre.out
        have h2 := rds_len hr
        simp at h1
        omega
      have hto : OkR (thenR q r) := thenR_ok hqo hr
      have hgo : OkR (orR f q) := orR_ok hfo hqo
      have hno : OkR (nandR (thenR q r) (orR f q)) := nandR_ok hto hgo
      have HI := Lib.hid hI
      have HZ := Lib.hid hz
      have HP := Lib.hid hpre.out
      have HADD := Lib.hid (prs_addR hfo hqo hI.dj)
      have HCMP := Lib.hid (compE_prs hqo hr)
      have HMIN := Lib.hid (minE_prs hto hgo)
      have hbase : ∀ k, blk Ao = some k → 0 ≤ k := fun k _ => Nat.zero_le _
      have hrow2 := ownsRow_base hO.row hbase
      have HO := Lib.hid hO
      have HA := Lib.hid hA
      have HDD := Lib.hid hD
      have HB := Lib.hid hbel
      clear hO hA hD hbel hI hz hpre
      go_wp2_with (at_builtin; refine wpList_append_src _ rfl _ _ 29 rfl 0 23 i0 (.slice none 0 0) 1 24 Tryz.underlying29 hi hz0 hz1 hz2 rfl (by decide) _ _ _ rfl (hrow2.alloc _) (some ⟨wr.heap.size, 0, none⟩) 1 1 [.slice Ad (prs q).length cd] rfl rfl (fun h => by cases h) zl_srcsR zl_onesR (by unfold maxLen; omega) (by omega) (by simp) ?_)
      intro v' w3 hown' hgrow hloc
      rw [ownBlock_slice] at hgrow hloc
      obtain ⟨A', c', rfl, hO3, hD3, hfar, hs3, hlow⟩ := HO.out.nextZ HN.out HN2.out HDD.out hown' hgrow (by simpa using hloc)
      have hB3 : Below w.heap.size w w3 := (bal HB.out (.cells #[.slice Ad (prs q).length cd] 23)).grown hgrow (bal HB.out (.cells #[.slice Ad (prs q).length cd] 23)).size (fun k hk => (HO.out.top k hk).1)
      have hA3 := hfar (fun k hk => hk.1) HA.out
      have HS3 := Lib.hid hB3
      have HO3 := Lib.hid hO3
      have hcon := add_s Aa ca (prs f) Ad cd (prs q) w3 hA3 hD3 (prs_zs f) (prs_zs q)
      rw [HADD.out] at hcon
      have HD3 := Lib.hid hD3
      clear hA3 hD3 hO3 hB3 hown' hgrow hloc hlow hs3 hfar hrow2 hbase HA HDD HO HB HADD
      go_wp2_with fail
      refine hcon.mono ?_
      clear hcon
      rintro e w4 ⟨Aa', ca', rfl, ho4, b4⟩
      have hcon := compose_s Ad cd (prs q) A c (prs r) w4 (HD3.out.below entR b4) (HX.out.below entR (btr HS3.out b4)) hlq hl4 (fun e he => (prs_row q e he).2) (fun e he => (prs_row r e he).2)
      rw [HCMP.out] at hcon
      have HO4 := Lib.hid ho4
      have HB4 := Lib.hid b4
      clear ho4 b4 HD3 HCMP
      go_wp2_with fail
      refine hcon.mono ?_
      clear hcon
      rintro e w5 ⟨Ac, cc, rfl, ho5, b5⟩
      have hcon := minus_s Ac cc (prs (thenR q r)) Aa' ca' (prs (orR f q)) w5 (SlOw.at_ entO ho5) (SlOw.at_ entO (HO4.out.below entO b5)) (by have := prs_len (thenR q r); omega) (prs_smallR _) (by have := prs_len (orR f q); omega) (prs_smallR _)
      rw [HMIN.out] at hcon
      have HB5 := Lib.hid b5
      clear ho5 b5 HMIN
      go_wp2_with fail
      refine hcon.mono ?_
      clear hcon
      rintro e w6 ⟨Ad', cd', rfl, -, ho6, b6⟩
      have hs4 := HB4.out.size
      have hs5 := HB5.out.size
      have hs6 := b6.size
      have HR1 := Lib.hid (((HO3.out.below zlO HB4.out).below zlO HB5.out).below zlO b6)
      have HR2 := Lib.hid (SlOw.mono (S' := fun k => w3.heap.size ≤ k ∧ k < w6.heap.size) ((HO4.out.below entO HB5.out).below entO b6) (fun k hk => ⟨hk.1, by have := hk.2; omega⟩) (fun k hk => hk.2))
      have HR3 := Lib.hid (SlOw.mono (S' := fun k => w3.heap.size ≤ k ∧ k < w6.heap.size) ho6 (fun k hk => ⟨by have := hk.1; omega, hk.2⟩) (fun k hk => hk.2))
      have HR4 := Lib.hid (btr (btr (btr HS3.out HB4.out) HB5.out) b6)
      have HP2 : (pre ++ [prs q]) ++ (restR r (orR f q) (nandR (thenR q r) (orR f q))).map prs = (rds r).map prs := by
        have := HP.out
        rw [restR_step hr HI.out HZ.out] at this
        simpa using this
      have HP3 := Lib.hid HP2
      have hsz3 := HS3.out.size
      clear ho6 b6 HO3 HO4 HB4 HB5 HP2 HP
      go_wp2
      go_roundw
      case rel => exact ⟨orR f q, nandR (thenR q r) (orR f q), pre ++ [prs q], A', Aa', Ad', c', ca', cd', w3.heap.size, by simp, rfl, rfl, HI.out.next hr, HP3, HR1.out, HR2.out, HR3.out, hsz3, by omega, HR4.out⟩
      case measure =>
        have h1 := HI.out.sz HZ.out
        unfold szR at h1
        simp [lenV]; omega
theorem djs_at : ∀ {L : List (List Nat)} {f : List Nat}, OkR f → Djs f L → ∀ k (hk : k < L.length), OkR ((L.take k).foldl orR f) ∧ OkR L[k] ∧ DisjR ((L.take k).foldl orR f) L[k]
  | [], _, _, _, k, hk => absurd hk (by simp)
  | l :: L, f, hf, hd, 0, _ => ⟨hf, hd.1, hd.2.2.1⟩
  | l :: L, f, hf, hd, k + 1, hk => by simpa using djs_at (L := L) (orR_ok hf hd.1) hd.2.2.2 k (by simpa using hk)
def cloTo (r : List Nat) (k : Nat) : List Nat := ((rds r).take k).foldl orR zeroR
theorem cloTo_step {r : List Nat} {k : Nat} (hk : k < (rds r).length) : cloTo r (k + 1) = orR (cloTo r k) (rds r)[k] := by
  rw [cloTo, List.take_succ_eq_append_getElem hk, List.foldl_append]; rfl
theorem cloTo_end (r : List Nat) : cloTo r (rds r).length = closR r := by rw [cloTo, List.take_length]; rfl
theorem ClosF_len (es : List Ent) : (ClosF es).length ≤ 4194304 := by
  unfold ClosF; split
  · have := prs_len (closR (relOf es)); omega
  · simp
theorem ClosF_row (es : List Ent) : rowsIn (ClosF es) 4194304 := by
  unfold ClosF; split
  · exact prs_smallR _
  · exact fun e he => by cases he
end Go.Proofs.YtifjenleoagefaaGreat
