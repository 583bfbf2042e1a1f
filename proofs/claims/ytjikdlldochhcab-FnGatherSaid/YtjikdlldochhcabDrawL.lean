/- HELPER, no statement of the seat: the generators of lists of Z-sets. -/
import Derived.Test.YtjikdlldochhcabDrh
import Derived.Test.YtjikdlldochhcabZsp
namespace Go.Proofs.Ytjikdlldochhcab
open Go.RowKit Go.Sort
set_option linter.unusedSimpArgs false
set_option linter.unusedVariables false

/-- One more Z-set, in a row that holds the ones before it. -/
theorem SlF.next {w0 wr w2 w2' w3 : World} {A : Option Addr} {c : Nat} {zs : List Zs} {css : List (List Value)} {F : Nat → Fp} {g : Nat} {ZA : Option Addr} {zc : Nat} {z : Zs} {v' : Value}
    (h : SlF ZlO 1 31 wr (news w0 wr) A c zs css F) (hw : w0.heap.size ≤ wr.heap.size) (hg : wr.grownBy w2 (some g)) (hg0 : g < w0.heap.size) (hz : EntsOw w2 (news wr w2) ZA zc z) (hb : Below w2.heap.size w2 w2')
    (hrow : w3.ownsRow w0.heap.size 31 1 v' (zs.length + 1) (css.flatten ++ [.slice ZA z.length zc])) (hgrow : w2'.grownBy w3 (blk A)) (hl : ∀ k, v'.ownBlock = some k → blk A = some k ∨ w2'.heap.size ≤ k) :
    ∃ A' c', v' = .slice A' (zs.length + 1) c' ∧ A' ≠ none ∧ ZssOw w3 (news w0 w3) A' c' (zs ++ [z]) := by
  obtain ⟨A', c', rfl⟩ := own_slice hrow
  rw [ownBlock_slice] at hl
  have hs1 := hg.size
  have hs2 := hb.size
  have hs3 := hgrow.size
  have h2 := h.loc zlO (w' := w2') (fun k hk => (hb.block k (Nat.lt_of_lt_of_le hk.2 hs1)).trans (hg.block k hk.2 (fun e => by injection e with e; have := hk.1; omega)))
  have hz2 : ZlO w2' (news wr w2) [.slice ZA z.length zc] z := ⟨ZA, zc, rfl, hz.below entO hb⟩
  refine ⟨A', c', rfl, fun e => ?_, _, _, SlF.push zlO h2 hz2 (U := news w0 w3) (fun k h1 h2 => by have := h1.1; have := h2.2; omega) (ownsRow_base0 hrow) (fun k hk hn => hgrow.block k hk (fun e => hn e.symm)) hl (fun k hk => ?_) (fun k hk => hk.2)⟩
  · rcases ownsRow_form hrow with ⟨_, _, h0⟩ | ⟨g', e', _⟩
    · omega
    · rw [e] at e'; cases e'
  have hlt := World.ownsRow.lt hrow
  rcases hk with hk | hk | hk
  · exact ⟨hk.1, by have := hk.2; omega⟩
  · exact ⟨by have := hk.1; omega, by have := hk.2; omega⟩
  · have := hlt k (by rw [ownBlock_slice]; exact hk)
    exact ⟨this.1, this.2⟩
def zlB (zs : List Zs) : Prop := ∀ z ∈ zs, z.length ≤ 40 ∧ rowsIn z 10 ∧ wts z 4000000
theorem zlB_nil : zlB [] := fun z h => by cases h
theorem zlB.snoc {zs : List Zs} {z : Zs} (h : zlB zs) (k : z.length ≤ 40 ∧ rowsIn z 10 ∧ wts z 4000000) : zlB (zs ++ [z]) := fun y hy => by
  rcases List.mem_append.1 hy with hy | hy
  · exact h y hy
  · simp at hy; subst hy; exact k
theorem zlB.in_ {zs : List Zs} (h : zlB zs) : zsIn zs 4194304 := fun z hz => ⟨by have := (h z hz).1; omega, fun e he => by have := (h z hz).2.1 e he; omega⟩
def ZLs (w : World) (e : Ending) (w' : World) : Prop := ∃ (zs : List Zs) (A' : Option Addr) (c' : Nat), e = .returned (.slice A' zs.length c') ∧ ZssOw w' (news w w') A' c' zs ∧ zs.length ≤ 9 ∧ zlB zs ∧ A' ≠ none ∧ Below w.heap.size w w'
theorem madeL (W : World) : SlF ZlO 1 31 (W.alloc (.cells #[] 31)) (news W (W.alloc (.cells #[] 31))) (some ⟨W.heap.size, 0, none⟩) 0 [] [] (fun _ _ => False) :=
  SlF.made ZlO 1 31 W #[] 0 (by simp [maxLen]) (by simp) ⟨Nat.le_refl _, by simp⟩ (fun q hq => by have := hq.2; simpa using this)
set_option maxRecDepth 100000 in
set_option maxHeartbeats 3200000 in
theorem DrawGather_r (A : Option Addr) (n c : Nat) (w : World) (hb : BytesAt w w.heap.size A n) (hc : n ≤ c) (hn : n ≤ 1048576) :
    Calls Try.prog 31 #[.slice A n c] w (ZLs w) := by
  obtain ⟨i0, hi, hz0, hz1, hz2⟩ := info_parts Try.infoZl
  go_enter Try.func31, Try.ntmps31
  go_wp2_with fail
  refine (newReader_r _ _ _ _ hb hc hn).mono ?_
  rintro e w1 ⟨A1, m1, c1, rfl, r1, b1⟩
  clear hb
  go_wp2_with fail
  refine (pick_r _ _ _ _ _ _ _ r1 (by omega) (by omega)).mono ?_
  rintro e w2 ⟨j, rfl, j0, j1, r2, g2⟩
  have hj1 := j1 (by omega)
  obtain ⟨wd, rfl⟩ := Int.eq_ofNat_of_zero_le j0
  have hB2 := gbelow b1 g2 (Nat.le_refl _)
  have hlt2 := r2.1.lt
  clear j1 r1 b1 g2
  have HM := Lib.hid (madeL w2)
  have hBL : Blk ((w2.alloc (.cells #[] 31)).alloc (.cells #[.int .i64 0, .int .i64 1, .int .i64 2, .int .i64 3, .int .i64 4, .int .i64 9] 3)) (w2.heap.size + 1) 3 (ints [0, 1, 2, 3, 4, 9]) := Blk.newAt (by simp)
  have HR2 := Lib.hid ((r2.alloc (.cells #[] 31)).alloc (.cells #[.int .i64 0, .int .i64 1, .int .i64 2, .int .i64 3, .int .i64 4, .int .i64 9] 3))
  clear r2
  go_wp2_with fail
  refine (oneL_r w.heap.size (w2.heap.size + 1) A1 m1 c1 _ [0, 1, 2, 3, 4, 9] _ HR2.out (by omega) hBL (by omega) (by simp) (by simp)).mono ?_
  rintro e w3 ⟨x, rfl, hx, r3, g3⟩
  have hx9 : 0 ≤ x ∧ x ≤ 9 := by simp at hx; omega
  obtain ⟨hx0, hx1⟩ := hx9
  obtain ⟨t, rfl⟩ := Int.eq_ofNat_of_zero_le hx0
  have hb23 : Below w2.heap.size w2 ((w2.alloc (.cells #[] 31)).alloc (.cells #[.int .i64 0, .int .i64 1, .int .i64 2, .int .i64 3, .int .i64 4, .int .i64 9] 3)) := bal (bal (Below.refl _ _) _) _
  have hM3 : SlF ZlO 1 31 w3 (news w2 w3) (some ⟨w2.heap.size, 0, none⟩) 0 [] [] (fun _ _ => False) :=
    (HM.out.loc zlO (fun k hk => (g3.block k (by have := hk.2; simp at this ⊢; omega) (fun e => by injection e with e; have := hk.1; omega)).trans (Below.heap_alloc _ _ k (by have := hk.2; simpa using this)))).mono (fun k hk => ⟨hk.1, by have := hk.2; have := g3.size; simp at *; omega⟩) (fun k hk => hk.2)
  have hg23 : w2.grownBy w3 (some w.heap.size) := (gbel hb23).trans g3
  have H3 := Lib.hid (And.intro hM3 (And.intro r3 hg23))
  clear hx hM3 r3 hg23 g3 hb23 HR2 HM hBL hx0
  go_wp2
  go_loopw [5, 6] (fun v i wr => ∃ (r : Nat) (zs : List Zs) (A' : Option Addr) (c' : Nat) (q : Int), zs.length + r ≤ 9 ∧ i = .int .i64 (r : Nat) ∧ v = .slice A' zs.length c' ∧ A' ≠ none ∧ ZssOw wr (news w2 wr) A' c' zs ∧ zlB zs ∧ Rdr wr w.heap.size A1 m1 c1 q ∧ q + 300 * (r : Int) ≤ 10000 ∧ w2.grownBy wr (some w.heap.size)) (fun _ i _ => (intOf i).toNat)
  case atStart => exact ⟨t, [], _, 0, _, by simp; omega, rfl, rfl, by simp, ⟨_, _, H3.out.1⟩, zlB_nil, H3.out.2.1, by omega, H3.out.2.2⟩
  case round =>
    obtain ⟨r, zs, A', c', q, hzr, rfl, rfl, hAn, ⟨css, F, hown⟩, hzb, hrd, hq, hgr⟩ := hrel
    clear H3
    rcases Nat.eq_zero_or_pos r with h0 | hpos
    · have hr0 : ¬ (0 : Int) < (r : Int) := by omega
      have HB : Hid (Below w.heap.size w wr) := gbelow hB2 hgr (Nat.le_refl _)
      have HO : Hid (ZssOw wr (news w wr) A' c' zs) := (show ZssOw wr (news w2 wr) A' c' zs from ⟨_, _, hown⟩).mono (fun k hk => ⟨Nat.le_trans hB2.size hk.1, hk.2⟩) (fun k hk => hk.2)
      have HZ := Lib.hid hzb
      clear hown hzb hrd hgr hB2
      go_wp2
      go_ret
      exact ⟨zs, A', c', rfl, HO.out, by omega, HZ.out, hAn, HB.out⟩
    · have hr1 : (0 : Int) < r := by omega
      have hcon := anyZSet_r w.heap.size A1 m1 c1 q (1 + wd) wr hrd (by omega) (by omega)
      rw [show ((1 + wd : Nat) : Int) = 1 + (wd : Int) by omega] at hcon
      have HO := Lib.hid hown
      have HG := Lib.hid hgr
      have HZ := Lib.hid hzb
      have hsg := hgr.size
      clear hrd hown hgr hzb
      go_wp2_with fail
      refine hcon.mono ?_
      rintro e w4 ⟨z, ZA2, zc, q4, rfl, hz, hq1, hq2, r4, g4⟩
      have hs4 := g4.size
      have hrow4 : w4.ownsRow w2.heap.size 31 1 (.slice A' zs.length c') zs.length css.flatten := ownsRow_base (ownsRow_loc HO.out.row (fun k hk => g4.block k (HO.out.top k hk).2 (fun e => by injection e with e; have := (HO.out.top k hk).1; omega))) (fun k hk => (HO.out.top k hk).1)
      clear hcon
      go_wp2_with (at_builtin; refine wpList_append_src _ rfl _ _ 29 rfl w2.heap.size 31 i0 (.slice none 0 0) 1 24 Try.underlying29 hi hz0 hz1 hz2 rfl (by decide) _ _ _ rfl (hrow4.alloc _) (some ⟨w4.heap.size, 0, none⟩) 1 1 [.slice ZA2 z.length zc] rfl rfl (fun h => by cases h) zl_srcs zl_ones (by unfold maxLen; omega) (by omega) (by simp; omega) ?_)
      intro v' w5 hown' hgrow hloc
      simp only [ownBlock_slice] at hgrow hloc
      have hnx := HO.out.next hsg g4 hlt2 hz.1 (bal (Below.refl _ _) _) hown' hgrow (fun k hk => by have := hloc k hk; simpa using this)
      obtain ⟨A5, c5, rfl, hA5, ho5⟩ := hnx
      have hr5 := (r4.alloc (.cells #[.slice ZA2 z.length zc] 31)).keptG hgrow (fun k hk => by have := (HO.out.top k hk).1; omega)
      have hg5 := gG (gal (HG.out.trans g4) (.cells #[.slice ZA2 z.length zc] 31)) hgrow (fun k hk => (HO.out.top k hk).1)
      have H5 : Hid (ZssOw w5 (news w2 w5) A5 c5 (zs ++ [z]) ∧ zlB (zs ++ [z]) ∧ Rdr w5 w.heap.size A1 m1 c1 q4 ∧ w2.grownBy w5 (some w.heap.size)) := ⟨ho5, HZ.out.snoc hz.2, hr5, hg5⟩
      clear hown' hgrow hloc ho5 hr5 hg5 r4 g4 hz hrow4 HO HG HZ
      go_wp2
      go_roundw
      case rel => exact ⟨r - 1, zs ++ [z], A5, c5, q4, by simp; omega, by go_num, by simp, hA5, H5.out.1, H5.out.2.1, H5.out.2.2.1, by omega, H5.out.2.2.2⟩
      case measure => simp [intOf]; omega
end Go.Proofs.Ytjikdlldochhcab
