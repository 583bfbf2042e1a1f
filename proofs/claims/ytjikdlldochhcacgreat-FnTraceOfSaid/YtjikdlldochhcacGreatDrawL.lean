/- HELPER, no statement of the seat: the generators of lists of Z-sets. -/
import Derived.Test.YtjikdlldochhcacGreatDrh
import Derived.Test.YtjikdlldochhcacGreatZsp
namespace Go.Proofs.YtjikdlldochhcacGreat
open Go.RowKit Go.Sort
set_option linter.unusedSimpArgs false
set_option linter.unusedVariables false

/-- One more Z-set, in a row that holds the ones before it. -/
theorem SlF.next {w0 wr w2 w2' w3 : World} {A : Option Addr} {c : Nat} {zs : List Zs} {css : List (List Value)} {F : Nat → Fp} {g : Nat} {ZA : Option Addr} {zc : Nat} {z : Zs} {v' : Value}
    (h : SlF ZlO 1 37 wr (news w0 wr) A c zs css F) (hw : w0.heap.size ≤ wr.heap.size) (hg : wr.grownBy w2 (some g)) (hg0 : g < w0.heap.size) (hz : EntsOw w2 (news wr w2) ZA zc z) (hb : Below w2.heap.size w2 w2')
    (hrow : w3.ownsRow w0.heap.size 37 1 v' (zs.length + 1) (css.flatten ++ [.slice ZA z.length zc])) (hgrow : w2'.grownBy w3 (blk A)) (hl : ∀ k, v'.ownBlock = some k → blk A = some k ∨ w2'.heap.size ≤ k) :
    ∃ A' c', v' = .slice A' (zs.length + 1) c' ∧ ZssOw w3 (news w0 w3) A' c' (zs ++ [z]) := by
  obtain ⟨A', c', rfl⟩ := own_slice hrow
  rw [ownBlock_slice] at hl
  have hs1 := hg.size
  have hs2 := hb.size
  have hs3 := hgrow.size
  have h2 := h.loc zlO (w' := w2') (fun k hk => (hb.block k (Nat.lt_of_lt_of_le hk.2 hs1)).trans (hg.block k hk.2 (fun e => by injection e with e; have := hk.1; omega)))
  have hz2 : ZlO w2' (news wr w2) [.slice ZA z.length zc] z := ⟨ZA, zc, rfl, hz.below entO hb⟩
  refine ⟨A', c', rfl, _, _, SlF.push zlO h2 hz2 (U := news w0 w3) (fun k h1 h2 => by have := h1.1; have := h2.2; omega) (ownsRow_base0 hrow) (fun k hk hn => hgrow.block k hk (fun e => hn e.symm)) hl (fun k hk => ?_) (fun k hk => hk.2)⟩
  have hlt := World.ownsRow.lt hrow
  rcases hk with hk | hk | hk
  · exact ⟨hk.1, by have := hk.2; omega⟩
  · exact ⟨by have := hk.1; omega, by have := hk.2; omega⟩
  · have := hlt k (by rw [ownBlock_slice]; exact hk)
    exact ⟨this.1, this.2⟩
def zlB (zs : List Zs) : Prop := ∀ z ∈ zs, z.length ≤ 40 ∧ rowsIn z 10 ∧ wts z 4000000
theorem zlB_nil : zlB [] := fun z h => by cases h
theorem zlB.snoc {zs : List Zs} {z : Zs} (h : zlB zs) (k : z.length ≤ 40 ∧ rowsIn z 10 ∧ wts z 4000000) : zlB (zs ++ [z]) := fun y hy => by
  rcases List.mem_append.1 hy with hy | hy
  · exact h y hy
  · simp at hy; subst hy; exact k
theorem zlB.in_ {zs : List Zs} (h : zlB zs) : zsIn zs 4194304 := fun z hz => ⟨by have := (h z hz).1; omega, fun e he => by have := (h z hz).2.1 e he; omega⟩
def ZLs (w : World) (e : Ending) (w' : World) : Prop := ∃ (zs : List Zs) (A' : Option Addr) (c' : Nat), e = .returned (.slice A' zs.length c') ∧ ZssOw w' (news w w') A' c' zs ∧ zs.length ≤ 9 ∧ zlB zs ∧ Below w.heap.size w w'
theorem madeL (W : World) : SlF ZlO 1 37 (W.alloc (.cells #[] 37)) (news W (W.alloc (.cells #[] 37))) (some ⟨W.heap.size, 0, none⟩) 0 [] [] (fun _ _ => False) :=
  SlF.made ZlO 1 37 W #[] 0 (by simp [maxLen]) (by simp) ⟨Nat.le_refl _, by simp⟩ (fun q hq => by have := hq.2; simpa using this)
set_option maxRecDepth 100000 in
set_option maxHeartbeats 6400000 in
theorem DrawTraceOf_r (A : Option Addr) (n c : Nat) (w : World) (hb : BytesAt w w.heap.size A n) (hc : n ≤ c) (hn : n ≤ 1048576) :
    Calls Tryz.prog 14 #[.slice A n c] w (ZLs w) := by
  obtain ⟨i0, hi, hz0, hz1, hz2⟩ := info_parts Tryz.infoZl
  go_enter Tryz.func14, Tryz.ntmps14
  go_wp2_with fail
  refine (newReader_r _ _ _ _ hb hc hn).mono ?_
  rintro e w1 ⟨A1, m1, c1, rfl, r1, b1⟩
  clear hb
  go_wp2_with fail
  refine (pick_r _ _ _ _ _ _ _ r1 (by omega) (by omega)).mono ?_
  rintro e w2 ⟨j, rfl, j0, j1, r2, g2⟩
  have hj1 := j1 (by omega)
  obtain ⟨wd, rfl⟩ := Int.eq_ofNat_of_zero_le j0
  have hB2 := gbelow b1 g2 (Nat.le_refl _)
  have hlt2 := r2.1.lt
  clear j1 r1 b1 g2
  have HM := Lib.hid (madeL w2)
  have HR2 := Lib.hid (r2.alloc (.cells #[] 37))
  clear r2
  go_wp2_with fail
  refine (pick_r _ _ _ _ _ _ _ HR2.out (by omega) (by omega)).mono ?_
  rintro e w3 ⟨x, rfl, hx0, x1, r3, g3⟩
  have hx1 := x1 (by omega)
  obtain ⟨t, rfl⟩ := Int.eq_ofNat_of_zero_le hx0
  have hb23 : Below w2.heap.size w2 (w2.alloc (.cells #[] 37)) := bal (Below.refl _ _) _
  have hM3 : SlF ZlO 1 37 w3 (news w2 w3) (some ⟨w2.heap.size, 0, none⟩) 0 [] [] (fun _ _ => False) :=
    (HM.out.loc zlO (fun k hk => g3.block k hk.2 (fun e => by injection e with e; have := hk.1; omega))).mono (fun k hk => ⟨hk.1, Nat.lt_of_lt_of_le hk.2 g3.size⟩) (fun k hk => hk.2)
  have hg23 : w2.grownBy w3 (some w.heap.size) := (gbel hb23).trans g3
  have H3 := Lib.hid (And.intro hM3 (And.intro r3 hg23))
  clear x1 hM3 r3 hg23 g3 hb23 HR2 HM hx0
  go_wp2
  go_loopw [5, 6] (fun v i wr => ∃ (r : Nat) (zs : List Zs) (A' : Option Addr) (c' : Nat) (q : Int), zs.length + r ≤ 9 ∧ i = .int .i64 (r : Nat) ∧ v = .slice A' zs.length c' ∧ ZssOw wr (news w2 wr) A' c' zs ∧ (zlB zs ∧ ∀ z ∈ zs, z.length ≤ 20 ∧ rowsIn z 8 ∧ wts z 2000000) ∧ Rdr wr w.heap.size A1 m1 c1 q ∧ q + 300 * (r : Int) ≤ 10000 ∧ w2.grownBy wr (some w.heap.size)) (fun _ i _ => (intOf i).toNat)
  case atStart => exact ⟨t, [], _, 0, _, by simp; omega, rfl, rfl, ⟨_, _, H3.out.1⟩, ⟨zlB_nil, fun z h => by cases h⟩, H3.out.2.1, by omega, H3.out.2.2⟩
  case round =>
    obtain ⟨r, zs, A', c', q, hzr, rfl, rfl, ⟨css, F, hown⟩, ⟨hzb, hzd⟩, hrd, hq, hgr⟩ := hrel
    clear H3
    have hsg := hgr.size
    rcases Nat.eq_zero_or_pos r with h0 | hpos
    · have hr0 : ¬ (0 : Int) < (r : Int) := by omega
      have HOW := Lib.hid hown
      have HG := Lib.hid hgr
      have HZ := Lib.hid hzb
      have HZD := Lib.hid hzd
      clear hown hgr hzb hzd
      go_wp2_with fail
      refine (pick_r _ _ _ _ _ _ _ hrd (by omega) (by decide)).mono ?_
      rintro e w4 ⟨y, rfl, y0, -, r4, g4⟩
      have hs4 := g4.size
      have hO4 : SlF ZlO 1 37 w4 (news w2 w4) A' c' zs css F := (HOW.out.loc zlO (fun k hk => g4.block k hk.2 (fun e => by injection e with e; have := hk.1; omega))).mono (fun k hk => ⟨hk.1, Nat.lt_of_lt_of_le hk.2 hs4⟩) (fun k hk => hk.2)
      have hg24 := HG.out.trans g4
      have hB4 : Below w.heap.size w w4 := gbelow hB2 hg24 (Nat.le_refl _)
      have HRET : Hid (ZLs w (.returned (.slice A' zs.length c')) w4) := ⟨zs, A', c', rfl, (show ZssOw w4 (news w2 w4) A' c' zs from ⟨_, _, hO4⟩).mono (fun k hk => ⟨Nat.le_trans hB2.size hk.1, hk.2⟩) (fun k hk => hk.2), by omega, HZ.out, hB4⟩
      have HO4 := Lib.hid hO4
      have HG4 := Lib.hid hg24
      clear hrd g4 hO4 hg24 HOW HG
      by_cases hy : y = 0
      case neg =>
        have hyb : (y == 0) = false := by rw [beq_eq_false_iff_ne]; exact hy
        clear r4 hB4 HO4 HG4 HZ HZD hy
        go_wp2
        go_ret
        exact HRET.out
      subst hy
      rcases Nat.eq_zero_or_pos zs.length with hz0' | hzp
      · have hzd1 : decide ((0 : Int) < (zs.length : Int)) = false := decide_eq_false (by omega)
        have hzd2 : ¬ 0 < zs.length := by omega
        clear r4 hB4 HO4 HG4 HZ HZD hz0'
        go_wp2
        go_ret
        exact HRET.out
      have hzp' : (0 : Int) < zs.length := by omega
      have hcon := pick_r w.heap.size A1 m1 c1 (q + 1) (zs.length : Int) w4 r4 (by omega) (by omega)
      clear HRET
      go_wp2_with fail
      refine hcon.mono ?_
      rintro e w5 ⟨i, rfl, i0', i1, r5, g5⟩
      have hi1 := i1 hzp'
      obtain ⟨k, rfl⟩ := Int.eq_ofNat_of_zero_le i0'
      have hkl : k < zs.length := by omega
      have hs5 := g5.size
      have hO5 : SlF ZlO 1 37 w5 (news w2 w5) A' c' zs css F := (HO4.out.loc zlO (fun k hk => g5.block k hk.2 (fun e => by injection e with e; have := hk.1; omega))).mono (fun k hk => ⟨hk.1, Nat.lt_of_lt_of_le hk.2 hs5⟩) (fun k hk => hk.2)
      have hg25 := HG4.out.trans g5
      clear hcon r4 HO4 HG4 g5 i1 hB4
      obtain ⟨G, hG, hG2, hG3⟩ : ∃ G, A' = some ⟨G, 0, none⟩ ∧ w2.heap.size ≤ G ∧ G < w5.heap.size := by
        rcases hO5.form with ⟨_, _, e⟩ | ⟨G, e, hS, hlt, _, _⟩
        · rw [e] at hkl; simp at hkl
        · exact ⟨G, e, hS.1, hlt⟩
      subst hG
      have hcl : k < css.length := by rw [hO5.clen]; exact hkl
      obtain ⟨ZA, zc, hcs, hzo⟩ := hO5.elt k hcl hkl
      have hc0 := hO5.cell k hcl 0 (by omega)
      rw [hcs] at hc0
      simp at hc0
      have hFS : ∀ q', F k q' → w.heap.size < q' := fun q' hq' => by have := (hO5.sub k q' hq').1.1; omega
      have hzk := HZD.out _ (List.getElem_mem hkl)
      have hdam := damage_r (F k) w.heap.size A1 m1 c1 (q + 1 + 1) ZA zc zs[k] 20 w5 r5 hzo hFS (by omega) hzk.1 (by omega) hzk.2.1 hzk.2.2
      have HO5 := Lib.hid hO5
      have HG5 := Lib.hid hg25
      have HCS := Lib.hid hcs
      clear hO5 hg25 hcs hzo r5 HZD hzk
      go_wp2_with fail
      refine hdam.mono ?_
      rintro e w6 ⟨z6, A6, c6, q6, rfl, ho6, hl6, hr6, hw6, hq3, hq4, r6, g6⟩
      have hs6 := g6.size
      have hGg : w6.heap[G]? = w5.heap[G]? := g6.block G hG3 (fun e => by
        rcases e with e | e
        · omega
        · exact (HO5.out.sub k G e).2 rfl)
      have hcG : w6.cell? ⟨G, k, none⟩ = some (.slice ZA zs[k].length zc) := (World.cell?_of_block (a := ⟨G, k, none⟩) hGg).trans hc0
      have hfG : w6.frozen? ⟨G, k, none⟩ = false := (World.frozen?_of_block (a := ⟨G, k, none⟩) hGg).trans (HO5.out.frozen k)
      have hst := ZssF.stored HO5.out hGg hkl (.slice A6 z6.length c6)
      have hsz : (w6.setCell ⟨G, k, none⟩ (.slice A6 z6.length c6)).heap.size = w6.heap.size := by simp [World.setCell]
      have hfar : ∀ m, m ≠ G → (w6.setCell ⟨G, k, none⟩ (.slice A6 z6.length c6)).heap[m]? = w6.heap[m]? := fun m hm => Below.heap_setCell _ _ _ _ hm
      have hplG : ∀ m, plus (F k) w5 w6 m → m ≠ G := fun m hm e => by
        subst e
        rcases hm with hm | hm
        · exact (HO5.out.sub k _ hm).2 rfl
        · have := hm.1; omega
      have hsw := HO5.out.swap2 zlO (U := news w2 (w6.setCell ⟨G, k, none⟩ (.slice A6 z6.length c6))) hkl hst rfl (x' := z6) (T := plus (F k) w5 w6) ⟨A6, c6, rfl, ho6.loc entO (fun m hm => hfar m (hplG m hm))⟩
        (fun i hi m hm => (hfar m (fun e => (HO5.out.sub i m hm).2 (by rw [e]; rfl))).trans (g6.block m (HO5.out.sub i m hm).1.2 (fun e => by
          rcases e with e | e
          · have := (HO5.out.sub i m hm).1.1; omega
          · exact hi (HO5.out.apart i k m hm e))))
        (fun m hm => ⟨⟨by
          rcases hm with hm | hm
          · exact (HO5.out.sub k m hm).1.1
          · have := hm.1; omega, by
          rw [hsz]
          rcases hm with hm | hm
          · have := (HO5.out.sub k m hm).1.2; omega
          · exact hm.2⟩, hplG m hm⟩)
        (fun i hi m hm h2 => by
          rcases h2 with h2 | h2
          · exact hi (HO5.out.apart i k m hm h2)
          · have := (HO5.out.sub i m hm).1.2; have := h2.1; omega)
        (fun m hm => ⟨hm.1, by rw [hsz]; have := hm.2; omega⟩) (fun m hm => hm.2)
      have hB6 : Below w.heap.size w (w6.setCell ⟨G, k, none⟩ (.slice A6 z6.length c6)) := by
        have h5 : Below w.heap.size w w5 := gbelow hB2 HG5.out (Nat.le_refl _)
        exact bset (g6.below h5 (fun m hm => by
          rcases hm with hm | hm
          · omega
          · have := hFS m hm; omega)) (by show w.heap.size ≤ G; omega) _
      have hZB : zlB (zs.set k z6) := fun z hz => by
        rcases List.mem_or_eq_of_mem_set hz with hz | rfl
        · exact HZ.out z hz
        · exact ⟨by omega, hr6, hw6⟩
      have HRET : Hid (ZLs w (.returned (.slice (some ⟨G, 0, none⟩) zs.length c')) (w6.setCell ⟨G, k, none⟩ (.slice A6 z6.length c6))) :=
        ⟨zs.set k z6, _, c', by rw [List.length_set], (show ZssOw _ (news w2 _) _ c' _ from ⟨_, _, hsw⟩).mono (fun m hm => ⟨Nat.le_trans hB2.size hm.1, hm.2⟩) (fun m hm => hm.2), by rw [List.length_set]; omega, hZB, hB6⟩
      clear hst hsw hB6 hZB hfar hplG g6 r6 ho6 hr6 hw6 hdam HO5 HG5 HCS HZ hFS hGg
      go_wp2
      go_ret
      exact HRET.out
    · have hr1 : (0 : Int) < r := by omega
      have hcon := randomZSet_r w.heap.size A1 m1 c1 q (1 + wd) 6 wr hrd (by omega) (by omega) (by omega)
      rw [show ((1 + wd : Nat) : Int) = 1 + (wd : Int) by omega] at hcon
      have HO := Lib.hid hown
      have HG := Lib.hid hgr
      have HZ := Lib.hid hzb
      have HZD := Lib.hid hzd
      clear hrd hown hgr hzb hzd
      go_wp2_with fail
      refine hcon.mono ?_
      rintro e w4 ⟨z, ZA2, zc, q4, rfl, ho4, hl4, hr4', hw4, hq1, hq2, r4, g4⟩
      have hs4 := g4.size
      have hrow4 : w4.ownsRow w2.heap.size 37 1 (.slice A' zs.length c') zs.length css.flatten := ownsRow_base (ownsRow_loc HO.out.row (fun k hk => g4.block k (HO.out.top k hk).2 (fun e => by injection e with e; have := (HO.out.top k hk).1; omega))) (fun k hk => (HO.out.top k hk).1)
      clear hcon
      go_wp2_with (at_builtin; refine wpList_append_src _ rfl _ _ 26 rfl w2.heap.size 37 i0 (.slice none 0 0) 1 24 Tryz.underlying26 hi hz0 hz1 hz2 rfl (by decide) _ _ _ rfl (hrow4.alloc _) (some ⟨w4.heap.size, 0, none⟩) 1 1 [.slice ZA2 z.length zc] rfl rfl (fun h => by cases h) zl_srcs zl_ones (by unfold maxLen; omega) (by omega) (by simp; omega) ?_)
      intro v' w5 hown' hgrow hloc
      simp only [ownBlock_slice] at hgrow hloc
      have hnx := HO.out.next hsg g4 hlt2 ho4 (bal (Below.refl _ _) _) hown' hgrow (fun k hk => by have := hloc k hk; simpa using this)
      obtain ⟨A5, c5, rfl, ho5⟩ := hnx
      have hr5 := (r4.alloc (.cells #[.slice ZA2 z.length zc] 37)).keptG hgrow (fun k hk => by have := (HO.out.top k hk).1; omega)
      have hg5 := gG (gal (HG.out.trans g4) (.cells #[.slice ZA2 z.length zc] 37)) hgrow (fun k hk => (HO.out.top k hk).1)
      have hzd5 : ∀ y ∈ zs ++ [z], y.length ≤ 20 ∧ rowsIn y 8 ∧ wts y 2000000 := fun y hy => by
        rcases List.mem_append.1 hy with hy | hy
        · exact HZD.out y hy
        · simp at hy; subst hy; exact ⟨by omega, hr4', hw4⟩
      have H5 : Hid (ZssOw w5 (news w2 w5) A5 c5 (zs ++ [z]) ∧ (zlB (zs ++ [z]) ∧ ∀ y ∈ zs ++ [z], y.length ≤ 20 ∧ rowsIn y 8 ∧ wts y 2000000) ∧ Rdr w5 w.heap.size A1 m1 c1 q4 ∧ w2.grownBy w5 (some w.heap.size)) :=
        ⟨ho5, ⟨HZ.out.snoc ⟨by omega, fun e he => by have := hr4' e he; omega, hw4.mono' (by omega)⟩, hzd5⟩, hr5, hg5⟩
      clear hown' hgrow hloc ho5 hr5 hg5 r4 g4 ho4 hr4' hw4 hrow4 HO HG HZ HZD hzd5
      go_wp2
      go_roundw
      case rel => exact ⟨r - 1, zs ++ [z], A5, c5, q4, by simp; omega, by go_num, by simp, H5.out.1, H5.out.2.1, H5.out.2.2.1, by omega, H5.out.2.2.2⟩
      case measure => simp [intOf]; omega
end Go.Proofs.YtjikdlldochhcacGreat
