/- HELPER, no statement of the seat: several texts in one file. -/
import Derived.Test.YtifjenleoagefaaGreatDrh
import Derived.Test.YtifjenleoagefaaGreatRs
import Derived.Test.YtifjenleoagefaaGreatCrd
import Derived.Test.YtifjenleoagefaaGreatAddI
/- HELPER, no statement of the seat: drawn edges. -/
namespace Go.Proofs.YtifjenleoagefaaGreat
open Go.RowKit Go.Sort
set_option linter.unusedSimpArgs false
set_option linter.unusedVariables false

theorem disL_rows {z : List Ent} {k : Nat} (h : rowsIn z k) : rowsIn (disL z) k := fun e he => by
  unfold disL at he
  obtain ⟨x, hx, rfl⟩ := List.mem_map.1 he
  exact h x (List.mem_filter.1 hx).1
theorem disL_wts (z : List Ent) : wts (disL z) 2000000 := fun e he => by
  unfold disL at he
  obtain ⟨x, hx, rfl⟩ := List.mem_map.1 he
  simp only; omega
theorem disL_lenA (z : List Ent) : (disL z).length ≤ z.length := by unfold disL; rw [List.length_map]; exact List.length_filter_le _ _
set_option maxRecDepth 100000 in
set_option maxHeartbeats 3200000 in
theorem randomEdges_r (g : Nat) (A : Option Addr) (n c : Nat) (p : Int) (w : World) (hr : Rdr w g A n c p) (hp : p + 30 ≤ 1000000000) :
    Calls Tryz.prog 48 #[.pointer (some ⟨g, 0, none⟩)] w (ZD w g A n c p 30 20) := by
  have hlt := hr.1.lt
  have hmade := SlF.made EntO 2 33 w #[] 0 (by simp [maxLen]) (by simp) (S := news w (w.alloc (.cells #[] 33))) ⟨Nat.le_refl _, by simp⟩ (fun k hk => by have := hk.2; simpa using this)
  have HM : Hid (EntsOw (w.alloc (.cells #[] 33)) (news w (w.alloc (.cells #[] 33))) (some ⟨w.heap.size, 0, none⟩) 0 []) := ⟨_, _, hmade⟩
  have H0 : Hid (Rdr (w.alloc (.cells #[] 33)) g A n c p ∧ w.grownBy (w.alloc (.cells #[] 33)) (some g)) := ⟨hr.alloc _, World.grownBy_alloc _ _ _⟩
  clear hr hmade
  go_enter Tryz.func48, Tryz.ntmps48
  go_wp2_with fail
  refine (pick_r _ _ _ _ _ _ _ H0.out.1 (by omega) (by omega)).mono ?_
  rintro e wa ⟨j0, rfl, a0, a1, ra, ga⟩
  have ha1 := a1 (by omega)
  go_wp2_with fail
  refine (pick_r _ _ _ _ _ _ _ ra (by omega) (by omega)).mono ?_
  rintro e w1 ⟨j1, rfl, b0, b1, r1, gb⟩
  have hb1 := b1 (by omega)
  obtain ⟨j1, rfl⟩ := Int.eq_ofNat_of_zero_le b0
  have g1 := ga.trans gb
  have hs0 : w.heap.size < w1.heap.size := by have := g1.size; simp at this; omega
  have H1 : Hid (EntsOw w1 (news w w1) (some ⟨w.heap.size, 0, none⟩) 0 [] ∧ w.grownBy w1 (some g) ∧ Rdr w1 g A n c (p + 1 + 1)) :=
    ⟨(entsG HM.out g1 (fun k hk => by have := hk.1; omega)).mono (fun k hk => ⟨hk.1, by have := hk.2; simp at this; omega⟩) (fun k hk => hk.2), H0.out.2.trans g1, r1⟩
  clear HM H0 a1 ra ga b1 r1 gb g1
  go_wp2_with fail
  go_loopw [3, 5] (fun v i wr => ∃ (k : Nat) (A' : Option Addr) (c' : Nat) (z : List Ent) (q : Int), i = .int .i64 (k : Nat) ∧ v = .slice A' z.length c' ∧ A' ≠ none ∧ z.length + k ≤ 9 ∧ Hid (Asc lessB z ∧ rowsIn z 8 ∧ wts z (2 * ((9 : Int) - k)) ∧ EntsOw wr (news w wr) A' c' z) ∧ p ≤ q ∧ q + k * 2 ≤ p + 25 ∧ Rdr wr g A n c q ∧ w.grownBy wr (some g)) (fun _ i _ => (intOf i).toNat)
  case atStart => exact ⟨j1, _, 0, [], p + 1 + 1, rfl, rfl, by simp, by simp; omega, ⟨List.Pairwise.nil, (fun e he => by cases he), (fun e he => by cases he), H1.out.1⟩, by omega, by omega, H1.out.2.2, H1.out.2.1⟩
  case round =>
    obtain ⟨k, A', c', z, q, rfl, rfl, hA, hzk, HZ, hq0, hq1, hrd, hgr⟩ := hrel
    by_cases hk : 0 < k
    · have hk' : (0 : Int) < k := by omega
      have HG := Lib.hid hgr
      clear hgr
      go_wp2_with fail
      refine (pick_r _ _ _ _ _ _ _ hrd (by omega) (by omega)).mono ?_
      rintro e w2 ⟨x0, rfl, c0, c1, r2, g2⟩
      go_wp2_with fail
      refine (pick_r _ _ _ _ _ _ _ r2 (by omega) (by omega)).mono ?_
      rintro e w3 ⟨x1, rfl, d0, d1, r3, g3⟩
      have g23 := g2.trans g3
      have gX : wr.grownBy (w3.alloc (.cells #[.int .i64 x0, .int .i64 x1] 3)) (some g) := gal g23 _
      have hI : IntsAt (w3.alloc (.cells #[.int .i64 x0, .int .i64 x1] 3)) (some ⟨w3.heap.size, 0, none⟩) [x0, x1] := NewI.ints (Blk.newAt rfl)
      have HW := entsG HZ.out.2.2.2 gX (fun k hk => by have := hk.1; omega)
      have hzw : wts z 1099511627776 := HZ.out.2.2.1.mono' (by omega)
      have hzr : rowsIn z 4194304 := fun e he => by have := HZ.out.2.1 e he; omega
      have hadd := addEntry_s (news w wr) A' c' z (some ⟨w3.heap.size, 0, none⟩) 2 [x0, x1] 1 (w3.alloc (.cells #[.int .i64 x0, .int .i64 x1] 3)) HW hA HZ.out.1 hI (by omega) hzr (by simp) hzw (by omega) (by omega)
      have hrX := r3.alloc (.cells #[.int .i64 x0, .int .i64 x1] 3)
      have hsX : w3.heap.size + 1 = (w3.alloc (.cells #[.int .i64 x0, .int .i64 x1] 3)).heap.size := by simp
      clear hzw hzr g2 r2 hrd c1 d1 hI HW r3 g3
      go_wp2_with fail
      refine hadd.mono ?_
      rintro e w4 ⟨A4, c4, rfl, ho4, g4⟩
      clear hadd
      have hsn : ∀ k, news w wr k → w.heap.size ≤ k := fun k hk => hk.1
      have hs3 : wr.heap.size ≤ (w3.alloc (.cells #[.int .i64 x0, .int .i64 x1] 3)).heap.size := gX.size
      have hsw : w.heap.size ≤ wr.heap.size := HG.out.size
      have hs4 := g4.size
      have hlen := insK_length (lt := lessB) z [x0, x1] 1
      have HR : Hid (A4 ≠ none ∧ (Asc lessB (insK lessB z [x0, x1] 1) ∧ rowsIn (insK lessB z [x0, x1] 1) 8 ∧ wts (insK lessB z [x0, x1] 1) (2 * ((9 : Int) - ((k - 1 : Nat) : Int))) ∧ EntsOw w4 (news w w4) A4 c4 (insK lessB z [x0, x1] 1)) ∧ Rdr w4 g A n c (q + 1 + 1) ∧ w.grownBy w4 (some g)) := by
        refine ⟨some_of_pos ho4 (insK_pos z [x0, x1] 1), ⟨insK_asc rowTot HZ.out.1 [x0, x1] 1, rows_ins HZ.out.2.1 (by simp) 1, ?_, ho4.mono (fun k hk => ?_) (fun k hk => hk.2)⟩, hrX.keptS g4 (fun k hk => by have := hk.1; omega), gS (HG.out.trans gX) g4 hsn⟩
        · exact (wts_ins (x := 1) HZ.out.2.2.1 (by omega : (-2 : Int) ≤ 1 ∧ (1 : Int) ≤ 2) (by omega) (by omega) [x0, x1]).mono' (by omega)
        · rcases hk with hk | hk
          · exact ⟨hk.1, by have := hk.2; omega⟩
          · exact ⟨by have := hk.1; omega, hk.2⟩
      clear ho4 g4 g23 gX HG HZ hsn hrX
      go_wp2
      go_roundw
      case rel => exact ⟨k - 1, A4, c4, _, _, by go_num, rfl, HR.out.1, by omega, HR.out.2.1, by omega, by omega, HR.out.2.2.1, HR.out.2.2.2⟩
      case measure => simp [intOf]; omega
    · obtain rfl : k = 0 := by omega
      have HG := Lib.hid hgr
      have hl := disL_lenA z
      clear hgr
      go_wp2_with fail
      refine (distinct_s A' c' z wr (SlOw.at_ entO HZ.out.2.2.2) (by omega) (fun e he => by have := HZ.out.2.1 e he; omega)).mono ?_
      rintro e w2 ⟨A2, c2, rfl, ho2, b2⟩
      have hs := HG.out.size
      have hs2 := b2.size
      go_wp2_with fail
      go_ret
      exact ⟨disL z, A2, c2, q, rfl, ho2.mono (fun k hk => ⟨by have := hk.1; omega, hk.2⟩) (fun k hk => hk.2), by omega, disL_rows HZ.out.2.1, disL_wts z, hq0, by omega, hrd.below b2, gB HG.out b2⟩
theorem ofDam {w w1 W : World} {g : Nat} {A : Option Addr} {n c m : Nat} {p q1 t : Int} {e : Ending} (hg1 : w.grownBy w1 (some g)) (h : DamD w1 (news w w1) g A n c q1 m e W) (hm : m ≤ 20) (hlt : g < w.heap.size) (hq : p ≤ q1) (hq2 : q1 + 5 ≤ p + t) : ZAny w g A n c p t e W := by
  obtain ⟨z3, A3, c3, q3, rfl, ho3, hl3, hr3, hw3, hq3, hq4, r3, g3⟩ := h
  have hs1 := hg1.size
  have hs3 := g3.size
  refine ⟨z3, A3, c3, q3, rfl, ⟨ho3.mono (fun k hk => ?_) (fun k hk => hk.2), by omega, hr3, hw3⟩, by omega, by omega, r3, gS2 hg1 g3 (fun k hk => hk.1)⟩
  rcases hk with hk | hk
  · exact ⟨hk.1, by have := hk.2; omega⟩
  · exact ⟨by have := hk.1; omega, hk.2⟩
set_option maxRecDepth 100000 in
set_option maxHeartbeats 6400000 in
theorem anyEdges_r (g : Nat) (A : Option Addr) (n c : Nat) (p : Int) (w : World) (hr : Rdr w g A n c p) (hp : p + 50 ≤ 1000000000) :
    Calls Tryz.prog 20 #[.pointer (some ⟨g, 0, none⟩)] w (ZAny w g A n c p 40) := by
  have hlt := hr.1.lt
  have HRR0 := Lib.hid hr
  clear hr
  go_enter Tryz.func20, Tryz.ntmps20
  go_wp2_with fail
  refine (randomEdges_r g A n c p w HRR0.out (by omega)).mono ?_
  rintro e w1 ⟨z, B, d, q1, rfl, hz, hl, hrz, hwz, hq1, hq2, rd1, gw1⟩
  clear HRR0
  have hsw := gw1.size
  rcases Nat.eq_zero_or_pos z.length with h0 | hpos
  · have hb : ¬ ((0 : Int) < z.length) := by omega
    have HZ : Hid (ZAny w g A n c p 40 (.returned (.slice B z.length d)) w1) :=
      ⟨z, B, d, q1, rfl, ⟨hz, by omega, fun e he => by have := hrz e he; omega, hwz.mono' (by omega)⟩, by omega, by omega, rd1, gw1⟩
    clear hz hrz hwz rd1 gw1 h0
    go_wp2
    go_ret
    exact HZ.out
  · have hb : (0 : Int) < z.length := by omega
    have hslt := fun k (hk : news w w1 k) => (⟨by have := hk.1; omega, hk.2⟩ : g < k ∧ k < w1.heap.size)
    obtain ⟨css, F, hF⟩ := hz
    obtain ⟨G, rfl, hSG, hGl, -, -⟩ : ∃ G, B = some ⟨G, 0, none⟩ ∧ news w w1 G ∧ G < w1.heap.size ∧ z.length ≤ d ∧ d ≤ maxLen := by
      rcases hF.form with ⟨_, _, h⟩ | h
      · rw [h] at hpos; simp at hpos
      · exact h
    have hclen := hF.clen
    have HF := Lib.hid hF
    have HW := Lib.hid hwz
    have HR := Lib.hid hrz
    have HS := Lib.hid hslt
    have HG1 := Lib.hid gw1
    clear hF hwz hrz hslt gw1
    go_wp2_with fail
    refine (pick_r _ _ _ _ _ _ _ rd1 (by omega) (by omega)).mono ?_
    rintro e wb ⟨k0, rfl, a0, a1, rb, gb⟩
    have ha1 := a1 (by omega)
    obtain ⟨k, rfl⟩ := Int.eq_ofNat_of_zero_le a0
    have hk : k < z.length := by omega
    go_wp2_with fail
    refine (pick_r _ _ _ _ _ _ _ rb (by omega) (by omega)).mono ?_
    rintro e w2 ⟨j, rfl, b0, b1, r2, gc⟩
    have hg2 := gb.trans gc
    have hs2 := hg2.size
    have h1 : k < css.length := by omega
    have hF2 : SlF EntO 2 33 w2 (news w w1) (some ⟨G, 0, none⟩) d z css F := HF.out.loc entO (fun q hq => hg2.block q (HS.out q hq).2 (fun e => by injection e with e; have := (HS.out q hq).1; omega))
    obtain ⟨RA, rc, hcs, hS0, hrow0⟩ := (hF2.elt k h1 hk).form
    have hc0 : w2.cell? ⟨G, k * 2, none⟩ = some (.slice RA z[k].1.length rc) := by
      have := hF2.cell k h1 0 (by decide)
      rw [Nat.add_zero] at this
      rw [this, hcs]; rfl
    have hc1 : w2.cell? ⟨G, k * 2 + 1, none⟩ = some (.int .i64 z[k].2) := by
      rw [hF2.cell k h1 1 (by decide), hcs]; rfl
    have hf0 := hF2.frozen (k * 2)
    have hf1 := hF2.frozen (k * 2 + 1)
    have hG2 : G < w2.heap.size := by omega
    have hzk := HR.out _ (List.getElem_mem hk)
    have hzw := HW.out _ (List.getElem_mem hk)
    have hE0 := EntO.mk (w := w2) (S := F k) (A := RA) (c := rc) (xs := z[k].1) (x := 2) (fun q hq => hF2.lt q (hF2.sub k q hq).1) hS0 hrow0
    have HE0 : Hid (EntO w2 (F k) ((css[k]).set 1 (.int .i64 2)) (z[k].1, 2)) := by rw [Hid, hcs]; exact hE0
    have HCS := Lib.hid hcs
    have H2 := Lib.hid (And.intro hF2 (And.intro r2 hg2))
    have hclt : (0 : Int) ≤ (k : Int) := by omega
    have hklt : (k : Int) < z.length := by omega
    clear rd1 a1 rb gb b1 r2 gc hF2 hg2 hcs hS0 hrow0 hE0
    by_cases hj0 : j = 0
    · -- the weight
      subst hj0
      have hst := H2.out.1.store entO hk h1 (i := 1) (by decide) (.int .i64 2) HE0.out
      have HRR : Hid (ZAny w g A n c p 40 (.returned (.slice (some ⟨G, 0, none⟩) z.length d)) (w2.setCell ⟨G, k * 2 + 1, none⟩ (.int .i64 2))) := by
        refine ofDam (m := 20) HG1.out ?_ (by omega) hlt hq1 (by omega)
        refine ⟨z.set k (z[k].1, 2), some ⟨G, 0, none⟩, d, _, by rw [List.length_set], ⟨_, _, hst.mono (fun q hq => .inl hq) (plus_lt (fun q hq => (HS.out q hq).2) (by simp [World.setCell]; omega))⟩, by rw [List.length_set]; omega, rows_set HR.out (by omega) (by simp only; omega), wts_set HW.out (by omega) (by simp only; omega), ?_, ?_, H2.out.2.1.far (by have := (HS.out G hSG).1; simpa using this) _, (GrownS.ofGrown H2.out.2.2 (fun k e => .inl (by injection e with e; exact e.symm))).set_ (p := ⟨G, k * 2 + 1, none⟩) (.inr hSG) _⟩ <;> omega
      clear hst H2 HE0 HF HS HR HW HG1 hc0 hf0
      go_wp2
      go_ret
      exact HRR.out
    · have hn0 : (j == 0) = false := by simpa using hj0
      by_cases hj1 : j = 1
      · -- a vertex that is none
        subst hj1
        have hB : Blk (w2.alloc (.cells #[.int .i64 (-1), .int .i64 20] 3)) w2.heap.size 3 (ints [-1, 20]) := Blk.newAt rfl
        have hgl := H2.out.2.1.1.lt
        clear hc1 hf1 HE0
        go_wp2_with fail
        refine (oneL_r g w2.heap.size A n c _ [-1, 20] _ (H2.out.2.1.alloc _) (by omega) hB (by omega) (by decide) (by decide)).mono ?_
        rintro e w3 ⟨x, rfl, hx, r3, g3⟩
        have g23 : w2.grownBy w3 (some g) := (World.grownBy_alloc _ _ _).trans g3
        have hs3 := g23.size
        have hF3 : SlF EntO 2 33 w3 (news w w1) (some ⟨G, 0, none⟩) d z css F := H2.out.1.loc entO (fun q hq => g23.block q (by have := (HS.out q hq).2; omega) (fun e => by injection e with e; have := (HS.out q hq).1; omega))
        have hgG : G ≠ g := fun e => by have := (HS.out G hSG).1; omega
        have hG3 : G < w3.heap.size := by omega
        have hc3 : w3.cell? ⟨G, k * 2, none⟩ = some (.slice RA z[k].1.length rc) := by
          have := hF3.cell k h1 0 (by decide)
          rw [Nat.add_zero] at this
          rw [this, HCS.out]; rfl
        have hf3 := hF3.frozen (k * 2)
        have hb4 : Below w3.heap.size w3 (w3.alloc (.cells #[.int .i64 x, .int .i64 0] 3)) := bal (Below.refl _ _) _
        have hrow4 : IntsOwn (w3.alloc (.cells #[.int .i64 x, .int .i64 0] 3)) w3.heap.size (some ⟨w3.heap.size, 0, none⟩) 2 [x, 0] := World.ownsRow_lit (base := w3.heap.size) (size := 1) (e := 3) w3 #[.int .i64 x, .int .i64 0] 2 (Nat.le_refl _) (by simp [maxLen]) (by simp)
        have HRR := Lib.hid (ofDam (p := p) (t := 40) HG1.out (damRow (p := q1) (m := 20) (L := 2) rfl hF3 (H2.out.2.2.trans g23) HS.out hk hb4 hrow4 (r3.below hb4) (by simp) hl HR.out HW.out (by omega) (by omega)) (by omega) hlt hq1 (by omega))
        rw [World.setCell_alloc_past (hn := hG3)] at HRR
        have hc4 := (hb4.cell (p := ⟨G, k * 2, none⟩) hG3).trans hc3
        have hf4 := (hb4.frozen (p := ⟨G, k * 2, none⟩) hG3).trans hf3
        clear hb4 hrow4 H2 HF HS HR HW HG1 hB hx r3 g3 g23 hF3 hc0 hf0
        go_wp2
        go_ret
        exact HRR.out
      · have hn1 : (j == 1) = false := by simpa using hj1
        by_cases hj2 : j = 2
        · -- three columns
          subst hj2
          have hb4 : Below w2.heap.size w2 (w2.alloc (.cells #[.int .i64 0, .int .i64 0, .int .i64 0] 3)) := bal (Below.refl _ _) _
          have hrow4 : IntsOwn (w2.alloc (.cells #[.int .i64 0, .int .i64 0, .int .i64 0] 3)) w2.heap.size (some ⟨w2.heap.size, 0, none⟩) 3 [0, 0, 0] := World.ownsRow_lit (base := w2.heap.size) (size := 1) (e := 3) w2 #[.int .i64 0, .int .i64 0, .int .i64 0] 3 (Nat.le_refl _) (by simp [maxLen]) (by simp)
          have HRR := Lib.hid (ofDam (p := p) (t := 40) HG1.out (damRow (p := q1) (m := 20) (L := 3) rfl H2.out.1 H2.out.2.2 HS.out hk hb4 hrow4 (H2.out.2.1.below hb4) (by simp) hl HR.out HW.out (by omega) (by omega)) (by omega) hlt hq1 (by omega))
          rw [World.setCell_alloc_past (hn := hG2)] at HRR
          have hc4 := (hb4.cell (p := ⟨G, k * 2, none⟩) hG2).trans hc0
          have hf4 := (hb4.frozen (p := ⟨G, k * 2, none⟩) hG2).trans hf0
          clear hb4 hrow4 hf1 hc1 H2 HE0 HF HS HR HW HG1
          go_wp2
          go_ret
          exact HRR.out
        · have hn2 : (j == 2) = false := by simpa using hj2
          have HZ : Hid (ZAny w g A n c p 40 (.returned (.slice (some ⟨G, 0, none⟩) z.length d)) w2) :=
            ⟨z, some ⟨G, 0, none⟩, d, q1 + 1 + 1, rfl, ⟨⟨css, F, H2.out.1.mono (fun k hk => ⟨hk.1, by have := hk.2; omega⟩) (fun k hk => hk.2)⟩, by omega, fun e he => by have := HR.out e he; omega, HW.out.mono' (by omega)⟩, by omega, by omega, H2.out.2.1, HG1.out.trans H2.out.2.2⟩
          clear hc0 hc1 hf0 hf1 H2 HE0 HF HS HR HW HG1
          go_wp2
          go_ret
          exact HZ.out

/-! ### The arguments -/
def EdP (w : World) (A : Option Addr) (c : Nat) (z : List Ent) : Prop := EntsAt w A z ∧ z.length ≤ c ∧ z.length ≤ 400 ∧ rowsIn z 10
theorem EdP.below {w w' : World} {A : Option Addr} {c : Nat} {z : List Ent} (h : EdP w A c z) (hb : Below w.heap.size w w') : EdP w' A c z := ⟨h.1.below entR hb, h.2⟩
theorem EdP.of {w w' : World} {A : Option Addr} {c : Nat} {z : List Ent} (h : ZA w z A c w') : EdP w' A c z := ⟨SlOw.at_ entO h.1, EntsOw.cap h.1, by have := h.2.1; omega, h.2.2.1⟩
def OneE (w : World) (e : Ending) (w' : World) : Prop := ∃ (z : List Ent) (A' : Option Addr) (c' : Nat), e = .returned (.slice A' z.length c') ∧ EdP w' A' c' z ∧ Below w.heap.size w w'
theorem ClosF_two (es : List Ent) : (ClosF es).length ≤ 400 ∧ rowsIn (ClosF es) 10 := by
  unfold ClosF; split
  · exact ⟨prs_len _, fun e he => by have := (prs_row _ e he).2; omega⟩
  · exact ⟨by simp, fun e he => by cases he⟩
end Go.Proofs.YtifjenleoagefaaGreat

/- HELPER, no statement of the seat: drawn edges with vertices. -/
namespace Go.Proofs.YtifjenleoagefaaGreat
open Go.RowKit Go.Sort
set_option linter.unusedSimpArgs false
set_option linter.unusedVariables false

theorem IntsOwn.cap {w : World} {b : Nat} {A : Option Addr} {c : Nat} {xs : List Int} (h : IntsOwn w b A c xs) : xs.length ≤ c := by
  rcases h.2 with ⟨e, hn⟩ | ⟨g, cap, cur, e, hb, hg, h3, _⟩
  · omega
  · injection e with _ _ e3; omega
def EdgN (w : World) (e : Ending) (w' : World) : Prop := ∃ (z : List Ent) (A' : Option Addr) (c' : Nat) (s : Int), e = .returned (.tuple #[.slice A' z.length c', .int .i64 s]) ∧ EdP w' A' c' z ∧ (-1 ≤ s ∧ s ≤ 20) ∧ Below w.heap.size w w'
def EdgN2 (w : World) (e : Ending) (w' : World) : Prop := ∃ (z : List Ent) (A' : Option Addr) (c' : Nat) (x y : Int), e = .returned (.tuple #[.slice A' z.length c', .int .i64 x, .int .i64 y]) ∧ EdP w' A' c' z ∧ (-1 ≤ x ∧ x ≤ 20) ∧ (0 ≤ y ∧ y < 6) ∧ Below w.heap.size w w'
set_option maxHeartbeats 1600000 in
theorem DrawHops_r (A : Option Addr) (n c : Nat) (w : World) (hb : BytesAt w w.heap.size A n) (hc : n ≤ c) (hn : n ≤ 1048576) :
    Calls Tryz.prog 5 #[.slice A n c] w (EdgN w) := by
  go_enter Tryz.func5, Tryz.ntmps5
  go_wp2_with fail
  refine (newReader_r _ _ _ _ hb hc hn).mono ?_
  rintro e w1 ⟨A1, m1, c1, rfl, r1, b1⟩
  clear hb
  go_wp2_with fail
  refine (anyEdges_r _ _ _ _ _ _ r1 (by omega)).mono ?_
  rintro e w3 ⟨z, A3, c3, q3, rfl, hz, hq1, hq2, r3, g3⟩
  have hB3 := gbelow b1 g3 (Nat.le_refl _)
  have hs1 := r1.1.lt
  have hs3 := g3.size
  have hb4 : Below w3.heap.size w3 (w3.alloc (.cells (ints [0, 1, 2, 3, 0, 19, -1, 20]) 3)) := bal (Below.refl _ _) _
  have hone := oneL_r w.heap.size w3.heap.size A1 m1 c1 q3 [0, 1, 2, 3, 0, 19, -1, 20] (w3.alloc (.cells (ints [0, 1, 2, 3, 0, 19, -1, 20]) 3)) (r3.below hb4) (by omega) (Blk.newAt rfl) (by omega) (by decide) (by decide)
  have hz4 := hz.below hb4
  have HB4 := Lib.hid (btr hB3 hb4)
  clear hz b1 g3 r1 r3 hB3 hb4
  go_wp2_with fail
  refine hone.mono ?_
  rintro e w5 ⟨s, rfl, hs, r5, g5⟩
  clear hone
  have hs5 : -1 ≤ s ∧ s ≤ 20 := by simp at hs; omega
  have hz5 := hz4.kept g5 hs1
  have HB5 := Lib.hid (gbelow HB4.out g5 (Nat.le_refl _))
  clear hs hz4 HB4 g5
  clear r5
  go_wp2_with fail
  exact bodyPost_ret (v := .tuple #[.slice A3 z.length c3, .int .i64 s]) (by simp [results, Tryz.results5, go_sem]) rfl ⟨z, A3, c3, s, rfl, .of hz5, hs5, HB5.out⟩
end Go.Proofs.YtifjenleoagefaaGreat
