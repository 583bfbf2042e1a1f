/- HELPER, no statement of the seat: the generators of lists of entries, of a Z-set with a key. -/
import Derived.Test.YthbphdaklkaeaaaDrawE
namespace Go.Proofs.Ythbphdaklkaeaaa
open Go.RowKit Go.Sort
set_option linter.unusedSimpArgs false
set_option linter.unusedVariables false

theorem ZA.ofPlus {w w0 w1 w2 : World} {z : List Ent} {A : Option Addr} {c : Nat} (h : EntsOw w2 (plus (news w0 w1) w1 w2) A c z) (h0 : w.heap.size ≤ w0.heap.size) (h1 : w0.heap.size ≤ w1.heap.size) (h2 : w1.heap.size ≤ w2.heap.size) (hl : z.length ≤ 40) (hr : rowsIn z 10) (hw : wts z 4000000) : ZA w z A c w2 :=
  ⟨h.mono (fun k hk => by
    rcases hk with hk | hk
    · exact ⟨Nat.le_trans h0 hk.1, Nat.lt_of_lt_of_le hk.2 h2⟩
    · exact ⟨Nat.le_trans (Nat.le_trans h0 h1) hk.1, hk.2⟩) (fun k hk => hk.2), hl, hr, hw⟩
set_option maxRecDepth 100000 in
set_option maxHeartbeats 3200000 in
theorem DrawNormalize_r (A : Option Addr) (n c : Nat) (w : World) (hb : BytesAt w w.heap.size A n) (hc : n ≤ c) (hn : n ≤ 1048576) :
    Calls Try.prog 21 #[.slice A n c] w (OneZ w) := by
  obtain ⟨i0, hi, hz0, hz1, hz2⟩ := info_parts Try.infoEnt
  go_enter Try.func21, Try.ntmps21
  go_wp2_with fail
  refine (newReader_r _ _ _ _ hb hc hn).mono ?_
  rintro e w1 ⟨A1, m1, c1, rfl, r1, b1⟩
  clear hb
  have hl1 := r1.1.lt
  go_wp2_with fail
  refine (pick_r _ _ _ _ _ _ _ r1 (by omega) (by omega)).mono ?_
  rintro e w2 ⟨j, rfl, a0, a1, r2, g2⟩
  have ha1 := a1 (by omega)
  obtain ⟨m0, rfl⟩ := Int.eq_ofNat_of_zero_le a0
  obtain ⟨m, hm⟩ : ∃ m : Nat, m = 1 + m0 := ⟨_, rfl⟩
  have hmc : 1 + (m0 : Int) = (m : Int) := by omega
  have hm3 : m ≤ 3 := by omega
  have hs12 := g2.size
  clear a1 r1 hm
  have H2 : Hid (Rdr (w2.alloc (.cells #[] 33)) w.heap.size A1 m1 c1 (0 + 1) ∧ w1.grownBy (w2.alloc (.cells #[] 33)) (some w.heap.size)) := ⟨r2.alloc _, gal g2 _⟩
  have hmade := SlF.made EntO 2 33 w2 #[] 0 (by simp [maxLen]) (by simp) (S := news w1 (w2.alloc (.cells #[] 33))) ⟨hs12, by simp⟩ (fun k hk => by have := hk.2; simpa using this)
  have HM : Hid (EntsOw (w2.alloc (.cells #[] 33)) (news w1 (w2.alloc (.cells #[] 33))) (some ⟨w2.heap.size, 0, none⟩) 0 []) := ⟨_, _, hmade⟩
  clear hmade r2 g2
  go_wp2_with fail
  refine (pick_r _ _ _ _ _ _ _ H2.out.1 (by omega) (by omega)).mono ?_
  rintro e w3 ⟨j0, rfl, d0, d1, r3, g3⟩
  have hd1 := d1 (by omega)
  obtain ⟨j1, rfl⟩ := Int.eq_ofNat_of_zero_le d0
  have hs3 := g3.size
  simp at hs3
  have H3 : Hid (EntsOw w3 (news w1 w3) (some ⟨w2.heap.size, 0, none⟩) 0 [] ∧ w1.grownBy w3 (some w.heap.size)) :=
    ⟨(entsG HM.out g3 (fun k hk => by have := hk.1; omega)).mono (fun k hk => ⟨hk.1, by have := hk.2; simp at this; omega⟩) (fun k hk => hk.2), H2.out.2.trans g3⟩
  have r3 : Rdr w3 w.heap.size A1 m1 c1 2 := r3
  have HB1 := Lib.hid b1
  clear H2 HM d1 g3 b1
  clear hmc
  go_wp2_with fail
  go_loopw [5, 6] (fun v i wr => ∃ (k : Nat) (A' : Option Addr) (c' : Nat) (z : List Ent) (q : Int), i = .int .i64 (k : Nat) ∧ v = .slice A' z.length c' ∧ z.length + k ≤ 10 ∧ Hid (rowsIn z 8 ∧ wts z 2 ∧ EntsOw wr (news w1 wr) A' c' z) ∧ 0 ≤ q ∧ q + k * 8 ≤ 100 ∧ Rdr wr w.heap.size A1 m1 c1 q ∧ w1.grownBy wr (some w.heap.size)) (fun _ i _ => (intOf i).toNat)
  case atStart => exact ⟨j1, _, 0, [], 2, rfl, rfl, by simp; omega, ⟨(fun e he => by cases he), (fun e he => by cases he), H3.out.1⟩, by omega, by omega, r3, H3.out.2⟩
  case round =>
    obtain ⟨k, A', c', z, q, rfl, rfl, hzk, HZ, hq0, hq1, hrd, hgr⟩ := hrel
    have hsr := hgr.size
    by_cases hk : 0 < k
    · have hk' : (0 : Int) < k := by omega
      have HG := Lib.hid hgr
      clear hgr
      go_wp2_with fail
      refine (randomRow_r _ _ _ _ _ m _ hrd (by omega) (by omega)).mono ?_
      rintro e w4 ⟨xs, B, d, rfl, hxl, hxo, r4, g4⟩
      have hxm : xs.length ≤ 3 := by omega
      clear hxl hrd
      have HG4 := Lib.hid g4
      clear g4
      go_wp2_with fail
      refine (pick_r _ _ _ _ _ _ _ r4 (by omega) (by omega)).mono ?_
      rintro e w5 ⟨y, rfl, e0, e1, r5, g5⟩
      have he1 := e1 (by omega)
      have hxo5 : IntsOwn w5 wr.heap.size B d xs := ownG hxo g5 (by omega)
      have g45 := HG4.out.trans g5
      have hs5 := g45.size
      obtain ⟨css, F, hF⟩ := HZ.out.2.2
      have hF5 : SlF EntO 2 33 w5 (news w1 wr) A' c' z css F := hF.loc entO (fun p hp => g45.block p (by have := hp.2; omega) (fun e => by injection e with e; have := hp.1; omega))
      have HF5 := Lib.hid hF5
      have HXO := Lib.hid hxo5
      have hsrc := ent_srcs (w1 := w5) (RA := B) (n := xs.length) (rc := d) (x := y - 2) (E := 33)
      have hone : ∀ u ∈ [Value.slice B xs.length d, .int .i64 (y - 2)], u.oneCell' = true := ent_ones
      have hrow := ownsRow_base hF5.row (base := w1.heap.size) (fun p hp => (hF5.top p hp).1)
      clear hF hF5 hxo hxo5 e1 r4 g5 HG4
      go_wp2_with (at_builtin; refine wpList_append_src _ rfl _ _ 23 rfl w1.heap.size 33 i0 (.agg #[.slice none 0 0, .int .i64 0]) 2 32 Try.underlying23 hi hz0 hz1 hz2 rfl (by decide) _ _ _ rfl (hrow.alloc _) (some ⟨w5.heap.size, 0, none⟩) 1 1 [.slice B xs.length d, .int .i64 (y - 2)] rfl rfl (fun h => by cases h) hsrc hone (by unfold maxLen; omega) (by omega) (by simp; omega) ?_)
      intro v' w6 hown' hgrow hloc
      obtain ⟨A6, c6, rfl⟩ := own_slice hown'
      have HR : Hid ((rowsIn (z ++ [(xs, y - 2)]) 8 ∧ wts (z ++ [(xs, y - 2)]) 2 ∧ EntsOw w6 (news w1 w6) A6 c6 (z ++ [(xs, y - 2)])) ∧ Rdr w6 w.heap.size A1 m1 c1 (q + m + 1) ∧ w1.grownBy w6 (some w.heap.size)) := by
        have hs6 := hgrow.size
        simp at hs6
        have hown0 : ∀ p, (Value.slice A' z.length c').ownBlock = some p → w1.heap.size ≤ p := fun p hp => (HF5.out.top p (by rw [← ownBlock_slice]; exact hp)).1
        have hel : EntO w5 (fun p => wr.heap.size ≤ p ∧ p < w5.heap.size) [.slice B xs.length d, .int .i64 (y - 2)] (xs, y - 2) := EntO.mk (fun p hp => hp.2) (fun p e => by
          rcases HXO.out.form with ⟨h1, _⟩ | ⟨g', h1, h2, h3⟩
          · rw [h1] at e; cases e
          · rw [h1] at e; simp [blk] at e; subst e; exact ⟨h2, h3⟩) (HXO.out.mono (Nat.zero_le _))
        have hps := HF5.out.push entO (U := news w1 w6) hel (fun p hp e => by have := e.2; have := hp.1; omega) (w' := w6) (A' := A6) (c' := c6) (ownsRow_base0 hown') (fun p hp hn => (hgrow.block p (by simp; omega) (fun e => hn (by rw [← ownBlock_slice]; exact e.symm))).trans (Below.heap_alloc _ _ _ hp)) (fun p hp => by
            have := hloc p (by rw [ownBlock_slice]; exact hp)
            rw [ownBlock_slice] at this
            rcases this with h | h
            · exact .inl h
            · right; first | omega | (simp at h; omega)) (fun p hp => by
            rcases hp with hp | hp | hp
            · exact ⟨hp.1, by have := hp.2; omega⟩
            · exact ⟨by have := hp.1; omega, by have := hp.2; omega⟩
            · exact World.ownsRow.lt hown' p (by rw [ownBlock_slice]; exact hp)) (fun p hp => hp.2)
        refine ⟨⟨fun e he => ?_, fun e he => ?_, ⟨_, _, hps⟩⟩, (r5.alloc _).keptG hgrow (fun p hp => by have := hown0 p hp; omega), gG (gal (HG.out.trans g45) _) hgrow hown0⟩
        · rcases List.mem_append.1 he with he | he
          · exact HZ.out.1 e he
          · simp at he; subst he; simp only; omega
        · rcases List.mem_append.1 he with he | he
          · exact HZ.out.2.1 e he
          · simp at he; subst he; simp only; omega
      clear hown' hgrow hloc hsrc hone hrow HF5 HXO r5 g45 HG HZ
      go_wp2
      go_roundw
      case rel => exact ⟨k - 1, A6, c6, z ++ [(xs, y - 2)], q + m + 1, by go_num, by rw [List.length_append]; rfl, by simp; omega, HR.out.1, by omega, by omega, HR.out.2.1, HR.out.2.2⟩
      case measure => simp [intOf]; omega
    · obtain rfl : k = 0 := by omega
      have HG := Lib.hid hgr
      clear hgr
      go_wp2_with fail
      refine (pick_r _ _ _ _ _ _ _ hrd (by omega) (by omega)).mono ?_
      rintro e w4 ⟨y, rfl, e0, e1, r4, g4⟩
      have ho4 := entsG HZ.out.2.2 g4 (fun p hp => by have := hp.1; omega)
      have hs4 := g4.size
      have hB4 := gbelow HB1.out (HG.out.trans g4) (Nat.le_refl _)
      by_cases hy : y = 0
      · subst hy
        have hdam := damage_r (news w1 wr) w.heap.size A1 m1 c1 (q + 1) A' c' z 10 w4 r4 ho4 (fun p hp => by have := hp.1; omega) (by omega) (by omega) (by omega) HZ.out.1 (HZ.out.2.1.mono' (by omega))
        have HB4 := Lib.hid hB4
        clear e1 hrd r4 g4 ho4 hB4 HG HZ
        go_wp2_with fail
        refine hdam.mono ?_
        rintro e w5 ⟨z5, A5, c5, q5, rfl, ho5, hl5, hr5, hw5, -, -, r5, g5⟩
        have hs5 := g5.size
        have hB5 : Below w.heap.size w w5 := g5.below HB4.out (fun p hp => by
          rcases hp with hp | hp
          · omega
          · have := hp.1; omega)
        go_wp2_with fail
        go_ret
        refine ⟨z5, A5, c5, rfl, ⟨ho5.mono (fun p hp => ?_) (fun p hp => hp.2), by omega, hr5, hw5⟩, hB5⟩
        rcases hp with hp | hp
        · exact ⟨by have := hp.1; omega, by have := hp.2; omega⟩
        · exact ⟨by have := hp.1; omega, hp.2⟩
      · have hy' : (y == 0) = false := by rw [beq_eq_false_iff_ne]; exact hy
        have HR : Hid (ZA w z A' c' w4) := ⟨ho4.mono (fun p hp => ⟨by have := hp.1; omega, by have := hp.2; omega⟩) (fun p hp => hp.2), by omega, fun e he => by have := HZ.out.1 e he; omega, HZ.out.2.1.mono' (by omega)⟩
        clear hy e1 hrd r4 g4 ho4 HG HZ
        go_wp2_with fail
        go_ret
        exact ⟨z, A', c', rfl, HR.out, hB4⟩

/-! ### A Z-set with a key -/
def ZKey (w : World) (e : Ending) (w' : World) : Prop := ∃ (z : List Ent) (key : List Int) (A1 A2 : Option Addr) (c1 c2 : Nat), e = .returned (.tuple #[.slice A1 z.length c1, .slice A2 key.length c2]) ∧ ZA w z A1 c1 w' ∧ IntsAt w' A2 key ∧ key.length ≤ 8 ∧ Below w.heap.size w w'
set_option maxHeartbeats 1600000 in
theorem DrawGroup_r (A : Option Addr) (n c : Nat) (w : World) (hb : BytesAt w w.heap.size A n) (hc : n ≤ c) (hn : n ≤ 1048576) :
    Calls Try.prog 43 #[.slice A n c] w (ZKey w) := by
  go_enter Try.func43, Try.ntmps43
  go_wp2_with fail
  refine (newReader_r _ _ _ _ hb hc hn).mono ?_
  rintro e w1 ⟨A1, m1, c1, rfl, r1, b1⟩
  clear hb
  go_wp2_with fail
  refine (pick_r _ _ _ _ _ _ _ r1 (by omega) (by omega)).mono ?_
  rintro e w2 ⟨j, rfl, b0, j1, r2, g2⟩
  have hj1 := j1 (by omega)
  obtain ⟨k, rfl⟩ := Int.eq_ofNat_of_zero_le b0
  have hcon := anyZSet_r w.heap.size A1 m1 c1 _ (1 + k) w2 r2 (by omega) (by omega)
  rw [show ((1 + k : Nat) : Int) = 1 + (k : Int) by omega] at hcon
  have hB2 := gbelow b1 g2 (Nat.le_refl _)
  have hs2 := hB2.size
  have hlt2 := r2.1.lt
  clear j1 r1 r2 b1 g2
  go_wp2_with fail
  refine hcon.mono ?_
  rintro e w3 ⟨z, A3, c3, q3, rfl, hz, hq1, hq2, r3, g3⟩
  have hB3 := gbelow hB2 g3 (Nat.le_refl _)
  clear hcon hB2 g3
  go_wp2_with fail
  refine (pick_r _ _ _ _ _ _ _ r3 (by omega) (by omega)).mono ?_
  rintro e w4 ⟨j4, rfl, a0, a1, r4, g4⟩
  have ha1 := a1 (by omega)
  obtain ⟨k4, rfl⟩ := Int.eq_ofNat_of_zero_le a0
  have hz4 := hz.kept g4 hlt2
  have hB4 := gbelow hB3 g4 (Nat.le_refl _)
  have hcon := randomRow_r w.heap.size A1 m1 c1 _ k4 w4 r4 (by omega) (by omega)
  have hk5 : k4 ≤ 8 := by omega
  clear hz a1 ha1 g4 hB3 r3 r4
  go_wp2_with fail
  refine hcon.mono ?_
  rintro e w5 ⟨xs, A5, c5, rfl, hxl, ho5, r5, g5⟩
  have HR : Hid (ZA w z A3 c3 w5 ∧ IntsAt w5 A5 xs ∧ xs.length ≤ 8 ∧ Below w.heap.size w w5) := ⟨(hz4.kept g5 hlt2).back hs2, ho5.at_, by omega, gbelow hB4 g5 (Nat.le_refl _)⟩
  clear hxl ho5 r5 g5 hcon hz4 hB4
  go_wp2_with fail
  go_ret2
  exact ⟨z, xs, A3, A5, c3, c5, rfl, HR.out⟩
end Go.Proofs.Ythbphdaklkaeaaa
