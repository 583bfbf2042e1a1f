/- HELPER, no statement of the seat: drawn edges, their closure and a change. -/
import Derived.Test.YtageodemjlgdcaaDrawEd
namespace Go.Proofs.Ytageodemjlgdcaa
open Go.RowKit Go.Sort
set_option linter.unusedSimpArgs false
set_option linter.unusedVariables false

theorem EntsAt.dropC {w : World} {A : Option Addr} {xs : List Ent} {c : Nat} (h : EntsAt w A xs) (hc : xs.length ≤ c) (k : Nat) : EntsAt w (if c = k then A else A.map (·.add (k * 2))) (xs.drop k) := fun hn => by
  rw [List.length_drop] at hn
  obtain ⟨b, off, rfl, hlt, hx⟩ := h (by omega)
  rw [if_neg (by omega)]
  refine ⟨b, off + k * 2, by simp [Addr.add], hlt, fun j hj => ?_⟩
  rw [List.length_drop] at hj
  obtain ⟨cs, h1, h2, h3⟩ := hx (k + j) (by omega)
  refine ⟨cs, h1, fun i hi => ?_, by rw [List.getElem_drop]; exact h3⟩
  have := h2 i hi
  rw [show off + (k + j) * 2 + i = off + k * 2 + j * 2 + i by omega] at this
  exact this
theorem EntsAt.takeC {w : World} {A : Option Addr} {xs : List Ent} (h : EntsAt w A xs) (k : Nat) : EntsAt w A (xs.take k) := fun hn => by
  rw [List.length_take] at hn
  obtain ⟨b, off, rfl, hlt, hx⟩ := h (by omega)
  refine ⟨b, off, rfl, hlt, fun j hj => ?_⟩
  rw [List.length_take] at hj
  obtain ⟨cs, h1, h2, h3⟩ := hx j (by omega)
  exact ⟨cs, h1, h2, by rw [List.getElem_take]; exact h3⟩
def ZB (w : World) (z : List Ent) (A : Option Addr) (c : Nat) (w' : World) : Prop := EntsOw w' (news w w') A c z ∧ z.length ≤ 400 ∧ rowsIn z 10
theorem ZB.below {w w1 w2 : World} {z : List Ent} {A : Option Addr} {c : Nat} (h : ZB w z A c w1) (hb : Below w1.heap.size w1 w2) : ZB w z A c w2 :=
  ⟨(h.1.below entO hb).mono (fun k hk => ⟨hk.1, Nat.lt_of_lt_of_le hk.2 hb.size⟩) (fun k hk => hk.2), h.2⟩
theorem ZB.kept {w w1 w2 : World} {g : Nat} {z : List Ent} {A : Option Addr} {c : Nat} (h : ZB w z A c w1) (hg : w1.grownBy w2 (some g)) (hlt : g < w.heap.size) : ZB w z A c w2 :=
  ⟨(entsG h.1 hg (fun k hk => by have := hk.1; omega)).mono (fun k hk => ⟨hk.1, Nat.lt_of_lt_of_le hk.2 hg.size⟩) (fun k hk => hk.2), h.2⟩
theorem ZB.ed {w w' : World} {A : Option Addr} {c : Nat} {z : List Ent} (h : ZB w z A c w') : EdP w' A c z := ⟨SlOw.at_ entO h.1, EntsOw.cap h.1, h.2⟩
theorem EdP.tail {w : World} {A : Option Addr} {c : Nat} {z : List Ent} (h : EdP w A c z) (k : Nat) : EdP w (if c = k then A else A.map (·.add (k * 2))) (c - k) (z.drop k) :=
  ⟨h.1.dropC h.2.1 k, by rw [List.length_drop]; have := h.2.1; omega, by rw [List.length_drop]; have := h.2.2.1; omega, fun e he => h.2.2.2 e (List.mem_of_mem_drop he)⟩
def ThreeE (w : World) (e : Ending) (w' : World) : Prop := ∃ (z y x : List Ent) (A1 A2 A3 : Option Addr) (c1 c2 c3 : Nat), e = .returned (.tuple #[.slice A1 z.length c1, .slice A2 y.length c2, .slice A3 x.length c3]) ∧ EdP w' A1 c1 z ∧ EdP w' A2 c2 y ∧ EdP w' A3 c3 x ∧ Below w.heap.size w w'
set_option maxRecDepth 100000 in
set_option maxHeartbeats 6400000 in
theorem maintained_r (A : Option Addr) (n c : Nat) (w : World) (hb : BytesAt w w.heap.size A n) (hc : n ≤ c) (hn : n ≤ 1048576) :
    Calls Try.prog 76 #[.slice A n c] w (ThreeE w) := by
  go_enter Try.func76, Try.ntmps76
  go_wp2_with fail
  refine (newReader_r _ _ _ _ hb hc hn).mono ?_
  rintro e w1 ⟨A1, m1, c1, rfl, r1, b1⟩
  clear hb
  go_wp2_with fail
  refine (anyEdges_r _ _ _ _ _ _ r1 (by omega)).mono ?_
  rintro e w2 ⟨z, Az, cz, q2, rfl, hz, hq1, hq2, r2, g2⟩
  have hs1 := r1.1.lt
  have hB2 := gbelow b1 g2 (Nat.le_refl _)
  have hZ2 : ZB w1 z Az cz w2 := ⟨hz.1, by have := hz.2.1; omega, hz.2.2.1⟩
  clear r1 b1 g2 hz
  have hF := ClosF_two z
  go_wp2_with fail
  refine (Closure_s Az cz z w2 (SlOw.at_ entO hZ2.1) (by have := hZ2.2.1; omega) (fun e he => by have := hZ2.2.2 e he; omega)).mono ?_
  rintro e w3 ⟨Ay, cy, rfl, hy, b3⟩
  generalize ClosF z = y at *
  have hs2 : w.heap.size < w2.heap.size := r2.1.lt
  have hY3 : ZB w2 y Ay cy w3 := ⟨hy, hF⟩
  have hZ3 := hZ2.below b3
  have r3 := r2.below b3
  have hB3 := btr hB2 b3
  clear hy hF hZ2 b3 r2 hB2
  have hs3 : w.heap.size < w3.heap.size := r3.1.lt
  go_wp2_with fail
  refine (randomEdges_r _ _ _ _ _ _ r3 (by omega)).mono ?_
  rintro e w4 ⟨x, Ax, cx, q4, rfl, hx, hxl, hxr, -, hq3, hq4, r4, g4⟩
  have hX4 : ZB w3 x Ax cx w4 := ⟨hx, by omega, fun e he => by have := hxr e he; omega⟩
  have hZ4 := hZ3.kept g4 hs1
  have hY4 := hY3.kept g4 hs2
  have hB4 := gbelow hB3 g4 (Nat.le_refl _)
  clear hx hxl hxr hZ3 hY3 r3 g4 hB3
  go_wp2_with fail
  refine (pick_r _ _ _ _ _ _ _ r4 (by omega) (by omega)).mono ?_
  rintro e w5 ⟨j, rfl, a0, -, r5, g5⟩
  have hZ5 := hZ4.kept g5 hs1
  have hY5 := hY4.kept g5 hs2
  have hX5 := hX4.kept g5 hs3
  have hB5 := gbelow hB4 g5 (Nat.le_refl _)
  have hs5 : w.heap.size < w5.heap.size := r5.1.lt
  clear hZ4 hY4 hX4 hB4 r4 g5
  by_cases hj : j = 0
  · subst hj
    rcases Nat.eq_zero_or_pos z.length with h0 | hpos
    · have hb5 : ¬ ((0 : Int) < z.length) := by omega
      clear h0
      go_wp2_with fail
      refine (pick_r _ _ _ _ _ _ _ r5 (by omega) (by omega)).mono ?_
      rintro e w9 ⟨i, rfl, -, -, r9, g9⟩
      have HZ := Lib.hid (hZ5.kept g9 hs1).ed
      have hY9 := (hY5.kept g9 hs2).ed
      have HX := Lib.hid (hX5.kept g9 hs3).ed
      have HB := Lib.hid (gbelow hB5 g9 (Nat.le_refl _))
      have hyc := hY9.2.1
      clear hZ5 hY5 hX5 hB5 r5 r9 g9
      by_cases hi : i = 0
      · subst hi
        rcases Nat.eq_zero_or_pos y.length with hy0 | hy0
        · have hb9 : ¬ ((0 : Int) < y.length) := by omega
          have HY := Lib.hid hY9
          clear hY9 hy0
          go_wp2
          go_ret3
          exact ⟨z, y, _, Az, Ay, _, cz, cy, _, rfl, HZ.out, HY.out, HX.out, HB.out⟩
        · have hb9 : (0 : Int) < y.length := by omega
          have hle : (1 : Int) ≤ y.length := by omega
          have hl1 : Hid ((y.drop 1).length = y.length - 1) := List.length_drop
          by_cases hc1 : cy = 1
          · subst hc1
            have hl0 : Hid ((y.drop 1).length = 0) := by rw [Hid, List.length_drop]; omega
            have HY : Hid (EdP w9 Ay 0 (y.drop 1)) := by have := hY9.tail 1; simpa [Hid] using this
            clear hY9 hy0
            go_wp2
            go_ret3
            exact ⟨z, y.drop 1, x, Az, Ay, Ax, cz, 0, cx, (by show Ending.returned (.tuple #[.slice Az z.length cz, .slice Ay 0 0, .slice Ax x.length cx]) = _; rw [hl0.out]), HZ.out, HY.out, HX.out, HB.out⟩
          · have HY : Hid (EdP w9 (Ay.map (·.add (1 * 2))) (cy - 1) (y.drop 1)) := by have := hY9.tail 1; rw [if_neg hc1] at this; exact this
            clear hY9 hy0
            go_wp2
            go_ret3
            exact ⟨z, y.drop 1, x, Az, Ay.map (·.add (1 * 2)), Ax, cz, cy - 1, cx, (by show Ending.returned (.tuple #[.slice Az z.length cz, .slice (Ay.map (·.add (1 * 2))) (y.length - 1) (cy - 1), .slice Ax x.length cx]) = _; rw [hl1.out]), HZ.out, HY.out, HX.out, HB.out⟩
      · have hni : (i == 0) = false := by simpa using hi
        have HY := Lib.hid hY9
        clear hY9 hi
        go_wp2
        go_ret3
        exact ⟨z, y, _, Az, Ay, _, cz, cy, _, rfl, HZ.out, HY.out, HX.out, HB.out⟩
    · have hb5 : (0 : Int) < z.length := by omega
      have hzc := EntsOw.cap hZ5.1
      have hzl := hZ5.2.1
      go_wp2_with fail
      refine (pick_r _ _ _ _ _ _ _ r5 (by omega) (by omega)).mono ?_
      rintro e w6 ⟨k0, rfl, k1, k2, r6, g6⟩
      have hk2 := k2 (by omega)
      obtain ⟨k, rfl⟩ := Int.eq_ofNat_of_zero_le k1
      have hZ6 := hZ5.kept g6 hs1
      have hY6 := hY5.kept g6 hs2
      have hB6 := gbelow hB5 g6 (Nat.le_refl _)
      clear hZ5 hY5 hX5 hB5 r5 g6 k2
      go_wp2_with fail
      refine (pick_r _ _ _ _ _ _ _ r6 (by omega) (by omega)).mono ?_
      rintro e w7 ⟨l0, rfl, l1, l2, r7, g7⟩
      have hl2 := l2 (by omega)
      obtain ⟨l, rfl⟩ := Int.eq_ofNat_of_zero_le l1
      have hZ7 := hZ6.kept g7 hs1
      have hY7 := hY6.kept g7 hs2
      have hB7 := gbelow hB6 g7 (Nat.le_refl _)
      have hs7 : w.heap.size < w7.heap.size := r7.1.lt
      clear hZ6 hY6 hB6 r6 g7 l2
      have hlo : (0 : Int) ≤ k := by omega
      have hlh : (k : Int) ≤ (k : Int) + 1 + l := by omega
      have hhc : (k : Int) + 1 + l ≤ cz := by omega
      have hnt : ((k : Int) + 1 + l).toNat - k = 1 + l := by omega
      have hck : ¬ cz = k := by omega
      have hcp := copyZSet_s (Az.map (·.add (k * 2))) (cz - k) ((z.drop k).take (1 + l)) w7 (by have := hZ7.ed.1.dropC hzc k; rw [if_neg hck] at this; exact this.takeC _) (by rw [List.length_take, List.length_drop]; omega) (fun e he => by have := hZ7.2.2 e (List.mem_of_mem_drop (List.mem_of_mem_take he)); omega)
      have hxl : ((z.drop k).take (1 + l)).length = 1 + l := by rw [List.length_take, List.length_drop]; omega
      have HXR := Lib.hid (fun e (he : e ∈ (z.drop k).take (1 + l)) => hZ7.2.2 e (List.mem_of_mem_drop (List.mem_of_mem_take he)))
      generalize (z.drop k).take (1 + l) = v at *
      rw [hxl] at hcp
      go_wp2_with fail
      refine hcp.mono ?_
      clear hcp
      rintro e w8 ⟨Av, cv, rfl, hv, b8⟩
      have hX8 : ZB w7 v Av cv w8 := ⟨hv, by omega, HXR.out⟩
      have hZ8 := hZ7.below b8
      have hY8 := hY7.below b8
      have hB8 := btr hB7 b8
      have r8 := r7.below b8
      clear hZ7 hY7 hB7 r7 b8 hv hlh hhc hnt
      go_wp2_with fail
      refine (pick_r _ _ _ _ _ _ _ r8 (by omega) (by omega)).mono ?_
      rintro e w9 ⟨i, rfl, -, -, r9, g9⟩
      have HZ := Lib.hid (hZ8.kept g9 hs1).ed
      have hY9 := (hY8.kept g9 hs2).ed
      have HX := Lib.hid (hX8.kept g9 hs7).ed
      have HB := Lib.hid (gbelow hB8 g9 (Nat.le_refl _))
      have hyc := hY9.2.1
      clear hZ8 hY8 hX8 hB8 r8 r9 g9
      by_cases hi : i = 0
      · subst hi
        rcases Nat.eq_zero_or_pos y.length with hy0 | hy0
        · have hb9 : ¬ ((0 : Int) < y.length) := by omega
          have HY := Lib.hid hY9
          clear hY9 hy0
          go_wp2
          go_ret3
          exact ⟨z, y, v, Az, Ay, Av, cz, cy, cv, (by show Ending.returned (.tuple #[.slice Az z.length cz, .slice Ay y.length cy, .slice Av (1 + l) cv]) = _; rw [hxl]), HZ.out, HY.out, HX.out, HB.out⟩
        · have hb9 : (0 : Int) < y.length := by omega
          have hle : (1 : Int) ≤ y.length := by omega
          have hl1 : Hid ((y.drop 1).length = y.length - 1) := List.length_drop
          by_cases hc1 : cy = 1
          · subst hc1
            have hl0 : Hid ((y.drop 1).length = 0) := by rw [Hid, List.length_drop]; omega
            have HY : Hid (EdP w9 Ay 0 (y.drop 1)) := by have := hY9.tail 1; simpa [Hid] using this
            clear hY9 hy0
            go_wp2
            go_ret3
            exact ⟨z, y.drop 1, v, Az, Ay, Av, cz, 0, cv, (by show Ending.returned (.tuple #[.slice Az z.length cz, .slice Ay 0 0, .slice Av (1 + l) cv]) = _; rw [hl0.out]; rw [hxl]), HZ.out, HY.out, HX.out, HB.out⟩
          · have HY : Hid (EdP w9 (Ay.map (·.add (1 * 2))) (cy - 1) (y.drop 1)) := by have := hY9.tail 1; rw [if_neg hc1] at this; exact this
            clear hY9 hy0
            go_wp2
            go_ret3
            exact ⟨z, y.drop 1, v, Az, Ay.map (·.add (1 * 2)), Av, cz, cy - 1, cv, (by show Ending.returned (.tuple #[.slice Az z.length cz, .slice (Ay.map (·.add (1 * 2))) (y.length - 1) (cy - 1), .slice Av (1 + l) cv]) = _; rw [hl1.out]; rw [hxl]), HZ.out, HY.out, HX.out, HB.out⟩
      · have hni : (i == 0) = false := by simpa using hi
        have HY := Lib.hid hY9
        clear hY9 hi
        go_wp2
        go_ret3
        exact ⟨z, y, v, Az, Ay, Av, cz, cy, cv, (by show Ending.returned (.tuple #[.slice Az z.length cz, .slice Ay y.length cy, .slice Av (1 + l) cv]) = _; rw [hxl]), HZ.out, HY.out, HX.out, HB.out⟩
  · have hnj : (j == 0) = false := by simpa using hj
    clear hj
    go_wp2_with fail
    refine (pick_r _ _ _ _ _ _ _ r5 (by omega) (by omega)).mono ?_
    rintro e w9 ⟨i, rfl, -, -, r9, g9⟩
    have HZ := Lib.hid (hZ5.kept g9 hs1).ed
    have hY9 := (hY5.kept g9 hs2).ed
    have HX := Lib.hid (hX5.kept g9 hs3).ed
    have HB := Lib.hid (gbelow hB5 g9 (Nat.le_refl _))
    have hyc := hY9.2.1
    clear hZ5 hY5 hX5 hB5 r5 r9 g9
    by_cases hi : i = 0
    · subst hi
      rcases Nat.eq_zero_or_pos y.length with hy0 | hy0
      · have hb9 : ¬ ((0 : Int) < y.length) := by omega
        have HY := Lib.hid hY9
        clear hY9 hy0
        go_wp2
        go_ret3
        exact ⟨z, y, _, Az, Ay, _, cz, cy, _, rfl, HZ.out, HY.out, HX.out, HB.out⟩
      · have hb9 : (0 : Int) < y.length := by omega
        have hle : (1 : Int) ≤ y.length := by omega
        have hl1 : Hid ((y.drop 1).length = y.length - 1) := List.length_drop
        by_cases hc1 : cy = 1
        · subst hc1
          have hl0 : Hid ((y.drop 1).length = 0) := by rw [Hid, List.length_drop]; omega
          have HY : Hid (EdP w9 Ay 0 (y.drop 1)) := by have := hY9.tail 1; simpa [Hid] using this
          clear hY9 hy0
          go_wp2
          go_ret3
          exact ⟨z, y.drop 1, x, Az, Ay, Ax, cz, 0, cx, (by show Ending.returned (.tuple #[.slice Az z.length cz, .slice Ay 0 0, .slice Ax x.length cx]) = _; rw [hl0.out]), HZ.out, HY.out, HX.out, HB.out⟩
        · have HY : Hid (EdP w9 (Ay.map (·.add (1 * 2))) (cy - 1) (y.drop 1)) := by have := hY9.tail 1; rw [if_neg hc1] at this; exact this
          clear hY9 hy0
          go_wp2
          go_ret3
          exact ⟨z, y.drop 1, x, Az, Ay.map (·.add (1 * 2)), Ax, cz, cy - 1, cx, (by show Ending.returned (.tuple #[.slice Az z.length cz, .slice (Ay.map (·.add (1 * 2))) (y.length - 1) (cy - 1), .slice Ax x.length cx]) = _; rw [hl1.out]), HZ.out, HY.out, HX.out, HB.out⟩
    · have hni : (i == 0) = false := by simpa using hi
      have HY := Lib.hid hY9
      clear hY9 hi
      go_wp2
      go_ret3
      exact ⟨z, y, _, Az, Ay, _, cz, cy, _, rfl, HZ.out, HY.out, HX.out, HB.out⟩
theorem DrawClosureInsert_r (A : Option Addr) (n c : Nat) (w : World) (hb : BytesAt w w.heap.size A n) (hc : n ≤ c) (hn : n ≤ 1048576) :
    Calls Try.prog 32 #[.slice A n c] w (ThreeE w) := by
  go_enter Try.func32, Try.ntmps32
  go_wp2_with fail
  refine (maintained_r _ _ _ _ hb hc hn).mono ?_
  rintro e w1 ⟨z, y, x, A1, A2, A3, c1, c2, c3, rfl, hz, hy, hx, b1⟩
  clear hb
  go_wp2_with fail
  go_ret3
  exact ⟨z, y, x, A1, A2, A3, c1, c2, c3, rfl, hz, hy, hx, b1⟩
theorem DrawOverdelete_r (A : Option Addr) (n c : Nat) (w : World) (hb : BytesAt w w.heap.size A n) (hc : n ≤ c) (hn : n ≤ 1048576) :
    Calls Try.prog 40 #[.slice A n c] w (ThreeE w) := by
  go_enter Try.func40, Try.ntmps40
  go_wp2_with fail
  refine (maintained_r _ _ _ _ hb hc hn).mono ?_
  rintro e w1 ⟨z, y, x, A1, A2, A3, c1, c2, c3, rfl, hz, hy, hx, b1⟩
  clear hb
  go_wp2_with fail
  go_ret3
  exact ⟨z, y, x, A1, A2, A3, c1, c2, c3, rfl, hz, hy, hx, b1⟩
theorem DrawRederive_r (A : Option Addr) (n c : Nat) (w : World) (hb : BytesAt w w.heap.size A n) (hc : n ≤ c) (hn : n ≤ 1048576) :
    Calls Try.prog 44 #[.slice A n c] w (ThreeE w) := by
  go_enter Try.func44, Try.ntmps44
  go_wp2_with fail
  refine (maintained_r _ _ _ _ hb hc hn).mono ?_
  rintro e w1 ⟨z, y, x, A1, A2, A3, c1, c2, c3, rfl, hz, hy, hx, b1⟩
  clear hb
  go_wp2_with fail
  go_ret3
  exact ⟨z, y, x, A1, A2, A3, c1, c2, c3, rfl, hz, hy, hx, b1⟩
theorem DrawClosureDelete_r (A : Option Addr) (n c : Nat) (w : World) (hb : BytesAt w w.heap.size A n) (hc : n ≤ c) (hn : n ≤ 1048576) :
    Calls Try.prog 36 #[.slice A n c] w (ThreeE w) := by
  go_enter Try.func36, Try.ntmps36
  go_wp2_with fail
  refine (maintained_r _ _ _ _ hb hc hn).mono ?_
  rintro e w1 ⟨z, y, x, A1, A2, A3, c1, c2, c3, rfl, hz, hy, hx, b1⟩
  clear hb
  go_wp2_with fail
  go_ret3
  exact ⟨z, y, x, A1, A2, A3, c1, c2, c3, rfl, hz, hy, hx, b1⟩
end Go.Proofs.Ytageodemjlgdcaa
