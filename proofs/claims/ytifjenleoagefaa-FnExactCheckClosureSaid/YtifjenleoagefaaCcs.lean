/- HELPER, no statement of the seat: the model's CheckClosure. -/
import Derived.Test.YtifjenleoagefaaSup
import Derived.Test.YtifjenleoagefaaCap
import Derived.Test.YtifjenleoagefaaCcm
namespace Go.Proofs.Ytifjenleoagefaa
open Go.RowKit Go.Sort Go.Shelf
set_option linter.unusedSimpArgs false
set_option linter.unusedVariables false

theorem inRB (n lo hi : Int) (b : Bool) (h : inB n lo hi = b) (w : World) : Calls Try.prog 48 #[.int .i64 n, .int .i64 lo, .int .i64 hi] w fun e w' => e = .returned (.bool b) ∧ Below w.heap.size w w' :=
  (inRange_any n lo hi w).mono fun e w' ⟨he, hw⟩ => ⟨by rw [he, ← h], hw ▸ Below.refl _ _⟩
theorem dinB (D : Option Addr) (d : Nat) (ds : List Ent) (x y r : Int) (w : World) (hx : EntsAt w D ds) (hn : ds.length ≤ 4194304) (h3 : ∀ e ∈ ds, e.1.length = 3) (hr : dinL ds x y = r) :
    Calls Try.prog 38 #[.slice D ds.length d, .int .i64 x, .int .i64 y] w fun e w' => e = .returned (.int .i64 r) ∧ Below w.heap.size w w' :=
  (distanceIn_s D d ds x y w hx hn h3).mono fun e w' ⟨he, hw⟩ => ⟨by rw [he, ← hr], hw ▸ Below.refl _ _⟩
theorem rowOk_form (es ds : List Ent) (i : Nat) : rowOkB es ds i = (decide ((nth ds i).1.length = 3) && ((inB (gi (nth ds i).1 0) 0 19 && (inB (gi (nth ds i).1 1) 0 19 && decide (1 ≤ gi (nth ds i).1 2))) && (!adjB ds i && supB es ds (nth ds i).1))) := rfl
theorem edgOk_form (es ds : List Ent) (i k : Nat) : edgOkB es ds i k = !(decide (gi (nth es k).1 0 = gi (nth ds i).1 1) && (decide (dinL ds (gi (nth ds i).1 0) (gi (nth es k).1 1) = 0) || decide (gi (nth ds i).1 2 + 1 < dinL ds (gi (nth ds i).1 0) (gi (nth es k).1 1)))) := rfl
theorem wid3 {ds : List Ent} (hz : zsB ds = true) {i : Nat} (hi : i < ds.length) (h : ds[i].1.length = 3) : ∀ e ∈ ds, e.1.length = 3 := fun e he => by
  rw [zsB_wid hz e he, ← zsB_wid hz ds[i] (List.getElem_mem hi), h]
theorem take2_of {xs : List Int} (h : xs.length = 3) : xs.take 2 = [gi xs 0, gi xs 1] := by rw [row3 h]; rfl
theorem IntsAt.two0 {w : World} {b off : Nat} {xs : List Int} (h : IntsAt w (some ⟨b, off, none⟩) xs) (h3 : xs.length = 3) : IntsAt w (some ⟨b, off, none⟩) [gi xs 0, gi xs 1] := by
  rw [← take2_of h3]; exact h.take 2
set_option maxRecDepth 100000 in
set_option maxHeartbeats 12800000 in
theorem CheckClosure_s (A : Option Addr) (c : Nat) (es : List Ent) (D : Option Addr) (d : Nat) (ds : List Ent) (w : World) (hx : EntsAt w A es) (hy : EntsC w D ds) (hn : es.length ≤ 4194304) (hr : rowsIn es 4194304) (hm : ds.length ≤ 4194304) (hrd : rowsIn ds 4194304) :
    Calls Try.prog 18 #[.slice A es.length c, .slice D ds.length d] w fun e w' => e = .returned (.bool (cckS es ds)) ∧ Below w.heap.size w w' := by
  have hv := validEdges_s A c es w hx hn hr
  have hvz := fun W (hb : Below w.heap.size w W) => validZSet_s D d ds W (hy.at_.below entR hb) hm hrd
  have his := fun W (hb : Below w.heap.size w W) => isSet_s D d ds W (hy.at_.below entR hb) hm
  have HX := Lib.hid hx
  have HY := Lib.hid hy
  clear hx hy
  cases h1 : edgB es
  · have HR : Hid (cckS es ds = false) := by simp [Hid, cckS, h1]
    rw [h1] at hv
    clear h1
    go_enter Try.func18, Try.ntmps18
    go_wp2_with fail
    refine hv.mono ?_
    rintro e w1 ⟨rfl, b1⟩
    clear hv
    go_wp2
    go_ret
    exact ⟨ret_bool HR.out.symm, b1⟩
  rw [h1] at hv
  cases h2 : zsB ds
  · have HR : Hid (cckS es ds = false) := by simp [Hid, cckS, setB, h2]
    simp only [h2] at hvz
    clear h1 h2
    go_enter Try.func18, Try.ntmps18
    go_wp2_with fail
    refine hv.mono ?_
    rintro e w1 ⟨rfl, b1⟩
    clear hv
    go_wp2_with fail
    refine (hvz _ b1).mono ?_
    rintro e w2 ⟨rfl, b2⟩
    have hb2 := btr b1 b2
    clear hvz b1 b2
    go_wp2
    go_ret
    exact ⟨ret_bool HR.out.symm, hb2⟩
  simp only [h2] at hvz
  cases h3 : oneB ds
  · have HR : Hid (cckS es ds = false) := by simp [Hid, cckS, setB, h3]
    simp only [h3] at his
    clear h1 h2 h3
    go_enter Try.func18, Try.ntmps18
    go_wp2_with fail
    refine hv.mono ?_
    rintro e w1 ⟨rfl, b1⟩
    clear hv
    go_wp2_with fail
    refine (hvz _ b1).mono ?_
    rintro e w2 ⟨rfl, b2⟩
    have hb2 := btr b1 b2
    clear hvz b1 b2
    go_wp2_with fail
    refine (his _ hb2).mono ?_
    rintro e w3 ⟨rfl, b3⟩
    have hb3 := btr hb2 b3
    clear his hb2 b3
    go_wp2
    go_ret
    exact ⟨ret_bool HR.out.symm, hb3⟩
  simp only [h3] at his
  have HDEF : Hid (cckS es ds = (allTo (fun i => rowOkB es ds i && allTo (edgOkB es ds i) es.length) ds.length && allTo (fun k => decide (dinL ds (gi (nth es k).1 0) (gi (nth es k).1 1) = 1)) es.length)) := by
    rw [Hid, cckS, h1, setB, h2, h3]; rfl
  have HNO1 : Hid (∀ i, i < ds.length → rowOkB es ds i = false → Hid (cckS es ds = false)) := fun i hi h => by
    rw [Hid, HDEF.out, allTo_bad hi (by rw [h]; rfl)]; rfl
  have HNO2 : Hid (∀ i k, i < ds.length → k < es.length → edgOkB es ds i k = false → Hid (cckS es ds = false)) := fun i k hi hk h => by
    rw [Hid, HDEF.out, allTo_bad hi (by rw [allTo_bad hk h, Bool.and_false])]; rfl
  have HNO3 : Hid (∀ k, k < es.length → decide (dinL ds (gi (nth es k).1 0) (gi (nth es k).1 1) = 1) = false → Hid (cckS es ds = false)) := fun k hk h => by
    rw [Hid, HDEF.out, allTo_bad hk h, Bool.and_false]
  have HZ := Lib.hid h2
  have HE := Lib.hid h1
  clear h1 h2 h3
  go_enter Try.func18, Try.ntmps18
  go_wp2_with fail
  refine hv.mono ?_
  rintro e w1 ⟨rfl, b1⟩
  clear hv
  go_wp2_with fail
  refine (hvz _ b1).mono ?_
  rintro e w2 ⟨rfl, b2⟩
  have hb2 := btr b1 b2
  clear hvz b1 b2
  go_wp2_with fail
  refine (his _ hb2).mono ?_
  rintro e w3 ⟨rfl, b3⟩
  have hb3 := btr hb2 b3
  clear his hb2 b3
  go_wp2
  go_loopw [5, 6, 7, 8] (fun iv _ _ _ wr => ∃ i : Nat, i ≤ ds.length ∧ iv = .int .i64 (i : Nat) ∧ Hid (allTo (fun i => rowOkB es ds i && allTo (edgOkB es ds i) es.length) i = true) ∧ Below w.heap.size w wr) (fun iv _ _ _ _ => ds.length - (intOf iv).toNat)
  case atStart => exact ⟨0, by omega, rfl, rfl, hb3⟩
  case round =>
    clear hb3
    obtain ⟨i, hi, rfl, HI, hbel⟩ := hrel
    by_cases hlt : i < ds.length
    · obtain ⟨V, hV⟩ : ∃ V : World, V = wr := ⟨_, rfl⟩
      subst hV
      have hltI : (i : Int) < ds.length := by omega
      obtain ⟨b, off, RA, rc, hAe, hbl, hc0, -, hcl, hcm, hrow⟩ := HY.out.get i hlt
      subst hAe
      have q0 := (hbel.cell (p := ⟨b, off + i * 2, none⟩) hbl).trans hc0
      have hbV := Nat.lt_of_lt_of_le hbl hbel.size
      have HROW := Lib.hid (rowOk_form es ds i)
      have hno1 := HNO1.out i hlt
      by_cases hl : ds[i].1.length = 3
      rotate_left
      · have HR := hno1 (by rw [HROW.out, nth_get hlt, decide_eq_false hl]; rfl)
        have hne : ((ds[i].1.length : Int) != 3) = true := by rw [bne_iff_ne]; omega
        generalize ds[i].1.length = rl at *
        clear hc0 hrow hno1 HROW HI HNO1 HNO2 HNO3 HDEF hl
        go_wp2_with fail
        refine wp_region_quiet_below (by kernel_rfl) (by kernel_rfl) ?_
        repeat (go_big_quiet_step (first | (go_at_call 48; first | with_reducible exact Calls.regrown_of (hi0 _) | with_reducible exact Calls.regrown_of (hi1 _)) | (go_at_call 49; exact Calls.regrown_of (heq _ (below_regrown _ _ _))) | (go_at_call 50; exact Calls.regrown_of (hsup _ (below_regrown _ _ _)))))
        refine wpQuiet_nil ?_
        intro w4 hw4
        obtain ⟨⟨dq, osq⟩, rfl⟩ := hw4
        have hbq := btr hbel (below_regrown _ dq osq)
        generalize grow (redrawn _ dq) osq = wq at *
        go_wp2
        go_ret
        exact ⟨ret_bool HR.out.symm, hbq⟩
      have h3a := wid3 HZ.out hlt hl
      have H3A := Lib.hid h3a
      clear h3a
      obtain ⟨rb, ro, rfl⟩ := hrow.open2 (by omega)
      have k0 := IntsAt.cellG hrow (k := 0) (by omega)
      have k1 := IntsAt.cellG hrow (k := 1) (by omega)
      have k2 := IntsAt.cellG hrow (k := 2) (by omega)
      rw [Nat.add_zero] at k0
      have hb0 := k0.1
      have z0 := (hbel.cell (p := ⟨rb, ro, none⟩) hb0).trans k0.2
      have z1 := (hbel.cell (p := ⟨rb, ro + 1, none⟩) hb0).trans k1.2
      have z2 := (hbel.cell (p := ⟨rb, ro + 2, none⟩) hb0).trans k2.2
      have c0 := cgrow z0
      have c1 := cgrow z1
      have c2 := cgrow z2
      have hx9 : gi ds[i].1 2 ≤ 9999 := by
        have hrr := (zsB_get HZ.out hlt).1
        simp only [rowB, decide_eq_true_eq] at hrr
        refine (hrr.2.2 (gi ds[i].1 2) ?_).2
        have h2l : 2 < ds[i].1.length := by omega
        rw [gi, List.getD_eq_getElem?_getD, List.getElem?_eq_getElem h2l, Option.getD_some]
        exact List.getElem_mem h2l
      have hsp := fun W (hb : Below w.heap.size w W) (hlo : 1 ≤ gi ds[i].1 2) => supported_s A c es (some ⟨b, off, none⟩) d ds rb ro rc ds[i].1 W (HX.out.below entR hb) (HY.out.at_.below entR hb) (hrow.below hb) hl (by omega) hlo hx9 hn hr hm hrd
      have hr2 := Lib.hid (hrow.two0 hl)
      have hrc : 3 ≤ rc := by omega
      have hrcI : (2 : Int) ≤ rc := by omega
      have hrcM : (rc : Int) ≤ 9223372036854775807 := by unfold maxLen at hcm; omega
      have HT2 := Lib.hid (take2_of hl)
      rw [nth_get hlt] at HROW
      rw [hl] at q0
      have HEDG := Lib.hid (fun k => edgOk_form es ds i k)
      rw [nth_get hlt] at HEDG
      have HROW2 : Hid (rowOkB es ds i = ((inB (gi ds[i].1 0) 0 19 && (inB (gi ds[i].1 1) 0 19 && decide (1 ≤ gi ds[i].1 2))) && (!adjB ds i && supB es ds ds[i].1))) := by rw [Hid, HROW.out, decide_eq_true hl, Bool.true_and]
      clear k0 k1 k2 hc0 hrow HROW hl
      generalize gi ds[i].1 0 = x0 at *
      generalize gi ds[i].1 1 = x1 at *
      generalize gi ds[i].1 2 = x2 at *
      generalize supB es ds ds[i].1 = su at *
      cases h0 : inB x0 0 19
      · have HR := hno1 (by rw [HROW2.out, h0]; rfl)
        have hi0 := fun W => inRB x0 0 19 false h0 W
        clear hno1 HROW2 HI HNO1 HNO2 HNO3 HDEF HEDG hsp h0
        go_wp2_with fail
        refine wp_region_quiet_below (by kernel_rfl) (by kernel_rfl) ?_
        repeat (go_big_quiet_step (first | (go_at_call 48; first | with_reducible exact Calls.regrown_of (hi0 _) | with_reducible exact Calls.regrown_of (hi1 _)) | (go_at_call 49; exact Calls.regrown_of (heq _ (below_regrown _ _ _))) | (go_at_call 50; exact Calls.regrown_of (hsup _ (below_regrown _ _ _)))))
        refine wpQuiet_nil ?_
        intro w4 hw4
        obtain ⟨⟨dq, osq⟩, rfl⟩ := hw4
        have hbq := btr hbel (below_regrown _ dq osq)
        generalize grow (redrawn _ dq) osq = wq at *
        go_wp2
        go_ret
        exact ⟨ret_bool HR.out.symm, hbq⟩
      have hi0 := fun W => inRB x0 0 19 true h0 W
      cases h1 : inB x1 0 19
      · have HR := hno1 (by rw [HROW2.out, h0, h1]; rfl)
        have hi1 := fun W => inRB x1 0 19 false h1 W
        clear hno1 HROW2 HI HNO1 HNO2 HNO3 HDEF HEDG hsp h0 h1
        go_wp2_with fail
        refine wp_region_quiet_below (by kernel_rfl) (by kernel_rfl) ?_
        repeat (go_big_quiet_step (first | (go_at_call 48; first | with_reducible exact Calls.regrown_of (hi0 _) | with_reducible exact Calls.regrown_of (hi1 _)) | (go_at_call 49; exact Calls.regrown_of (heq _ (below_regrown _ _ _))) | (go_at_call 50; exact Calls.regrown_of (hsup _ (below_regrown _ _ _)))))
        refine wpQuiet_nil ?_
        intro w4 hw4
        obtain ⟨⟨dq, osq⟩, rfl⟩ := hw4
        have hbq := btr hbel (below_regrown _ dq osq)
        generalize grow (redrawn _ dq) osq = wq at *
        go_wp2
        go_ret
        exact ⟨ret_bool HR.out.symm, hbq⟩
      have hi1 := fun W => inRB x1 0 19 true h1 W
      by_cases h2 : 1 ≤ x2
      rotate_left
      · have HR := hno1 (by rw [HROW2.out, h0, h1, decide_eq_false h2]; rfl)
        have h2' : x2 < 1 := by omega
        clear hno1 HROW2 HI HNO1 HNO2 HNO3 HDEF HEDG hsp h0 h1 h2
        go_wp2_with fail
        refine wp_region_quiet_below (by kernel_rfl) (by kernel_rfl) ?_
        repeat (go_big_quiet_step (first | (go_at_call 48; first | with_reducible exact Calls.regrown_of (hi0 _) | with_reducible exact Calls.regrown_of (hi1 _)) | (go_at_call 49; exact Calls.regrown_of (heq _ (below_regrown _ _ _))) | (go_at_call 50; exact Calls.regrown_of (hsup _ (below_regrown _ _ _)))))
        refine wpQuiet_nil ?_
        intro w4 hw4
        obtain ⟨⟨dq, osq⟩, rfl⟩ := hw4
        have hbq := btr hbel (below_regrown _ dq osq)
        generalize grow (redrawn _ dq) osq = wq at *
        go_wp2
        go_ret
        exact ⟨ret_bool HR.out.symm, hbq⟩
      have h2B : decide (x2 < 1) = false := decide_eq_false (by omega)
      have hsp2 := fun W hb => hsp W hb h2
      have HROW3 : Hid (rowOkB es ds i = (!adjB ds i && su)) := by rw [Hid, HROW2.out, h0, h1, decide_eq_true h2]; rfl
      have e3 : IntKind.i64.wrap (x2 + 1) = x2 + 1 := by rw [IntKind.wrap_i64]; omega
      clear HROW2 hsp h0 h1
      by_cases hi0' : 0 < i
      rotate_left
      · have hgt : decide ((0 : Int) < i) = false := decide_eq_false (by omega)
        have hgN : decide (0 < i) = false := decide_eq_false hi0'
        have hadj : adjB ds i = false := by rw [adjB, decide_eq_false hi0']; rfl
        have HROW4 : Hid (rowOkB es ds i = su) := by rw [Hid, HROW3.out, hadj]; rfl
        clear hadj hi0' HROW3 HT2 hr2
        cases su
        · have HR := hno1 HROW4.out
          have hsup := fun W (hb : Below V.heap.size V W) => hsp2 W (btr hbel hb)
          clear hno1 HROW4 HI HNO1 HNO2 HNO3 HDEF HEDG hsp2
          go_wp2_with fail
          refine wp_region_quiet_below (by kernel_rfl) (by kernel_rfl) ?_
          repeat (go_big_quiet_step (first | (go_at_call 48; first | with_reducible exact Calls.regrown_of (hi0 _) | with_reducible exact Calls.regrown_of (hi1 _)) | (go_at_call 49; exact Calls.regrown_of (heq _ (below_regrown _ _ _))) | (go_at_call 50; exact Calls.regrown_of (hsup _ (below_regrown _ _ _)))))
          refine wpQuiet_nil ?_
          intro w4 hw4
          obtain ⟨⟨dq, osq⟩, rfl⟩ := hw4
          have hbq := btr hbel (below_regrown _ dq osq)
          generalize grow (redrawn _ dq) osq = wq at *
          go_wp2
          go_ret
          exact ⟨ret_bool HR.out.symm, hbq⟩
        have hsup := fun W (hb : Below V.heap.size V W) => hsp2 W (btr hbel hb)
        clear hno1 hsp2
        go_wp2_with fail
        refine wp_region_quiet_below (by kernel_rfl) (by kernel_rfl) ?_
        repeat (go_big_quiet_step (first | (go_at_call 48; first | with_reducible exact Calls.regrown_of (hi0 _) | with_reducible exact Calls.regrown_of (hi1 _)) | (go_at_call 49; exact Calls.regrown_of (heq _ (below_regrown _ _ _))) | (go_at_call 50; exact Calls.regrown_of (hsup _ (below_regrown _ _ _)))))
        refine wpQuiet_nil ?_
        intro w4 hw4
        obtain ⟨⟨dq, osq⟩, rfl⟩ := hw4
        have hb7 := And.intro (btr hbel (below_regrown _ dq osq)) (below_regrown V dq osq)
        generalize grow (redrawn _ dq) osq = wq at *
        have HB7 := Lib.hid hb7
        have HRI := Lib.hid (HROW4.out)
        clear hb7 hsup  hi0 hi1 q0 c0 c1 c2 HROW4
        have HZ2 := Lib.hid (And.intro z0 (And.intro z1 (And.intro z2 hb0)))
        clear z0 z1 z2
        go_wp2
        go_loopw [7, 8] (fun kv _ wr => ∃ k : Nat, k ≤ es.length ∧ kv = .int .i64 (k : Nat) ∧ Hid (allTo (edgOkB es ds i) k = true) ∧ Below w.heap.size w wr ∧ Below V.heap.size V wr) (fun kv _ _ => es.length - (intOf kv).toNat)
        case atStart => exact ⟨0, by omega, rfl, rfl, HB7.out.1, HB7.out.2⟩
        case round =>
          clear HB7
          obtain ⟨k, hk, rfl, HK, hbw, hbv⟩ := hrel
          by_cases hkl : k < es.length
          · have hkI : (k : Int) < es.length := by omega
            obtain ⟨eb, eo, EA, ec, hAe, hel, hq0, -, -, herow⟩ := HX.out.get k hkl
            obtain ⟨u, v, hu, hv', ek, -⟩ := edge_nth HE.out hkl
            rw [nth_get hkl] at ek
            have hl2 : es[k].1.length = 2 := by rw [ek]; rfl
            subst hAe
            obtain ⟨fb, fo, rfl⟩ := herow.open2 (by omega)
            have f0 := IntsAt.cellG herow (k := 0) (by omega)
            have f1 := IntsAt.cellG herow (k := 1) (by omega)
            rw [Nat.add_zero] at f0
            rw [hl2] at hq0
            have rE := (hbw.cell (p := ⟨eb, eo + k * 2, none⟩) hel).trans hq0
            have rF := (hbw.cell (p := ⟨fb, fo, none⟩) f0.1).trans f0.2
            have rG := (hbw.cell (p := ⟨fb, fo + 1, none⟩) f0.1).trans f1.2
            have hbV0 := Nat.lt_of_lt_of_le HZ2.out.2.2.2 hbel.size
            have r0 := (hbv.cell (p := ⟨rb, ro, none⟩) hbV0).trans HZ2.out.1
            have r1 := (hbv.cell (p := ⟨rb, ro + 1, none⟩) hbV0).trans HZ2.out.2.1
            have r2 := (hbv.cell (p := ⟨rb, ro + 2, none⟩) hbV0).trans HZ2.out.2.2.1
            have HEK : Hid (edgOkB es ds i k = !(decide (gi es[k].1 0 = x1) && (decide (dinL ds x0 (gi es[k].1 1) = 0) || decide (x2 + 1 < dinL ds x0 (gi es[k].1 1))))) := by rw [Hid, HEDG.out, nth_get hkl]
            have HS : Hid (edgOkB es ds i k = true → allTo (edgOkB es ds i) (k + 1) = true) := fun h => allTo_step HK.out h
            have HN := Lib.hid (HNO2.out i k hlt hkl)
            clear ek hl2 hq0 f0 f1 herow HK hu hv' hbV0
            generalize gi es[k].1 0 = y0 at *
            generalize gi es[k].1 1 = y1 at *
            obtain ⟨dz, hdz⟩ : ∃ z, dinL ds x0 y1 = z := ⟨_, rfl⟩
            have hdi := fun W (hb : Below wr.heap.size wr W) => dinB (some ⟨b, off, none⟩) d ds x0 y1 dz W (HY.out.at_.below entR (btr hbw hb)) hm H3A.out hdz
            rw [hdz] at HEK
            clear hdz
            have cE := cgrow rE
            have cG := cgrow rG
            have cX := cgrow r0
            have cF := cgrow rF
            have c1' := cgrow r1
            have c2' := cgrow r2
            clear rE rF rG r0 r1 r2
            go_wp2_with fail
            refine wp_region_quiet_below (by kernel_rfl) (by kernel_rfl) ?_
            repeat (go_big_quiet_step ((go_at_call 38; exact Calls.regrown_of (hdi _ (below_regrown _ _ _)))))
            refine wpQuiet_nil ?_
            intro w4 hw4
            obtain ⟨⟨dq, osq⟩, rfl⟩ := hw4
            have hbw2 := btr hbw (below_regrown _ dq osq)
            have hbv2 := btr hbv (below_regrown wr dq osq)
            have sE := cgrow (cE dq osq)
            have sF := cgrow (cF dq osq)
            have s1 := cgrow (c1' dq osq)
            have s2 := cgrow (c2' dq osq)
            clear cE cF cG cX c1' c2' hdi
            generalize grow (redrawn wr dq) osq = wq at *
            by_cases hy : y0 = x1
            rotate_left
            · have HS2 := Lib.hid (HS.out (by rw [HEK.out, decide_eq_false hy]; rfl))
              have hyb : (y0 == x1) = false := by simpa using hy
              clear HEK HS HN hy
              go_wp2_with fail
              refine wp_region_quiet_below (by kernel_rfl) (by kernel_rfl) ?_
              repeat (go_big_quiet_step (fail))
              refine wpQuiet_nil ?_
              intro w4 hw4
              obtain ⟨⟨dq, osq⟩, rfl⟩ := hw4
              have hbq := btr hbw2 (below_regrown _ dq osq)
              have hbv3 := btr hbv2 (below_regrown _ dq osq)
              generalize grow (redrawn _ dq) osq = wq at *
              clear sE sF s1 s2
              go_wp2
              go_roundw
              case rel => exact ⟨k + 1, by omega, by go_num, HS2.out, hbq, hbv3⟩
              case measure => simp [intOf]; omega
            have hyb : (y0 == x1) = true := by simpa using hy
            by_cases hz : dz = 0
            · have HR := HN.out (by rw [HEK.out, decide_eq_true hy, hz]; rfl)
              have hzb : (dz == 0) = true := by simpa using hz
              clear HEK HS HN hy hz
              go_wp2_with fail
              refine wp_region_quiet_below (by kernel_rfl) (by kernel_rfl) ?_
              repeat (go_big_quiet_step (fail))
              refine wpQuiet_nil ?_
              intro w4 hw4
              obtain ⟨⟨dq, osq⟩, rfl⟩ := hw4
              have hbq := btr hbw2 (below_regrown _ dq osq)
              generalize grow (redrawn _ dq) osq = wq at *
              clear sE sF s1 s2
              go_wp2
              go_ret
              exact ⟨ret_bool HR.out.symm, hbq⟩
            have hzb : (dz == 0) = false := by simpa using hz
            by_cases hg : x2 + 1 < dz
            · have HR := HN.out (by rw [HEK.out, decide_eq_true hy, decide_eq_false hz, decide_eq_true hg]; rfl)
              have hgb : decide (x2 + 1 < dz) = true := decide_eq_true hg
              clear HEK HS HN hy hz
              go_wp2_with fail
              refine wp_region_quiet_below (by kernel_rfl) (by kernel_rfl) ?_
              repeat (go_big_quiet_step (fail))
              refine wpQuiet_nil ?_
              intro w4 hw4
              obtain ⟨⟨dq, osq⟩, rfl⟩ := hw4
              have hbq := btr hbw2 (below_regrown _ dq osq)
              generalize grow (redrawn _ dq) osq = wq at *
              clear sE sF s1 s2
              go_wp2
              go_ret
              exact ⟨ret_bool HR.out.symm, hbq⟩
            · have HS2 := Lib.hid (HS.out (by rw [HEK.out, decide_eq_true hy, decide_eq_false hz, decide_eq_false hg]; rfl))
              have hgb : decide (x2 + 1 < dz) = false := decide_eq_false hg
              clear HEK HS HN hy hz hg
              go_wp2_with fail
              refine wp_region_quiet_below (by kernel_rfl) (by kernel_rfl) ?_
              repeat (go_big_quiet_step (fail))
              refine wpQuiet_nil ?_
              intro w4 hw4
              obtain ⟨⟨dq, osq⟩, rfl⟩ := hw4
              have hbq := btr hbw2 (below_regrown _ dq osq)
              have hbv3 := btr hbv2 (below_regrown _ dq osq)
              generalize grow (redrawn _ dq) osq = wq at *
              clear sE sF s1 s2
              go_wp2
              go_roundw
              case rel => exact ⟨k + 1, by omega, by go_num, HS2.out, hbq, hbv3⟩
              case measure => simp [intOf]; omega
          · obtain rfl : k = es.length := by omega
            have HSN : Hid (allTo (fun i => rowOkB es ds i && allTo (edgOkB es ds i) es.length) (i + 1) = true) := allTo_step HI.out (by rw [HRI.out, HK.out]; rfl)
            go_wp2
            go_roundw
            case rel => exact ⟨i + 1, by omega, by go_num, HSN.out, hbw⟩
            case measure => simp [intOf]; omega
      have hgt : decide ((0 : Int) < i) = true := decide_eq_true (by omega)
      have hgN : decide (0 < i) = true := decide_eq_true hi0'
      obtain ⟨m, HM⟩ : ∃ m, Hid (i = m + 1) := ⟨i - 1, by rw [Hid]; omega⟩
      have hml : m < ds.length := by have := HM.out; omega
      have hmI : (m : Int) < ds.length := by omega
      have e1 : IntKind.i64.wrap ((i : Int) - 1) = m := by have := HM.out; rw [IntKind.wrap_i64]; omega
      have e2 : IntKind.i64.wrap (m : Int) = m := by rw [IntKind.wrap_i64]; omega
      obtain ⟨b', off', PA, pc, hAe', hbl', hp0, -, hpl, hpm, hprow⟩ := HY.out.get m hml
      have qp := (hbel.cell (p := ⟨b', off' + m * 2, none⟩) hbl').trans hp0
      simp only [Option.some.injEq, Addr.mk.injEq, and_true] at hAe'
      obtain ⟨rfl, rfl⟩ := hAe'
      have hl3 := H3A.out _ (List.getElem_mem hml)
      obtain ⟨pb, po, rfl⟩ := hprow.open2 (by omega)
      have hp2 := Lib.hid (hprow.two0 hl3)
      rw [hl3] at qp
      have cp := cgrow qp
      have hadj : adjB ds i = decide ([gi ds[m].1 0, gi ds[m].1 1] = [x0, x1]) := by
        have hm1 : i - 1 = m := by have := HM.out; omega
        rw [adjB, decide_eq_true hi0', Bool.true_and, hm1, nth_get hml, nth_get hlt, HT2.out, take2_of hl3]
      have hpc : 3 ≤ pc := by omega
      have hpcI : (2 : Int) ≤ pc := by omega
      have hpcM : (pc : Int) ≤ 9223372036854775807 := by unfold maxLen at hpm; omega
      have heq0 := fun W (hb : Below V.heap.size V W) => equalInts_s (some ⟨pb, po, none⟩) (some ⟨rb, ro, none⟩) pc rc [gi ds[m].1 0, gi ds[m].1 1] [x0, x1] W (hp2.out.below (btr hbel hb)) (hr2.out.below (btr hbel hb)) (by simp) (by simp)
      simp only [← hadj] at heq0
      rw [show ([gi ds[m].1 0, gi ds[m].1 1] : List Int).length = 2 from rfl, show ([x0, x1] : List Int).length = 2 from rfl] at heq0
      clear hp0 hprow hl3 qp hadj hp2 hr2 HT2 hpl hi0'
      cases had : adjB ds i
      rotate_left
      · have HR := hno1 (by rw [HROW3.out, had]; rfl)
        rw [had] at heq0
        have heq := heq0
        clear heq0 hno1 HROW3 HI HNO1 HNO2 HNO3 HDEF HEDG hsp2 had
        go_wp2_with fail
        refine wp_region_quiet_below (by kernel_rfl) (by kernel_rfl) ?_
        repeat (go_big_quiet_step (first | (go_at_call 48; first | with_reducible exact Calls.regrown_of (hi0 _) | with_reducible exact Calls.regrown_of (hi1 _)) | (go_at_call 49; exact Calls.regrown_of (heq _ (below_regrown _ _ _))) | (go_at_call 50; exact Calls.regrown_of (hsup _ (below_regrown _ _ _)))))
        refine wpQuiet_nil ?_
        intro w4 hw4
        obtain ⟨⟨dq, osq⟩, rfl⟩ := hw4
        have hbq := btr hbel (below_regrown _ dq osq)
        generalize grow (redrawn _ dq) osq = wq at *
        go_wp2
        go_ret
        exact ⟨ret_bool HR.out.symm, hbq⟩
      have HROW4 : Hid (rowOkB es ds i = su) := by rw [Hid, HROW3.out, had]; rfl
      rw [had] at heq0
      have heq := heq0
      clear heq0 HROW3 had
      cases su
      · have HR := hno1 HROW4.out
        have hsup := fun W (hb : Below V.heap.size V W) => hsp2 W (btr hbel hb)
        clear hno1 HROW4 HI HNO1 HNO2 HNO3 HDEF HEDG hsp2
        go_wp2_with fail
        refine wp_region_quiet_below (by kernel_rfl) (by kernel_rfl) ?_
        repeat (go_big_quiet_step (first | (go_at_call 48; first | with_reducible exact Calls.regrown_of (hi0 _) | with_reducible exact Calls.regrown_of (hi1 _)) | (go_at_call 49; exact Calls.regrown_of (heq _ (below_regrown _ _ _))) | (go_at_call 50; exact Calls.regrown_of (hsup _ (below_regrown _ _ _)))))
        refine wpQuiet_nil ?_
        intro w4 hw4
        obtain ⟨⟨dq, osq⟩, rfl⟩ := hw4
        have hbq := btr hbel (below_regrown _ dq osq)
        generalize grow (redrawn _ dq) osq = wq at *
        go_wp2
        go_ret
        exact ⟨ret_bool HR.out.symm, hbq⟩
      have hsup := fun W (hb : Below V.heap.size V W) => hsp2 W (btr hbel hb)
      clear hno1 hsp2
      go_wp2_with fail
      refine wp_region_quiet_below (by kernel_rfl) (by kernel_rfl) ?_
      repeat (go_big_quiet_step (first | (go_at_call 48; first | with_reducible exact Calls.regrown_of (hi0 _) | with_reducible exact Calls.regrown_of (hi1 _)) | (go_at_call 49; exact Calls.regrown_of (heq _ (below_regrown _ _ _))) | (go_at_call 50; exact Calls.regrown_of (hsup _ (below_regrown _ _ _)))))
      refine wpQuiet_nil ?_
      intro w4 hw4
      obtain ⟨⟨dq, osq⟩, rfl⟩ := hw4
      have hb7 := And.intro (btr hbel (below_regrown _ dq osq)) (below_regrown V dq osq)
      generalize grow (redrawn _ dq) osq = wq at *
      have HB7 := Lib.hid hb7
      have HRI := Lib.hid (HROW4.out)
      clear hb7 hsup heq cp hi0 hi1 q0 c0 c1 c2 HROW4
      have HZ2 := Lib.hid (And.intro z0 (And.intro z1 (And.intro z2 hb0)))
      clear z0 z1 z2
      go_wp2
      go_loopw [7, 8] (fun kv _ wr => ∃ k : Nat, k ≤ es.length ∧ kv = .int .i64 (k : Nat) ∧ Hid (allTo (edgOkB es ds i) k = true) ∧ Below w.heap.size w wr ∧ Below V.heap.size V wr) (fun kv _ _ => es.length - (intOf kv).toNat)
      case atStart => exact ⟨0, by omega, rfl, rfl, HB7.out.1, HB7.out.2⟩
      case round =>
        clear HB7
        obtain ⟨k, hk, rfl, HK, hbw, hbv⟩ := hrel
        by_cases hkl : k < es.length
        · have hkI : (k : Int) < es.length := by omega
          obtain ⟨eb, eo, EA, ec, hAe, hel, hq0, -, -, herow⟩ := HX.out.get k hkl
          obtain ⟨u, v, hu, hv', ek, -⟩ := edge_nth HE.out hkl
          rw [nth_get hkl] at ek
          have hl2 : es[k].1.length = 2 := by rw [ek]; rfl
          subst hAe
          obtain ⟨fb, fo, rfl⟩ := herow.open2 (by omega)
          have f0 := IntsAt.cellG herow (k := 0) (by omega)
          have f1 := IntsAt.cellG herow (k := 1) (by omega)
          rw [Nat.add_zero] at f0
          rw [hl2] at hq0
          have rE := (hbw.cell (p := ⟨eb, eo + k * 2, none⟩) hel).trans hq0
          have rF := (hbw.cell (p := ⟨fb, fo, none⟩) f0.1).trans f0.2
          have rG := (hbw.cell (p := ⟨fb, fo + 1, none⟩) f0.1).trans f1.2
          have hbV0 := Nat.lt_of_lt_of_le HZ2.out.2.2.2 hbel.size
          have r0 := (hbv.cell (p := ⟨rb, ro, none⟩) hbV0).trans HZ2.out.1
          have r1 := (hbv.cell (p := ⟨rb, ro + 1, none⟩) hbV0).trans HZ2.out.2.1
          have r2 := (hbv.cell (p := ⟨rb, ro + 2, none⟩) hbV0).trans HZ2.out.2.2.1
          have HEK : Hid (edgOkB es ds i k = !(decide (gi es[k].1 0 = x1) && (decide (dinL ds x0 (gi es[k].1 1) = 0) || decide (x2 + 1 < dinL ds x0 (gi es[k].1 1))))) := by rw [Hid, HEDG.out, nth_get hkl]
          have HS : Hid (edgOkB es ds i k = true → allTo (edgOkB es ds i) (k + 1) = true) := fun h => allTo_step HK.out h
          have HN := Lib.hid (HNO2.out i k hlt hkl)
          clear ek hl2 hq0 f0 f1 herow HK hu hv' hbV0
          generalize gi es[k].1 0 = y0 at *
          generalize gi es[k].1 1 = y1 at *
          obtain ⟨dz, hdz⟩ : ∃ z, dinL ds x0 y1 = z := ⟨_, rfl⟩
          have hdi := fun W (hb : Below wr.heap.size wr W) => dinB (some ⟨b, off, none⟩) d ds x0 y1 dz W (HY.out.at_.below entR (btr hbw hb)) hm H3A.out hdz
          rw [hdz] at HEK
          clear hdz
          have cE := cgrow rE
          have cG := cgrow rG
          have cX := cgrow r0
          have cF := cgrow rF
          have c1' := cgrow r1
          have c2' := cgrow r2
          clear rE rF rG r0 r1 r2
          go_wp2_with fail
          refine wp_region_quiet_below (by kernel_rfl) (by kernel_rfl) ?_
          repeat (go_big_quiet_step ((go_at_call 38; exact Calls.regrown_of (hdi _ (below_regrown _ _ _)))))
          refine wpQuiet_nil ?_
          intro w4 hw4
          obtain ⟨⟨dq, osq⟩, rfl⟩ := hw4
          have hbw2 := btr hbw (below_regrown _ dq osq)
          have hbv2 := btr hbv (below_regrown wr dq osq)
          have sE := cgrow (cE dq osq)
          have sF := cgrow (cF dq osq)
          have s1 := cgrow (c1' dq osq)
          have s2 := cgrow (c2' dq osq)
          clear cE cF cG cX c1' c2' hdi
          generalize grow (redrawn wr dq) osq = wq at *
          by_cases hy : y0 = x1
          rotate_left
          · have HS2 := Lib.hid (HS.out (by rw [HEK.out, decide_eq_false hy]; rfl))
            have hyb : (y0 == x1) = false := by simpa using hy
            clear HEK HS HN hy
            go_wp2_with fail
            refine wp_region_quiet_below (by kernel_rfl) (by kernel_rfl) ?_
            repeat (go_big_quiet_step (fail))
            refine wpQuiet_nil ?_
            intro w4 hw4
            obtain ⟨⟨dq, osq⟩, rfl⟩ := hw4
            have hbq := btr hbw2 (below_regrown _ dq osq)
            have hbv3 := btr hbv2 (below_regrown _ dq osq)
            generalize grow (redrawn _ dq) osq = wq at *
            clear sE sF s1 s2
            go_wp2
            go_roundw
            case rel => exact ⟨k + 1, by omega, by go_num, HS2.out, hbq, hbv3⟩
            case measure => simp [intOf]; omega
          have hyb : (y0 == x1) = true := by simpa using hy
          by_cases hz : dz = 0
          · have HR := HN.out (by rw [HEK.out, decide_eq_true hy, hz]; rfl)
            have hzb : (dz == 0) = true := by simpa using hz
            clear HEK HS HN hy hz
            go_wp2_with fail
            refine wp_region_quiet_below (by kernel_rfl) (by kernel_rfl) ?_
            repeat (go_big_quiet_step (fail))
            refine wpQuiet_nil ?_
            intro w4 hw4
            obtain ⟨⟨dq, osq⟩, rfl⟩ := hw4
            have hbq := btr hbw2 (below_regrown _ dq osq)
            generalize grow (redrawn _ dq) osq = wq at *
            clear sE sF s1 s2
            go_wp2
            go_ret
            exact ⟨ret_bool HR.out.symm, hbq⟩
          have hzb : (dz == 0) = false := by simpa using hz
          by_cases hg : x2 + 1 < dz
          · have HR := HN.out (by rw [HEK.out, decide_eq_true hy, decide_eq_false hz, decide_eq_true hg]; rfl)
            have hgb : decide (x2 + 1 < dz) = true := decide_eq_true hg
            clear HEK HS HN hy hz
            go_wp2_with fail
            refine wp_region_quiet_below (by kernel_rfl) (by kernel_rfl) ?_
            repeat (go_big_quiet_step (fail))
            refine wpQuiet_nil ?_
            intro w4 hw4
            obtain ⟨⟨dq, osq⟩, rfl⟩ := hw4
            have hbq := btr hbw2 (below_regrown _ dq osq)
            generalize grow (redrawn _ dq) osq = wq at *
            clear sE sF s1 s2
            go_wp2
            go_ret
            exact ⟨ret_bool HR.out.symm, hbq⟩
          · have HS2 := Lib.hid (HS.out (by rw [HEK.out, decide_eq_true hy, decide_eq_false hz, decide_eq_false hg]; rfl))
            have hgb : decide (x2 + 1 < dz) = false := decide_eq_false hg
            clear HEK HS HN hy hz hg
            go_wp2_with fail
            refine wp_region_quiet_below (by kernel_rfl) (by kernel_rfl) ?_
            repeat (go_big_quiet_step (fail))
            refine wpQuiet_nil ?_
            intro w4 hw4
            obtain ⟨⟨dq, osq⟩, rfl⟩ := hw4
            have hbq := btr hbw2 (below_regrown _ dq osq)
            have hbv3 := btr hbv2 (below_regrown _ dq osq)
            generalize grow (redrawn _ dq) osq = wq at *
            clear sE sF s1 s2
            go_wp2
            go_roundw
            case rel => exact ⟨k + 1, by omega, by go_num, HS2.out, hbq, hbv3⟩
            case measure => simp [intOf]; omega
        · obtain rfl : k = es.length := by omega
          have HSN : Hid (allTo (fun i => rowOkB es ds i && allTo (edgOkB es ds i) es.length) (i + 1) = true) := allTo_step HI.out (by rw [HRI.out, HK.out]; rfl)
          go_wp2
          go_roundw
          case rel => exact ⟨i + 1, by omega, by go_num, HSN.out, hbw⟩
          case measure => simp [intOf]; omega
    · obtain rfl : i = ds.length := by omega
      have H3A : Hid (∀ e ∈ ds, e.1.length = 3) := fun e he => by
        obtain ⟨k, hk, rfl⟩ := List.getElem_of_mem he
        have h := allTo_iff.1 HI.out k hk
        simp only [rowOkB, Bool.and_eq_true, decide_eq_true_eq] at h
        have := h.1.1
        rwa [nth_get hk] at this
      have HD3 : Hid (cckS es ds = allTo (fun k => decide (dinL ds (gi (nth es k).1 0) (gi (nth es k).1 1) = 1)) es.length) := by rw [Hid, HDEF.out, HI.out, Bool.true_and]
      have HB3 := Lib.hid hbel
      clear HI HDEF HNO1 HNO2 hbel
      go_wp2
      obtain ⟨V, hV⟩ : ∃ V : World, V = wr := ⟨_, rfl⟩
      subst hV
      go_loopw [9] (fun kv wr => ∃ k : Nat, k ≤ es.length ∧ kv = .int .i64 (k : Nat) ∧ Hid (allTo (fun k => decide (dinL ds (gi (nth es k).1 0) (gi (nth es k).1 1) = 1)) k = true) ∧ Below w.heap.size w wr) (fun kv _ => es.length - (intOf kv).toNat)
      case atStart => exact ⟨0, by omega, rfl, rfl, HB3.out⟩
      case round =>
        clear HB3
        obtain ⟨k, hk, rfl, HK, hbel⟩ := hrel
        by_cases hkl : k < es.length
        · have hkI : (k : Int) < es.length := by omega
          obtain ⟨eb, eo, EA, ec, hAe, hel, hq0, -, -, herow⟩ := HX.out.get k hkl
          obtain ⟨u, v, hu, hv', ek, -⟩ := edge_nth HE.out hkl
          rw [nth_get hkl] at ek
          have hl2 : es[k].1.length = 2 := by rw [ek]; rfl
          subst hAe
          obtain ⟨fb, fo, rfl⟩ := herow.open2 (by omega)
          have f0 := IntsAt.cellG herow (k := 0) (by omega)
          have f1 := IntsAt.cellG herow (k := 1) (by omega)
          rw [Nat.add_zero] at f0
          rw [hl2] at hq0
          have cE := cgrow ((hbel.cell (p := ⟨eb, eo + k * 2, none⟩) hel).trans hq0)
          have cF := cgrow ((hbel.cell (p := ⟨fb, fo, none⟩) f0.1).trans f0.2)
          have cG := cgrow ((hbel.cell (p := ⟨fb, fo + 1, none⟩) f0.1).trans f1.2)
          have HS : Hid (dinL ds (gi es[k].1 0) (gi es[k].1 1) = 1 → allTo (fun k => decide (dinL ds (gi (nth es k).1 0) (gi (nth es k).1 1) = 1)) (k + 1) = true) := fun h => allTo_step HK.out (by rw [nth_get hkl, h]; rfl)
          have HN : Hid (dinL ds (gi es[k].1 0) (gi es[k].1 1) ≠ 1 → Hid (cckS es ds = false)) := fun h => HNO3.out k hkl (by rw [nth_get hkl, decide_eq_false h])
          clear ek hl2 hq0 f0 f1 herow HK hu hv'
          generalize gi es[k].1 0 = y0 at *
          generalize gi es[k].1 1 = y1 at *
          obtain ⟨dz, hdz⟩ : ∃ z, dinL ds y0 y1 = z := ⟨_, rfl⟩
          have hdi := fun W (hb : Below wr.heap.size wr W) => dinB D d ds y0 y1 dz W (HY.out.at_.below entR (btr hbel hb)) hm H3A.out hdz
          rw [hdz] at HS HN
          clear hdz
          by_cases h1 : dz = 1
          · have HS2 := Lib.hid (HS.out h1)
            have hne : (dz != 1) = false := by rw [h1]; rfl
            clear HS HN h1
            go_wp2_with fail
            refine wp_region_quiet_below (by kernel_rfl) (by kernel_rfl) ?_
            repeat (go_big_quiet_step ((go_at_call 38; exact Calls.regrown_of (hdi _ (below_regrown _ _ _)))))
            refine wpQuiet_nil ?_
            intro w4 hw4
            obtain ⟨⟨dq, osq⟩, rfl⟩ := hw4
            have hbq := btr hbel (below_regrown _ dq osq)
            generalize grow (redrawn _ dq) osq = wq at *
            go_wp2
            go_roundw
            case rel => exact ⟨k + 1, by omega, by go_num, HS2.out, hbq⟩
            case measure => simp [intOf]; omega
          · have HR := HN.out h1
            have hne : (dz != 1) = true := by rw [bne_iff_ne]; exact h1
            clear HS HN h1
            go_wp2_with fail
            refine wp_region_quiet_below (by kernel_rfl) (by kernel_rfl) ?_
            repeat (go_big_quiet_step ((go_at_call 38; exact Calls.regrown_of (hdi _ (below_regrown _ _ _)))))
            refine wpQuiet_nil ?_
            intro w4 hw4
            obtain ⟨⟨dq, osq⟩, rfl⟩ := hw4
            have hbq := btr hbel (below_regrown _ dq osq)
            generalize grow (redrawn _ dq) osq = wq at *
            go_wp2
            go_ret
            exact ⟨ret_bool HR.out.symm, hbq⟩
        · obtain rfl : k = es.length := by omega
          have HR : Hid (cckS es ds = true) := by rw [Hid, HD3.out, HK.out]
          go_wp2
          go_ret
          exact ⟨ret_bool HR.out.symm, hbel⟩
end Go.Proofs.Ytifjenleoagefaa
