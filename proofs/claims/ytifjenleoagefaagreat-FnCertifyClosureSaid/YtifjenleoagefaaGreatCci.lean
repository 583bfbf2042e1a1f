/- HELPER, no statement of the seat: the table that the program reads out of rows. -/
import Derived.Test.YtifjenleoagefaaGreatCtm
import Derived.Test.YtifjenleoagefaaGreatCkc
import Derived.Test.YtifjenleoagefaaGreatCgh
import Derived.Test.YtifjenleoagefaaGreatCgf
namespace Go.Proofs.YtifjenleoagefaaGreat
open Go.RowKit Go.Sort Go.Shelf
set_option linter.unusedSimpArgs false
set_option linter.unusedVariables false

theorem results_cell_tmp {P : Program} {fn : Func} {p q : Tmp} {ty : TypeId} (h : fn.results = #[.cell p ty, .tmp q]) (tmps : Array Value) (w : World) (g : Nat) (t : TypeId) (cs : Array Value) (fr : Nat × Nat) (d : TypeDesc)
    (hp : tmps.getD p undef = .pointer (some ⟨g, 0, none⟩)) (hg : w.heap[g]? = some (.cells cs t fr))
    (hu : P.underlying ty = some d) (hd : (match d with | .struct _ | .array _ _ => true | _ => false) = true) (hi : (P.info? ty).map (·.size) = some cs.size) :
    (results fn tmps).run P w = .ok (.tuple #[.agg cs, tmps.getD q undef]) w := by
  have hp' : tmps[p]?.getD undef = .pointer (some ⟨g, 0, none⟩) := by simpa using hp
  simp [results, h, hp', asAddr, run_loadVar_row w g t ty cs fr d hg hu hd hi]
theorem builtT : Tryz.prog.built 67 [] = some (ints zeroT) := by kernel_rfl
theorem tabE_def (T : List Int) (e : Ent) : tabE T e = if (rngE e && decide (getT T (gi e.1 0).toNat (gi e.1 1).toNat = 0)) = true then some (setT T (gi e.1 0).toNat (gi e.1 1).toNat (gi e.1 2)) else none := rfl
theorem rngE_def (e : Ent) : rngE e = (inB (gi e.1 0) 0 19 && (inB (gi e.1 1) 0 19 && decide (1 ≤ gi e.1 2))) := rfl
/-- What is answered: the table and true, or an empty one and false. -/
def TabR (ds : List Ent) (e : Ending) : Prop := (∃ T, TabF ds = some T ∧ T.length = 400 ∧ e = .returned (.tuple #[.agg (ints T), .bool true])) ∨ (TabF ds = none ∧ e = .returned (.tuple #[.agg (ints zeroT), .bool false]))
theorem setT_comm (T : List Int) (X Y : Nat) (d : Int) : (ints T).setIfInBounds (X * 20 + Y) (.int .i64 d) = ints (setT T X Y d) := ints_setT T X Y d
set_option maxRecDepth 100000 in
set_option maxHeartbeats 12800000 in
theorem distanceTableOf_i (A : Option Addr) (c : Nat) (ds : List Ent) (w : World) (hx : EntsAt w A ds) (hn : ds.length ≤ 4194304) (hr : rowsIn ds 4194304) :
    Calls Tryz.prog 45 #[.slice A ds.length c] w fun e w' => TabR ds e ∧ Below w.heap.size w w' := by
  have hzl := zeroT_len
  have hK0 : Blk ((w.alloc (.cells (Tryz.zeroCells67) 67)).alloc (.cells (Tryz.zeroCells67) 67)) w.heap.size 67 (ints zeroT) := by rw [zcT]; exact (Blk.newAt rfl).alloc _
  have hK1 : Blk ((w.alloc (.cells (Tryz.zeroCells67) 67)).alloc (.cells (Tryz.zeroCells67) 67)) (w.heap.size + 1) 67 (ints zeroT) := by rw [zcT]; exact Blk.newAt (by simp)
  have hB0 : Below w.heap.size w ((w.alloc (.cells (Tryz.zeroCells67) 67)).alloc (.cells (Tryz.zeroCells67) 67)) := bal (bal (Below.refl _ _) _) _
  have his := IsSet_i A c ds _ (hx.below entR hB0) hn hr
  have hwd := fun (W : World) (hb : Below w.heap.size w W) => widthOf_e A c ds W (hx.below entR hb) hn
  have no : ∀ W, Blk W w.heap.size 67 (ints zeroT) → Below w.heap.size w W → tabOk ds = false → True := fun _ _ _ _ => trivial
  have hK := Lib.hid (And.intro hK0 (And.intro hK1 hB0))
  clear hK0 hK1 hB0
  cases hs : setB ds
  · have HT : Hid (TabF ds = none) := by simp [Hid, TabF, tabOk, hs]
    rw [hs] at his
    clear hs hx no hwd
    go_enter Tryz.func45, Tryz.ntmps45
    go_wp2_with fail
    refine his.mono ?_
    rintro e w1 ⟨rfl, b1⟩
    have kz := hK.out.1.below b1
    have HB := Lib.hid (brow (btr hK.out.2.2 b1) (Nat.le_refl _) (ints zeroT) : Below w.heap.size w (w1.setRow w.heap.size (ints zeroT)))
    have HR := Lib.hid (kz.row (ints zeroT))
    clear his b1
    go_wp2_with (first | refine wpList_buildK rfl 67 _ rfl (ints zeroT) (Eq.trans (by kernel_rfl) builtT) ?_ | refine wpList_store_row rfl 67 _ _ rfl w.heap.size (ints zeroT) rfl rfl 67 (ints zeroT) kz (sizeDT_ hzl) rfl (ints_one2 _) ?_)
    exact bodyPost_ret (results_cell_tmp rfl _ _ w.heap.size 67 (ints zeroT) (0, 0) _ rfl HR.out underDT_ rfl (sizeDT_ hzl)) rfl ⟨.inr ⟨HT.out, rfl⟩, HB.out⟩
  rw [hs] at his
  by_cases hw3 : ds.length = 0 ∨ wid ds = 3
  rotate_left
  · have hp : 0 < ds.length := by omega
    have hgt : (0 : Int) < ds.length := by omega
    have hne : ((wid ds : Int) != 3) = true := by rw [bne_iff_ne]; omega
    have HT : Hid (TabF ds = none) := by
      have h1 : tabOk ds = false := by
        rw [tabOk, hs, Bool.true_and, Bool.or_eq_false_iff]
        exact ⟨by rw [decide_eq_false_iff_not]; omega, by rw [decide_eq_false_iff_not]; omega⟩
      simp [Hid, TabF, h1]
    generalize wid ds = wd at *
    clear hs hx no hw3 hp
    go_enter Tryz.func45, Tryz.ntmps45
    go_wp2_with fail
    refine his.mono ?_
    rintro e w0 ⟨rfl, b0⟩
    have hb0 := btr hK.out.2.2 b0
    clear his
    go_wp2_with fail
    refine (hwd _ hb0).mono ?_
    rintro e w1 ⟨rfl, b1⟩
    have kz := (hK.out.1.below b0).below b1
    have HB := Lib.hid (brow (btr hb0 b1) (Nat.le_refl _) (ints zeroT) : Below w.heap.size w (w1.setRow w.heap.size (ints zeroT)))
    have HR := Lib.hid (kz.row (ints zeroT))
    clear b1 b0 hb0 hwd
    go_wp2_with (first | refine wpList_buildK rfl 67 _ rfl (ints zeroT) (Eq.trans (by kernel_rfl) builtT) ?_ | refine wpList_store_row rfl 67 _ _ rfl w.heap.size (ints zeroT) rfl rfl 67 (ints zeroT) kz (sizeDT_ hzl) rfl (ints_one2 _) ?_)
    exact bodyPost_ret (results_cell_tmp rfl _ _ w.heap.size 67 (ints zeroT) (0, 0) _ rfl HR.out underDT_ rfl (sizeDT_ hzl)) rfl ⟨.inr ⟨HT.out, rfl⟩, HB.out⟩
  have hok : tabOk ds = true := by
    rw [tabOk, hs, Bool.true_and, Bool.or_eq_true, decide_eq_true_eq, decide_eq_true_eq]; exact hw3
  have h3 := (wid_of hok).2
  have hTF : TabF ds = tabL zeroT ds := by rw [TabF, if_pos hok]
  have HTF := Lib.hid hTF
  have H3 := Lib.hid h3
  have HX := Lib.hid hx
  have hwc : ds.length ≠ 0 → ((wid ds : Int) != 3) = false := fun h => by
    have : wid ds = 3 := by omega
    rw [this]; rfl
  have Hcap := hn
  generalize wid ds = wd at *
  clear hs hx no hw3 hok h3 hTF
  rcases Nat.eq_zero_or_pos ds.length with h0 | hp
  · have HT : Hid (TabF ds = some zeroT) := by
      rw [Hid, HTF.out]
      rw [List.length_eq_zero_iff] at h0
      rw [h0]; rfl
    have hgt : ¬ ((0 : Int) < ds.length) := by omega
    have HH := Lib.hid h0
    clear h0 hwc
    go_enter Tryz.func45, Tryz.ntmps45
    go_wp2_with fail
    refine his.mono ?_
    rintro e w0 ⟨rfl, b0⟩
    have k0 := hK.out.1.below b0
    have k1 := hK.out.2.1.below b0
    have HB0 := Lib.hid (btr hK.out.2.2 b0)
    clear his b0 hwd hK HX H3 HTF
    go_wp2_with fail
    go_loopw [26] (fun i wr => i = .int .i64 0 ∧ wr = w0) (fun _ _ => 0)
    case atStart => exact ⟨rfl, rfl⟩
    case round =>
      obtain ⟨rfl, rfl⟩ := hrel
      have HB := Lib.hid (brow HB0.out (Nat.le_refl _) (ints zeroT) : Below w.heap.size w (wr.setRow w.heap.size (ints zeroT)))
      have HR := Lib.hid (k0.row (ints zeroT))
      go_wp2_with (first | refine wpList_load_row rfl 67 _ rfl (w.heap.size + 1) rfl 67 (ints zeroT) (0, 0) _ k1 underDT_ rfl (sizeDT_ hzl) ?_ | refine wpList_store_row rfl 67 _ _ rfl w.heap.size (ints zeroT) rfl rfl 67 (ints zeroT) k0 (sizeDT_ hzl) rfl (ints_one2 _) ?_)
      exact bodyPost_ret (results_cell_tmp rfl _ _ w.heap.size 67 (ints zeroT) (0, 0) _ rfl HR.out underDT_ rfl (sizeDT_ hzl)) rfl ⟨.inl ⟨zeroT, HT.out, hzl, rfl⟩, HB.out⟩
  have hgt : (0 : Int) < ds.length := by omega
  have hne := hwc (by omega)
  clear hwc
  go_enter Tryz.func45, Tryz.ntmps45
  go_wp2_with fail
  refine his.mono ?_
  rintro e w0 ⟨rfl, b0⟩
  have hb0 := btr hK.out.2.2 b0
  clear his
  go_wp2_with fail
  refine (hwd _ hb0).mono ?_
  rintro e w1 ⟨rfl, b1⟩
  have hb1 := btr hb0 b1
  have k0 := (hK.out.1.below b0).below b1
  have k1 := (hK.out.2.1.below b0).below b1
  clear b0 b1 hb0 hwd
  have HI0 := Lib.hid (And.intro k0 (And.intro k1 hb1))
  clear k0 k1 hb1
  go_wp2_with fail
  clear hne hgt
  go_loopw [26] (fun i wr => ∃ (k : Nat) (T : List Int), k ≤ ds.length ∧ i = .int .i64 (k : Nat) ∧ Hid (tabL zeroT (ds.take k) = some T) ∧ T.length = 400 ∧ Blk wr w.heap.size 67 (ints zeroT) ∧ Blk wr (w.heap.size + 1) 67 (ints T) ∧ Below w.heap.size w wr) (fun i _ => ds.length - (intOf i).toNat)
  case atStart => exact ⟨0, zeroT, by omega, rfl, rfl, hzl, HI0.out.1, HI0.out.2.1, HI0.out.2.2⟩
  case round =>
    obtain ⟨k, T, hk, rfl, HTL, hT4, k0, k1, hbel⟩ := hrel
    by_cases hlt : k < ds.length
    · have hxr := HX.out.below entR hbel
      obtain ⟨b, off, RA, rc, hAe, hbl, hc0, hc1, -, hrow⟩ := EntsAt.get hxr k hlt
      subst hAe
      have hr3 := H3.out _ (List.getElem_mem hlt)
      have HST := Lib.hid (tabL_take zeroT hlt)
      have HBAD : Hid (tabE T ds[k] = none → TabF ds = none) := fun h => by
        rw [HTF.out]
        refine tabL_bad (k := k + 1) ?_
        rw [HST.out, HTL.out]; exact h
      obtain ⟨rb, ro, rfl⟩ := hrow.open2 (by omega)
      have r0 := IntsAt.cellG hrow (k := 0) (by omega)
      rw [Nat.add_zero] at r0
      have r1 := IntsAt.cellG hrow (k := 1) (by omega)
      have r2 := IntsAt.cellG hrow (k := 2) (by omega)
      have hTE := tabE_def T ds[k]
      have hRN := rngE_def ds[k]
      generalize ds[k].1.length = rl at *
      subst hr3
      generalize ds[k].2 = wt at *
      generalize hv0 : gi ds[k].1 0 = v0 at *
      generalize hv1 : gi ds[k].1 1 = v1 at *
      generalize hv2 : gi ds[k].1 2 = v2 at *
      have hklt : (k : Int) < ds.length := by omega
      have hbb := bal (Below.refl wr.heap.size wr) (.cells #[.slice (some ⟨rb, ro, none⟩) 3 rc, .int .i64 wt] 33)
      have kE : Blk (wr.alloc (.cells #[.slice (some ⟨rb, ro, none⟩) 3 rc, .int .i64 wt] 33)) wr.heap.size 33 #[.slice (some ⟨rb, ro, none⟩) 3 rc, .int .i64 wt] := Blk.newAt rfl
      have cE := cgrow (kE.cell 0)
      have s0 := cgrow ((hbb.cell (p := ⟨rb, ro, none⟩) r0.1).trans r0.2)
      have s1 := cgrow ((hbb.cell (p := ⟨rb, ro + 1, none⟩) r1.1).trans r1.2)
      have s2 := cgrow ((hbb.cell (p := ⟨rb, ro + 2, none⟩) r2.1).trans r2.2)
      simp at cE
      have HK2 := Lib.hid (And.intro k0 (And.intro k1 (And.intro hbel hbb)))
      have HDS := Lib.hid (And.intro hv0 (And.intro hv1 (And.intro hv2 (And.intro hTE hRN))))
      have hrbl := r0.1
      clear hrow r0 r1 r2 kE k0 k1 hbb hv0 hv1 hv2 hTE hRN hxr
      go_wp2_with fail
      refine wp_region_quiet_below (by kernel_rfl) (by kernel_rfl) ?_
      repeat (go_big_quiet_step (fail))
      refine wpQuiet_nil ?_
      intro wq hwq
      obtain ⟨⟨dq, osq⟩, rfl⟩ := hwq
      have hbq := below_regrown (wr.alloc (.cells #[.slice (some ⟨rb, ro, none⟩) 3 rc, .int .i64 wt] 33)) dq osq
      generalize grow (redrawn (wr.alloc (.cells #[.slice (some ⟨rb, ro, none⟩) 3 rc, .int .i64 wt] 33)) dq) osq = wq at *
      obtain ⟨k0, k1, hbel, hbb⟩ := HK2.out
      obtain ⟨hv0, hv1, hv2, hTE, hRN⟩ := HDS.out
      have kq0 := (k0.below hbb).below hbq
      have kq1 := (k1.below hbb).below hbq
      have hbw := btr hbel (btr hbb hbq)
      clear k0 k1 hbb hbq cE s0 s1 s2 hbel hc0 hc1 hbl hrbl HK2 HDS HX HI0 hK hv0 hv1 hv2
      by_cases h0 : inB v0 0 19 = true
      rotate_left
      · have h0' : inB v0 0 19 = false := by simpa using h0
        have HT : Hid (TabF ds = none) := HBAD.out (by rw [hTE, hRN, h0']; rfl)
        clear hTE hRN h0
        go_wp2_with fail
        refine (isVertex_w _ _).mono ?_
        rintro e wv ⟨rfl, rfl⟩
        rw [h0']
        have kz := kq0
        have HB := Lib.hid (brow hbw (Nat.le_refl _) (ints zeroT) : Below w.heap.size w (wq.setRow w.heap.size (ints zeroT)))
        have HR := Lib.hid (kz.row (ints zeroT))
        go_wp2_with (first | refine wpList_buildK rfl 67 _ rfl (ints zeroT) (Eq.trans (by kernel_rfl) builtT) ?_ | refine wpList_store_row rfl 67 _ _ rfl w.heap.size (ints zeroT) rfl rfl 67 (ints zeroT) kz (sizeDT_ hzl) rfl (ints_one2 _) ?_)
        exact bodyPost_ret (results_cell_tmp rfl _ _ w.heap.size 67 (ints zeroT) (0, 0) _ rfl HR.out underDT_ rfl (sizeDT_ hzl)) rfl ⟨.inr ⟨HT.out, rfl⟩, HB.out⟩
      by_cases h1 : inB v1 0 19 = true
      rotate_left
      · have h1' : inB v1 0 19 = false := by simpa using h1
        have HT : Hid (TabF ds = none) := HBAD.out (by rw [hTE, hRN, h0, h1']; rfl)
        clear hTE hRN h1
        go_wp2_with fail
        refine (isVertex_w _ _).mono ?_
        rintro e wv ⟨rfl, rfl⟩
        rw [h0]
        go_wp2_with fail
        refine (isVertex_w _ _).mono ?_
        rintro e wv ⟨rfl, rfl⟩
        rw [h1']
        have kz := kq0
        have HB := Lib.hid (brow hbw (Nat.le_refl _) (ints zeroT) : Below w.heap.size w (wq.setRow w.heap.size (ints zeroT)))
        have HR := Lib.hid (kz.row (ints zeroT))
        go_wp2_with (first | refine wpList_buildK rfl 67 _ rfl (ints zeroT) (Eq.trans (by kernel_rfl) builtT) ?_ | refine wpList_store_row rfl 67 _ _ rfl w.heap.size (ints zeroT) rfl rfl 67 (ints zeroT) kz (sizeDT_ hzl) rfl (ints_one2 _) ?_)
        exact bodyPost_ret (results_cell_tmp rfl _ _ w.heap.size 67 (ints zeroT) (0, 0) _ rfl HR.out underDT_ rfl (sizeDT_ hzl)) rfl ⟨.inr ⟨HT.out, rfl⟩, HB.out⟩
      by_cases h2 : 1 ≤ v2
      rotate_left
      · have h2' : v2 < 1 := by omega
        have HT : Hid (TabF ds = none) := HBAD.out (by rw [hTE, hRN, h0, h1, decide_eq_false h2]; rfl)
        clear hTE hRN h2
        go_wp2_with fail
        refine (isVertex_w _ _).mono ?_
        rintro e wv ⟨rfl, rfl⟩
        rw [h0]
        go_wp2_with fail
        refine (isVertex_w _ _).mono ?_
        rintro e wv ⟨rfl, rfl⟩
        rw [h1]
        have kz := kq0
        have HB := Lib.hid (brow hbw (Nat.le_refl _) (ints zeroT) : Below w.heap.size w (wq.setRow w.heap.size (ints zeroT)))
        have HR := Lib.hid (kz.row (ints zeroT))
        go_wp2_with (first | refine wpList_buildK rfl 67 _ rfl (ints zeroT) (Eq.trans (by kernel_rfl) builtT) ?_ | refine wpList_store_row rfl 67 _ _ rfl w.heap.size (ints zeroT) rfl rfl 67 (ints zeroT) kz (sizeDT_ hzl) rfl (ints_one2 _) ?_)
        exact bodyPost_ret (results_cell_tmp rfl _ _ w.heap.size 67 (ints zeroT) (0, 0) _ rfl HR.out underDT_ rfl (sizeDT_ hzl)) rfl ⟨.inr ⟨HT.out, rfl⟩, HB.out⟩
      obtain ⟨X, hX, rfl⟩ : ∃ X : Nat, X < 20 ∧ v0 = (X : Int) := ⟨v0.toNat, by simp [inB] at h0; omega, by simp [inB] at h0; omega⟩
      obtain ⟨Y, hY, rfl⟩ : ∃ Y : Nat, Y < 20 ∧ v1 = (Y : Int) := ⟨v1.toNat, by simp [inB] at h1; omega, by simp [inB] at h1; omega⟩
      have hX' : (X : Int) < 20 := by omega
      have hY' : (Y : Int) < 20 := by omega
      have h2' : ¬ v2 < 1 := by omega
      have hrg : rngE ds[k] = true := by rw [hRN, h0, h1, decide_eq_true h2]; rfl
      rw [hrg, Bool.true_and, Int.toNat_natCast, Int.toNat_natCast] at hTE
      have cT := (kq1.cell (X * 20 + Y)).trans (ints_at hT4 hX hY)
      have fT := kq1.frozen (X * 20 + Y)
      by_cases h4 : getT T X Y = 0
      rotate_left
      · have HT : Hid (TabF ds = none) := HBAD.out (by rw [hTE, decide_eq_false h4]; rfl)
        have h4' : (getT T X Y != 0) = true := by rw [bne_iff_ne]; exact h4
        clear hTE hRN h2 h4 hrg
        generalize getT T X Y = gv at *
        go_wp2_with fail
        refine (isVertex_w _ _).mono ?_
        rintro e wv ⟨rfl, rfl⟩
        rw [h0]
        go_wp2_with fail
        refine (isVertex_w _ _).mono ?_
        rintro e wv ⟨rfl, rfl⟩
        rw [h1]
        have kz := kq0
        have HB := Lib.hid (brow hbw (Nat.le_refl _) (ints zeroT) : Below w.heap.size w (wq.setRow w.heap.size (ints zeroT)))
        have HR := Lib.hid (kz.row (ints zeroT))
        go_wp2_with (first | refine wpList_buildK rfl 67 _ rfl (ints zeroT) (Eq.trans (by kernel_rfl) builtT) ?_ | refine wpList_store_row rfl 67 _ _ rfl w.heap.size (ints zeroT) rfl rfl 67 (ints zeroT) kz (sizeDT_ hzl) rfl (ints_one2 _) ?_)
        exact bodyPost_ret (results_cell_tmp rfl _ _ w.heap.size 67 (ints zeroT) (0, 0) _ rfl HR.out underDT_ rfl (sizeDT_ hzl)) rfl ⟨.inr ⟨HT.out, rfl⟩, HB.out⟩
      have HN : Hid (tabL zeroT (ds.take (k + 1)) = some (setT T X Y v2)) := by
        rw [Hid, HST.out, HTL.out]
        show tabE T ds[k] = _
        rw [hTE, h4]; rfl
      have HL : Hid ((setT T X Y v2).length = 400) := by simp [Hid, setT, hT4]
      have HW : Hid (Blk (wq.setCell ⟨w.heap.size + 1, X * 20 + Y, none⟩ (.int .i64 v2)) w.heap.size 67 (ints zeroT) ∧ Blk (wq.setCell ⟨w.heap.size + 1, X * 20 + Y, none⟩ (.int .i64 v2)) (w.heap.size + 1) 67 (ints (setT T X Y v2)) ∧ Below w.heap.size w (wq.setCell ⟨w.heap.size + 1, X * 20 + Y, none⟩ (.int .i64 v2))) :=
        ⟨kq0.far (by simp) _, by rw [← setT_comm]; exact kq1.set_ _ _, bset hbw (by simp) _⟩
      rw [h4] at cT
      clear hTE hRN h2 h4 hrg kq0 kq1 hbw
      go_wp2_with fail
      refine (isVertex_w _ _).mono ?_
      rintro e wv ⟨rfl, rfl⟩
      rw [h0]
      go_wp2_with fail
      refine (isVertex_w _ _).mono ?_
      rintro e wv ⟨rfl, rfl⟩
      rw [h1]
      go_wp2_with fail
      go_roundw
      case rel => exact ⟨k + 1, setT T X Y v2, by omega, by go_num, HN.out, HL.out, HW.out⟩
      case measure => simp [intOf]; omega
    · obtain rfl : k = ds.length := by omega
      have HT : Hid (TabF ds = some T) := by
        have := HTL.out
        rw [List.take_length] at this
        rw [Hid, HTF.out]; exact this
      have HB := Lib.hid (brow hbel (Nat.le_refl _) (ints T) : Below w.heap.size w (wr.setRow w.heap.size (ints T)))
      have HR := Lib.hid (k0.row (ints T))
      go_wp2_with (first | refine wpList_load_row rfl 67 _ rfl (w.heap.size + 1) rfl 67 (ints T) (0, 0) _ k1 underDT_ rfl (sizeDT_ hT4) ?_ | refine wpList_store_row rfl 67 _ _ rfl w.heap.size (ints T) rfl rfl 67 (ints zeroT) k0 (sizeDT_ hT4) (by rw [ints_size, ints_size, hT4, zeroT_len]) (ints_one2 _) ?_)
      exact bodyPost_ret (results_cell_tmp rfl _ _ w.heap.size 67 (ints T) (0, 0) _ rfl HR.out underDT_ rfl (sizeDT_ hT4)) rfl ⟨.inl ⟨T, HT.out, hT4, rfl⟩, HB.out⟩
end Go.Proofs.YtifjenleoagefaaGreat
