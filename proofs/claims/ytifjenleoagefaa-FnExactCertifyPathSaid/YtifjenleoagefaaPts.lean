/- HELPER, no statement of the seat: the model's CertifyPath. -/
import Derived.Test.YtifjenleoagefaaPth
import Derived.Test.YtifjenleoagefaaDin
import Derived.Test.YtifjenleoagefaaDss
namespace Go.Proofs.Ytifjenleoagefaa
open Go.RowKit Go.Sort
set_option linter.unusedSimpArgs false
set_option linter.unusedVariables false

theorem wOf_has {es : List Ent} (h : edgB es = true) (u v : Nat) : wOf es [(u : Int), (v : Int)] = if hasR (relOf es) u v = true then 1 else 0 := by
  have hr := relOf_ok h
  have hp := prs_relOf h
  have h1 := has_prs hr u v
  rw [hp] at h1
  have ho : Ones es := by rw [← hp]; exact prs_ones _
  rw [ones_wOf ho]
  by_cases hc : hasR (relOf es) u v = true
  · rw [if_pos hc]; exact if_pos (h1.2 hc)
  · rw [if_neg hc]; exact if_neg (fun h => hc (h1.1 h))
theorem PthB_din {es : List Ent} (h : edgB es = true) (x y : Int) : PthB es x y = decide (dinL (entT (distT (relOf es))) x y ≠ 0) := by
  have hr := relOf_ok h
  by_cases hc : 0 ≤ x ∧ x < 20 ∧ 0 ≤ y ∧ y < 20
  · obtain ⟨X, rfl⟩ : ∃ X : Nat, x = X := ⟨x.toNat, by omega⟩
    obtain ⟨Y, rfl⟩ : ∃ Y : Nat, y = Y := ⟨y.toNat, by omega⟩
    have hX : X < 20 := by omega
    have hY : Y < 20 := by omega
    rw [dinL_ent (fun a b ha hb => (dist_le hr ha hb).1) hX hY]
    have i1 : inB (X : Int) 0 19 = true := by simp [inB]; omega
    have i2 : inB (Y : Int) 0 19 = true := by simp [inB]; omega
    simp [PthB, h, i1, i2]
  · rw [dinL_out hc]
    have : (inB x 0 19 && (inB y 0 19 && decide (getT (distT (relOf es)) x.toNat y.toNat ≠ 0))) = false := by
      cases i1 : inB x 0 19
      · rfl
      · cases i2 : inB y 0 19
        · rfl
        · simp [inB] at i1 i2; omega
    rw [PthB, this]; simp
set_option maxRecDepth 100000 in
set_option maxHeartbeats 6400000 in
theorem CertifyPath_s (A : Option Addr) (c : Nat) (es : List Ent) (x y : Int) (w : World) (hx : EntsAt w A es) (hn : es.length ≤ 4194304) (hr : rowsIn es 4194304) :
    Calls Try.prog 10 #[.slice A es.length c, .int .i64 x, .int .i64 y] w fun e w' => ∃ A' c', e = .returned (.tuple #[.slice A' (PthF es x y).length c', .bool (PthB es x y)]) ∧ IntsOwn w' w.heap.size A' c' (PthF es x y) ∧ Below w.heap.size w w' := by
  obtain ⟨i0, hi0, hz0, hz1, hz2⟩ := info_parts Try.infoInt
  have hv := validEdges_s A c es w hx hn hr
  cases h1 : edgB es
  · have HB' : PthB es x y = false := by simp [PthB, h1]
    have HF' : PthF es x y = [] := by simp [PthF, HB']
    rw [h1] at hv
    rw [HB', HF']
    clear h1 HB' HF' hx
    go_enter Try.func10, Try.ntmps10
    go_wp2_with fail
    refine hv.mono ?_
    rintro e w1 ⟨rfl, b1⟩
    clear hv
    go_wp2
    exact bodyPost_ret (v := .tuple #[.slice none 0 0, .bool false]) (by simp [results, Try.results10, go_sem]) rfl ⟨none, 0, rfl, IntsOwn.nil, b1⟩
  have hro := relOf_ok h1
  have hpr := prs_relOf h1
  have hPB := PthB_din h1 x y
  have HWO : Hid (∀ u v : Nat, wOf es [(u : Int), (v : Int)] = if hasR (relOf es) u v = true then 1 else 0) := fun u v => wOf_has h1 u v
  have hcon := fun (W : World) (hb : Below w.heap.size w W) => distances_s A c (relOf es) W (by rw [hpr]; exact hx.below entR hb) hro
  rw [hpr] at hcon
  rw [h1] at hv
  have HX := Lib.hid hx
  clear hx hpr
  have h3 : ∀ e ∈ entT (distT (relOf es)), e.1.length = 3 := fun e he => by
    obtain ⟨_, _, _, _, _, rfl⟩ := mem_entT.1 he
    rfl
  have hel := entT_len (distT (relOf es))
  by_cases hd0 : dinL (entT (distT (relOf es))) x y = 0
  · have HB' : PthB es x y = false := by rw [hPB, hd0]; rfl
    have HF' : PthF es x y = [] := by simp [PthF, HB']
    have hdi := fun (AD : Option Addr) (cD : Nat) (W : World) (h : EntsAt W AD (entT (distT (relOf es)))) => distanceIn_s AD cD _ x y W h (by omega) h3
    rw [hd0] at hdi
    rw [HB', HF']
    clear h1 HB' HF' hPB hd0 h3
    go_enter Try.func10, Try.ntmps10
    go_wp2_with fail
    refine hv.mono ?_
    rintro e w1 ⟨rfl, b1⟩
    clear hv
    go_wp2_with fail
    refine (hcon w1 b1).mono ?_
    rintro e w2 ⟨AD, cD, rfl, ho, b2⟩
    have hbb := btr b1 b2
    have hD := SlOw.at_ entO ho
    clear hcon ho b1 b2
    go_wp2_with fail
    refine (hdi _ _ _ hD).mono ?_
    rintro e wx ⟨rfl, rfl⟩
    clear hdi hD
    go_wp2
    exact bodyPost_ret (v := .tuple #[.slice none 0 0, .bool false]) (by simp [results, Try.results10, go_sem]) rfl ⟨none, 0, rfl, IntsOwn.nil, hbb⟩
  have HB' : PthB es x y = true := by rw [hPB]; simpa using hd0
  have hrange : 0 ≤ x ∧ x < 20 ∧ 0 ≤ y ∧ y < 20 := by
    apply Decidable.byContradiction
    intro hc
    exact hd0 (dinL_out hc)
  obtain ⟨X, rfl⟩ : ∃ X : Nat, x = X := ⟨x.toNat, by omega⟩
  obtain ⟨Y, rfl⟩ : ∃ Y : Nat, y = Y := ⟨y.toNat, by omega⟩
  have hX : X < 20 := by omega
  have hY : Y < 20 := by omega
  have hdin := dinL_ent (fun a b ha hb => (dist_le hro (x := a) (y := b) ha hb).1) hX hY
  obtain ⟨d, hd4, hdd⟩ : ∃ d : Nat, d < 400 ∧ getT (distT (relOf es)) X Y = ((d + 1 : Nat) : Int) := by
    rcases dist_form hro hX hY with h | h
    · rw [hdin, h] at hd0; exact absurd rfl hd0
    · exact h
  have HF' : PthF es (X : Int) (Y : Int) = walkP (relOf es) (distT (relOf es)) Y d X d ++ [(Y : Int)] := by
    rw [PthF, if_pos HB']
    simp only [Int.toNat_natCast, pathL, hdd, Nat.add_sub_cancel]
  rw [HB', HF']
  have hdi := fun (u : Nat) (hu : u < 20) (AD : Option Addr) (cD : Nat) (W : World) (h : EntsAt W AD (entT (distT (relOf es)))) => distanceIn_s AD cD _ (u : Int) (Y : Int) W h (by omega) h3
  have hdv : ∀ u : Nat, u < 20 → dinL (entT (distT (relOf es))) (u : Int) (Y : Int) = getT (distT (relOf es)) u Y := fun u hu => dinL_ent (fun a b ha hb => (dist_le hro (x := a) (y := b) ha hb).1) hu hY
  have HPO := Lib.hid (fun k (hk : k ≤ d) => posP_ok hro hX hY hdd k hk)
  have HPS := Lib.hid (fun k (hk : k < d) => posP_step hro hX hY hdd hk)
  have HDI : Hid (∀ (u : Nat) (hu : u < 20) (AD : Option Addr) (cD : Nat) (W : World) (h : EntsAt W AD (entT (distT (relOf es)))), Calls Try.prog 38 #[.slice AD (entT (distT (relOf es))).length cD, .int .i64 (u : Int), .int .i64 (Y : Int)] W fun e w' => e = .returned (.int .i64 (getT (distT (relOf es)) u Y)) ∧ W = w') := fun u hu AD cD W h => by
    have := hdi u hu AD cD W h
    rwa [hdv u hu] at this
  have hfirst := HDI.out X hX
  rw [hdd] at hfirst
  have HXB := Lib.hid hX
  have hdd1 : (((d + 1 : Nat) : Int) == 0) = false := by simp; omega
  clear h1 HB' HF' hPB hd0 h3 hdin hdi hdv hrange hdd
  generalize distT (relOf es) = T at *
  generalize relOf es = r at *
  go_enter Try.func10, Try.ntmps10
  go_wp2_with fail
  refine hv.mono ?_
  rintro e w1 ⟨rfl, b1⟩
  clear hv
  go_wp2_with fail
  refine (hcon w1 b1).mono ?_
  rintro e w2 ⟨AD, cD, rfl, ho, b2⟩
  have hbb := btr b1 b2
  have hD := SlOw.at_ entO ho
  clear hcon ho b1 b2
  go_wp2_with fail
  refine (hfirst _ _ _ hD).mono ?_
  rintro e wx ⟨rfl, rfl⟩
  clear hfirst
  go_wp2
  have HW0 : Hid (IntsOwn (w2.alloc (.cells #[.int .i64 (X : Int)] 3)) w2.heap.size (some ⟨w2.heap.size, 0, none⟩) 1 (walkP r T Y d X 0)) := World.ownsRow_lit (base := w2.heap.size) (size := 1) (e := 3) w2 #[.int .i64 (X : Int)] 1 (Nat.le_refl _) (by simp [maxLen]) (by simp)
  have HD := Lib.hid hD
  clear hD hdd1
  go_loopw [9, 10] (fun lv pv wr => ∃ (k : Nat) (P : Option Addr) (cp : Nat), k ≤ d ∧ lv = .int .i64 ((d + 1 - k : Nat) : Int) ∧ pv = .slice P (walkP r T Y d X k).length cp ∧ Hid (IntsOwn wr w2.heap.size P cp (walkP r T Y d X k)) ∧ Below w2.heap.size w2 wr) (fun lv _ _ => (intOf lv).toNat)
  case atStart => exact ⟨0, _, 1, by omega, by simp, rfl, HW0, bal (Below.refl _ _) _⟩
  case round =>
    obtain ⟨k, P, cp, hk, rfl, rfl, HO, hbel⟩ := hrel
    by_cases hkd : k < d
    · have hgt : (1 : Int) < ((d + 1 - k : Nat) : Int) := by omega
      have hl1 : ((d + 1 - k : Nat) : Int) - 1 = ((d - k : Nat) : Int) := by omega
      have HL : Hid (d + 1 - (k + 1) = d - k) := by rw [Hid]; omega
      have HBV := Lib.hid hbel
      clear hbel
      generalize ((d + 1 - k : Nat) : Int) = Lp at *
      go_wp2
      obtain ⟨V, rfl⟩ : ∃ V : World, V = wr := ⟨_, rfl⟩
      go_loopw [10, 11] (fun pv vv wr => ∃ v : Nat, v ≤ posP r T Y d X (k + 1) ∧ vv = .int .i64 (v : Int) ∧ pv = .slice P (walkP r T Y d X k).length cp ∧ Hid (IntsOwn wr w2.heap.size P cp (walkP r T Y d X k)) ∧ Below w2.heap.size w2 wr) (fun _ vv _ => 20 - (intOf vv).toNat)
      case atStart => exact ⟨0, Nat.zero_le _, rfl, rfl, HO, HBV.out⟩
      case round =>
        clear HO HBV
        obtain ⟨v, hv, rfl, rfl, HO, hbel⟩ := hrel
        have hps := HPS.out k hkd
        have hpk := (HPO.out k (by omega)).1
        have hv20 : v < 20 := by omega
        have hv19 : (v : Int) ≤ 19 := by omega
        have hwl := walkP_len r T Y d X k
        have hat := IntsOwn.at_ HO.out
        obtain ⟨b, off, rfl, hbk, hcc⟩ := hat (by omega)
        have ck : wr.cell? ⟨b, off + k, none⟩ = some (.int .i64 (posP r T Y d X k : Int)) := by have := hcc k (by omega); rwa [walkP_last] at this
        have hws := walkP_succ r T Y d X k
        have HSN : Hid (walkP r T Y d X (k + 1) = walkP r T Y d X k ++ [(posP r T Y d X (k + 1) : Int)]) := hws
        clear hat hcc hws
        generalize hxs : walkP r T Y d X k = xs at *
        have hi1 : (0 : Int) ≤ (xs.length : Int) - 1 := by omega
        have hi2 : (xs.length : Int) - 1 < xs.length := by omega
        have hi3 : ((xs.length : Int) - 1).toNat = k := by omega
        have hxl : xs.length ≤ 4194304 := by omega
        have hb4 : Below wr.heap.size wr (wr.alloc (.cells #[.int .i64 (posP r T Y d X k : Int), .int .i64 (v : Int)] 3)) := bal (Below.refl _ _) _
        have hlit : IntsOwn (wr.alloc (.cells #[.int .i64 (posP r T Y d X k : Int), .int .i64 (v : Int)] 3)) wr.heap.size (some ⟨wr.heap.size, 0, none⟩) 2 [(posP r T Y d X k : Int), (v : Int)] := World.ownsRow_lit (base := wr.heap.size) (size := 1) (e := 3) wr #[.int .i64 (posP r T Y d X k : Int), .int .i64 (v : Int)] 2 (Nat.le_refl _) (by simp [maxLen]) (by simp)
        have hb5 := btr hbel hb4
        have hwt := weightOf_s A c es (some ⟨wr.heap.size, 0, none⟩) 2 [(posP r T Y d X k : Int), (v : Int)] _ (HX.out.below entR (btr hbb hb5)) hlit.at_ hn hr (by simp)
        rw [HWO.out, show ([(posP r T Y d X k : Int), (v : Int)] : List Int).length = 2 from rfl] at hwt
        have HO5 := Lib.hid (IntsOwn.below HO.out hb4)
        have HB5 := Lib.hid hb5
        have HXS := Lib.hid hxs
        have HPSv : Hid (isN r T Y (d - k) (posP r T Y d X k) v = false → v + 1 ≤ posP r T Y d X (k + 1)) := fun h => by
          apply Decidable.byContradiction
          intro hn
          have e : v = posP r T Y d X (k + 1) := by omega
          rw [e, hps.1] at h; cases h
        have HPSe : Hid (isN r T Y (d - k) (posP r T Y d X k) v = true → v = posP r T Y d X (k + 1)) := fun h => by
          apply Decidable.byContradiction
          intro hne
          rw [hps.2.2 v (by omega)] at h; cases h
        clear hps hwl hlit hb4 hb5 hxs hbel hv
        by_cases he : hasR r (posP r T Y d X k) v = true
        · rw [if_pos he] at hwt
          have hgv := HDI.out v hv20
          have HEV := Lib.hid he
          generalize hgT : getT T v Y = gv at *
          by_cases hg : gv = ((d - k : Nat) : Int)
          · have hgB : (gv == Lp - 1) = true := by rw [hl1]; simpa using hg
            have HV : Hid (v = posP r T Y d X (k + 1)) := HPSe.out (by simp [isN, he, hgT, hg])
            clear he hg hgT
            generalize posP r T Y d X k = u at *
            go_wp2_with fail
            refine hwt.mono ?_
            rintro e w5 ⟨rfl, b5⟩
            clear hwt
            have hb6 := btr HB5.out b5
            go_wp2_with fail
            refine (hgv _ _ _ (HD.out.below entR hb6)).mono ?_
            rintro e wy ⟨rfl, rfl⟩
            clear hgv
            have hxr : IntsOwn w5 w2.heap.size (some ⟨b, off, none⟩) cp xs := IntsOwn.below HO5.out b5
            have HXR := Lib.hid hxr
            have hs5 := hb6.size
            clear b5 hxr
            go_wp2_with (at_builtin; refine wpList_append_src _ rfl _ _ 24 rfl w2.heap.size 3 i0 (.int .i64 0) 1 8 Try.underlying24 hi0 hz0 hz1 hz2 rfl (by decide) _ _ _ rfl (HXR.out.below (bal (Below.refl _ _) _)) (some ⟨w5.heap.size, 0, none⟩) 1 1 [.int .i64 (v : Int)] rfl rfl (fun h => by cases h) (intZ_src1 _) (intZ_one1 _) (by unfold maxLen; omega) (by omega) (by simp; omega) ?_)
            intro v' w6 hown' hgrow hloc
            obtain ⟨A4, c4, rfl⟩ := own_slice hown'
            have hrw : ∀ q, (Value.slice (some ⟨b, off, none⟩) xs.length cp).ownBlock = some q → w2.heap.size ≤ q := fun q hq => (World.ownsRow.lt HXR.out q hq).1
            have hb7 : Below w2.heap.size w2 w6 := (bal hb6 _).grown hgrow (by simp; omega) hrw
            have hrow : IntsOwn w6 w2.heap.size A4 c4 (xs ++ [(v : Int)]) := by
              have : w6.ownsRow w2.heap.size 3 1 (.slice A4 (xs ++ [(v : Int)]).length c4) (xs ++ [(v : Int)]).length ((xs ++ [(v : Int)]).map (Value.int .i64)) := by simpa using hown'
              exact this
            have HN2 : Hid (walkP r T Y d X (k + 1) = xs ++ [(v : Int)]) := by rw [Hid, HSN.out, HV.out]
            have HRW : Hid (IntsOwn w6 w2.heap.size A4 c4 (walkP r T Y d X (k + 1))) := by rw [Hid, HN2.out]; exact hrow
            have HLN : Hid (xs.length + 1 = (walkP r T Y d X (k + 1)).length) := by rw [Hid, HN2.out]; simp
            have HB7 := Lib.hid hb7
            have HL1 : Hid (Lp - 1 = ((d + 1 - (k + 1) : Nat) : Int)) := by rw [Hid, hl1]; congr 1; omega
            clear hrw hb7 hrow hown' hgrow hloc
            go_wp2
            go_roundw
            case rel =>
              first | refine ⟨_, _, _, _, _, _, _, _, _, _, _, _, _, _, _, _, _, _, _, _, _, _, _, _, _, _, _, _, _, _, ?_, rfl⟩ | refine ⟨_, _, _, _, _, _, _, _, _, _, _, _, _, _, _, _, _, _, _, _, _, _, _, _, _, _, _, _, _, _, _, ?_, rfl⟩ | refine ⟨_, _, _, _, _, _, _, _, _, _, _, _, _, _, _, _, _, _, _, _, _, _, _, _, _, _, _, _, _, _, _, _, ?_, rfl⟩ | refine ⟨_, _, _, _, _, _, _, _, _, _, _, _, _, _, _, _, _, _, _, _, _, _, _, _, _, _, _, _, _, _, _, _, _, ?_, rfl⟩ | refine ⟨_, _, _, _, _, _, _, _, _, _, _, _, _, _, _, _, _, _, _, _, _, _, _, _, _, _, _, _, _, _, _, _, _, _, ?_, rfl⟩ | refine ⟨_, _, _, _, _, _, _, _, _, _, _, _, _, _, _, _, _, _, _, _, _, _, _, _, _, _, _, _, _, _, _, _, _, _, _, ?_, rfl⟩ | refine ⟨_, _, _, _, _, _, _, _, _, _, _, _, _, _, _, _, _, _, _, _, _, _, _, _, _, _, _, _, _, _, _, _, _, _, _, _, ?_, rfl⟩ | refine ⟨_, _, _, _, _, _, _, _, _, _, _, _, _, _, _, _, _, _, _, _, _, _, _, _, _, _, _, _, _, _, _, _, _, _, _, _, _, ?_, rfl⟩ | refine ⟨_, _, _, _, _, _, _, _, _, _, _, _, _, _, _, _, _, _, _, _, _, _, _, _, _, _, _, _, _, _, _, _, _, _, _, _, _, _, ?_, rfl⟩ | refine ⟨_, _, _, _, _, _, _, _, _, _, _, _, _, _, _, _, _, _, _, _, _, _, _, _, _, _, _, _, _, _, _, _, _, _, _, _, _, _, _, ?_, rfl⟩ | refine ⟨_, _, _, _, _, _, _, _, _, _, _, _, _, _, _, _, _, _, _, _, _, _, _, _, _, _, _, _, _, _, _, _, _, _, _, _, _, _, _, _, ?_, rfl⟩ | refine ⟨_, _, _, _, _, _, _, _, _, _, _, _, _, _, _, _, _, _, _, _, _, _, _, _, _, _, _, _, _, _, _, _, _, _, _, _, _, _, _, _, _, ?_, rfl⟩ | refine ⟨_, _, _, _, _, _, _, _, _, _, _, _, _, _, _, _, _, _, _, _, _, _, _, _, _, _, _, _, _, _, _, _, _, _, _, _, _, _, _, _, _, _, ?_, rfl⟩ | refine ⟨_, _, _, _, _, _, _, _, _, _, _, _, _, _, _, _, _, _, _, _, _, _, _, _, _, _, _, _, _, _, _, _, _, _, _, _, _, _, _, _, _, _, _, ?_, rfl⟩
              exact ⟨k + 1, A4, c4, by omega, by rw [← HL1.out, hl1], by rw [← HLN.out], HRW, HB7.out⟩
            case measure => simp [intOf]; omega
          · have hgB : (gv == Lp - 1) = false := by rw [hl1]; simpa using hg
            have HV := Lib.hid (HPSv.out (by simp [isN, he, hgT, hg]))
            clear he hg hgT
            generalize posP r T Y d X k = u at *
            go_wp2_with fail
            refine hwt.mono ?_
            rintro e w5 ⟨rfl, b5⟩
            clear hwt
            have hb6 := btr HB5.out b5
            go_wp2_with fail
            refine (hgv _ _ _ (HD.out.below entR hb6)).mono ?_
            rintro e wy ⟨rfl, rfl⟩
            clear hgv
            have HO6 := Lib.hid (IntsOwn.below HO5.out b5)
            clear b5
            go_wp2
            go_roundw
            case rel =>
              refine ⟨_, _, _, _, _, _, _, _, _, _, _, _, _, _, _, _, _, _, _, _, _, _, _, _, _, _, _, _, _, _, ?_, rfl⟩
              exact ⟨v + 1, HV.out, by go_num, rfl, HO6, hb6⟩
            case measure => simp [intOf]; omega
        · rw [if_neg he] at hwt
          have HV := Lib.hid (HPSv.out (by simp [isN, he]))
          clear he
          generalize posP r T Y d X k = u at *
          go_wp2_with fail
          refine hwt.mono ?_
          rintro e w5 ⟨rfl, b5⟩
          clear hwt
          have hb6 := btr HB5.out b5
          have HO6 := Lib.hid (IntsOwn.below HO5.out b5)
          clear b5
          go_wp2
          go_roundw
          case rel =>
            refine ⟨_, _, _, _, _, _, _, _, _, _, _, _, _, _, _, _, _, _, _, _, _, _, _, _, _, _, _, _, _, _, ?_, rfl⟩
            exact ⟨v + 1, HV.out, by go_num, rfl, HO6, hb6⟩
          case measure => simp [intOf]; omega
    · obtain rfl : k = d := by omega
      have e1 : k + 1 - k = 1 := by omega
      rw [e1]
      have hxl : (walkP r T Y k X k).length ≤ 4194304 := by rw [walkP_len]; omega
      have HXR := HO
      clear HW0 HPO HPS hk hkd e1 HO
      generalize hxs : walkP r T Y k X k = xs at *
      have HXSd := Lib.hid hxs
      clear hxs
      have hs5 := hbel.size
      go_wp2_with (at_builtin; refine wpList_append_src _ rfl _ _ 24 rfl w2.heap.size 3 i0 (.int .i64 0) 1 8 Try.underlying24 hi0 hz0 hz1 hz2 rfl (by decide) _ _ _ rfl (HXR.out.below (bal (Below.refl _ _) _)) (some ⟨wr.heap.size, 0, none⟩) 1 1 [.int .i64 (Y : Int)] rfl rfl (fun h => by cases h) (intZ_src1 _) (intZ_one1 _) (by unfold maxLen; omega) (by omega) (by simp; omega) ?_)
      intro v' w6 hown' hgrow hloc
      obtain ⟨A4, c4, rfl⟩ := own_slice hown'
      have hrw : ∀ q, (Value.slice P xs.length cp).ownBlock = some q → w2.heap.size ≤ q := fun q hq => (World.ownsRow.lt HXR.out q hq).1
      have hb7 : Below w2.heap.size w2 w6 := (bal hbel _).grown hgrow (by simp; omega) hrw
      have hrow : IntsOwn w6 w2.heap.size A4 c4 (xs ++ [(Y : Int)]) := by
        have : w6.ownsRow w2.heap.size 3 1 (.slice A4 (xs ++ [(Y : Int)]).length c4) (xs ++ [(Y : Int)]).length ((xs ++ [(Y : Int)]).map (Value.int .i64)) := by simpa using hown'
        exact this
      have HR := Lib.hid (And.intro (hrow.mono hbb.size) (btr hbb hb7))
      clear hrw hb7 hrow hown' hgrow hloc
      go_wp2
      exact bodyPost_ret (v := .tuple #[.slice A4 (xs.length + 1) c4, .bool true]) (by simp [results, Try.results10, go_sem]) rfl ⟨A4, c4, by rw [HXSd.out]; simp, by rw [HXSd.out]; exact HR.out.1, HR.out.2⟩
end Go.Proofs.Ytifjenleoagefaa
