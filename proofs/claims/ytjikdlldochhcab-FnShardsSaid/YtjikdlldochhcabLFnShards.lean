/- The law FnShards returns true at every code; no condition. -/
import Derived.Test.YtjikdlldochhcabShs
import Derived.Test.YtjikdlldochhcabGat
import Derived.Test.YtjikdlldochhcabSmF
import Derived.Test.YtjikdlldochhcabDrawSz
import Derived.Test.YtjikdlldochhcabEqL
import Derived.Test.YtjikdlldochhcabClo
import Derived.Carry
import Derived.ChangeOld
import Derived.Lib.SmallJoins
import Derived.Lib.QuietBelow
namespace Go.Proofs.Ytjikdlldochhcab
open Go.ChangeShapes Go.WideShapes Go.ChangeAt Go.RowKit Go.Sort
set_option linter.unusedVariables false
set_option linter.unusedSimpArgs false

/-! ### Rows with their room -/
def EntK : Rd Ent := fun w cs e => ∃ A c, cs = [.slice A e.1.length c, .int .i64 e.2] ∧ e.1.length ≤ c ∧ c ≤ maxLen ∧ IntsAt w A e.1
theorem entK : ROk EntK 2 := ⟨fun ⟨_, _, e, _⟩ => by rw [e]; rfl, fun ⟨A, c, e, l, m, h⟩ hb => ⟨A, c, e, l, m, h.below hb⟩⟩
theorem EntsK.get {w : World} {A : Option Addr} {es : List Ent} (h : SlAt EntK 2 w A es) (j : Nat) (hj : j < es.length) :
    ∃ b off RA rc, A = some ⟨b, off, none⟩ ∧ b < w.heap.size ∧ w.cell? ⟨b, off + j * 2, none⟩ = some (.slice RA es[j].1.length rc) ∧ es[j].1.length ≤ rc ∧ rc ≤ maxLen ∧ IntsAt w RA es[j].1 := by
  obtain ⟨b, off, rfl, hlt, hc⟩ := h (by omega)
  obtain ⟨cs, hl, hcell, hr⟩ := hc j hj
  obtain ⟨RA, rc, rfl, l, m, hi⟩ := hr
  exact ⟨b, off, RA, rc, rfl, hlt, (by have h := hcell 0 (by omega); rw [Nat.add_zero] at h; exact h), l, m, hi⟩
theorem EntsOw.atK {w : World} {S : Fp} {A : Option Addr} {c : Nat} {es : List Ent} (h : EntsOw w S A c es) : SlAt EntK 2 w A es := fun hn => by
  obtain ⟨css, F, h⟩ := h
  rcases h.form with ⟨_, _, rfl⟩ | ⟨g, rfl, _, hlt, _⟩
  · simp at hn
  · refine ⟨g, 0, rfl, hlt, fun j hj => ?_⟩
    have h1 : j < css.length := by rw [h.clen]; exact hj
    refine ⟨css[j], h.elen _ (List.getElem_mem h1), fun i hi => by rw [Nat.zero_add, h.cell j h1 i hi], ?_⟩
    obtain ⟨RA, rc, hcs, _, hown⟩ := (h.elt j h1 hj).form
    have hcap := IntsOwn.len_cap hown
    exact ⟨RA, rc, hcs, hcap.1, hcap.2, hown.at_⟩
def ZlK : Rd Zs := fun w cs z => ∃ A c, cs = [.slice A z.length c] ∧ SlAt EntK 2 w A z
theorem zlK : ROk ZlK 1 := ⟨fun ⟨_, _, e, _⟩ => by rw [e]; rfl, fun ⟨A, c, e, h⟩ hb => ⟨A, c, e, SlAt.below entK h hb⟩⟩
theorem ZssOw.atK {w : World} {S : Fp} {A : Option Addr} {c : Nat} {zs : List Zs} (h : ZssOw w S A c zs) : SlAt ZlK 1 w A zs := fun hn => by
  obtain ⟨css, F, h⟩ := h
  rcases h.form with ⟨_, _, rfl⟩ | ⟨g, rfl, _, hlt, _⟩
  · simp at hn
  · refine ⟨g, 0, rfl, hlt, fun j hj => ?_⟩
    have h1 : j < css.length := by rw [h.clen]; exact hj
    refine ⟨css[j], h.elen _ (List.getElem_mem h1), fun i hi => by rw [Nat.zero_add, h.cell j h1 i hi], ?_⟩
    obtain ⟨ZA, zc, hcs, hown⟩ := h.elt j h1 hj
    exact ⟨ZA, zc, hcs, EntsOw.atK hown⟩
theorem ZssK.get {w : World} {A : Option Addr} {zs : List Zs} (h : SlAt ZlK 1 w A zs) (k : Nat) (hk : k < zs.length) :
    ∃ b off ZA zc, A = some ⟨b, off, none⟩ ∧ b < w.heap.size ∧ w.cell? ⟨b, off + k, none⟩ = some (.slice ZA zs[k].length zc) ∧ SlAt EntK 2 w ZA zs[k] := by
  obtain ⟨b, off, rfl, hlt, hc⟩ := h (by omega)
  obtain ⟨cs, hl, hcell, hr⟩ := hc k hk
  obtain ⟨ZA, zc, rfl, hi⟩ := hr
  exact ⟨b, off, ZA, zc, rfl, hlt, by have := hcell 0 (by omega); simpa using this, hi⟩
theorem equalL {A B : Option Addr} {c d : Nat} {xs ys : List Zs} {w : World} (r : Bool) (he : decide (xs = ys) = r) (hx : ZssAt w A xs) (hy : ZssAt w B ys) (hn : xs.length ≤ 4194304) (hm : ys.length ≤ 4194304) (hr : zsIn xs 4194304) (hs : zsIn ys 4194304) :
    Calls Try.prog 29 #[.slice A xs.length c, .slice B ys.length d] w fun e w' => e = .returned (.bool r) ∧ Below w.heap.size w w' :=
  he ▸ equalLists_l A B c d xs ys w hx hy hn hm hr hs
/-! ### The shards add up -/
theorem gat_take {z : List Ent} (hz : zsB z = true) (k n : Nat) (hn : 1 ≤ n) : ∀ j, j ≤ n → gatL ((shL z k n).take j) = z.filter fun e => decide (sIx k (n : Int) e < (j : Int))
  | 0, _ => by
    rw [List.take_zero]
    refine (List.filter_eq_nil_iff.2 (fun e _ => ?_)).symm
    have := (sIx_bd (k := k) (n := (n : Int)) (by omega) e).1
    simp
    omega
  | j + 1, h => by
    have hj : j < (shL z k n).length := by rw [shL_length]; omega
    rw [gatL_step hj, gat_take hz k n hn j (by omega), shL_get]
    have hy := zsB_filter (fun e : Ent => decide (sIx k (n : Int) e < ((j + 1 : Nat) : Int))) hz
    have h1 : z.filter (fun e => decide (sIx k (n : Int) e < (j : Int))) = (z.filter fun e => decide (sIx k (n : Int) e < ((j + 1 : Nat) : Int))).filter (fun e => decide (hsL (e.1.take k) % (n : Int) < (j : Int))) := by
      rw [List.filter_filter]
      refine List.filter_congr fun e _ => ?_
      unfold sIx
      rw [Bool.eq_iff_iff]
      simp
      omega
    have h2 : z.filter (fun e => decide (sIx k (n : Int) e = (j : Int))) = (z.filter fun e => decide (sIx k (n : Int) e < ((j + 1 : Nat) : Int))).filter (fun e => decide (hsL (e.1.take k) % (n : Int) = (j : Int))) := by
      rw [List.filter_filter]
      refine List.filter_congr fun e _ => ?_
      unfold sIx
      rw [Bool.eq_iff_iff]
      simp
      omega
    rw [h1, h2]
    refine zsB_dividing hy (fun r => decide (hsL (r.take k) % (n : Int) < (j : Int))) (fun r => decide (hsL (r.take k) % (n : Int) = (j : Int))) (fun e he => ?_)
    have := (List.mem_filter.1 he).2
    unfold sIx at this
    simp at this
    rw [Bool.eq_iff_iff]
    simp
    omega
theorem ShsF_yes {z : List Ent} {k n : Int} (h : (ShsF z k n).length ≠ 0) : ∃ a b : Nat, k = a ∧ n = b ∧ 1 ≤ b ∧ b ≤ 8 ∧ zsB z = true ∧ (z.length = 0 ∨ a ≤ wid z) ∧ ShsF z k n = shL z a b := by
  by_cases hc : shcB z k n = true
  · have e : ShsF z k n = shL z k.toNat n.toNat := by simp [ShsF, hc]
    simp only [shcB, Bool.and_eq_true, Bool.or_eq_true, decide_eq_true_eq] at hc
    obtain ⟨h1, h2, h3, h4⟩ := hc
    have := inB_yes h4
    exact ⟨k.toNat, n.toNat, by omega, by omega, by omega, by omega, h1, by omega, e⟩
  · have e : ShsF z k n = [] := ShsF_no (by simpa using hc)
    rw [e] at h
    simp at h
theorem ShsF_gat {z : List Ent} {k n : Int} (h : (ShsF z k n).length ≠ 0) : gatF (ShsF z k n) = z := by
  obtain ⟨a, b, rfl, rfl, h1, h8, hz, _, e⟩ := ShsF_yes h
  rw [e]
  have hall : allZ (shL z a b) = true := List.all_eq_true.2 (fun y hy => by
    obtain ⟨j, _, rfl⟩ := List.mem_map.1 hy
    exact zsB_filter _ hz)
  have hl : (shL z a b).length ≤ 8 := by rw [shL_length]; exact h8
  rw [gatF, if_pos ⟨hall, hl⟩]
  have h := gat_take hz a b h1 b (Nat.le_refl _)
  rw [List.take_of_length_le (by rw [shL_length]; exact Nat.le_refl _)] at h
  rw [h]
  refine List.filter_eq_self.2 (fun e _ => ?_)
  simpa using (sIx_bd (k := a) (n := (b : Int)) (by omega) e).2
theorem ShsF_row {z : List Ent} {k n : Int} {i : Nat} (hi : i < (ShsF z k n).length) {q : Nat} (hq : q < (ShsF z k n)[i].length) :
    shF (ShsF z k n)[i][q].1 k n = (i : Int) ∧ (ShsF z k n)[i][q].1.length ≤ 6 := by
  obtain ⟨a, b, rfl, rfl, h1, h8, hz, hw, e⟩ := ShsF_yes (z := z) (k := k) (n := n) (by omega)
  have hm : (ShsF z (a : Int) (b : Int))[i][q] ∈ (ShsF z (a : Int) (b : Int))[i] := List.getElem_mem hq
  generalize (ShsF z (a : Int) (b : Int))[i][q] = x at *
  have hm2 : x ∈ z.filter fun e => decide (sIx a (b : Int) e = (i : Int)) := by
    have hi2 : i < (shL z a b).length := by rw [← e]; exact hi
    rw [← shL_get z a b hi2]
    simpa [e] using hm
  obtain ⟨hm3, hm4⟩ := List.mem_filter.1 hm2
  have hb := zsB_sumE hz _ hm3
  simp only [sumE, Bool.and_eq_true] at hb
  have hwd := zsB_wid hz _ hm3
  have hlen : a ≤ x.1.length := by
    rcases hw with h | h
    · rw [List.eq_nil_of_length_eq_zero h] at hm3; cases hm3
    · omega
  have h6 : x.1.length ≤ 6 := by have h := hb.1; simp only [rowB, decide_eq_true_eq] at h; exact h.2.1
  refine ⟨?_, h6⟩
  have a1 : inB (a : Int) 0 (x.1.length : Int) = true := by simp [inB]; omega
  have a2 : inB (b : Int) 1 8 = true := by simp [inB]; omega
  have a3 : shB x.1 (a : Int) (b : Int) = true := by simp only [shB, hb.1, a1, a2]; rfl
  rw [shF, if_pos a3]
  exact of_decide_eq_true hm4
set_option maxRecDepth 100000 in
set_option maxHeartbeats 6400000 in
theorem FnShards_walk (A : Option Addr) (n c : Nat) (w : World) (hc : n ≤ c) (hl : n ≤ maxLen) (hb : BytesAt w w.heap.size A n) :
    Calls Try.prog 7 #[.slice A n c] w fun e w' => e = .returned (.bool true) ∧ Below w.heap.size w w' := by
  unfold maxLen at hl
  by_cases hbign : 1048576 < n
  · have hb' : (1048576 : Int) < n := by omega
    go_enter Try.func7, Try.ntmps7
    go_wp2
    go_ret
    exact ⟨rfl, Below.refl _ _⟩
  have hbn' : (n : Int) ≤ 1048576 := by omega
  have HB := Lib.hid hb
  clear hb hbign
  go_enter Try.func7, Try.ntmps7
  go_wp2_with fail
  refine (DrawShards_r _ _ _ _ HB.out hc (by omega)).mono ?_
  rintro e w1 ⟨z, x, y, AZ, cz, rfl, ⟨ho, hzl, hzr0, -⟩, hx0, hx1, hy0, hy1, B1⟩
  have hZ := EntsOw.at_ ho
  have hzl2 : z.length ≤ 4194304 := by omega
  have hzr : rowsIn z 4194304 := fun e he => by have := hzr0 e he; omega
  clear ho hzr0
  have hI := fun W (h : EntsAt W AZ z) => Shards_i AZ cz z x y W h hzl2 hzr (by omega) (by omega)
  have hS := fun W (h : EntsAt W AZ z) => Shards_s AZ cz z x y W h hzl2 hzr (by omega) (by omega)
  have HROW : Hid (∀ i (hi : i < (ShsF z x y).length) q (hq : q < (ShsF z x y)[i].length), shF (ShsF z x y)[i][q].1 x y = (i : Int) ∧ (ShsF z x y)[i][q].1.length ≤ 6) := fun i hi q hq => ShsF_row hi hq
  have HGAT : Hid ((ShsF z x y).length ≠ 0 → gatF (ShsF z x y) = z ∧ ((ShsF z x y).length : Int) = y) := fun h => ⟨ShsF_gat h, by
    obtain ⟨a, b, rfl, rfl, -, -, -, -, e⟩ := ShsF_yes h
    rw [e, shL_length]⟩
  have hLl := ShsF_len z x y
  have hLi := ShsF_in z x y
  generalize ShsF z x y = L at *
  go_wp2_with fail
  refine (hI _ hZ).mono ?_
  rintro e w2 ⟨AL, cL, rfl, oL, b2⟩
  have B2 := btr B1 b2
  have hK2 := ZssOw.atK oL
  have hL2 := ZssOw.at_ oL
  have hC2 := ZssOw.atC oL
  clear oL hI
  go_wp2_with fail
  refine (hS _ (hZ.below entR b2)).mono ?_
  rintro e w3 ⟨AS, cS, rfl, oS, b3⟩
  have B3 := btr B2 b3
  have hS3 := ZssOw.at_ oS
  clear oS
  go_wp2_with fail
  refine (equalL (xs := L) (ys := L) true (decide_eq_true rfl) (SlAt.below zlR hL2 b3) hS3 (by omega) (by omega) hLi hLi).mono ?_
  rintro e w4 ⟨rfl, b4⟩
  have B4 := btr B3 b4
  have b24 := btr b3 b4
  rcases Nat.eq_zero_or_pos L.length with h0 | hp
  · have h0' : ((L.length : Int) == 0) = true := by simp [h0]
    clear HROW HGAT h0
    go_wp2_with fail
    refine (hS _ ((hZ.below entR b2).below entR b24)).mono ?_
    rintro e w5 ⟨AS2, cS2, rfl, oS2, b5⟩
    have hS5 := ZssOw.at_ oS2
    clear oS2
    go_wp2_with fail
    refine (equalL (xs := L) (ys := L) true (decide_eq_true rfl) (SlAt.below zlR hL2 (btr b24 b5)) hS5 (by omega) (by omega) hLi hLi).mono ?_
    rintro e w6 ⟨rfl, b6⟩
    go_wp2
    go_ret
    exact ⟨rfl, btr B4 (btr b5 b6)⟩
  have h0' : ((L.length : Int) == 0) = false := by rw [beq_eq_false_iff_ne]; omega
  have hZ4 := (hZ.below entR b2).below entR b24
  have hK4 : SlAt ZlK 1 w4 AL L := SlAt.below zlK hK2 b24
  have hC4 : ZssC w4 AL L := SlAt.below zlC hC2 b24
  have HG := HGAT.out (by omega)
  have HGA := Lib.hid HG.1
  have HYL := Lib.hid HG.2
  have HK := Lib.hid hK4
  have HCZ := Lib.hid (And.intro hC4 hZ4)
  have HB4 := Lib.hid B4
  clear hK4 hC4 hZ4 HG HGAT hS3 hK2 hC2 hL2 hS hZ b2 b3 b4 b24 B1 B2 B3 B4
  go_wp2
  go_loopw [7, 8] (fun i _ wr => ∃ a : Nat, a ≤ L.length ∧ i = .int .i64 (a : Nat) ∧ Below w4.heap.size w4 wr) (fun i _ _ => L.length - (intOf i).toNat)
  case atStart => exact ⟨0, by omega, rfl, Below.refl _ _⟩
  case round =>
    obtain ⟨a, ha, rfl, hbel⟩ := hrel
    by_cases hlt : a < L.length
    · obtain ⟨b, off, ZA, zc, rfl, hbl, hc0, hzz⟩ := ZssK.get (SlAt.below zlK HK.out hbel) a hlt
      have HZZ := Lib.hid hzz
      have HBEL := Lib.hid hbel
      have hrows := HROW.out a hlt
      have hla := (hLi.get hlt).1
      have HR := Lib.hid hrows
      obtain ⟨V, rfl⟩ : ∃ V : World, V = wr := ⟨_, rfl⟩
      clear hzz hbel hrows
      go_wp2
      go_loopw [8] (fun j wq => ∃ q : Nat, q ≤ L[a].length ∧ j = .int .i64 (q : Nat) ∧ Below V.heap.size V wq) (fun j _ => L[a].length - (intOf j).toNat)
      case atStart => exact ⟨0, by omega, rfl, Below.refl _ _⟩
      case round =>
        obtain ⟨q, hq, rfl, hb2⟩ := hrel
        have q0 := (hb2.cell (p := ⟨b, off + a, none⟩) hbl).trans hc0
        by_cases hlq : q < L[a].length
        · obtain ⟨b', off', RA, rc, rfl, hbl2, hd0, hcap1, hcap2, hrow⟩ := EntsK.get (SlAt.below entK HZZ.out hb2) q hlq
          have hsr := HR.out q hlq
          have hcon := ShardOf_i RA rc L[a][q].1 x y wr hrow hcap1 hcap2 (by omega)
          rw [hsr.1] at hcon
          have hne : ((a : Int) != (a : Int)) = false := by simp
          clear hrow hsr
          go_wp2_with fail
          refine hcon.mono ?_
          rintro e w5 ⟨rfl, b5⟩
          have HB5 := Lib.hid (btr hb2 b5)
          clear hcon hb2 b5 q0 hd0
          go_wp2
          go_roundw
          case rel => exact ⟨q + 1, by omega, by go_num, HB5.out⟩
          case measure => simp [intOf]; omega
        · obtain rfl : q = L[a].length := by omega
          have HB5 := Lib.hid (btr HBEL.out hb2)
          clear hb2
          go_wp2
          go_roundw
          case rel => exact ⟨a + 1, by omega, by go_num, HB5.out⟩
          case measure => simp [intOf]; omega
    · obtain rfl : a = L.length := by omega
      have hyb : ((L.length : Int) == y) = true := by have := HYL.out; simp [this]
      have hGa := Gather_i AL cL L wr (SlAt.below zlC HCZ.out.1 hbel) (by omega) hLi
      rw [HGA.out] at hGa
      have hZr := HCZ.out.2.below entR hbel
      have HBW := Lib.hid (btr HB4.out hbel)
      clear hbel
      go_wp2_with fail
      refine hGa.mono ?_
      rintro e w5 ⟨AG, cG, rfl, oG, b5⟩
      have hG5 := EntsOw.at_ oG
      clear oG hGa
      go_wp2_with fail
      refine (equalZ (xs := z) (ys := z) true (decide_eq_true rfl) hG5 (hZr.below entR b5) hzl2 hzl2 hzr hzr).mono ?_
      rintro e w6 ⟨rfl, b6⟩
      have HBB := Lib.hid (btr HBW.out (btr b5 b6))
      clear b5 b6 hG5 hZr
      go_wp2
      go_ret
      exact ⟨rfl, HBB.out⟩

namespace lawFnShards
theorem own : ownKnob Try.prog.godebug = none := by kernel_rfl
theorem laidOut : laidOutB Try.prog = true := clo_laid
set_option maxRecDepth 100000 in
theorem lifted (os : Os) (started : os.Started) (H : Type) (enc : TypeId × Value → H) :
    ReturnsInHanded {} Try.checked os 7 .any (Rows.fnShardsSpec.pre6 enc Try.prog Try.f7 Rows.fnShardsRow.domain false) (Rows.fnShardsSpec.post enc Try.prog Try.f7 false true false false) := by
  refine returnsInHanded_of_change (C := Try.checked) own started (by kernel_rfl) Try.func7
    (ChangeSpec.witness6 (enc := enc) (C := Try.checked) false ⟨#[], #[.slice none 0 0], []⟩ 8 (by kernel_rfl) (by kernel_rfl) (by kernel_rfl) (by kernel_rfl)) ?_
  intro W base args ds gs before hval0 hW hcnd _
  have hval : ∀ (j : Nat) t v, Try.f7.params[j]? = some t → args[j]? = some v → Value.okWide Try.prog W .any base t v := hval0
  have hW' := hW
  obtain ⟨p, q, hA0, hV, rfl, hfz, hnd⟩ := hW
  have hA : DataW.TrodAll enc Try.prog W 0 (fun _ => true) true Try.f7.params.toList args.toList ds p := hA0
  rw [Try.params7] at hA hval
  obtain ⟨v0, vs0, d0, ds0, p0, q0, hargs, rfl, rfl, h0, r0⟩ := trodAll_cons hA
  obtain ⟨rfl, rfl, rfl⟩ := trodAll_nil r0
  obtain rfl : args = #[v0] := by cases args; simp_all
  obtain ⟨rfl, rfl⟩ := trodVars_none hV
  have k0 := h0
  have lt0 : ∀ x ∈ p0, x.block < W.heap.size := by obtain ⟨m, hm⟩ := k0; exact DataW.trod_lt m _ _ _ hm
  obtain ⟨a0, len0, cap0, rfl⟩ := okWide_slice Try.underlying43 (hval 0 43 v0 rfl rfl)
  obtain ⟨l0, m0, w0⟩ := bytes_of Try.underlying43 Try.underlying5 (by kernel_rfl) h0
  clear hA0 hval0
  refine (FnShards_walk a0 len0 cap0 W l0 m0 w0).mono fun e W' ⟨he, bel⟩ => ?_
  subst he
  exact ⟨_, rfl, _, _, _, [], _, [], hW', trodAll_mk1 (shut_bool Try.underlying4 _), (trodAll_cons_mk (Below.trod laidOut (by kernel_rfl) (of_decide_eq_true (by kernel_rfl)) k0 bel lt0) trodAll_mk0), rfl, bel.frame _, fun h => by cases h⟩
theorem andTT {a b : Bool} (h1 : a = true) (h2 : b = true) : (a && b) = true := by rw [h1, h2]; rfl
set_option maxHeartbeats 8000000 in
theorem closed : joinedFacts Try.prog 7 Try.f7 Rows.fnShardsSpec Rows.fnShardsRow = true := by
  unfold joinedFacts
  repeat' (with_reducible refine andTT ?_ ?_)
  all_goals (first | (with_reducible exact clo_laid) | (with_reducible exact clo_maps) | (with_reducible exact clo_heard) | (with_reducible exact clo_enter) | ((with_reducible refine clo_plain _ ?_); rfl) | ((with_reducible refine clo_lifts _ ?_); rfl) | (as_aux_lemma => kernel_rfl))

theorem over : Rows.fnShardsRow.holds Try.pinned (OpenSpec.ofChange Rows.fnShardsSpec) :=
  OpenClaim.holds_of_wide 7 Try.f7 rfl rfl rfl rfl rfl rfl rfl ⟨rfl, rfl, rfl, rfl, rfl⟩ rfl rfl rfl rfl rfl (by kernel_rfl) Try.func7 closed
    (of_decide_eq_true (by kernel_rfl)) (by unfold Func.isWrapper; first | (rw [if_pos (by decide +kernel)]; kernel_rfl) | (rw [if_neg (by decide +kernel)]; exact ⟨rfl, rfl⟩))
    (fun os started H enc _ => lifted os started H enc)

/-- THE STATEMENT. -/
theorem proved : Rows.FnShardsSaid := over
end lawFnShards
end Go.Proofs.Ytjikdlldochhcab
