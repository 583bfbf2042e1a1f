/- HELPER, no statement of the seat: the sums of the program, at entries. -/
import Derived.Test.YtjlpkfcdkmcjnaaBldE
namespace Go.Proofs.Ytjlpkfcdkmcjnaa
open Go.RowKit Go.Sort
set_option linter.unusedSimpArgs false
set_option linter.unusedVariables false

set_option maxHeartbeats 1600000 in
theorem addAllB_e (w0 w : World) (A : Option Addr) (c : Nat) (es : List Ent) (css : List (List Value)) (h : BAt w0 w A c es css) (B : Option Addr) (d : Nat) (xs : List Ent) (hx : EntsAt w0 B xs) (hn : es.length + xs.length ≤ 1048576) (hr : rowsIn es 4194304) (hr2 : rowsIn xs 4194304) (hw : wIn es 549755813888) (hw2 : wIn xs 1000000) (hx4 : xs.length ≤ 400) :
    Calls Try.prog 128 #[.pointer (some ⟨w0.heap.size, 0, none⟩), .slice B xs.length d] w fun r w' => r = .returned (.tuple #[]) ∧ Added w0 (sumM es xs) w' := by
  have H := Lib.hid h
  have HW := Lib.hid hw
  have HW2 := Lib.hid hw2
  have HR := Lib.hid hr
  have HR2 := Lib.hid hr2
  clear h hw hw2 hr hr2
  go_enter Try.func128, Try.ntmps128
  go_wp2
  go_loopw [5, 8] (fun _ i wr => ∃ (k : Nat) (A' : Option Addr) (c' : Nat) (css' : List (List Value)), k ≤ xs.length ∧ i = .int .i64 k ∧ BAt w0 wr A' c' (sumM es (xs.take k)) css') (fun _ i _ => xs.length - (intOf i).toNat)
  case atStart => exact ⟨0, A, c, css, by omega, rfl, H.out⟩
  case round =>
    obtain ⟨k, A', c', css', hk, rfl, hB⟩ := hrel
    by_cases hlt : k < xs.length
    · obtain ⟨b, off, RB, rd, rfl, hbl, hc0, hc1, hml, hrow⟩ := hx.get k hlt
      have q0 := (hB.bel.cell (p := ⟨b, off + k * 2, none⟩) hbl).trans hc0
      have q1 := (hB.bel.cell (p := ⟨b, off + k * 2 + 1, none⟩) hbl).trans hc1
      have hst := sumM_take (l := es) hlt
      have hl := sumM_length (xs.take k) es
      have hl' : (sumM es (xs.take k)).length ≤ 1048576 := by simp at hl; omega
      have hrk : rowsIn (sumM es (xs.take k)) 4194304 := sumM_all (p := fun r : List Int => r.length ≤ 4194304) _ _ HR.out (fun q hq => HR2.out q (List.mem_of_mem_take hq))
      have hwk : wIn (sumM es (xs.take k)) 1099511627776 := (sumM_in (d := 1000000) (by omega) (xs.take k) es 549755813888 HW.out (by omega) (fun q hq => HW2.out q (List.mem_of_mem_take hq))).mono (by simp; omega)
      have hre := HR2.out.get hlt
      have hwe := HW2.out.get hlt
      have hcon := fun W (hW : Below wr.heap.size wr W) => addB_e w0 W A' c' _ css' (hB.below hW) RB rd xs[k] (EntR.mk hml hrow) hl' hrk hre hwk (by omega) (by omega)
      have HST := Lib.hid hst
      clear hst hl hl' hrk hwk hre hwe hc0 hc1 hml
      go_wp2_with fail
      refine (hcon _ (by repeat (first | exact RowKit.Below.refl _ _ | refine bal ?_ _ | refine bset ?_ (by simp) _))).mono ?_
      rintro r w1 ⟨rfl, A2, c2, css2, hB2⟩
      rw [← HST.out] at hB2
      have HB2 := Lib.hid hB2
      clear hcon q0 q1 hB2 hB
      go_wp2
      go_roundw
      case rel => exact ⟨k + 1, A2, c2, css2, by omega, by go_num, HB2.out⟩
      case measure => simp [intOf]; omega
    · obtain rfl : k = xs.length := by omega
      rw [List.take_length] at hB
      have HB := Lib.hid hB
      clear hB
      go_wp2
      go_end0
      exact ⟨rfl, A', c', css', HB.out⟩

/-! ### slices.DeleteFunc -/
theorem isZ_c (v : Value) (x : Int) (w : World) :
    Calls Try.prog 159 #[.agg #[v, .int .i64 x]] w fun e w' => e = .returned (.bool (x == 0)) ∧ Below w.heap.size w w' := by
  have hm := m_isZero
  go_enter Try.func159, Try.ntmps159
  go_wp2_with fail
  refine (isZero_e _ _ _).mono ?_
  rintro e w1 ⟨rfl, hb⟩
  have hB := btr (bal (RowKit.Below.refl _ _) _) hb
  clear hb
  go_wp2_with fail
  go_ret
  exact ⟨rfl, hB⟩
def IdxP (es : List Ent) (e : Ending) : Prop := (e = .returned (.int .i64 (-1)) ∧ ∀ x ∈ es, x.2 ≠ 0) ∨ ∃ (k : Nat) (hk : k < es.length), e = .returned (.int .i64 (k : Int)) ∧ es[k].2 = 0 ∧ ∀ x ∈ es.take k, x.2 ≠ 0
set_option maxHeartbeats 800000 in
theorem idxZ_e (A : Option Addr) (c : Nat) (es : List Ent) (w : World) (hx : EntsAt w A es) (hn : es.length ≤ 4194304) :
    Calls Try.prog 184 #[.slice A es.length c, .func (.func 159) #[] #[]] w fun e w' => IdxP es e ∧ Below w.heap.size w w' := by
  go_enter Try.func184, Try.ntmps184
  go_wp2
  go_loopw [5, 8] (fun _ i wr => ∃ k : Nat, k ≤ es.length ∧ i = .int .i64 k ∧ Hid (∀ x ∈ es.take k, x.2 ≠ 0) ∧ Below w.heap.size w wr) (fun _ i _ => es.length - (intOf i).toNat)
  case atStart => exact ⟨0, by omega, rfl, fun x hx => by simp at hx, RowKit.Below.refl _ _⟩
  case round =>
    obtain ⟨k, hk, rfl, hall, hbel⟩ := hrel
    by_cases hlt : k < es.length
    · obtain ⟨b, off, RA, rc, rfl, hbl, hc0, hc1, -, -⟩ := hx.get k hlt
      have q0 := (hbel.cell (p := ⟨b, off + k * 2, none⟩) hbl).trans hc0
      have q1 := (hbel.cell (p := ⟨b, off + k * 2 + 1, none⟩) hbl).trans hc1
      clear hc0 hc1
      by_cases hz : es[k].2 = 0
      · have hz' : (es[k].2 == 0) = true := by simp [hz]
        have HP : Hid (IdxP es (.returned (.int .i64 (k : Int)))) := .inr ⟨k, hlt, rfl, hz, hall.out⟩
        clear hz
        go_wp2_with (go_at_call 159; refine (isZ_c _ _ _).mono ?_; rintro e w1 ⟨rfl, hb⟩)
        go_ret
        exact ⟨HP.out, btr hbel (by assumption)⟩
      · have hz' : (es[k].2 == 0) = false := by simp [hz]
        have HA : Hid (∀ x ∈ es.take (k + 1), x.2 ≠ 0) := fun x hx => by
          rw [List.take_succ_eq_append_getElem hlt] at hx
          rcases List.mem_append.1 hx with hx | hx
          · exact hall.out x hx
          · simp at hx; subst hx; exact hz
        clear hz
        go_wp2_with (go_at_call 159; refine (isZ_c _ _ _).mono ?_; rintro e w1 ⟨rfl, hb⟩)
        go_roundw
        case rel => exact ⟨k + 1, by omega, by go_num, HA, btr hbel (by assumption)⟩
        case measure => simp [intOf]; omega
    · obtain rfl : k = es.length := by omega
      rw [List.take_length] at hall
      have HP : Hid (IdxP es (.returned (.int .i64 (-1)))) := .inl ⟨rfl, hall.out⟩
      go_wp2
      go_ret
      exact ⟨HP.out, hbel⟩

def isNz (es : List Ent) (i : Nat) : Bool := decide ((es.getD i ([], 0)).2 ≠ 0)
theorem isNz_at {es : List Ent} {i : Nat} (h : i < es.length) : isNz es i = decide (es[i].2 ≠ 0) := by simp [isNz, h]
theorem selTo_nz (es : List Ent) : (selTo (isNz es) es.length).map (fun i => es.getD i ([], 0)) = nz es := by
  have := selTo_map (l := es) (fun x => decide (x.2 ≠ 0)) ([], 0) es.length (Nat.le_refl _)
  rw [List.take_length] at this
  exact this
theorem getD_cells {w : World} {E : TypeId} {base g c n j : Nat} {css : List (List Value)} (he : ∀ cs ∈ css, cs.length = 2) (hr : w.ownsRow base E 2 (.slice (some ⟨g, 0, none⟩) n c) n css.flatten) (hj : j < css.length) (hn : css.length = n) :
    ∃ u v, css.getD j [] = [u, v] ∧ w.cell? ⟨g, j * 2, none⟩ = some u ∧ w.cell? ⟨g, j * 2 + 1, none⟩ = some v := by
  have hl := he _ (List.getElem_mem hj)
  have c0 := World.ownsRow.cellAt hr (j * 2) (by omega)
  have c1 := World.ownsRow.cellAt hr (j * 2 + 1) (by omega)
  have e0 := flat_get he j hj 0 (by omega)
  have e1 := flat_get he j hj 1 (by omega)
  rw [Nat.add_zero] at e0
  rw [e0] at c0
  rw [e1] at c1
  rw [getD_lt _ hj]
  generalize css[j] = q at hl c0 c1
  match q, hl with
  | [u, v], _ => exact ⟨u, v, rfl, by simpa using c0, by simpa using c1⟩

/-- The first elements of a row, in a world in which their cells are the same. -/
theorem at_of_take {w wr : World} {base g i n c : Nat} {E : TypeId} {D css : List (List Value)} {xs : List Ent} (hD : ∀ cs ∈ D, cs.length = 2) (hlen : D.length = n) (hown : wr.ownsRow base E 2 (.slice (some ⟨g, 0, none⟩) n c) n D.flatten) (htake : D.take i = css) (hrd : RdL EntR w css xs) (hi : i ≤ n) (hcell : ∀ o, o < i * 2 → w.cell? ⟨g, o, none⟩ = wr.cell? ⟨g, o, none⟩) (hlt : g < w.heap.size) : EntsAt w (some ⟨g, 0, none⟩) xs := fun _ => by
  refine ⟨g, 0, rfl, hlt, fun j hj => ?_⟩
  have hcl : css.length = i := by rw [← htake, List.length_take]; omega
  have hji : j < i := by rw [← hcl, hrd.len]; exact hj
  have hjD : j < D.length := by omega
  have hjc : j < css.length := by omega
  have e : css[j] = D[j] := by
    subst htake
    rw [List.getElem_take]
  refine ⟨css[j], by rw [e]; exact hD _ (List.getElem_mem hjD), fun o ho => ?_, hrd.elt j hjc hj⟩
  have := World.ownsRow.cellAt hown (j * 2 + o) (by omega)
  rw [Nat.zero_add, hcell _ (by omega), this, flat_get hD j hjD o ho, e]
theorem zero_ent (w : World) : (zeroValue 34).run Try.prog w = .ok (.agg #[.slice none 0 0, .int .i64 0]) w := by kernel_rfl

theorem size_setCells0 (b : Nat) : ∀ (vs : List Value) (o : Nat) (w : World), (w.setCells b o vs).heap.size = w.heap.size
  | [], _, _ => rfl
  | v :: vs, o, w => (size_setCells0 b vs (o + 1) _).trans (by simp [World.setCell])

set_option maxRecDepth 100000 in
set_option maxHeartbeats 3200000 in
theorem delZ_e (w0 w : World) (base : Nat) (A : Option Addr) (c : Nat) (es : List Ent) (css : List (List Value)) (hb0 : Below w0.heap.size w0 w) (hbs : w0.heap.size ≤ base) (hown : w.ownsRow base 34 2 (.slice A es.length c) es.length css.flatten) (rd : RdL EntR w0 css es) (hn : es.length ≤ 4194304) :
    Calls Try.prog 158 #[.slice A es.length c, .func (.func 159) #[] #[]] w fun e w' => ∃ A' c', e = .returned (.slice A' (nz es).length c') ∧ EntsAt w' A' (nz es) ∧ Below w0.heap.size w0 w' := by
  have rdw := rd.below entR hb0
  have hat : EntsAt w A es := rdw.at_ entR rfl hown
  have hlen := rd.len
  have hel := rd.elen entR
  go_enter Try.func158, Try.ntmps158
  go_wp2_with fail
  refine (idxZ_e A c es w hat hn).mono ?_
  rintro e w1 ⟨hP, b1⟩
  have hB1 := btr hb0 b1
  have hown1 := ownsRow_below hown b1
  rcases hP with ⟨rfl, hall⟩ | ⟨k0, hk0, rfl, hz0, hbef⟩
  · have hz : nz es = es := List.filter_eq_self.2 (fun x hx => by simpa using hall x hx)
    have HZ := Lib.hid hz
    have hat1 : EntsAt w1 A es := hat.below entR b1
    clear hz hall hown hown1 rd rdw hat
    go_wp2_with fail
    go_ret
    exact ⟨A, c, by rw [HZ.out]; rfl, by rw [HZ.out]; exact hat1, hB1⟩
  · have hpos : 0 < es.length := by omega
    obtain ⟨g, hA, hbg, hgl, hnc, hcm⟩ : ∃ g, A = some ⟨g, 0, none⟩ ∧ base ≤ g ∧ g < w.heap.size ∧ es.length ≤ c ∧ c ≤ maxLen := by
      rcases ownsRow_form hown with ⟨_, _, h⟩ | h
      · omega
      · exact h
    subst hA
    have hne1 : ((k0 : Int) == -1) = false := beq_eq_false_iff_ne.2 (by omega)
    have hD0 : DelI css (isNz es) (k0 + 1) css := DelI.start (by omega) (fun i hi => by
      rw [isNz_at (by omega)]
      have := hbef es[i] (by rw [List.mem_take_iff_getElem]; exact ⟨i, by omega, rfl⟩)
      simpa using this) (by rw [isNz_at hk0]; simp [hz0])
    have hs1 : g < w1.heap.size := Nat.lt_of_lt_of_le hgl b1.size
    have HD0 := Lib.hid hD0
    have hl0 := hD0.lt
    have hlk : (selTo (isNz es) (k0 + 1)).length = k0 := by
      have e : selTo (isNz es) (k0 + 1) = List.range k0 := by
        rw [selTo_step, selTo_all (fun i hi => by
          rw [isNz_at (by omega)]
          have := hbef es[i] (by rw [List.mem_take_iff_getElem]; exact ⟨i, by omega, rfl⟩)
          simpa using this), isNz_at hk0]
        simp [hz0]
      rw [e]; simp
    have HK := Lib.hid hlk
    have HEL := Lib.hid hel
    have HRD := Lib.hid rd
    have HO1 := Lib.hid hown1
    have HC := Lib.hid hlen
    clear hD0 hlk hown1 hown hbef hel rd rdw hat hl0 hz0 hlen
    go_wp2
    go_loopw [5, 6, 7] (fun si sj _ wr => ∃ (j i : Nat) (D : List (List Value)), sj = .int .i64 j ∧ si = .int .i64 i ∧ j ≤ es.length ∧ Hid (i = (selTo (isNz es) j).length) ∧ DelI css (isNz es) j D ∧ Hid (∀ cs ∈ D, cs.length = 2) ∧ wr.ownsRow base 34 2 (.slice (some ⟨g, 0, none⟩) es.length c) es.length D.flatten ∧ Below w0.heap.size w0 wr) (fun _ sj _ _ => es.length - (intOf sj).toNat)
    case atStart => exact ⟨k0 + 1, k0, css, by go_num, rfl, by omega, HK.out.symm, HD0.out, HEL.out, HO1.out, hB1⟩
    case round =>
      obtain ⟨j, i, D, rfl, rfl, hj, Hi, hD, HDl, hownD, hbel⟩ := hrel
      have hij : i < j := by rw [Hi.out]; exact hD.lt
      have hDlen : D.length = es.length := by rw [hD.len, HC.out]
      by_cases hlt : j < es.length
      · have hjc : j < css.length := by rw [HC.out]; exact hlt
        obtain ⟨RA, rc, hcs, hml, hrow⟩ := (HRD.out.elt j hjc hlt).form
        have hgd : D.getD j [] = [.slice RA es[j].1.length rc, .int .i64 es[j].2] := by rw [hD.at_ hjc, getD_lt _ hjc, hcs]
        obtain ⟨u, v, huv, q0, q1⟩ := getD_cells (j := j) HDl.out hownD (by omega) hDlen
        rw [hgd] at huv
        injection huv with e1 e2
        injection e2 with e2 _
        subst e1
        subst e2
        by_cases hz : es[j].2 = 0
        · have hz' : (es[j].2 == 0) = true := by simp [hz]
          have hnzj : isNz es j = false := by rw [isNz_at hlt]; simp [hz]
          have HD := Lib.hid (hD.skip hnzj)
          have HI : Hid (i = (selTo (isNz es) (j + 1)).length) := by rw [Hi.out, selTo_step, hnzj]; simp [Hid]
          have HO := Lib.hid hownD
          clear hz hnzj hD hgd hcs hownD
          go_wp2_with (go_at_call 159; refine (isZ_c _ _ _).mono ?_; rintro e w2 ⟨rfl, hb⟩)
          have hbb := btr (bal (RowKit.Below.refl _ _) _) hb
          go_roundw
          case rel => exact ⟨j + 1, i, D, by go_num, rfl, by omega, HI, HD.out, HDl, ownsRow_below HO.out hbb, btr hbel hbb⟩
          case measure => simp [intOf]; omega
        · have hz' : (es[j].2 == 0) = false := by simp [hz]
          have hnzj : isNz es j = true := by rw [isNz_at hlt]; simpa using hz
          have hkp := hD.keep hjc hnzj
          rw [← Hi.out, getD_lt _ hjc, hcs] at hkp
          have HD := Lib.hid hkp
          have HI : Hid (i + 1 = (selTo (isNz es) (j + 1)).length) := by rw [Hi.out, selTo_step, hnzj]; simp [Hid]
          have HO := Lib.hid hownD
          have hi0 : (0 : Int) ≤ (i : Int) := by omega
          have hin : (i : Int) < es.length := by omega
          clear hz hnzj hD hgd hcs hownD hkp
          go_wp2_with fail
          refine (isZ_c _ _ _).mono ?_
          rintro e w2 ⟨rfl, hb⟩
          obtain ⟨hcl, hfr⟩ := bcell hb
          have hbb := btr (bal (RowKit.Below.refl _ _) _) hb
          have t0 : w2.cell? ⟨wr.heap.size, 0, none⟩ = some (.slice RA es[j].1.length rc) := by rw [hcl _ _ (by simp)]; simp
          have t1 : w2.cell? ⟨wr.heap.size, 1, none⟩ = some (.int .i64 es[j].2) := by rw [hcl _ _ (by simp)]; simp
          have hown2 := ownsRow_below HO.out hbb
          obtain ⟨u0, u1, -, v0, v1⟩ := getD_cells HDl.out hown2 (show i < D.length by omega) hDlen
          have f0 := World.ownsRow.frozenAt hown2 (i * 2)
          have f1 := World.ownsRow.frozenAt hown2 (i * 2 + 1)
          have hst := (World.ownsRow.stored (World.ownsRow.stored hown2 (i * 2) (.slice RA es[j].1.length rc)).1 (i * 2 + 1) (.int .i64 es[j].2)).1
          rw [flat_set2 HDl.out i (by omega)] at hst
          have HST := Lib.hid hst
          have HD2 : Hid (∀ cs ∈ D.set i [.slice RA es[j].1.length rc, .int .i64 es[j].2], cs.length = 2) := fun cs hc => by
            rcases List.mem_or_eq_of_mem_set hc with hc | rfl
            · exact HDl.out cs hc
            · rfl
          have HB := Lib.hid (btr hbel hbb)
          clear hb hcl hfr hbb hown2 hst hbel q0 q1
          go_wp2
          go_roundw
          case rel => exact ⟨j + 1, i + 1, _, by go_num, by go_num, by omega, HI, HD.out, HD2, HST.out, bset (bset HB.out (by simp; omega) _) (by simp; omega) _⟩
          case measure => simp [intOf]; omega
      · obtain rfl : j = es.length := by omega
        have hin : (i : Int) ≤ es.length := by omega
        have hi0 : (0 : Int) ≤ (i : Int) := by omega
        have hic : ¬ c = i := by omega
        have hcm' : (c : Int) ≤ 9223372036854775807 := by unfold maxLen at hcm; omega
        have hic2 : (i : Int) ≤ c := by omega
        have hgr : g < wr.heap.size := (World.ownsRow.lt hownD g rfl).2
        have hcl : ∀ ty, (Builtin.clear_ #[23] ty #[.slice (some ⟨g, i * 2, none⟩) (es.length - i) (c - i)]).run Try.prog wr = .ok (.tuple #[]) (wr.setCells g (i * 2) (Builtin.zeroCells (Value.agg #[.slice none 0 0, .int .i64 0]).cells (es.length - i)).toList) :=
          fun ty => run_clear_k wr _ _ ty _ 2 Try.underlying23 zero_ent rfl (fun u hu => by simp [Value.cells] at hu; rcases hu with rfl | rfl <;> rfl) g (i * 2) _ _ (by omega) (fun o ho => by
            rw [World.ownsRow.cellAt hownD (i * 2 + o) (by omega), List.getElem?_eq_getElem (by rw [flat_len HDl.out, hDlen]; omega)]; rfl) (fun o ho => World.ownsRow.frozenAt hownD _)
        have hsel : RdL EntR w0 ((selTo (isNz es) es.length).map fun i => css.getD i []) (nz es) := by
          have := HRD.out.pick ([], 0) (selTo (isNz es) es.length) (fun k hk => selTo_lt hk)
          rwa [selTo_nz] at this
        have hZ : ∀ W : World, W = wr.setCells g (i * 2) (Builtin.zeroCells (Value.agg #[.slice none 0 0, .int .i64 0]).cells (es.length - i)).toList → EntsAt W (some ⟨g, 0, none⟩) (nz es) ∧ RowKit.Below w0.heap.size w0 W := by
          rintro W rfl
          have hbW : RowKit.Below w0.heap.size w0 (wr.setCells g (i * 2) (Builtin.zeroCells (Value.agg #[.slice none 0 0, .int .i64 0]).cells (es.length - i)).toList) := Go.below_setCells (by omega) _ _ _ hbel
          refine ⟨at_of_take HDl.out hDlen hownD (by rw [Hi.out]; exact hD.head) (hsel.below entR hbW) (by omega) (fun o ho => World.cell?_setCells_out _ _ _ _ _ (fun _ _ => .inl ho)) ?_, hbW⟩
          rw [show (wr.setCells g (i * 2) (Builtin.zeroCells (Value.agg #[.slice none 0 0, .int .i64 0]).cells (es.length - i)).toList).heap.size = wr.heap.size from size_setCells0 _ _ _ _]
          exact hgr
        have HZ := Lib.hid hZ
        have HL : Hid (i = (nz es).length) := by rw [Hi.out, ← selTo_nz es]; simp [Hid]
        clear hZ hsel hD hownD
        go_wp2
        go_ret
        exact ⟨some ⟨g, 0, none⟩, c, by rw [← HL.out]; rfl, HZ.out _ rfl⟩
end Go.Proofs.Ytjlpkfcdkmcjnaa
