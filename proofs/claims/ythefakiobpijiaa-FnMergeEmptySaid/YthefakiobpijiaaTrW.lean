/- HELPER, no statement of the seat: the updates of a trace whose times meet a test (trace.with): slices.Clone and slices.DeleteFunc at traces. -/
import Derived.Test.YthefakiobpijiaaBlu
import Derived.Test.YthefakiobpijiaaNormU
import Derived.Test.YthefakiobpijiaaFrt
namespace Go.Proofs.Ythefakiobpijiaa
open Go.RowKit Go.Sort
set_option linter.unusedSimpArgs false
set_option linter.unusedVariables false

set_option maxHeartbeats 800000 in
theorem cloneW_u (A : Option Addr) (c : Nat) (es : List Upd) (w : World) (hx : UpdsAt w A es) (hn : es.length ≤ 4194304) :
    Calls Try.prog 189 #[.slice A es.length c] w fun e w' => ∃ A' c' css, e = .returned (.slice A' es.length c') ∧ w'.ownsRow w.heap.size 119 4 (.slice A' es.length c') es.length css.flatten ∧ RdL UpdR w css es ∧ Below w.heap.size w w' := by
  have qT : ∀ (w : World) (a : Option Addr) (n c n' c' : Nat), (binOp .eql 97 (.slice a n c) (.slice none n' c')).run Try.prog w = .ok (.bool a.isNone) w := fun w a n c n' c' => Lib.run_eql_slice_nil w _ _ a n c n' c' Try.underlying97
  obtain ⟨css, hrd, h0, hsrc, hone⟩ := upds_src hx
  cases A with
  | none =>
    obtain rfl := List.eq_nil_of_length_eq_zero (h0 rfl)
    clear hx h0 hsrc hone hrd
    go_enter Try.func189, Try.ntmps189
    go_wp2
    go_ret
    exact ⟨none, 0, [], rfl, World.ownsRow_nil _ _ _ _, RdL.nil, Below.refl _ _⟩
  | some a =>
    obtain ⟨i0, hi, hz0, hz1, hz2⟩ := info_parts Try.infoUpd
    have hb0 : Below w.heap.size w (w.alloc (.cells #[] 119)) := bal (Below.refl _ _) _
    have hs : ∀ b, some a = some b → ∀ j u, css.flatten[j]? = some u → (w.alloc (.cells #[] 119)).cell? (b.add j) = some u := fun b e j u hu => by
      have := hsrc b e j u hu
      rw [hb0.cell (block_lt_of_cell this)]
      exact this
    have hfl : css.flatten.length = es.length * 4 := by rw [flat_len (hrd.elen updR), hrd.len]
    have hown := World.ownsRow_lit (base := w.heap.size) (size := 4) (e := 119) w #[] 0 (Nat.le_refl _) (by simp [maxLen]) (by simp)
    have HFL := Lib.hid hfl
    clear hfl
    go_enter Try.func189, Try.ntmps189
    go_wp2_with (at_builtin; refine wpList_append_src _ rfl _ _ 97 rfl w.heap.size 119 i0 (.agg #[.slice none 0 0, .int .i64 0, .int .i64 0, .int .i64 0]) 4 48 Try.underlying97 hi hz0 hz1 hz2 rfl (by decide) _ _ _ rfl hown (some a) es.length c css.flatten rfl HFL.out (fun e => by cases e) hs hone (by unfold maxLen; omega) (by omega) (by simp) ?_)
    intro v' w1 hown' hgrow _
    obtain ⟨A', c', hv⟩ := own_slice hown'
    have HO : Hid (w1.ownsRow w.heap.size 119 4 (.slice A' es.length c') es.length css.flatten) := by rw [hv] at hown'; simpa [Hid] using hown'
    have HB := Lib.hid (hb0.grown hgrow (by simp) (fun k hk => by simp [Value.ownBlock] at hk; omega))
    have HV := Lib.hid hv
    have HRD := Lib.hid hrd
    clear hown' hgrow hv hown hs hb0 hrd hsrc hone h0
    go_wp2
    go_ret
    exact ⟨A', c', css, by rw [HV.out]; simp, HO.out, HRD.out, HB.out⟩
def IdxW (p : Tm → Bool) (es : List Upd) (e : Ending) : Prop := (e = .returned (.int .i64 (-1)) ∧ ∀ x ∈ es, p x.1.2 = true) ∨ ∃ (k : Nat) (hk : k < es.length), e = .returned (.int .i64 (k : Int)) ∧ p es[k].1.2 = false ∧ ∀ x ∈ es.take k, p x.1.2 = true
set_option maxHeartbeats 800000 in
theorem idxW_u (w0 w : World) (C : Nat) (p : Tm → Bool) (HCON : Hid (∀ W, Below w0.heap.size w0 W → ∀ (u : Upd) (VA : Option Addr) (vn vc : Nat), Calls Try.prog 190 #[.agg #[.slice VA vn vc, .int .i64 u.1.2.1, .int .i64 u.1.2.2, .int .i64 u.2], .pointer (some ⟨C, 0, none⟩)] W fun e w' => e = .returned (.bool (!p u.1.2)) ∧ Below W.heap.size W w')) (hb0 : Below w0.heap.size w0 w) (A : Option Addr) (c : Nat) (es : List Upd) (hx : UpdsAt w A es) (hn : es.length ≤ 4194304) :
    Calls Try.prog 212 #[.slice A es.length c, .func (.func 190) #[] #[.pointer (some ⟨C, 0, none⟩)]] w fun e w' => IdxW p es e ∧ Below w.heap.size w w' := by
  go_enter Try.func212, Try.ntmps212
  go_wp2
  go_loopw [5, 8] (fun _ i wr => ∃ k : Nat, k ≤ es.length ∧ i = .int .i64 k ∧ Hid (∀ x ∈ es.take k, p x.1.2 = true) ∧ Below w.heap.size w wr) (fun _ i _ => es.length - (intOf i).toNat)
  case atStart => exact ⟨0, by omega, rfl, fun x hx => by simp at hx, RowKit.Below.refl _ _⟩
  case round =>
    obtain ⟨k, hk, rfl, hall, hbel⟩ := hrel
    by_cases hlt : k < es.length
    · obtain ⟨b, off, RA, rc, rfl, hbl, hc0, hc1, hc2, hc3, -, -⟩ := hx.get k hlt
      have q0 := (hbel.cell (p := ⟨b, off + k * 4, none⟩) hbl).trans hc0
      have q1 := (hbel.cell (p := ⟨b, off + k * 4 + 1, none⟩) hbl).trans hc1
      have q2 := (hbel.cell (p := ⟨b, off + k * 4 + 2, none⟩) hbl).trans hc2
      have q3 := (hbel.cell (p := ⟨b, off + k * 4 + 3, none⟩) hbl).trans hc3
      clear hc0 hc1 hc2 hc3
      by_cases hz : p es[k].1.2 = false
      · have hcon := fun W (hW : Below w0.heap.size w0 W) VA vn vc => HCON.out W hW es[k] VA vn vc
        simp only [hz, Bool.not_false] at hcon
        have HP : Hid (IdxW p es (.returned (.int .i64 (k : Int)))) := .inr ⟨k, hlt, rfl, hz, hall.out⟩
        clear hz
        have hb1 := hb0.trans (hbel.mono hb0.size)
        go_wp2_with (go_at_call 190; refine (hcon _ hb1 _ _ _).mono ?_; rintro e w1 ⟨rfl, hb⟩)
        go_ret
        exact ⟨HP.out, btr hbel (by assumption)⟩
      · have hz2 : p es[k].1.2 = true := by simpa using hz
        have hcon := fun W (hW : Below w0.heap.size w0 W) VA vn vc => HCON.out W hW es[k] VA vn vc
        simp only [hz2, Bool.not_true] at hcon
        have HA : Hid (∀ x ∈ es.take (k + 1), p x.1.2 = true) := fun x hx => by
          rw [List.take_succ_eq_append_getElem hlt] at hx
          rcases List.mem_append.1 hx with hx | hx
          · exact hall.out x hx
          · simp at hx; subst hx; exact hz2
        clear hz hz2
        have hb1 := hb0.trans (hbel.mono hb0.size)
        go_wp2_with (go_at_call 190; refine (hcon _ hb1 _ _ _).mono ?_; rintro e w1 ⟨rfl, hb⟩)
        go_roundw
        case rel => exact ⟨k + 1, by omega, by go_num, HA, btr hbel (by assumption)⟩
        case measure => simp [intOf]; omega
    · obtain rfl : k = es.length := by omega
      rw [List.take_length] at hall
      have HP : Hid (IdxW p es (.returned (.int .i64 (-1)))) := .inl ⟨rfl, hall.out⟩
      go_wp2
      go_ret
      exact ⟨HP.out, hbel⟩

def isWU (p : Tm → Bool) (es : List Upd) (i : Nat) : Bool := p (es.getD i (([], (0, 0)), 0)).1.2
theorem isWU_at {p : Tm → Bool} {es : List Upd} {i : Nat} (h : i < es.length) : isWU p es i = p es[i].1.2 := by simp [isWU, h]
theorem selTo_wU (p : Tm → Bool) (es : List Upd) : (selTo (isWU p es) es.length).map (fun i => es.getD i (([], (0, 0)), 0)) = es.filter (fun e => p e.1.2) := by
  have := selTo_map (l := es) (fun x => p x.1.2) (([], (0, 0)), 0) es.length (Nat.le_refl _)
  rw [List.take_length] at this
  exact this



set_option maxRecDepth 100000 in
set_option maxHeartbeats 3200000 in
theorem delW_u (w0 w : World) (C : Nat) (p : Tm → Bool) (HCON : Hid (∀ W, Below w0.heap.size w0 W → ∀ (u : Upd) (VA : Option Addr) (vn vc : Nat), Calls Try.prog 190 #[.agg #[.slice VA vn vc, .int .i64 u.1.2.1, .int .i64 u.1.2.2, .int .i64 u.2], .pointer (some ⟨C, 0, none⟩)] W fun e w' => e = .returned (.bool (!p u.1.2)) ∧ Below W.heap.size W w')) (base : Nat) (A : Option Addr) (c : Nat) (es : List Upd) (css : List (List Value)) (hb0 : Below w0.heap.size w0 w) (hbs : w0.heap.size ≤ base) (hown : w.ownsRow base 119 4 (.slice A es.length c) es.length css.flatten) (rd : RdL UpdR w0 css es) (hn : es.length ≤ 4194304) :
    Calls Try.prog 188 #[.slice A es.length c, .func (.func 190) #[] #[.pointer (some ⟨C, 0, none⟩)]] w fun e w' => ∃ A' c', e = .returned (.slice A' (es.filter (fun e => p e.1.2)).length c') ∧ UpdsAt w' A' (es.filter (fun e => p e.1.2)) ∧ Below w0.heap.size w0 w' := by
  have rdw := rd.below updR hb0
  have hat : UpdsAt w A es := rdw.at_ updR rfl hown
  have hlen := rd.len
  have hel := rd.elen updR
  go_enter Try.func188, Try.ntmps188
  go_wp2_with fail
  refine (idxW_u w0 w C p HCON hb0 A c es hat hn).mono ?_
  rintro e w1 ⟨hP, b1⟩
  have hB1 := btr hb0 b1
  have hown1 := ownsRow_below hown b1
  rcases hP with ⟨rfl, hall⟩ | ⟨k0, hk0, rfl, hz0, hbef⟩
  · have hz : es.filter (fun e => p e.1.2) = es := List.filter_eq_self.2 (fun x hx => hall x hx)
    have HZ := Lib.hid hz
    have hat1 : UpdsAt w1 A es := hat.below updR b1
    clear hz hall hown hown1 rd rdw hat
    go_wp2_with fail
    go_ret
    exact ⟨A, c, by rw [HZ.out]; rfl, by rw [HZ.out]; exact hat1, hB1⟩
  · have hpos : 0 < es.length := by omega
    obtain ⟨g, hA, hbg, hgl, hnc, hcm⟩ : ∃ g, A = some ⟨g, 0, none⟩ ∧ base ≤ g ∧ g < w.heap.size ∧ es.length ≤ c ∧ c ≤ maxLen := by
      rcases ownsRow_form hown with ⟨_, _, h⟩ | h
      · omega
      · exact h
    subst hA
    have hne1 : ((k0 : Int) == -1) = false := beq_eq_false_iff_ne.2 (by omega)
    have hD0 : DelI css (isWU p es) (k0 + 1) css := DelI.start (by omega) (fun i hi => by
      rw [isWU_at (by omega)]
      have := hbef es[i] (by rw [List.mem_take_iff_getElem]; exact ⟨i, by omega, rfl⟩)
      simpa using this) (by rw [isWU_at hk0]; simp [hz0])
    have hs1 : g < w1.heap.size := Nat.lt_of_lt_of_le hgl b1.size
    have HD0 := Lib.hid hD0
    have hl0 := hD0.lt
    have hlk : (selTo (isWU p es) (k0 + 1)).length = k0 := by
      have e : selTo (isWU p es) (k0 + 1) = List.range k0 := by
        rw [selTo_step, selTo_all (fun i hi => by
          rw [isWU_at (by omega)]
          have := hbef es[i] (by rw [List.mem_take_iff_getElem]; exact ⟨i, by omega, rfl⟩)
          simpa using this), isWU_at hk0]
        simp [hz0]
      rw [e]; simp
    have HK := Lib.hid hlk
    have HEL := Lib.hid hel
    have HRD := Lib.hid rd
    have HO1 := Lib.hid hown1
    have HC := Lib.hid hlen
    clear hD0 hlk hown1 hown hbef hel rd rdw hat hl0 hz0 hlen
    go_wp2
    go_loopw [5, 6, 7] (fun si sj _ wr => ∃ (j i : Nat) (D : List (List Value)), sj = .int .i64 j ∧ si = .int .i64 i ∧ j ≤ es.length ∧ Hid (i = (selTo (isWU p es) j).length) ∧ DelI css (isWU p es) j D ∧ Hid (∀ cs ∈ D, cs.length = 4) ∧ wr.ownsRow base 119 4 (.slice (some ⟨g, 0, none⟩) es.length c) es.length D.flatten ∧ Below w0.heap.size w0 wr) (fun _ sj _ _ => es.length - (intOf sj).toNat)
    case atStart => exact ⟨k0 + 1, k0, css, by go_num, rfl, by omega, HK.out.symm, HD0.out, HEL.out, HO1.out, hB1⟩
    case round =>
      obtain ⟨j, i, D, rfl, rfl, hj, Hi, hD, HDl, hownD, hbel⟩ := hrel
      have hij : i < j := by rw [Hi.out]; exact hD.lt
      have hDlen : D.length = es.length := by rw [hD.len, HC.out]
      by_cases hlt : j < es.length
      · have hjc : j < css.length := by rw [HC.out]; exact hlt
        obtain ⟨RA, rc, hcs, hml, hrow⟩ := (HRD.out.elt j hjc hlt).form
        have hgd : D.getD j [] = [.slice RA es[j].1.1.length rc, .int .i64 es[j].1.2.1, .int .i64 es[j].1.2.2, .int .i64 es[j].2] := by rw [hD.at_ hjc, getD_lt _ hjc, hcs]
        obtain ⟨u, v, x, y, huv, q0, q1, q2, q3⟩ := getD_cellsU (j := j) HDl.out hownD (by omega) hDlen
        rw [hgd] at huv
        injection huv with e1 e2
        injection e2 with e2 e3
        injection e3 with e3 e4
        injection e4 with e4 _
        subst e1
        subst e2
        subst e3
        subst e4
        by_cases hz : p es[j].1.2 = false
        · have hcon := fun W (hW : Below w0.heap.size w0 W) VA vn vc => HCON.out W hW es[j] VA vn vc
          simp only [hz, Bool.not_false] at hcon
          have hnzj : isWU p es j = false := by rw [isWU_at hlt]; exact hz
          have HD := Lib.hid (hD.skip hnzj)
          have HI : Hid (i = (selTo (isWU p es) (j + 1)).length) := by rw [Hi.out, selTo_step, hnzj]; simp [Hid]
          have HO := Lib.hid hownD
          clear hz hnzj hD hgd hcs hownD
          have hba : Below w0.heap.size w0 (wr.alloc (.cells #[.slice RA es[j].1.1.length rc, .int .i64 es[j].1.2.1, .int .i64 es[j].1.2.2, .int .i64 es[j].2] 119)) := bal hbel _
          go_wp2_with (go_at_call 190; refine (hcon _ hba _ _ _).mono ?_; rintro e w2 ⟨rfl, hb⟩)
          have hbb := btr (bal (RowKit.Below.refl _ _) _) hb
          go_roundw
          case rel => exact ⟨j + 1, i, D, by go_num, rfl, by omega, HI, HD.out, HDl, ownsRow_below HO.out hbb, btr hbel hbb⟩
          case measure => simp [intOf]; omega
        · have hz2 : p es[j].1.2 = true := by simpa using hz
          have hcon := fun W (hW : Below w0.heap.size w0 W) VA vn vc => HCON.out W hW es[j] VA vn vc
          simp only [hz2, Bool.not_true] at hcon
          have hnzj : isWU p es j = true := by rw [isWU_at hlt]; exact hz2
          have hkp := hD.keep hjc hnzj
          rw [← Hi.out, getD_lt _ hjc, hcs] at hkp
          have HD := Lib.hid hkp
          have HI : Hid (i + 1 = (selTo (isWU p es) (j + 1)).length) := by rw [Hi.out, selTo_step, hnzj]; simp [Hid]
          have HO := Lib.hid hownD
          have hi0 : (0 : Int) ≤ (i : Int) := by omega
          have hin : (i : Int) < es.length := by omega
          clear hz hz2 hnzj hD hgd hcs hownD hkp
          have hba : Below w0.heap.size w0 (wr.alloc (.cells #[.slice RA es[j].1.1.length rc, .int .i64 es[j].1.2.1, .int .i64 es[j].1.2.2, .int .i64 es[j].2] 119)) := bal hbel _
          go_wp2_with fail
          refine (hcon _ hba _ _ _).mono ?_
          rintro e w2 ⟨rfl, hb⟩
          obtain ⟨hcl, hfr⟩ := bcell hb
          have hbb := btr (bal (RowKit.Below.refl _ _) _) hb
          have t0 : w2.cell? ⟨wr.heap.size, 0, none⟩ = some (.slice RA es[j].1.1.length rc) := by rw [hcl _ _ (by simp)]; simp
          have t1 : w2.cell? ⟨wr.heap.size, 1, none⟩ = some (.int .i64 es[j].1.2.1) := by rw [hcl _ _ (by simp)]; simp
          have t2 : w2.cell? ⟨wr.heap.size, 2, none⟩ = some (.int .i64 es[j].1.2.2) := by rw [hcl _ _ (by simp)]; simp
          have t3 : w2.cell? ⟨wr.heap.size, 3, none⟩ = some (.int .i64 es[j].2) := by rw [hcl _ _ (by simp)]; simp
          have hown2 := ownsRow_below HO.out hbb
          obtain ⟨u0, u1, u2, u3, -, v0, v1, v2, v3⟩ := getD_cellsU HDl.out hown2 (show i < D.length by omega) hDlen
          have f0 := World.ownsRow.frozenAt hown2 (i * 4)
          have f1 := World.ownsRow.frozenAt hown2 (i * 4 + 1)
          have f2 := World.ownsRow.frozenAt hown2 (i * 4 + 2)
          have f3 := World.ownsRow.frozenAt hown2 (i * 4 + 3)
          have hst := (World.ownsRow.stored (World.ownsRow.stored (World.ownsRow.stored (World.ownsRow.stored hown2 (i * 4) (.slice RA es[j].1.1.length rc)).1 (i * 4 + 1) (.int .i64 es[j].1.2.1)).1 (i * 4 + 2) (.int .i64 es[j].1.2.2)).1 (i * 4 + 3) (.int .i64 es[j].2)).1
          rw [flat_set4 HDl.out i (by omega)] at hst
          have HST := Lib.hid hst
          have HD2 : Hid (∀ cs ∈ D.set i [.slice RA es[j].1.1.length rc, .int .i64 es[j].1.2.1, .int .i64 es[j].1.2.2, .int .i64 es[j].2], cs.length = 4) := fun cs hc => by
            rcases List.mem_or_eq_of_mem_set hc with hc | rfl
            · exact HDl.out cs hc
            · rfl
          have HB := Lib.hid (btr hbel hbb)
          clear hb hcl hfr hbb hown2 hst hbel q0 q1 q2 q3
          go_wp2
          go_roundw
          case rel => exact ⟨j + 1, i + 1, _, by go_num, by go_num, by omega, HI, HD.out, HD2, HST.out, bset (bset (bset (bset HB.out (by simp; omega) _) (by simp; omega) _) (by simp; omega) _) (by simp; omega) _⟩
          case measure => simp [intOf]; omega
      · obtain rfl : j = es.length := by omega
        have hin : (i : Int) ≤ es.length := by omega
        have hi0 : (0 : Int) ≤ (i : Int) := by omega
        have hic : ¬ c = i := by omega
        have hcm' : (c : Int) ≤ 9223372036854775807 := by unfold maxLen at hcm; omega
        have hic2 : (i : Int) ≤ c := by omega
        have hgr : g < wr.heap.size := (World.ownsRow.lt hownD g rfl).2
        have hcl : ∀ ty, (Builtin.clear_ #[97] ty #[.slice (some ⟨g, i * 4, none⟩) (es.length - i) (c - i)]).run Try.prog wr = .ok (.tuple #[]) (wr.setCells g (i * 4) (Builtin.zeroCells (Value.agg #[.slice none 0 0, .int .i64 0, .int .i64 0, .int .i64 0]).cells (es.length - i)).toList) :=
          fun ty => run_clear_k wr _ _ ty _ 4 Try.underlying97 zero_upd rfl (fun u hu => by simp [Value.cells] at hu; rcases hu with rfl | rfl | rfl | rfl <;> rfl) g (i * 4) _ _ (by omega) (fun o ho => by
            rw [World.ownsRow.cellAt hownD (i * 4 + o) (by omega), List.getElem?_eq_getElem (by rw [flat_len HDl.out, hDlen]; omega)]; rfl) (fun o ho => World.ownsRow.frozenAt hownD _)
        have hsel : RdL UpdR w0 ((selTo (isWU p es) es.length).map fun i => css.getD i []) (es.filter (fun e => p e.1.2)) := by
          have := HRD.out.pick (([], (0, 0)), 0) (selTo (isWU p es) es.length) (fun k hk => selTo_lt hk)
          rwa [selTo_wU] at this
        have hZ : ∀ W : World, W = wr.setCells g (i * 4) (Builtin.zeroCells (Value.agg #[.slice none 0 0, .int .i64 0, .int .i64 0, .int .i64 0]).cells (es.length - i)).toList → UpdsAt W (some ⟨g, 0, none⟩) (es.filter (fun e => p e.1.2)) ∧ RowKit.Below w0.heap.size w0 W := by
          rintro W rfl
          have hbW : RowKit.Below w0.heap.size w0 (wr.setCells g (i * 4) (Builtin.zeroCells (Value.agg #[.slice none 0 0, .int .i64 0, .int .i64 0, .int .i64 0]).cells (es.length - i)).toList) := Go.below_setCells (by omega) _ _ _ hbel
          refine ⟨at_of_takeU HDl.out hDlen hownD (by rw [Hi.out]; exact hD.head) (hsel.below updR hbW) (by omega) (fun o ho => World.cell?_setCells_out _ _ _ _ _ (fun _ _ => .inl ho)) ?_, hbW⟩
          rw [show (wr.setCells g (i * 4) (Builtin.zeroCells (Value.agg #[.slice none 0 0, .int .i64 0, .int .i64 0, .int .i64 0]).cells (es.length - i)).toList).heap.size = wr.heap.size from size_setCells0U _ _ _ _]
          exact hgr
        have HZ := Lib.hid hZ
        have HL : Hid (i = (es.filter (fun e => p e.1.2)).length) := by rw [Hi.out, ← selTo_wU p es]; simp [Hid]
        clear hZ hsel hD hownD
        go_wp2
        go_ret
        exact ⟨some ⟨g, 0, none⟩, c, by rw [← HL.out]; rfl, HZ.out _ rfl⟩
end Go.Proofs.Ythefakiobpijiaa
