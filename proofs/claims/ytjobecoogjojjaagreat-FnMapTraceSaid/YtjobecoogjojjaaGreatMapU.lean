/- HELPER, no statement of the seat: MapTrace of both sides. -/
import Derived.Test.YtjobecoogjojjaaGreatConsS
import Derived.Test.YtjobecoogjojjaaGreatNrm
import Derived.Test.YtjobecoogjojjaaGreatGrf
namespace Go.Proofs.YtjobecoogjojjaaGreat
open Go.RowKit Go.Sort
set_option linter.unusedSimpArgs false
set_option linter.unusedVariables false

def mapU (cols : List Int) (e : Upd) : Upd := ((projL e.1.1 cols, e.1.2), e.2)
def MapFU (z : List Upd) (cols : List Int) : List Upd := if (trB z && colB cols (widU z)) = true then ConsF (z.map (mapU cols)) else []
theorem MapFU_len (z : List Upd) (cols : List Int) : (MapFU z cols).length ≤ 400 := by
  unfold MapFU
  split
  · exact ConsF_len _
  · simp
theorem MapFU_row (z : List Upd) (cols : List Int) : rowsU (MapFU z cols) 6 := by
  unfold MapFU
  split
  · exact ConsF_row _
  · intro e he; cases he
theorem MapFU_no {z : List Upd} {cols : List Int} (h : colB cols (widU z) = false) : MapFU z cols = [] := by simp [MapFU, h]
theorem sumsU_map {z : List Upd} {cols : List Int} (h : trB z = true) (hc : colB cols (widU z) = true) : sumsU (z.map (mapU cols)) = true := allTo_iff.2 (fun k hk => by
  have hk' : k < z.length := by simpa using hk
  rw [nthU_get hk, List.getElem_map]
  have h1 := trB_sum h _ (List.getElem_mem hk')
  have h2 := trB_wid h _ (List.getElem_mem hk')
  simp only [sumU, sumE, Bool.and_eq_true] at h1 ⊢
  exact ⟨⟨rowB_proj h1.1.1 (by rw [h2]; exact hc), h1.1.2⟩, h1.2⟩)
theorem MapFU_eq {z : List Upd} {cols : List Int} (h : trB z = true) (hc : colB cols (widU z) = true) : MapFU z cols = chkT (nz (NormLU (z.map (mapU cols)))) := by
  have h4 := (trB_parts h).1
  simp [MapFU, h, hc, ConsF, sumsU_map h hc, h4]
theorem map_rowsU {z : List Upd} {cols : List Int} (hc : cols.length ≤ 6) : rowsU (z.map (mapU cols)) 6 := fun e he => by
  obtain ⟨q, _, rfl⟩ := List.mem_map.1 he
  simp only [mapU, projL_length]
  exact hc

set_option maxRecDepth 100000 in
set_option maxHeartbeats 1600000 in
theorem projectItems_u (A : Option Addr) (c : Nat) (es : List Upd) (B : Option Addr) (d : Nat) (cols : List Int) (w : World) (hx : UpdsAt w A es) (hy : IntsAt w B cols) (hn : es.length ≤ 4194303) (hz : trB es = true) (hm : cols.length ≤ 4194304) (hc : colB cols (widU es) = true) :
    Calls Tryz.prog 35 #[.slice A es.length c, .slice B cols.length d] w fun e w' => ∃ A' c', e = .returned (.slice A' (es.map (mapU cols)).length c') ∧ UpdsOw w' (news w w') A' c' (es.map (mapU cols)) ∧ Below w.heap.size w w' := by
  obtain ⟨i0, hi, hz0, hz1, hz2⟩ := info_parts Tryz.infoUpd
  have HPB : Hid (∀ e ∈ es, projB e.1.1 cols = true) := fun e he => by
    obtain ⟨j, hj, rfl⟩ := List.getElem_of_mem he
    have h1 := sumU_parts (trB_sum hz _ (List.getElem_mem hj))
    simp only [projB, Bool.and_eq_true]
    exact ⟨h1.1, by rw [trB_wid hz _ (List.getElem_mem hj)]; exact hc⟩
  have HRW : Hid (rowsU es 6) := trB_row hz
  have HST : Hid (∀ k (h : k < es.length), (es.map (mapU cols)).take (k + 1) = (es.map (mapU cols)).take k ++ [mapU cols es[k]]) := fun k h => by
    rw [List.take_succ_eq_append_getElem (by simpa using h), List.getElem_map]
  have HML : Hid ((es.map (mapU cols)).length = es.length) := by simp [Hid]
  clear hz hc
  generalize hMM : es.map (mapU cols) = MM at *
  clear hMM
  go_enter Tryz.func35, Tryz.ntmps35
  go_wp2
  go_loopw [5, 7, 12] (fun v _ i wr => ∃ k A' c', k ≤ es.length ∧ i = .int .i64 (k : Nat) ∧ v = .slice A' k c' ∧ UpdsOw wr (news w wr) A' c' (MM.take k) ∧ Below w.heap.size w wr) (fun _ _ i _ => es.length - (intOf i).toNat)
  case atStart => exact ⟨0, none, 0, by omega, rfl, rfl, by rw [List.take_zero]; exact SlOw.nil (fun k hk => hk.2), Below.refl _ _⟩
  case round =>
    obtain ⟨k, A', c', hk, rfl, rfl, ⟨css, F, hown⟩, hbel⟩ := hrel
    by_cases hlt : k < es.length
    · obtain ⟨b, off, RA, rc, rfl, hbl, hc0, hc1, hc2, hc3, -, hrow⟩ := hx.get k hlt
      have q0 := (hbel.cell (p := ⟨b, off + k * 4, none⟩) hbl).trans hc0
      have q1 := (hbel.cell (p := ⟨b, off + k * 4 + 1, none⟩) hbl).trans hc1
      have q2 := (hbel.cell (p := ⟨b, off + k * 4 + 2, none⟩) hbl).trans hc2
      have q3 := (hbel.cell (p := ⟨b, off + k * 4 + 3, none⟩) hbl).trans hc3
      have hrl := HRW.out _ (List.getElem_mem hlt)
      have hpb := HPB.out _ (List.getElem_mem hlt)
      have hkl : (MM.take k).length = k := by have := HML.out; simp; omega
      have hst := HST.out k hlt
      have hmr := m_rowU
      have hmw := m_withRowU
      have hpr : projR es[k].1.1 cols = projL es[k].1.1 cols := by simp [projR, hpb]
      have hb0 : Below wr.heap.size wr (wr.alloc (.cells #[.slice RA es[k].1.1.length rc, .int .i64 es[k].1.2.1, .int .i64 es[k].1.2.2, .int .i64 es[k].2] 61)) := bal (Below.refl _ _) _
      have hcon := fun W (hW : Below wr.heap.size wr W) => ProjectRow_i RA B rc d es[k].1.1 cols W ((hrow.below hbel).below hW) ((hy.below hbel).below hW) (by omega) hm
      rw [hpb, hpr] at hcon
      have HF := Lib.hid hown
      have HS := Lib.hid hst
      have hs1 := hbel.size
      clear hc0 hc1 hc2 hc3 hown hst hpb hpr
      go_wp2_with fail
      refine (row_u _ _ _ _ _ _ _).mono ?_
      rintro e w1 ⟨rfl, b1⟩
      have hb1 := btr hb0 b1
      go_wp2_with fail
      refine (hcon _ hb1).mono ?_
      rintro e w2 ⟨RP, rp, rfl, hop, b2⟩
      have hb2 := btr hb1 b2
      obtain ⟨hcl, hfr⟩ := bcell (btr b1 b2)
      have t0 : w2.cell? ⟨wr.heap.size, 0, none⟩ = some (.slice RA es[k].1.1.length rc) := by rw [hcl _ _ (by simp)]; simp
      have t1 : w2.cell? ⟨wr.heap.size, 1, none⟩ = some (.int .i64 es[k].1.2.1) := by rw [hcl _ _ (by simp)]; simp
      have t2 : w2.cell? ⟨wr.heap.size, 2, none⟩ = some (.int .i64 es[k].1.2.2) := by rw [hcl _ _ (by simp)]; simp
      have t3 : w2.cell? ⟨wr.heap.size, 3, none⟩ = some (.int .i64 es[k].2) := by rw [hcl _ _ (by simp)]; simp
      have hop2 : IntsOwn w2 wr.heap.size RP rp (projL es[k].1.1 cols) := hop.mono hb1.size
      clear hcl hfr q0 q1 q2 q3 hcon hb0 hb1 b1 b2 hop
      go_wp2_with fail
      refine (withRow_u _ _ _ _ _ _ _ _).mono ?_
      rintro e w3 ⟨rfl, b3⟩
      have hb3 := btr hb2 b3
      have hop3 := hop2.below b3
      have hs3 := hb3.size
      have hrow3 := (HF.out.loc updO (fun q hq => hb3.block q hq.2)).row
      rw [hkl] at hrow3
      have hbase : ∀ q, blk A' = some q → w.heap.size ≤ q := fun q hq => (HF.out.top q hq).1
      clear t0 t1 t2 t3 hb2 b3 hop2
      go_wp2_with (at_builtin; refine wpList_append_src _ rfl _ _ 23 rfl w.heap.size 61 i0 (.agg #[.slice none 0 0, .int .i64 0, .int .i64 0, .int .i64 0]) 4 48 Tryz.underlying23 hi hz0 hz1 hz2 rfl (by decide) _ _ _ rfl ((ownsRow_base hrow3 hbase).alloc _) (some ⟨w3.heap.size, 0, none⟩) 1 1 [.slice RP (projL es[k].1.1 cols).length rp, .int .i64 es[k].1.2.1, .int .i64 es[k].1.2.2, .int .i64 es[k].2] rfl rfl (fun h => by cases h) upd_srcs upd_ones (by unfold maxLen; omega) (by omega) (by simp; omega) ?_)
      intro v' w4 hown' hgrow hloc
      rw [ownBlock_slice] at hgrow hloc
      have hp := HF.out.pushU (w2 := w4) hbel hb3 hop3 (by rw [hkl]; exact hown') hgrow hloc
      rw [hkl, show MM.take k ++ [((projL es[k].1.1 cols, (es[k].1.2.1, es[k].1.2.2)), es[k].2)] = MM.take (k + 1) from HS.out.symm] at hp
      obtain ⟨A3, c3, rfl, ho3, hb4⟩ := hp
      have HO := Lib.hid ho3
      have HB := Lib.hid hb4
      clear hown' hgrow hloc ho3 hb4 hrow3 hbase hop3 hb3 hbel hrow HF
      go_wp2
      go_roundw
      case rel => exact ⟨k + 1, A3, c3, by omega, by go_num, rfl, HO.out, HB.out⟩
      case measure => simp [intOf]; omega
    · obtain rfl : k = es.length := by omega
      have HO : Hid (UpdsOw wr (news w wr) A' c' MM) := by
        have := HML.out
        rw [List.take_of_length_le (by omega)] at hown
        exact ⟨_, _, hown⟩
      have HB := Lib.hid hbel
      clear hown hbel
      go_wp2
      go_ret
      exact ⟨A', c', by rw [HML.out]; rfl, HO.out, HB.out⟩
set_option maxHeartbeats 800000 in
theorem projectItems_noU (A : Option Addr) (c : Nat) (es : List Upd) (B : Option Addr) (d : Nat) (cols : List Int) (w : World) (hx : UpdsAt w A es) (hy : IntsAt w B cols) (hn : es.length ≤ 4194303) (hz : trB es = true) (hm : cols.length ≤ 4194304) (hc : colB cols (widU es) = false) :
    Calls Tryz.prog 35 #[.slice A es.length c, .slice B cols.length d] w fun e w' => ∃ A' c', e = .returned (.slice A' 0 c') ∧ Below w.heap.size w w' := by
  rcases Nat.eq_zero_or_pos es.length with h0 | hp
  · obtain rfl := List.eq_nil_of_length_eq_zero h0
    clear hz hc
    go_enter Tryz.func35, Tryz.ntmps35
    go_wp2
    refine wp_loop_rounds 1 ?_
    rw [rounds_succ]
    go_wp2
    go_ret
    exact ⟨none, 0, rfl, Below.refl _ _⟩
  · obtain ⟨b, off, RA, rc, rfl, hbl, q0, q1, q2, q3, -, hrow⟩ := hx.get 0 hp
    simp only [Nat.zero_mul, Nat.add_zero] at q0 q1 q2 q3
    have hrl := trB_row hz _ (List.getElem_mem hp)
    have h1 := trB_wid hz _ (List.getElem_mem hp)
    have hpb : projB es[0].1.1 cols = false := by simp only [projB]; rw [h1, hc]; simp
    have hmr := m_rowU
    have hp' : (0 : Int) < es.length := by omega
    have hb0 : Below w.heap.size w (w.alloc (.cells #[.slice RA es[0].1.1.length rc, .int .i64 es[0].1.2.1, .int .i64 es[0].1.2.2, .int .i64 es[0].2] 61)) := bal (Below.refl _ _) _
    have hcon := fun W (hW : Below w.heap.size w W) => ProjectRow_i RA B rc d es[0].1.1 cols W (hrow.below hW) (hy.below hW) (by omega) hm
    rw [hpb] at hcon
    clear hpb h1 hz hc
    go_enter Tryz.func35, Tryz.ntmps35
    go_wp2
    refine wp_loop_rounds 1 ?_
    rw [rounds_succ]
    go_wp2_with fail
    refine (row_u _ _ _ _ _ _ _).mono ?_
    rintro e w1 ⟨rfl, b1⟩
    have hb1 := btr hb0 b1
    go_wp2_with fail
    refine (hcon _ hb1).mono ?_
    rintro e w2 ⟨RP, rp, rfl, hop, b2⟩
    have hb2 := btr hb1 b2
    go_wp2
    go_ret
    exact ⟨none, 0, rfl, hb2⟩

set_option maxHeartbeats 800000 in
theorem MapTrace_i (A : Option Addr) (c : Nat) (z : List Upd) (B : Option Addr) (d : Nat) (cols : List Int) (w : World) (hx : UpdsAt w A z) (hy : IntsAt w B cols) (hn : z.length ≤ 4194304) (hr : rowsU z 4194304) (hm : cols.length ≤ 4194304) :
    Calls Tryz.prog 7 #[.slice A z.length c, .slice B cols.length d] w fun e w' => ∃ A' c', e = .returned (.slice A' (MapFU z cols).length c') ∧ UpdsOw w' (news w w') A' c' (MapFU z cols) ∧ Below w.heap.size w w' := by
  have hvz := ValidTrace_i A c z w hx hn hr
  by_cases h1 : trB z = true
  · rw [h1] at hvz
    have h4 := (trB_parts h1).1
    by_cases h2 : colB cols (widU z) = true
    · have HR : Hid (MapFU z cols = ConsF (z.map (mapU cols))) := by simp [Hid, MapFU, h1, h2]
      have hc6 := (col_in h2).2.1
      have HMR : Hid (rowsU (z.map (mapU cols)) 6) := map_rowsU hc6
      have HZ := Lib.hid h1
      have HC := Lib.hid h2
      have HL : Hid ((z.map (mapU cols)).length = z.length) := by simp [Hid]
      clear h1 h2
      go_enter Tryz.func7, Tryz.ntmps7
      go_wp2_with fail
      refine hvz.mono ?_
      rintro e w1 ⟨rfl, b1⟩
      clear hvz
      go_wp2_with fail
      refine (projectItems_u _ _ _ _ _ _ _ (hx.below updR b1) (hy.below b1) (by omega) HZ.out hm HC.out).mono ?_
      rintro e w2 ⟨A2, c2, rfl, ho2, b2⟩
      have hat2 : UpdsAt w2 A2 (z.map (mapU cols)) := SlOw.at_ updO ho2
      generalize z.map (mapU cols) = MM at *
      go_wp2_with fail
      refine (Consolidate_i _ _ _ _ hat2 (by have := HL.out; omega) (fun e he => by have := HMR.out e he; omega)).mono ?_
      rintro e w3 ⟨A3, c3, rfl, ho3, b3⟩
      have hs := (btr b1 b2).size
      go_wp2_with fail
      go_ret
      exact ⟨A3, c3, by rw [HR.out]; rfl, by rw [HR.out]; exact ho3.mono (fun q hq => ⟨by have := hq.1; omega, hq.2⟩) (fun q hq => hq.2), btr (btr b1 b2) b3⟩
    · have h2' : colB cols (widU z) = false := by simpa using h2
      have HR := Lib.hid (MapFU_no h2')
      have HZ := Lib.hid h1
      have HC := Lib.hid h2'
      have HN : Hid (ConsF [] = []) := by simp [Hid, ConsF, NormLU, AddLU, nz, chkT]
      clear h1 h2 h2'
      go_enter Tryz.func7, Tryz.ntmps7
      go_wp2_with fail
      refine hvz.mono ?_
      rintro e w1 ⟨rfl, b1⟩
      clear hvz
      go_wp2_with fail
      refine (projectItems_noU _ _ _ _ _ _ _ (hx.below updR b1) (hy.below b1) (by omega) HZ.out hm HC.out).mono ?_
      rintro e w2 ⟨A2, c2, rfl, b2⟩
      go_wp2_with fail
      refine (Consolidate_i A2 c2 [] _ SlAt.nil (by simp) (fun e he => by cases he)).mono ?_
      rintro e w3 ⟨A3, c3, rfl, ho3, b3⟩
      rw [HN.out] at ho3
      have hs := (btr b1 b2).size
      go_wp2_with fail
      go_ret
      exact ⟨A3, c3, by rw [HR.out, HN.out]; rfl, by rw [HR.out]; exact ho3.mono (fun q hq => ⟨by have := hq.1; omega, hq.2⟩) (fun q hq => hq.2), btr (btr b1 b2) b3⟩
  · have h1' : trB z = false := by simpa using h1
    rw [h1'] at hvz
    have HR : Hid (MapFU z cols = []) := by simp [Hid, MapFU, h1']
    clear h1 h1'
    go_enter Tryz.func7, Tryz.ntmps7
    go_wp2_with fail
    refine hvz.mono ?_
    rintro e w1 ⟨rfl, b1⟩
    clear hvz
    go_wp2_with fail
    go_ret
    exact ⟨none, 0, by rw [HR.out]; rfl, by rw [HR.out]; exact SlOw.nil (fun k hk => hk.2), b1⟩

/-! ### The model's -/
/-- A list literal of one update, in memory. -/
def UBox (base : Nat) (xs : List Int) (p q x : Int) (v : Value) (w : World) : Prop := ∃ g A c, v = .slice (some ⟨g, 0, none⟩) 1 1 ∧ base ≤ g ∧ Blk w g 61 #[.slice A xs.length c, .int .i64 p, .int .i64 q, .int .i64 x] ∧ IntsOwn w base A c xs
theorem stable_uBox (base : Nat) (xs : List Int) (p q x : Int) : Stable (UBox base xs p q x) := fun _ _ _ hb ⟨g, A, c, e, h0, h, k⟩ => ⟨g, A, c, e, h0, h.below hb, k.below hb⟩
/-- One more update, out of a block: what append gives. -/
theorem SlF.pushB {w w0 w1 w2 : World} {A : Option Addr} {c : Nat} {es : List Upd} {css : List (List Value)} {F : Nat → Fp} {v' : Value} {RA : Option Addr} {rc : Nat} {xs : List Int} {p q x : Int}
    (h : SlF UpdO 4 61 w0 (news w w0) A c es css F) (hb0 : Below w.heap.size w w0) (hb1 : Below w0.heap.size w0 w1) (ho : IntsOwn w1 w0.heap.size RA rc xs)
    (hrow : w2.ownsRow w.heap.size 61 4 v' (es.length + 1) (css.flatten ++ [.slice RA xs.length rc, .int .i64 p, .int .i64 q, .int .i64 x]))
    (hg : w1.grownBy w2 (blk A)) (hl : ∀ k, v'.ownBlock = some k → blk A = some k ∨ w1.heap.size ≤ k) :
    ∃ A' c', v' = .slice A' (es.length + 1) c' ∧ UpdsOw w2 (news w w2) A' c' (es ++ [((xs, (p, q)), x)]) ∧ Below w.heap.size w w2 := by
  obtain ⟨A', c', rfl⟩ := own_slice hrow
  rw [ownBlock_slice] at hl
  have hs0 := hb0.size
  have hs1 := hb1.size
  have hs2 := hg.size
  have h1 : SlF UpdO 4 61 w1 (news w w0) A c es css F := h.loc updO (fun k hk => hb1.block k hk.2)
  have hA0 : ∀ k, blk A = some k → w.heap.size ≤ k ∧ k < w0.heap.size := fun k hk => h.top k hk
  have hel : UpdO w1 (news w0 w1) [.slice RA xs.length rc, .int .i64 p, .int .i64 q, .int .i64 x] ((xs, (p, q)), x) := UpdO.mk (fun k hk => hk.2) (fun k hk => by
    rcases ownsRow_form ho with ⟨e, _⟩ | ⟨g, e, hg1, hg2, _⟩
    · rw [e] at hk; cases hk
    · rw [e] at hk; simp [blk] at hk; subst hk; exact ⟨hg1, hg2⟩) (ho.mono (Nat.zero_le _))
  have hb2 : ∀ k, k < w1.heap.size → blk A ≠ some k → w2.heap[k]? = w1.heap[k]? := fun k hk hn => hg.block k hk (fun e => hn e.symm)
  refine ⟨A', c', rfl, ⟨_, _, h1.push updO hel (fun k h1 h2 => by have := h1.1; have := h2.2; omega) (ownsRow_base0 hrow) hb2 (fun k hk => ?_) (fun k hk => ?_) (fun k hk => hk.2)⟩, ?_⟩
  · rcases hl k hk with h | h
    · exact .inl h
    · right; omega
  · rcases hk with hk | hk | hk
    · exact ⟨hk.1, by have := hk.2; omega⟩
    · exact ⟨by have := hk.1; omega, by have := hk.2; omega⟩
    · have h2 := World.ownsRow.lt hrow k (by rw [ownBlock_slice]; exact hk)
      exact h2
  · exact (btr hb0 hb1).grown hg (by omega) (fun k hk => (hA0 k hk).1)
theorem blk_srcs {w : World} {g : Nat} {E : TypeId} {vs : List Value} {cs : Array Value} (h : Blk w g E cs) (hv : cs.toList = vs) : ∀ a, some (⟨g, 0, none⟩ : Addr) = some a → ∀ j u, vs[j]? = some u → w.cell? (a.add j) = some u := by
  intro a e j u hu
  injection e with e
  subst e
  subst hv
  have h1 := h.cell j
  have h2 : (⟨g, 0, none⟩ : Addr).add j = ⟨g, j, none⟩ := by
    unfold Addr.add
    by_cases hj : j = 0
    · subst hj; simp
    · simp [hj]
  rw [h2, h1]
  simpa using hu

set_option maxRecDepth 100000 in
set_option maxHeartbeats 6400000 in
theorem MapTrace_s (A : Option Addr) (cc : Nat) (z : List Upd) (B : Option Addr) (d : Nat) (cols : List Int) (w : World) (hx : UpdsAt w A z) (hy : IntsAt w B cols) (hn : z.length ≤ 4194304) (hr : rowsU z 4194304) (hm : cols.length ≤ 4194304) :
    Calls Tryz.prog 9 #[.slice A z.length cc, .slice B cols.length d] w fun e w' => ∃ A' c', e = .returned (.slice A' (MapFU z cols).length c') ∧ UpdsOw w' (news w w') A' c' (MapFU z cols) ∧ Below w.heap.size w w' := by
  obtain ⟨i0, hi, hz0, hz1, hz2⟩ := info_parts Tryz.infoUpd
  have hb0 : Below w.heap.size w (w.alloc (.cells #[] 61)) := bal (Below.refl _ _) _
  have hvz := validTrace_s A cc z (w.alloc (.cells #[] 61)) (hx.below updR hb0) hn hr
  have HM0 : Hid (UpdsOw (w.alloc (.cells #[] 61)) (news w (w.alloc (.cells #[] 61))) (some ⟨w.heap.size, 0, none⟩) 0 []) := ⟨_, _, (SlF.made UpdO 4 61 w #[] 0 (by simp [maxLen]) (by simp) (S := news w (w.alloc (.cells #[] 61))) ⟨Nat.le_refl _, by simp⟩ (fun k hk => by have := hk.2; simpa using this))⟩
  have keep : ∀ W, Below (w.alloc (.cells #[] 61)).heap.size (w.alloc (.cells #[] 61)) W → Hid (UpdsOw W (news w W) (some ⟨w.heap.size, 0, none⟩) 0 []) := fun W hW => (HM0.out.below updO hW).mono (fun q hq => ⟨hq.1, by have := hq.2; have := hW.size; omega⟩) (fun q hq => hq.2)
  by_cases h1 : trB z = true
  · rw [h1] at hvz
    rcases Nat.eq_zero_or_pos z.length with h0 | hp
    · obtain rfl := List.eq_nil_of_length_eq_zero h0
      have HR : Hid (MapFU [] cols = []) := MapFU_no (colB_zero cols)
      clear h1 h0
      go_enter Tryz.func9, Tryz.ntmps9
      go_wp2_with fail
      refine hvz.mono ?_
      rintro e W1 ⟨rfl, b1⟩
      have HK := keep W1 b1
      have HB := Lib.hid (btr hb0 b1)
      clear hvz keep HM0
      go_wp2
      go_ret
      exact ⟨_, 0, by rw [HR.out]; rfl, by rw [HR.out]; exact HK.out, HB.out⟩
    · obtain ⟨b, off, RA0, rc0, rfl, hbl, hzc0, -⟩ := hx.get 0 hp
      simp only [Nat.zero_mul, Nat.add_zero] at hzc0
      have hwz := widU_get hp
      have hzl := hr.get hp
      have hpe : ((z.length : Int) == 0) = false := by rw [beq_eq_false_iff_ne]; omega
      have hp' : (0 : Int) < z.length := by omega
      have hvc := fun W (h : IntsAt W B cols) => validColumns_s B d cols z[0].1.1.length W h (by omega) (by omega)
      rw [← hwz] at hvc
      by_cases h2 : colB cols (widU z) = true
      · rw [h2] at hvc
        have HR := Lib.hid (MapFU_eq h1 h2)
        have HC := Lib.hid (col_in h2)
        have HWD := Lib.hid (trB_wid h1)
        have hlen := (trB_parts h1).1
        have HSM := Lib.hid (sumsU_map h1 h2)
        have HST : Hid (∀ k (h : k < z.length), (z.map (mapU cols)).take (k + 1) = (z.map (mapU cols)).take k ++ [mapU cols z[k]]) := fun k h => by
          rw [List.take_succ_eq_append_getElem (by simpa using h), List.getElem_map]
        have HML : Hid ((z.map (mapU cols)).length = z.length) := by simp [Hid]
        clear h1 h2
        go_enter Tryz.func9, Tryz.ntmps9
        go_wp2_with fail
        refine hvz.mono ?_
        rintro e W1 ⟨rfl, b1⟩
        have HK := keep W1 b1
        have B1 := btr hb0 b1
        have c0 := (B1.cell (p := ⟨b, off, none⟩) hbl).trans hzc0
        clear hvz keep HM0
        rw [hwz] at hvc
        go_wp2_with fail
        refine (hvc _ (hy.below B1)).mono ?_
        rintro e W2 ⟨rfl, rfl⟩
        clear hvc c0 hwz
        generalize hMM : z.map (mapU cols) = MM at *
        go_wp2
        go_loopw [5, 6] (fun vv i wr => ∃ k A' c', k ≤ z.length ∧ i = .int .i64 (k : Nat) ∧ vv = .slice A' k c' ∧ UpdsOw wr (news w wr) A' c' (MM.take k) ∧ Below w.heap.size w wr) (fun _ i _ => z.length - (intOf i).toNat)
        case atStart => exact ⟨0, _, _, by omega, rfl, rfl, by rw [List.take_zero]; exact HK.out, B1⟩
        case round =>
          obtain ⟨k, A', c', hk, rfl, rfl, ⟨css, FF2, hown⟩, hbel⟩ := hrel
          by_cases hlt : k < z.length
          · obtain ⟨b2, off2, RA, rc, hbe, -, hc0, hc1, hc2, hc3, -, hrow⟩ := hx.get k hlt
            injection hbe with hbe
            injection hbe with hbe1 hbe2
            subst hbe1
            subst hbe2
            have q0 := (hbel.cell (p := ⟨b, off + k * 4, none⟩) hbl).trans hc0
            have q1 := (hbel.cell (p := ⟨b, off + k * 4 + 1, none⟩) hbl).trans hc1
            have q2 := (hbel.cell (p := ⟨b, off + k * 4 + 2, none⟩) hbl).trans hc2
            have q3 := (hbel.cell (p := ⟨b, off + k * 4 + 3, none⟩) hbl).trans hc3
            have hlt' : (k : Int) < z.length := by omega
            have hrl := hr.get hlt
            have hci : colsIn cols z[k].1.1.length := by rw [HWD.out _ (List.getElem_mem hlt)]; exact HC.out.1
            have hst := HST.out k hlt
            have hkl : (MM.take k).length = k := by have := HML.out; simp; omega
            have hs1 := hbel.size
            have hc6 := HC.out.2.1
            have hpl : (projL z[k].1.1 cols).length ≤ 6 := by rw [projL_length]; exact hc6
            have HF := Lib.hid hown
            have HS := Lib.hid hst
            clear hown hst hc0 hc1 hc2 hc3 HK HSM HST HR
            go_wp2_with fail
            refine wp_region_facts [[], [], [], [1, 2], [1, 2, 3], [1, 2, 3, 4], [], [1, 2, 3, 4, 5, 6], [], [], [8, 9], [8, 9, 10], [8, 9, 10, 11], [], [], [13, 14], [13, 14, 15], [13, 14, 15, 16], [1, 2, 3, 4, 5, 6, 7, 8, 9, 10, 11, 12, 13, 14, 15, 16, 17], [1, 2, 3, 4, 5, 6, 7, 8, 9, 10, 11, 12, 13, 14, 15, 16, 17, 18]]
              [fun v' _ => v' = .slice A' k c', fun v' _ => v' = .slice (some ⟨b, off, none⟩) z.length cc, fun v' _ => v' = .int .i64 (k : Int), fun v' _ => v' = .pointer (some ⟨b, off + k * 4, none⟩), fun v' _ => v' = .pointer (some ⟨b, off + k * 4, none⟩), fun v' _ => v' = .slice RA z[k].1.1.length rc, fun v' _ => v' = .slice B cols.length d, RowV wr.heap.size (projL z[k].1.1 cols), fun v' _ => v' = .slice (some ⟨b, off, none⟩) z.length cc, fun v' _ => v' = .int .i64 (k : Int), fun v' _ => v' = .pointer (some ⟨b, off + k * 4, none⟩), fun v' _ => v' = .pointer (some ⟨b, off + k * 4 + 1, none⟩), fun v' _ => v' = .agg #[.int .i64 z[k].1.2.1, .int .i64 z[k].1.2.2], fun v' _ => v' = .slice (some ⟨b, off, none⟩) z.length cc, fun v' _ => v' = .int .i64 (k : Int), fun v' _ => v' = .pointer (some ⟨b, off + k * 4, none⟩), fun v' _ => v' = .pointer (some ⟨b, off + k * 4 + 3, none⟩), fun v' _ => v' = .int .i64 z[k].2, UpdW wr.heap.size (projL z[k].1.1 cols) z[k].1.2.1 z[k].1.2.2 z[k].2, UBox wr.heap.size (projL z[k].1.1 cols) z[k].1.2.1 z[k].1.2.2 z[k].2]
              (by kernel_rfl) (by kernel_rfl) rfl ⟨stable_pure _, stable_pure _, stable_pure _, stable_pure _, stable_pure _, stable_pure _, stable_pure _, stable_rowV _ _, stable_pure _, stable_pure _, stable_pure _, stable_pure _, stable_pure _, stable_pure _, stable_pure _, stable_pure _, stable_pure _, stable_pure _, stable_updW _ _ _ _ _, stable_uBox _ _ _ _ _, trivial⟩ ?_
            refine wf_stepK [] [] (by kernel_rfl) (by kernel_rfl) (fun wf hb hf => ?_) (fun t0 => ?_)
            · refine ⟨?_⟩
              go_wp2
              exact ⟨rfl, .slice A' k c', by kernel_rfl, Below.refl _ _, rfl⟩
            refine wf_stepK [] [] (by kernel_rfl) (by kernel_rfl) (fun wf hb hf => ?_) (fun t1 => ?_)
            · refine ⟨?_⟩
              go_wp2
              exact ⟨rfl, .slice (some ⟨b, off, none⟩) z.length cc, by kernel_rfl, Below.refl _ _, rfl⟩
            refine wf_stepK [] [] (by kernel_rfl) (by kernel_rfl) (fun wf hb hf => ?_) (fun t2 => ?_)
            · refine ⟨?_⟩
              go_wp2
              exact ⟨rfl, .int .i64 (k : Int), by kernel_rfl, Below.refl _ _, rfl⟩
            refine wf_stepK [1, 2] [fun _ => t1 = .slice (some ⟨b, off, none⟩) z.length cc, fun _ => t2 = .int .i64 (k : Int)] (by kernel_rfl) (by kernel_rfl) (fun wf hb hf => ?_) (fun t3 => ?_)
            · obtain ⟨rfl, rfl, -⟩ := hf
              refine ⟨?_⟩
              go_wp2
              exact ⟨rfl, .pointer (some ⟨b, off + k * 4, none⟩), by kernel_rfl, Below.refl _ _, rfl⟩
            refine wf_stepK [3] [fun _ => t3 = .pointer (some ⟨b, off + k * 4, none⟩)] (by kernel_rfl) (by kernel_rfl) (fun wf hb hf => ?_) (fun t4 => ?_)
            · obtain ⟨rfl, -⟩ := hf
              refine ⟨?_⟩
              go_wp2
              exact ⟨rfl, .pointer (some ⟨b, off + k * 4, none⟩), by kernel_rfl, Below.refl _ _, rfl⟩
            refine wf_stepK [4] [fun _ => t4 = .pointer (some ⟨b, off + k * 4, none⟩)] (by kernel_rfl) (by kernel_rfl) (fun wf hb hf => ?_) (fun t5 => ?_)
            · obtain ⟨rfl, -⟩ := hf
              refine ⟨?_⟩
              have c0 := (hb.cell (p := ⟨b, off + k * 4, none⟩) (Nat.lt_of_lt_of_le hbl hs1)).trans q0
              go_wp2
              exact ⟨rfl, .slice RA z[k].1.1.length rc, by kernel_rfl, Below.refl _ _, rfl⟩
            refine wf_stepK [] [] (by kernel_rfl) (by kernel_rfl) (fun wf hb hf => ?_) (fun t6 => ?_)
            · refine ⟨?_⟩
              go_wp2
              exact ⟨rfl, .slice B cols.length d, by kernel_rfl, Below.refl _ _, rfl⟩
            refine wf_stepK [5, 6] [fun _ => t5 = .slice RA z[k].1.1.length rc, fun _ => t6 = .slice B cols.length d] (by kernel_rfl) (by kernel_rfl) (fun wf hb hf => ?_) (fun t7 => ?_)
            · obtain ⟨rfl, rfl, -⟩ := hf
              refine ⟨?_⟩
              go_wp2_with (go_at_call 39; refine (project_s _ _ _ _ _ _ _ ((hrow.below hbel).below hb) ((hy.below hbel).below hb) hci hrl (by omega)).mono ?_; rintro e w2 ⟨AP, cP, rfl, hop, hb2⟩)
              exact ⟨rfl, .slice AP (projL z[k].1.1 cols).length cP, by kernel_rfl, hb2, AP, cP, rfl, hop.mono hb.size⟩
            refine wf_stepK [] [] (by kernel_rfl) (by kernel_rfl) (fun wf hb hf => ?_) (fun t8 => ?_)
            · refine ⟨?_⟩
              go_wp2
              exact ⟨rfl, .slice (some ⟨b, off, none⟩) z.length cc, by kernel_rfl, Below.refl _ _, rfl⟩
            refine wf_stepK [] [] (by kernel_rfl) (by kernel_rfl) (fun wf hb hf => ?_) (fun t9 => ?_)
            · refine ⟨?_⟩
              go_wp2
              exact ⟨rfl, .int .i64 (k : Int), by kernel_rfl, Below.refl _ _, rfl⟩
            refine wf_stepK [8, 9] [fun _ => t8 = .slice (some ⟨b, off, none⟩) z.length cc, fun _ => t9 = .int .i64 (k : Int)] (by kernel_rfl) (by kernel_rfl) (fun wf hb hf => ?_) (fun t10 => ?_)
            · obtain ⟨rfl, rfl, -⟩ := hf
              refine ⟨?_⟩
              go_wp2
              exact ⟨rfl, .pointer (some ⟨b, off + k * 4, none⟩), by kernel_rfl, Below.refl _ _, rfl⟩
            refine wf_stepK [10] [fun _ => t10 = .pointer (some ⟨b, off + k * 4, none⟩)] (by kernel_rfl) (by kernel_rfl) (fun wf hb hf => ?_) (fun t11 => ?_)
            · obtain ⟨rfl, -⟩ := hf
              refine ⟨?_⟩
              go_wp2
              exact ⟨rfl, .pointer (some ⟨b, off + k * 4 + 1, none⟩), by kernel_rfl, Below.refl _ _, rfl⟩
            refine wf_stepK [11] [fun _ => t11 = .pointer (some ⟨b, off + k * 4 + 1, none⟩)] (by kernel_rfl) (by kernel_rfl) (fun wf hb hf => ?_) (fun t12 => ?_)
            · obtain ⟨rfl, -⟩ := hf
              refine ⟨?_⟩
              have c1 := (hb.cell (p := ⟨b, off + k * 4 + 1, none⟩) (Nat.lt_of_lt_of_le hbl hs1)).trans q1
              have c2 := (hb.cell (p := ⟨b, off + k * 4 + 2, none⟩) (Nat.lt_of_lt_of_le hbl hs1)).trans q2
              go_wp2
              exact ⟨rfl, .agg #[.int .i64 z[k].1.2.1, .int .i64 z[k].1.2.2], by kernel_rfl, Below.refl _ _, rfl⟩
            refine wf_stepK [] [] (by kernel_rfl) (by kernel_rfl) (fun wf hb hf => ?_) (fun t13 => ?_)
            · refine ⟨?_⟩
              go_wp2
              exact ⟨rfl, .slice (some ⟨b, off, none⟩) z.length cc, by kernel_rfl, Below.refl _ _, rfl⟩
            refine wf_stepK [] [] (by kernel_rfl) (by kernel_rfl) (fun wf hb hf => ?_) (fun t14 => ?_)
            · refine ⟨?_⟩
              go_wp2
              exact ⟨rfl, .int .i64 (k : Int), by kernel_rfl, Below.refl _ _, rfl⟩
            refine wf_stepK [13, 14] [fun _ => t13 = .slice (some ⟨b, off, none⟩) z.length cc, fun _ => t14 = .int .i64 (k : Int)] (by kernel_rfl) (by kernel_rfl) (fun wf hb hf => ?_) (fun t15 => ?_)
            · obtain ⟨rfl, rfl, -⟩ := hf
              refine ⟨?_⟩
              go_wp2
              exact ⟨rfl, .pointer (some ⟨b, off + k * 4, none⟩), by kernel_rfl, Below.refl _ _, rfl⟩
            refine wf_stepK [15] [fun _ => t15 = .pointer (some ⟨b, off + k * 4, none⟩)] (by kernel_rfl) (by kernel_rfl) (fun wf hb hf => ?_) (fun t16 => ?_)
            · obtain ⟨rfl, -⟩ := hf
              refine ⟨?_⟩
              go_wp2
              exact ⟨rfl, .pointer (some ⟨b, off + k * 4 + 3, none⟩), by kernel_rfl, Below.refl _ _, rfl⟩
            refine wf_stepK [16] [fun _ => t16 = .pointer (some ⟨b, off + k * 4 + 3, none⟩)] (by kernel_rfl) (by kernel_rfl) (fun wf hb hf => ?_) (fun t17 => ?_)
            · obtain ⟨rfl, -⟩ := hf
              refine ⟨?_⟩
              have c3 := (hb.cell (p := ⟨b, off + k * 4 + 3, none⟩) (Nat.lt_of_lt_of_le hbl hs1)).trans q3
              go_wp2
              exact ⟨rfl, .int .i64 z[k].2, by kernel_rfl, Below.refl _ _, rfl⟩
            refine wf_stepK [7, 12, 17] [RowV wr.heap.size (projL z[k].1.1 cols) t7, fun _ => t12 = .agg #[.int .i64 z[k].1.2.1, .int .i64 z[k].1.2.2], fun _ => t17 = .int .i64 z[k].2] (by kernel_rfl) (by kernel_rfl) (fun wf hb hf => ?_) (fun t18 => ?_)
            · obtain ⟨⟨AP, cP, rfl, hop⟩, rfl, rfl, -⟩ := hf
              refine ⟨?_⟩
              go_wp2
              exact ⟨rfl, .agg #[.slice AP (projL z[k].1.1 cols).length cP, .int .i64 z[k].1.2.1, .int .i64 z[k].1.2.2, .int .i64 z[k].2], by kernel_rfl, Below.refl _ _, AP, cP, rfl, hop⟩
            refine wf_stepK [18] [UpdW wr.heap.size (projL z[k].1.1 cols) z[k].1.2.1 z[k].1.2.2 z[k].2 t18] (by kernel_rfl) (by kernel_rfl) (fun wf hb hf => ?_) (fun t19 => ?_)
            · obtain ⟨⟨AP, cP, rfl, hop⟩, -⟩ := hf
              refine ⟨?_⟩
              go_wp2
              exact ⟨rfl, .slice (some ⟨wf.heap.size, 0, none⟩) 1 1, by kernel_rfl, bal (Below.refl _ _) _, wf.heap.size, AP, cP, rfl, hb.size, Blk.newAt rfl, hop.below (bal (Below.refl _ _) _)⟩
            refine wf_doneK [0, 19] [fun _ => t0 = .slice A' k c', UBox wr.heap.size (projL z[k].1.1 cols) z[k].1.2.1 z[k].1.2.2 z[k].2 t19] (by kernel_rfl) (by kernel_rfl) (fun wC hb hf => ?_)
            obtain ⟨rfl, ⟨g, AP, cP, rfl, hg0, hgB, hop⟩, -⟩ := hf
            show wpList _ _ _ [_, _] _ _
            refine wpList_frame (by simp [Act.put]; rfl) ?_
            have hF1 := HF.out.loc updO (fun q hq => hb.block q hq.2)
            have hrow2 := hF1.row
            rw [hkl] at hrow2
            have hbase : ∀ q, blk A' = some q → w.heap.size ≤ q := fun q hq => (HF.out.top q hq).1
            have hsC := hb.size
            have hglt := hgB.lt
            go_wp2_with (at_builtin; refine wpList_append_src _ rfl _ _ 23 rfl w.heap.size 61 i0 (.agg #[.slice none 0 0, .int .i64 0, .int .i64 0, .int .i64 0]) 4 48 Tryz.underlying23 hi hz0 hz1 hz2 rfl (by decide) _ _ _ rfl (ownsRow_base hrow2 hbase) (some ⟨g, 0, none⟩) 1 1 [.slice AP (projL z[k].1.1 cols).length cP, .int .i64 z[k].1.2.1, .int .i64 z[k].1.2.2, .int .i64 z[k].2] rfl rfl (fun h => by cases h) (blk_srcs hgB rfl) upd_ones (by unfold maxLen; omega) (by omega) (by omega) ?_)
            intro v' w3 hown' hgrow hloc
            rw [ownBlock_slice] at hgrow hloc
            have hp := HF.out.pushB (w2 := w3) hbel hb hop (by rw [hkl]; exact hown') hgrow hloc
            rw [hkl, show MM.take k ++ [((projL z[k].1.1 cols, (z[k].1.2.1, z[k].1.2.2)), z[k].2)] = MM.take (k + 1) from HS.out.symm] at hp
            obtain ⟨A3, c3, rfl, ho3, hb3⟩ := hp
            have HO := Lib.hid ho3
            have HB := Lib.hid hb3
            clear hown' hgrow hloc ho3 hb3 hrow2 hbase hop hb hbel hrow HF hF1 hgB q0 q1 q2 q3
            go_wp2
            go_roundw
            case rel => exact ⟨k + 1, A3, c3, by omega, by go_num, rfl, HO.out, HB.out⟩
            case measure => simp [intOf]; omega
          · obtain rfl : k = z.length := by omega
            have hTL : MM.take z.length = MM := List.take_of_length_le (by have := HML.out; omega)
            have HO : Hid (UpdsOw wr (news w wr) A' c' MM) := by
              rw [hTL] at hown
              exact ⟨_, _, hown⟩
            have HB := Lib.hid hbel
            have hs1 := hbel.size
            have hcon := consolidate_s A' c' MM wr (SlOw.at_ updO HO.out) (by have := HML.out; omega) HSM.out
            rw [HML.out] at hcon
            clear hown hbel HST hTL HK
            go_wp2_with fail
            refine hcon.mono ?_
            rintro e w2 ⟨A2, c2, rfl, ho2, b2⟩
            go_wp2_with fail
            go_ret
            exact ⟨A2, c2, by rw [HR.out]; rfl, by rw [HR.out]; exact ho2.mono (fun q hq => ⟨by have := hq.1; omega, hq.2⟩) (fun q hq => hq.2), btr HB.out b2⟩
      · have h2' : colB cols (widU z) = false := by simpa using h2
        rw [h2'] at hvc
        have HR := Lib.hid (MapFU_no h2')
        clear h1 h2 h2'
        go_enter Tryz.func9, Tryz.ntmps9
        go_wp2_with fail
        refine hvz.mono ?_
        rintro e W1 ⟨rfl, b1⟩
        have HK := keep W1 b1
        have B1 := btr hb0 b1
        have HB := Lib.hid B1
        have c0 := (B1.cell (p := ⟨b, off, none⟩) hbl).trans hzc0
        clear hvz keep HM0
        rw [hwz] at hvc
        go_wp2_with fail
        refine (hvc _ (hy.below B1)).mono ?_
        rintro e W2 ⟨rfl, rfl⟩
        clear hvc c0 hwz
        go_wp2
        go_ret
        exact ⟨_, 0, by rw [HR.out]; rfl, by rw [HR.out]; exact HK.out, HB.out⟩
  · have h1' : trB z = false := by simpa using h1
    rw [h1'] at hvz
    have HR : Hid (MapFU z cols = []) := by simp [Hid, MapFU, h1']
    clear h1 h1'
    go_enter Tryz.func9, Tryz.ntmps9
    go_wp2_with fail
    refine hvz.mono ?_
    rintro e W1 ⟨rfl, b1⟩
    have HK := keep W1 b1
    have HB := Lib.hid (btr hb0 b1)
    clear hvz keep HM0
    go_wp2
    go_ret
    exact ⟨_, 0, by rw [HR.out]; rfl, by rw [HR.out]; exact HK.out, HB.out⟩
end Go.Proofs.YtjobecoogjojjaaGreat
