/- HELPER, no statement of the seat: SeekRows of both sides. -/
import Derived.Test.YtkonhjdfcfljpaaBtc
import Derived.Test.YtkonhjdfcfljpaaFil
import Derived.Test.YtkonhjdfcfljpaaCap
namespace Go.Proofs.Ytkonhjdfcfljpaa
open Go.RowKit Go.Sort
set_option linter.unusedSimpArgs false
set_option linter.unusedVariables false

/-! ### Updates whose rows have the room that they say -/
def UpdC : Rd Upd := fun w cs e => ∃ A c, cs = [.slice A e.1.1.length c, .int .i64 e.1.2.1, .int .i64 e.1.2.2, .int .i64 e.2] ∧ e.1.1.length ≤ c ∧ c ≤ maxLen ∧ IntsAt w A e.1.1
theorem updC : ROk UpdC 4 := ⟨fun ⟨_, _, e, _⟩ => by rw [e]; rfl, fun ⟨A, c, e, l, m, h⟩ hb => ⟨A, c, e, l, m, h.below hb⟩⟩
abbrev UpdsC (w : World) (A : Option Addr) (es : List Upd) : Prop := SlAt UpdC 4 w A es
theorem UpdsC.get {w : World} {A : Option Addr} {es : List Upd} (h : UpdsC w A es) (j : Nat) (hj : j < es.length) :
    ∃ b off RA rc, A = some ⟨b, off, none⟩ ∧ b < w.heap.size ∧ w.cell? ⟨b, off + j * 4, none⟩ = some (.slice RA es[j].1.1.length rc) ∧ w.cell? ⟨b, off + j * 4 + 1, none⟩ = some (.int .i64 es[j].1.2.1) ∧ w.cell? ⟨b, off + j * 4 + 2, none⟩ = some (.int .i64 es[j].1.2.2) ∧ w.cell? ⟨b, off + j * 4 + 3, none⟩ = some (.int .i64 es[j].2) ∧ es[j].1.1.length ≤ rc ∧ rc ≤ maxLen ∧ IntsAt w RA es[j].1.1 := by
  obtain ⟨b, off, rfl, hlt, hc⟩ := h (by omega)
  obtain ⟨cs, hl, hcell, hr⟩ := hc j hj
  obtain ⟨RA, rc, rfl, l, m, hi⟩ := hr
  exact ⟨b, off, RA, rc, rfl, hlt, (by have h := hcell 0 (by omega); rw [Nat.add_zero] at h; exact h), hcell 1 (by omega), hcell 2 (by omega), hcell 3 (by omega), l, m, hi⟩
theorem UpdsC.at_ {w : World} {A : Option Addr} {es : List Upd} (h : UpdsC w A es) : UpdsAt w A es := fun hn => by
  obtain ⟨b, off, e, hlt, hc⟩ := h hn
  refine ⟨b, off, e, hlt, fun j hj => ?_⟩
  obtain ⟨cs, h1, h2, RA, rc, rfl, l, m, hi⟩ := hc j hj
  exact ⟨_, h1, h2, UpdR.of (c := rc) es[j] (x := es[j].2) (Nat.le_trans l m) hi⟩
theorem UpdsOw.atC {w : World} {S : Fp} {A : Option Addr} {c : Nat} {es : List Upd} (h : UpdsOw w S A c es) : UpdsC w A es := fun hn => by
  obtain ⟨css, F, h⟩ := h
  rcases h.form with ⟨_, _, rfl⟩ | ⟨g, rfl, _, hlt, _⟩
  · simp at hn
  · refine ⟨g, 0, rfl, hlt, fun j hj => ?_⟩
    have h1 : j < css.length := by rw [h.clen]; exact hj
    refine ⟨css[j], h.elen _ (List.getElem_mem h1), fun i hi => by rw [Nat.zero_add, h.cell j h1 i hi], ?_⟩
    obtain ⟨RA, rc, hcs, _, hown⟩ := (h.elt j h1 hj).form
    refine ⟨RA, rc, hcs, ?_, ?_, hown.at_⟩
    · rcases ownsRow_form hown with ⟨_, _, h3⟩ | ⟨g, _, _, _, h4, _⟩
      · omega
      · exact h4
    · rcases ownsRow_form hown with ⟨_, h3, _⟩ | ⟨g, _, _, _, _, h4⟩
      · rw [h3]; simp [maxLen]
      · exact h4
/-- The row begins with the key. -/
def seekB (key r : List Int) : Bool := decide (key.length ≤ r.length) && decide (r.take key.length = key)
def SekF (b : Bt) (key : List Int) : List Upd := if batB b = true then b.2.2.filter (fun e => seekB key e.1.1) else []
theorem batB_tr {b : Bt} (h : batB b = true) : trB b.2.2 = true := by simp only [batB, Bool.and_eq_true] at h; exact h.2.1
theorem SekF_len (b : Bt) (key : List Int) : (SekF b key).length ≤ 400 := by
  unfold SekF
  split
  · rename_i h
    exact Nat.le_trans (List.length_filter_le _ _) (trB_parts (batB_tr h)).1
  · simp
theorem SekF_row (b : Bt) (key : List Int) : rowsU (SekF b key) 6 := by
  unfold SekF
  split
  · rename_i h
    intro e he
    have h2 := (sumU_parts (trB_sum (batB_tr h) _ (List.mem_filter.1 he).1)).1
    exact row_len h2
  · intro e he; cases he
theorem bat_row {b : Bt} (h : batB b = true) : ∀ e ∈ b.2.2, 1 ≤ e.1.1.length ∧ e.1.1.length ≤ 6 := fun e he => by
  have h2 := (sumU_parts (trB_sum (batB_tr h) _ he)).1
  simp only [rowB, decide_eq_true_eq] at h2
  exact ⟨h2.1, h2.2.1⟩
set_option maxHeartbeats 1600000 in
theorem seek1_c (B C : Nat) (KA : Option Addr) (kc : Nat) (key : List Int) (RA : Option Addr) (rc : Nat) (xs : List Int) (w : World) (hb : Blk w B 3 #[.int .i64 key.length]) (hk : Blk w C 26 #[.slice KA key.length kc]) (hK : IntsAt w KA key) (hkl : key.length ≤ 4194304) (hx : IntsAt w RA xs) (h1 : 1 ≤ xs.length) (hl : xs.length ≤ 4194304) (hc : xs.length ≤ rc) (hcm : rc ≤ maxLen) :
    Calls Try.prog 72 #[.slice RA xs.length rc, .pointer (some ⟨B, 0, none⟩), .pointer (some ⟨C, 0, none⟩)] w fun e w' => e = .returned (.bool (seekB key xs)) ∧ Below w.heap.size w w' := by
  obtain ⟨b, off, rfl, hbl, -⟩ := hx (by omega)
  have r1 := cgrow (hk.cell 0)
  have r2 := cgrow (hb.cell 0)
  simp at r1 r2
  by_cases hm : key.length ≤ xs.length
  · have hlt : (xs.take key.length).length = key.length := by simp; omega
    have HP : Hid (seekB key xs = decide (xs.take key.length = key)) := by simp [Hid, seekB, hm]
    have hd : decide ((key.length : Int) ≤ (xs.length : Int)) = true := decide_eq_true (by omega)
    have hd2 : decide (key.length ≤ xs.length) = true := decide_eq_true hm
    have g0 : (0 : Int) ≤ key.length := by omega
    have g1 : (key.length : Int) ≤ rc := by omega
    have g2 : (rc : Int) ≤ 9223372036854775807 := by unfold maxLen at hcm; omega
    have hcon := fun W (hW : Below w.heap.size w W) => equalSl_i (some ⟨b, off, none⟩) KA rc kc (xs.take key.length) key W ((hx.take _).below hW) (hK.below hW) (by omega) (by omega)
    rw [hlt] at hcon
    clear hx hK hk hb hlt hcm
    go_enter Try.func72, Try.ntmps72
    go_wp2_with fail
    refine wp_region_quiet_below (by kernel_rfl) (by kernel_rfl) ?_
    repeat (go_big_quiet_step (exact Calls.regrown_of (hcon _ (below_regrown _ _ _))))
    refine wpQuiet_nil ?_
    intro wq hwq
    obtain ⟨⟨dq, osq⟩, rfl⟩ := hwq
    have hbq := below_regrown w dq osq
    generalize grow (redrawn w dq) osq = wz at hbq
    clear r1 r2 hcon
    go_wp2
    go_ret
    exact ⟨ret_bool HP.out.symm, hbq⟩
  · have HP : Hid (seekB key xs = false) := by simp [Hid, seekB, hm]
    have hd : decide ((key.length : Int) ≤ (xs.length : Int)) = false := decide_eq_false (by omega)
    have hd2 : decide (key.length ≤ xs.length) = false := decide_eq_false hm
    clear hx hK hk hb
    go_enter Try.func72, Try.ntmps72
    go_wp2_with fail
    refine wp_region_quiet_below (by kernel_rfl) (by kernel_rfl) ?_
    repeat (go_big_quiet_step (fail))
    refine wpQuiet_nil ?_
    intro wq hwq
    obtain ⟨⟨dq, osq⟩, rfl⟩ := hwq
    have hbq := below_regrown w dq osq
    generalize grow (redrawn w dq) osq = wz at hbq
    clear r1 r2
    go_wp2
    go_ret
    exact ⟨ret_bool HP.out.symm, hbq⟩
set_option maxRecDepth 100000 in
set_option maxHeartbeats 1600000 in
theorem itemsSek_u (B C : Nat) (KA : Option Addr) (kc : Nat) (key : List Int) (A : Option Addr) (c : Nat) (es : List Upd) (w : World) (hx : UpdsAt w A es) (hn : es.length ≤ 4194303) (hr : rowsU es 4194304) (hb : Blk w B 3 #[.int .i64 key.length]) (hk : Blk w C 26 #[.slice KA key.length kc]) (hK : IntsAt w KA key) (hkl : key.length ≤ 4194304) (hm : ∀ e ∈ es, 1 ≤ e.1.1.length) (hC : UpdsC w A es) :
    Calls Try.prog 71 #[.slice A es.length c, .func (.func 72) #[] #[.pointer (some ⟨B, 0, none⟩), .pointer (some ⟨C, 0, none⟩)]] w fun e w' => ∃ A' c', e = .returned (.slice A' (es.filter (fun e : Upd => seekB key e.1.1)).length c') ∧ UpdsAt w' A' (es.filter (fun e : Upd => seekB key e.1.1)) ∧ Below w.heap.size w w' := by
  obtain ⟨i0, hi, hz0, hz1, hz2⟩ := info_parts Try.infoUpd
  obtain ⟨pr, hPR⟩ : ∃ pr : Upd → Bool, ((fun e : Upd => seekB key e.1.1) : Upd → Bool) = pr := ⟨_, rfl⟩
  rw [hPR]
  have HCON : Hid (∀ k (hlt : k < es.length) RA rc W, IntsAt w RA es[k].1.1 → es[k].1.1.length ≤ rc → rc ≤ maxLen → Below w.heap.size w W → Calls Try.prog 72 #[.slice RA es[k].1.1.length rc, .pointer (some ⟨B, 0, none⟩), .pointer (some ⟨C, 0, none⟩)] W fun e w' => e = .returned (.bool (pr es[k])) ∧ Below W.heap.size W w') := fun k hlt RA rc W hrow hcp hcm hW => by
    have hrl := hr.get hlt
    subst hPR
    exact seek1_c B C KA kc key RA rc es[k].1.1 W (hb.below hW) (hk.below hW) (hK.below hW) hkl (hrow.below hW) (hm _ (List.getElem_mem hlt)) hrl hcp hcm
  clear hb hk hK hm hPR
  go_enter Try.func71, Try.ntmps71
  go_wp2
  go_loopw [5, 7, 10] (fun v _ i wr => ∃ k A' c' css, k ≤ es.length ∧ i = .int .i64 (k : Nat) ∧ v = .slice A' ((es.take k).filter pr).length c' ∧ wr.ownsRow w.heap.size 54 4 (.slice A' ((es.take k).filter pr).length c') ((es.take k).filter pr).length css.flatten ∧ RdL UpdR w css ((es.take k).filter pr) ∧ Below w.heap.size w wr) (fun _ _ i _ => es.length - (intOf i).toNat)
  case atStart => exact ⟨0, none, 0, [], by omega, rfl, rfl, World.ownsRow_nil _ _ _ _, RdL.nil, Below.refl _ _⟩
  case round =>
    obtain ⟨k, A', c', css, hk, rfl, rfl, hown, hrd, hbel⟩ := hrel
    by_cases hlt : k < es.length
    · obtain ⟨b, off, RA, rc, rfl, hbl, hc0, hc1, hc2, hc3, hcap1, hcap2, hrow⟩ := hC.get k hlt
      have hml := Nat.le_trans hcap1 hcap2
      have q0 := (hbel.cell (p := ⟨b, off + k * 4, none⟩) hbl).trans hc0
      have q1 := (hbel.cell (p := ⟨b, off + k * 4 + 1, none⟩) hbl).trans hc1
      have q2 := (hbel.cell (p := ⟨b, off + k * 4 + 2, none⟩) hbl).trans hc2
      have q3 := (hbel.cell (p := ⟨b, off + k * 4 + 3, none⟩) hbl).trans hc3
      have hdl : ((es.take k).filter pr).length ≤ k := Nat.le_trans (List.length_filter_le _ _) (by simp; omega)
      have hst : (es.take (k + 1)).filter pr = (es.take k).filter pr ++ if pr es[k] = true then [es[k]] else [] := by
        rw [List.take_succ_eq_append_getElem hlt, List.filter_append]
        congr 1
        by_cases h : pr es[k] = true <;> simp [h]
      have hs1 := hbel.size
      have hm := m_rowU
      have hcon := fun W hW => HCON.out k hlt RA rc W hrow hcap1 hcap2 hW
      clear hc0 hc1 hc2 hc3 HCON
      by_cases hp : pr es[k] = true
      · rw [if_pos hp] at hst
        have hsn := hrd.snoc (UpdR.of (c := rc) es[k] (x := es[k].2) hml hrow)
        rw [show (es[k].1, es[k].2) = es[k] from rfl, ← hst] at hsn
        have HSN := Lib.hid hsn
        have HST := Lib.hid hst
        have HCON := Lib.hid hcon
        rw [hp] at hcon
        have HCON2 := Lib.hid hcon
        clear hst hrd hsn hcon HCON hp
        generalize hM : (es.take k).filter pr = M at *
        clear hM
        have hb0 : Below w.heap.size w (wr.alloc (.cells #[.slice RA es[k].1.1.length rc, .int .i64 es[k].1.2.1, .int .i64 es[k].1.2.2, .int .i64 es[k].2] 54)) := bal hbel _
        have HO := Lib.hid (hown.alloc (.cells #[.slice RA es[k].1.1.length rc, .int .i64 es[k].1.2.1, .int .i64 es[k].1.2.2, .int .i64 es[k].2] 54))
        clear hown
        go_wp2_with fail
        refine (row_u _ _ _ _ _ _ _).mono ?_
        rintro e w1 ⟨rfl, b1⟩
        go_wp2_with fail
        refine (HCON2.out _ (hb0.trans (b1.mono (by simp; omega)))).mono ?_
        rintro e w2 ⟨rfl, b2⟩
        have b12 := btr b1 b2
        obtain ⟨hcl, hfr⟩ := bcell b12
        have t0 : w2.cell? ⟨wr.heap.size, 0, none⟩ = some (.slice RA es[k].1.1.length rc) := by rw [hcl _ _ (by simp)]; simp
        have t1 : w2.cell? ⟨wr.heap.size, 1, none⟩ = some (.int .i64 es[k].1.2.1) := by rw [hcl _ _ (by simp)]; simp
        have t2 : w2.cell? ⟨wr.heap.size, 2, none⟩ = some (.int .i64 es[k].1.2.2) := by rw [hcl _ _ (by simp)]; simp
        have t3 : w2.cell? ⟨wr.heap.size, 3, none⟩ = some (.int .i64 es[k].2) := by rw [hcl _ _ (by simp)]; simp
        have hown2 := ownsRow_below HO.out b12
        have hB2 := hb0.trans (b12.mono (by simp; omega))
        have hs2 := hB2.size
        have hsrc := upd_srcs (w1 := w2) (RA := RA) (n := es[k].1.1.length) (rc := rc) (p := es[k].1.2.1) (q := es[k].1.2.2) (x := es[k].2) (E := 54)
        clear hcl hfr b1 b2 b12 HO q0 q1 q2 q3
        go_wp2_with (at_builtin; refine wpList_append_src _ rfl _ _ 28 rfl w.heap.size 54 i0 (.agg #[.slice none 0 0, .int .i64 0, .int .i64 0, .int .i64 0]) 4 48 Try.underlying28 hi hz0 hz1 hz2 rfl (by decide) _ _ _ rfl (hown2.alloc _) (some ⟨w2.heap.size, 0, none⟩) 1 1 [.slice RA es[k].1.1.length rc, .int .i64 es[k].1.2.1, .int .i64 es[k].1.2.2, .int .i64 es[k].2] rfl rfl (fun h => by cases h) hsrc upd_ones (by unfold maxLen; omega) (by omega) (by simp; omega) ?_)
        intro v' w3 hown' hgrow hloc
        obtain ⟨A3, c3, rfl⟩ := own_slice hown'
        have hb3 : Below w.heap.size w w3 := (bal hB2 _).grown hgrow (by simp; omega) (fun q hq => (World.ownsRow.lt hown2 q hq).1)
        have HL : Hid (M.length + 1 = ((es.take (k + 1)).filter pr).length) := by rw [HST.out]; simp [Hid]
        have HR : Hid (w3.ownsRow w.heap.size 54 4 (.slice A3 ((es.take (k + 1)).filter pr).length c3) ((es.take (k + 1)).filter pr).length (css ++ [[Value.slice RA es[k].1.1.length rc, Value.int .i64 es[k].1.2.1, Value.int .i64 es[k].1.2.2, Value.int .i64 es[k].2]]).flatten) := by rw [← HL.out]; simpa [Hid] using hown'
        clear hown' hgrow hloc hown2 hB2 hbel t0 t1 t2 t3 hb0
        go_wp2
        go_roundw
        case rel => exact ⟨k + 1, A3, c3, _, by omega, by go_num, by rw [HL.out], HR.out, HSN.out, hb3⟩
        case measure => simp [intOf]; omega
      · rw [if_neg hp, List.append_nil] at hst
        have hp' : pr es[k] = false := by simpa using hp
        rw [hp'] at hcon
        have HCON2 := Lib.hid hcon
        have HST := Lib.hid hst
        have HRD := Lib.hid hrd
        clear hst hrd hp hp' hcon
        generalize hM : (es.take k).filter pr = M at *
        clear hM
        have hb0 : Below w.heap.size w (wr.alloc (.cells #[.slice RA es[k].1.1.length rc, .int .i64 es[k].1.2.1, .int .i64 es[k].1.2.2, .int .i64 es[k].2] 54)) := bal hbel _
        have HO := Lib.hid (hown.alloc (.cells #[.slice RA es[k].1.1.length rc, .int .i64 es[k].1.2.1, .int .i64 es[k].1.2.2, .int .i64 es[k].2] 54))
        clear hown
        go_wp2_with fail
        refine (row_u _ _ _ _ _ _ _).mono ?_
        rintro e w1 ⟨rfl, b1⟩
        go_wp2_with fail
        refine (HCON2.out _ (hb0.trans (b1.mono (by simp; omega)))).mono ?_
        rintro e w2 ⟨rfl, b2⟩
        have b12 := btr b1 b2
        have hB2 := hb0.trans (b12.mono (by simp; omega))
        have HO2 := Lib.hid (ownsRow_below HO.out b12)
        clear b1 b2 b12 HO q0 q1 q2 q3 hbel hb0
        go_wp2
        go_roundw
        case rel => exact ⟨k + 1, A', c', css, by omega, by go_num, by rw [HST.out], by rw [HST.out]; exact HO2.out, by rw [HST.out]; exact HRD.out, hB2⟩
        case measure => simp [intOf]; omega
    · obtain rfl : k = es.length := by omega
      rw [List.take_length] at hown hrd
      have hat : UpdsAt wr A' (es.filter pr) := (hrd.below updR hbel).at_ updR rfl hown
      have HA := Lib.hid hat
      have HT := Lib.hid (List.take_length (l := es))
      clear hown hrd hat
      go_wp2
      go_ret
      exact ⟨A', c', by rw [HT.out]; rfl, HA.out, hbel⟩

set_option maxRecDepth 100000 in
set_option maxHeartbeats 1600000 in
theorem SeekRows_i (LA UA TA KA : Option Addr) (lc uc tc kc : Nat) (lo up : List Tm) (us : List Upd) (key : List Int) (w : World) (h1 : TimesAt w LA lo) (h2 : TimesAt w UA up) (h3 : UpdsC w TA us) (hK : IntsAt w KA key) (n1 : lo.length ≤ 4194304) (n2 : up.length ≤ 4194304) (n3 : us.length ≤ 4194304) (r3 : rowsU us 4194304) (n4 : key.length ≤ 4194304) :
    Calls Try.prog 18 #[.agg #[.slice LA lo.length lc, .slice UA up.length uc, .slice TA us.length tc], .slice KA key.length kc] w fun e w' => ∃ A' c', e = .returned (.slice A' (SekF (lo, (up, us)) key).length c') ∧ UpdsOw w' (news w w') A' c' (SekF (lo, (up, us)) key) ∧ Below w.heap.size w w' := by
  have hB0 : Below w.heap.size w ((w.alloc (.cells #[.slice LA lo.length lc, .slice UA up.length uc, .slice TA us.length tc] 32)).alloc (.cells #[.slice KA key.length kc] 26)) := bal (bal (Below.refl _ _) _) _
  have kA0 : Blk ((w.alloc (.cells #[.slice LA lo.length lc, .slice UA up.length uc, .slice TA us.length tc] 32)).alloc (.cells #[.slice KA key.length kc] 26)) w.heap.size 32 #[.slice LA lo.length lc, .slice UA up.length uc, .slice TA us.length tc] := (Blk.newAt rfl).alloc _
  have kK0 : Blk ((w.alloc (.cells #[.slice LA lo.length lc, .slice UA up.length uc, .slice TA us.length tc] 32)).alloc (.cells #[.slice KA key.length kc] 26)) (w.heap.size + 1) 26 #[.slice KA key.length kc] := Blk.newAt (by simp)
  have hvb := fun W (h : Below w.heap.size w W) => ValidBatch_i LA UA TA lc uc tc lo up us W (h1.below h) (h2.below h) ((UpdsC.at_ h3).below updR h) n1 n2 n3 r3
  cases e1 : batB (lo, (up, us))
  · rw [e1] at hvb
    have HF : Hid (SekF (lo, (up, us)) key = []) := by simp [Hid, SekF, e1]
    clear e1 kA0 kK0
    go_enter Try.func18, Try.ntmps18
    go_wp2_with fail
    refine (hvb _ hB0).mono ?_
    rintro e w1 ⟨rfl, b1⟩
    have HB := Lib.hid (btr hB0 b1)
    clear hvb hB0 b1
    go_wp2
    go_ret
    exact ⟨none, 0, by rw [HF.out]; rfl, by rw [HF.out]; exact SlOw.nil (fun q hq => hq.2), HB.out⟩
  · rw [e1] at hvb
    have hrows := bat_row e1
    have HF : Hid (SekF (lo, (up, us)) key = us.filter (fun e => seekB key e.1.1)) := by simp [Hid, SekF, e1]
    have hfl : (us.filter (fun e : Upd => seekB key e.1.1)).length ≤ 4194304 := Nat.le_trans (List.length_filter_le _ _) n3
    have hfr : rowsU (us.filter (fun e : Upd => seekB key e.1.1)) 4194304 := fun e he => r3 e (List.mem_filter.1 he).1
    have hul := (trB_parts (batB_tr e1)).1
    simp only at hrows hul
    clear e1
    go_enter Try.func18, Try.ntmps18
    go_wp2_with fail
    refine (hvb _ hB0).mono ?_
    rintro e w1 ⟨rfl, b1⟩
    have B1 := btr hB0 b1
    have kA1 := kA0.below b1
    have kK1 := kK0.below b1
    have p0 := kK1.cell 0
    have p2 : ∀ o, (w1.alloc o).cell? ⟨w.heap.size, 2, none⟩ = some (.slice TA us.length tc) := fun o => by
      have h := (kA1.alloc o).cell 2
      simp at h
      exact h
    simp at p0
    have hb2 : Below w1.heap.size w1 (w1.alloc (.cells #[.int .i64 key.length] 3)) := bal (Below.refl _ _) _
    have kN : Blk (w1.alloc (.cells #[.int .i64 key.length] 3)) w1.heap.size 3 #[.int .i64 key.length] := Blk.newAt rfl
    have B2 := btr B1 hb2
    have hit := itemsSek_u w1.heap.size (w.heap.size + 1) KA kc key TA tc us _ ((UpdsC.at_ h3).below updR B2) (by omega) r3 kN (kK1.below hb2) (hK.below B2) n4 (fun e he => (hrows e he).1) (h3.below updC B2)
    clear hvb hB0 b1 kA0 kK0 kK1 kA1 kN hrows
    go_wp2_with fail
    refine hit.mono ?_
    rintro e w3 ⟨A3, c3, rfl, hx3, b3⟩
    have B3 := btr B2 b3
    clear hit b3 hb2 p0 p2
    go_wp2_with fail
    refine (copyItems_u A3 c3 _ w3 hx3 hfl hfr).mono ?_
    rintro e w4 ⟨A4, c4, rfl, ho4, b4⟩
    have HO := Lib.hid (ho4.mono (S' := news w w4) (fun q hq => ⟨Nat.le_trans B3.size hq.1, hq.2⟩) (fun q hq => hq.2))
    have HB := Lib.hid (btr B3 b4)
    clear ho4 b4 B3 hx3 B1 B2
    go_wp2
    go_ret
    exact ⟨A4, c4, by rw [HF.out]; rfl, by rw [HF.out]; exact HO.out, HB.out⟩
set_option maxRecDepth 100000 in
set_option maxHeartbeats 3200000 in
theorem SeekRows_s (LA UA TA KA : Option Addr) (lc uc tc kc : Nat) (lo up : List Tm) (us : List Upd) (key : List Int) (w : World) (h1 : TimesAt w LA lo) (h2 : TimesAt w UA up) (h3 : UpdsC w TA us) (hK : IntsAt w KA key) (n1 : lo.length ≤ 4194304) (n2 : up.length ≤ 4194304) (n3 : us.length ≤ 4194304) (r3 : rowsU us 4194304) (n4 : key.length ≤ 4194304) :
    Calls Try.prog 15 #[.agg #[.slice LA lo.length lc, .slice UA up.length uc, .slice TA us.length tc], .slice KA key.length kc] w fun e w' => ∃ A' c', e = .returned (.slice A' (SekF (lo, (up, us)) key).length c') ∧ UpdsOw w' (news w w') A' c' (SekF (lo, (up, us)) key) ∧ Below w.heap.size w w' := by
  obtain ⟨i0, hi, hz0, hz1, hz2⟩ := info_parts Try.infoUpd
  have hB0 : Below w.heap.size w ((w.alloc (.cells #[.slice LA lo.length lc, .slice UA up.length uc, .slice TA us.length tc] 32)).alloc (.cells #[] 54)) := bal (bal (Below.refl _ _) _) _
  have kA0 : Blk ((w.alloc (.cells #[.slice LA lo.length lc, .slice UA up.length uc, .slice TA us.length tc] 32)).alloc (.cells #[] 54)) w.heap.size 32 #[.slice LA lo.length lc, .slice UA up.length uc, .slice TA us.length tc] := (Blk.newAt rfl).alloc _
  have hm0 := SlF.made UpdO 4 54 (w.alloc (.cells #[.slice LA lo.length lc, .slice UA up.length uc, .slice TA us.length tc] 32)) #[] 0 (by simp [maxLen]) (by simp) (S := news w ((w.alloc (.cells #[.slice LA lo.length lc, .slice UA up.length uc, .slice TA us.length tc] 32)).alloc (.cells #[] 54))) ⟨by simp, by simp⟩ (fun k hk => by have := hk.2; simpa using this)
  rw [show (w.alloc (.cells #[.slice LA lo.length lc, .slice UA up.length uc, .slice TA us.length tc] 32)).heap.size = w.heap.size + 1 by simp] at hm0
  have hvb := fun W (h : Below w.heap.size w W) => validBatch_s LA UA TA lc uc tc lo up us W (h1.below h) (h2.below h) ((UpdsC.at_ h3).below updR h) n1 n2 n3 r3
  have HM0 : Hid (UpdsOw ((w.alloc (.cells #[.slice LA lo.length lc, .slice UA up.length uc, .slice TA us.length tc] 32)).alloc (.cells #[] 54)) (news w ((w.alloc (.cells #[.slice LA lo.length lc, .slice UA up.length uc, .slice TA us.length tc] 32)).alloc (.cells #[] 54))) (some ⟨w.heap.size + 1, 0, none⟩) 0 []) := ⟨_, _, hm0⟩
  clear hm0
  cases e1 : batB (lo, (up, us))
  · rw [e1] at hvb
    have HF : Hid (SekF (lo, (up, us)) key = []) := by simp [Hid, SekF, e1]
    clear e1
    go_enter Try.func15, Try.ntmps15
    go_wp2_with fail
    refine (hvb _ hB0).mono ?_
    rintro e w1 ⟨rfl, b1⟩
    have HB := Lib.hid (btr hB0 b1)
    have HM1 : Hid (UpdsOw w1 (news w w1) (some ⟨w.heap.size + 1, 0, none⟩) 0 []) := (HM0.out.below updO b1).mono (fun q hq => ⟨hq.1, Nat.lt_of_lt_of_le hq.2 b1.size⟩) (fun q hq => hq.2)
    clear hvb hB0 b1 kA0 HM0
    go_wp2
    go_ret
    exact ⟨_, 0, by rw [HF.out]; rfl, by rw [HF.out]; exact HM1.out, HB.out⟩
  · rw [e1] at hvb
    have hrows := bat_row e1
    have HF : Hid (SekF (lo, (up, us)) key = us.filter (fun e => seekB key e.1.1)) := by simp [Hid, SekF, e1]
    have hul := (trB_parts (batB_tr e1)).1
    simp only at hrows hul
    have HROWS := Lib.hid hrows
    clear e1 hrows
    generalize hPR : (fun e : Upd => seekB key e.1.1) = pr at *
    have HPR : Hid (∀ e : Upd, pr e = seekB key e.1.1) := fun e => by rw [← hPR]
    clear hPR
    go_enter Try.func15, Try.ntmps15
    go_wp2_with fail
    refine (hvb _ hB0).mono ?_
    rintro e w1 ⟨rfl, b1⟩
    have H1 : Hid (Below w.heap.size w w1 ∧ Blk w1 w.heap.size 32 #[.slice LA lo.length lc, .slice UA up.length uc, .slice TA us.length tc] ∧ UpdsOw w1 (news w w1) (some ⟨w.heap.size + 1, 0, none⟩) 0 []) := ⟨btr hB0 b1, kA0.below b1, (HM0.out.below updO b1).mono (fun q hq => ⟨hq.1, Nat.lt_of_lt_of_le hq.2 b1.size⟩) (fun q hq => hq.2)⟩
    clear hvb hB0 b1 kA0 HM0
    go_wp2
    go_loopw [5, 6, 7] (fun v i _ wr => ∃ k A' c', k ≤ us.length ∧ i = .int .i64 (k : Nat) ∧ v = .slice A' ((us.take k).filter pr).length c' ∧ UpdsOw wr (news w wr) A' c' ((us.take k).filter pr) ∧ Blk wr w.heap.size 32 #[.slice LA lo.length lc, .slice UA up.length uc, .slice TA us.length tc] ∧ (∀ q, blk A' = some q → w.heap.size < q) ∧ Below w.heap.size w wr) (fun _ i _ _ => us.length - (intOf i).toNat)
    case atStart => exact ⟨0, _, 0, by omega, rfl, rfl, H1.out.2.2, H1.out.2.1, fun q hq => by simp [blk] at hq; omega, H1.out.1⟩
    case round =>
      obtain ⟨k, A', c', hk, rfl, rfl, ⟨css, F, hown⟩, hkP, hA', hbel⟩ := hrel
      clear H1
      have p2 := hkP.cell 2
      simp at p2
      by_cases hlt : k < us.length
      · obtain ⟨b, off, RA, rc, rfl, hbl, hc0, hc1, hc2, hc3, hcap1, hcap2, hrow⟩ := h3.get k hlt
        have q0 := (hbel.cell (p := ⟨b, off + k * 4, none⟩) hbl).trans hc0
        have q1 := (hbel.cell (p := ⟨b, off + k * 4 + 1, none⟩) hbl).trans hc1
        have q2 := (hbel.cell (p := ⟨b, off + k * 4 + 2, none⟩) hbl).trans hc2
        have q3 := (hbel.cell (p := ⟨b, off + k * 4 + 3, none⟩) hbl).trans hc3
        have hml := Nat.le_trans hcap1 hcap2
        have hr1 := HROWS.out _ (List.getElem_mem hlt)
        have hrl := r3.get hlt
        have hdl : ((us.take k).filter pr).length ≤ k := Nat.le_trans (List.length_filter_le _ _) (by simp; omega)
        have hst : (us.take (k + 1)).filter pr = (us.take k).filter pr ++ if pr us[k] = true then [us[k]] else [] := by
          rw [List.take_succ_eq_append_getElem hlt, List.filter_append]
          congr 1
          by_cases h : pr us[k] = true <;> simp [h]
        have HF2 := Lib.hid hown
        have hprk := HPR.out us[k]
        obtain ⟨rb, ro, rfl, hrbl, -⟩ := hrow (by omega)
        clear hown
        by_cases hm : key.length ≤ us[k].1.1.length
        · have hlk : (us[k].1.1.take key.length).length = key.length := by simp; omega
          have hd : decide ((key.length : Int) ≤ (us[k].1.1.length : Int)) = true := decide_eq_true (by omega)
          have hd2 : decide (key.length ≤ us[k].1.1.length) = true := decide_eq_true hm
          have g0 : (0 : Int) ≤ key.length := by omega
          have g1 : (key.length : Int) ≤ rc := by omega
          have g2 : (rc : Int) ≤ 9223372036854775807 := by unfold maxLen at hcap2; omega
          have hpe : pr us[k] = decide (us[k].1.1.take key.length = key) := by rw [hprk]; simp [seekB, hm]
          have hcon := equalInts_s (some ⟨rb, ro, none⟩) KA rc kc (us[k].1.1.take key.length) key wr ((hrow.below hbel).take _) (hK.below hbel) (by omega) (by omega)
          rw [hlk, ← hpe] at hcon
          clear hpe hlk hprk hm
          by_cases hp : pr us[k] = true
          · rw [if_pos hp] at hst
            rw [hp] at hcon
            have HST := Lib.hid hst
            clear hst hp
            generalize hM : (us.take k).filter pr = M at *
            clear hM
            go_wp2_with fail
            refine hcon.mono ?_
            rintro e w1 ⟨rfl, hbq⟩
            have hB1 := btr hbel hbq
            have q0' := (hB1.cell (p := ⟨b, off + k * 4, none⟩) hbl).trans hc0
            have q1' := (hB1.cell (p := ⟨b, off + k * 4 + 1, none⟩) hbl).trans hc1
            have q2' := (hB1.cell (p := ⟨b, off + k * 4 + 2, none⟩) hbl).trans hc2
            have q3' := (hB1.cell (p := ⟨b, off + k * 4 + 3, none⟩) hbl).trans hc3
            have p2' := (hkP.below hbq).cell 2
            simp at p2'
            clear q0 q1 q2 q3 hcon p2
            go_wp2_with fail
            refine (copyUpdate_s _ _ _ _ _ _ _ (hrow.below hB1) hrl).mono ?_
            rintro e w2 ⟨RA', rc', rfl, ho, hb2⟩
            have hb12 := btr hbq hb2
            have hF1 := HF2.out.loc updO (fun q hq => hbq.block q hq.2)
            have hrow2 := (HF2.out.loc updO (fun q hq => hb12.block q hq.2)).row
            have hbase : ∀ q, blk A' = some q → w.heap.size ≤ q := fun q hq => Nat.le_of_lt (hA' q hq)
            have hs2 := hb2.size
            have hsq := hbq.size
            have hl0 := hkP.lt
            have hF1' : SlF UpdO 4 54 w1 (news w w1) A' c' M css F := hF1.mono (fun q hq => ⟨hq.1, by have := hq.2; omega⟩) (fun q hq => hq.2)
            go_wp2_with (at_builtin; refine wpList_append_src _ rfl _ _ 28 rfl w.heap.size 54 i0 (.agg #[.slice none 0 0, .int .i64 0, .int .i64 0, .int .i64 0]) 4 48 Try.underlying28 hi hz0 hz1 hz2 rfl (by decide) _ _ _ rfl ((ownsRow_base hrow2 hbase).alloc _) (some ⟨w2.heap.size, 0, none⟩) 1 1 [.slice RA' us[k].1.1.length rc', .int .i64 us[k].1.2.1, .int .i64 us[k].1.2.2, .int .i64 us[k].2] rfl rfl (fun h => by cases h) upd_srcs upd_ones (by unfold maxLen; omega) (by omega) (by simp; omega) ?_)
            intro v' w3 hown' hgrow hloc
            rw [ownBlock_slice] at hgrow hloc
            have hkP4 := (hgrow.block w.heap.size (by simp; omega) (fun e => by have := hA' _ e.symm; omega)).trans ((Below.heap_alloc _ _ _ (by omega)).trans (hkP.below hb12))
            have hp := hF1'.pushU (w2 := w3) hB1 hb2 ho hown' hgrow hloc
            rw [show M ++ [((us[k].1.1, (us[k].1.2.1, us[k].1.2.2)), us[k].2)] = (us.take (k + 1)).filter pr from HST.out.symm] at hp
            have HL : Hid (M.length + 1 = ((us.take (k + 1)).filter pr).length) := by rw [HST.out]; simp [Hid]
            obtain ⟨A3, c3, rfl, ho3, hb3⟩ := hp
            have hA3 : ∀ q, blk A3 = some q → w.heap.size < q := fun q hq => by
              rw [ownBlock_slice] at hloc
              rcases hloc q hq with h | h
              · exact hA' q h
              · omega
            have HO := Lib.hid ho3
            have HB := Lib.hid hb3
            have HK := Lib.hid hkP4
            have HA3 := Lib.hid hA3
            clear hown' hgrow hloc ho3 hb3 hrow2 hbase ho hb2 hbel hrow hkP hkP4 hA' hA3 hF1 hF1' hb12 hbq hB1 q0' q1' q2' q3' p2' hc0 hc1 hc2 hc3
            go_wp2
            go_roundw
            case rel => exact ⟨k + 1, A3, c3, by omega, by go_num, by rw [HL.out], HO.out, HK.out, HA3.out, HB.out⟩
            case measure => simp [intOf]; omega
          · rw [if_neg hp, List.append_nil] at hst
            have hp' : pr us[k] = false := by simpa using hp
            rw [hp'] at hcon
            have HST := Lib.hid hst
            clear hst hp hp'
            generalize hM : (us.take k).filter pr = M at *
            clear hM
            go_wp2_with fail
            refine hcon.mono ?_
            rintro e w1 ⟨rfl, hbq⟩
            have hB1 := btr hbel hbq
            have HO : Hid (UpdsOw w1 (news w w1) A' c' ((us.take (k + 1)).filter pr)) := by
              rw [Hid, HST.out]
              exact ⟨css, F, (HF2.out.loc updO (fun q hq => hbq.block q hq.2)).mono (fun q hq => ⟨hq.1, by have := hbq.size; have := hq.2; omega⟩) (fun q hq => hq.2)⟩
            have HK := Lib.hid (hkP.below hbq)
            have HB := Lib.hid hB1
            have HL : Hid (M.length = ((us.take (k + 1)).filter pr).length) := by rw [HST.out]; simp [Hid]
            clear q0 q1 q2 q3 hcon p2 hbq hB1 hkP
            go_wp2
            go_roundw
            case rel => exact ⟨k + 1, A', c', by omega, by go_num, by rw [HL.out], HO.out, HK.out, hA', HB.out⟩
            case measure => simp [intOf]; omega
        · have hd : decide ((key.length : Int) ≤ (us[k].1.1.length : Int)) = false := decide_eq_false (by omega)
          have hd2 : decide (key.length ≤ us[k].1.1.length) = false := decide_eq_false hm
          have hp' : pr us[k] = false := by rw [hprk]; simp [seekB, hm]
          rw [hp', if_neg (by simp), List.append_nil] at hst
          have HST := Lib.hid hst
          have HO : Hid (UpdsOw wr (news w wr) A' c' ((us.take (k + 1)).filter pr)) := by
            rw [Hid, hst]
            exact ⟨css, F, HF2.out⟩
          have HL : Hid (((us.take k).filter pr).length = ((us.take (k + 1)).filter pr).length) := by rw [hst]; simp [Hid]
          clear hst hp' hprk
          generalize hM : (us.take k).filter pr = M at *
          clear hM
          have HK := Lib.hid hkP
          have HB := Lib.hid hbel
          clear hkP hbel
          go_wp2
          go_roundw
          case rel => exact ⟨k + 1, A', c', by omega, by go_num, by rw [HL.out], HO.out, HK.out, hA', HB.out⟩
          case measure => simp [intOf]; omega
      · obtain rfl : k = us.length := by omega
        have HT := Lib.hid (List.take_length (l := us))
        have HO := Lib.hid hown
        have HB := Lib.hid hbel
        clear hown hbel hkP
        go_wp2
        go_ret
        have h := HO.out
        rw [HT.out] at h
        exact ⟨A', c', by rw [HF.out, HT.out]; rfl, by rw [HF.out]; exact ⟨_, _, h⟩, HB.out⟩
end Go.Proofs.Ytkonhjdfcfljpaa
