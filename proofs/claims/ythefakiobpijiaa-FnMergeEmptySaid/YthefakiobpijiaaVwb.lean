/- HELPER, no statement of the seat: several texts in one file. -/
import Derived.Test.YthefakiobpijiaaUpdN
import Derived.Test.YthefakiobpijiaaZba
import Derived.Test.YthefakiobpijiaaMef
import Derived.ArgAppend
import Derived.Test.YthefakiobpijiaaVwa
import Derived.Test.YthefakiobpijiaaMee
import Derived.Test.YthefakiobpijiaaMeh
/- HELPER, no statement of the seat: the model's copy of a list of updates (copyTrace). -/
namespace Go.Proofs.Ythefakiobpijiaa
open Go.RowKit Go.Sort
set_option linter.unusedSimpArgs false
set_option linter.unusedVariables false

set_option maxRecDepth 100000 in
set_option maxHeartbeats 6400000 in
theorem copyTrace_s (A : Option Addr) (c : Nat) (us : List Upd) (w : World) (hx : UpdsAt w A us) (hn : us.length ≤ 4194303) (hr : rowsU us 4194304) :
    Calls Try.prog 75 #[.slice A us.length c] w fun e w' => ∃ A' c', e = .returned (.slice A' us.length c') ∧ UpdsOw w' (news w w') A' c' us ∧ Below w.heap.size w w' := by
  obtain ⟨i0, hi, hz0, hz1, hz2⟩ := info_parts Try.infoUpd
  have hmade := SlF.made UpdO 4 119 w #[] 0 (by simp [maxLen]) (by simp) (S := news w (w.alloc (.cells #[] 119))) ⟨Nat.le_refl _, by simp⟩ (fun k hk => by have := hk.2; simpa using this)
  have HM : Hid (UpdsOw (w.alloc (.cells #[] 119)) (news w (w.alloc (.cells #[] 119))) (some ⟨w.heap.size, 0, none⟩) 0 []) := ⟨_, _, hmade⟩
  clear hmade
  go_enter Try.func75, Try.ntmps75
  go_wp2
  go_loopw [3, 4] (fun v i wr => ∃ k A' c', k ≤ us.length ∧ i = .int .i64 (k : Nat) ∧ v = .slice A' k c' ∧ UpdsOw wr (news w wr) A' c' (us.take k) ∧ Below w.heap.size w wr) (fun _ i _ => us.length - (intOf i).toNat)
  case atStart => exact ⟨0, _, 0, by omega, rfl, rfl, by rw [List.take_zero]; exact HM.out, bal (Below.refl _ _) _⟩
  case round =>
    obtain ⟨k, A', c', hk, rfl, rfl, ⟨css, F, hown⟩, hbel⟩ := hrel
    clear HM
    by_cases hlt : k < us.length
    · obtain ⟨b, off, RA, rc, rfl, hbl, hc0, hc1, hc2, hc3, hml, hrow⟩ := hx.get k hlt
      have q0 := (hbel.cell (p := ⟨b, off + k * 4, none⟩) hbl).trans hc0
      have q1 := (hbel.cell (p := ⟨b, off + k * 4 + 1, none⟩) hbl).trans hc1
      have q2 := (hbel.cell (p := ⟨b, off + k * 4 + 2, none⟩) hbl).trans hc2
      have q3 := (hbel.cell (p := ⟨b, off + k * 4 + 3, none⟩) hbl).trans hc3
      have hlt' : (k : Int) < us.length := by omega
      have hrl := hr.get hlt
      have hkl : (us.take k).length = k := by simp; omega
      have HS : Hid (us.take (k + 1) = us.take k ++ [us[k]]) := List.take_succ_eq_append_getElem hlt
      have HF := Lib.hid hown
      have hs1 := hbel.size
      clear hc0 hc1 hc2 hc3 hown
      go_wp2_with fail
      refine (copyUpdate_s _ _ _ _ _ _ _ (hrow.below hbel) hrl).mono ?_
      rintro e w2 ⟨RA', rc', rfl, ho, hb2⟩
      have hrow2 := (HF.out.loc updO (fun q hq => hb2.block q hq.2)).row
      rw [hkl] at hrow2
      have hbase : ∀ q, blk A' = some q → w.heap.size ≤ q := fun q hq => (HF.out.top q hq).1
      have hs2 := hb2.size
      go_wp2_with (at_builtin; refine wpList_append_src _ rfl _ _ 24 rfl w.heap.size 119 i0 (.agg #[.slice none 0 0, .int .i64 0, .int .i64 0, .int .i64 0]) 4 48 Try.underlying24 hi hz0 hz1 hz2 rfl (by decide) _ _ _ rfl ((ownsRow_base hrow2 hbase).alloc _) (some ⟨w2.heap.size, 0, none⟩) 1 1 [.slice RA' us[k].1.1.length rc', .int .i64 us[k].1.2.1, .int .i64 us[k].1.2.2, .int .i64 us[k].2] rfl rfl (fun h => by cases h) upd_srcs upd_ones (by unfold maxLen; omega) (by omega) (by simp; omega) ?_)
      intro v' w3 hown' hgrow hloc
      rw [ownBlock_slice] at hgrow hloc
      have hp := HF.out.pushU (w2 := w3) hbel hb2 ho (by rw [hkl]; exact hown') hgrow hloc
      rw [hkl, show us.take k ++ [((us[k].1.1, (us[k].1.2.1, us[k].1.2.2)), us[k].2)] = us.take (k + 1) from HS.out.symm] at hp
      obtain ⟨A3, c3, rfl, ho3, hb3⟩ := hp
      have HO := Lib.hid ho3
      have HB := Lib.hid hb3
      clear hown' hgrow hloc ho3 hb3 hrow2 hbase ho hb2 hbel hrow q0 q1 q2 q3 HF
      go_wp2
      go_roundw
      case rel => exact ⟨k + 1, A3, c3, by omega, by go_num, rfl, HO.out, HB.out⟩
      case measure => simp [intOf]; omega
    · obtain rfl : k = us.length := by omega
      rw [List.take_length] at hown
      have HO := Lib.hid hown
      have HB := Lib.hid hbel
      clear hown hbel
      go_wp2
      go_ret
      exact ⟨A', c', rfl, ⟨_, _, HO.out⟩, HB.out⟩
end Go.Proofs.Ythefakiobpijiaa

/- HELPER, no statement of the seat: append of a list of times to a new empty list: nothing that was there turns. -/
namespace Go.Proofs.Ythefakiobpijiaa
open Go.RowKit Go.Sort
set_option linter.unusedSimpArgs false
set_option linter.unusedVariables false

section
variable {P : Program}
theorem run_append_none (w : World) (t ty e : TypeId) (i : TypeInfo) (ht : P.underlying t = some (.slice e)) (hi : P.info? e = some i) (g : Nat) (c : Nat) (cs : Array Value) (hk : Blk w g e cs) (A : Option Addr) :
    (Builtin.append_ #[t, t] ty #[.slice (some ⟨g, 0, none⟩) 0 0, .slice A 0 c]).run P w = .ok (.slice (some ⟨g, 0, none⟩) 0 0) w := by
  cases A <;> simp [Builtin.append_, run_underlying ht, sizeOf, typeInfo, hi, Builtin.lenOf, Builtin.firstCells, loadCells, loadCellsFrom, storeCells]
end
theorem wpList_appT {P : Program} {w : World} {ops : Array Oper} {rest : List Oper} {o : Oper} {a : Act} {Q : Exit → Act → World → Prop} (hgd : o.guard = none) (s x : Operand) (t : TypeId)
    (ho : o.op = .call { callee := .builtin .append, args := #[s, x], argTypes := #[t, t] }) (i : TypeInfo) (z : Value) (ht : P.underlying t = some (.slice 117)) (hi : P.info? 117 = some i) (hz : i.zero = some z)
    (hsize : i.size = 2) (hby : i.bytes = 16) (hzs : z.cells.size = 2) (g : Nat) (hs : a.eval s = .slice (some ⟨g, 0, none⟩) 0 0) (hk : Blk w g 117 #[])
    (A : Option Addr) (c : Nat) (xs : List Tm) (hx : a.eval x = .slice A xs.length c) (hX : TimesAt w A xs) (hn : xs.length ≤ 4194304) (base : Nat) (hbase : base ≤ g)
    (h : ∀ A' c' w', TmOwn w' base A' c' xs → Below w.heap.size w w' → wpList P ops Q rest (a.put o.dst (.slice A' xs.length c')) w') : wpList P ops Q (o :: rest) a w := by
  have hown : TmOwn w base (some ⟨g, 0, none⟩) 0 [] := ⟨rfl, .inr ⟨g, 0, #[], rfl, hbase, hk, Nat.le_refl _, by simp [maxLen], rfl, rfl⟩⟩
  rcases Nat.eq_zero_or_pos xs.length with h0 | hp
  · obtain rfl := List.eq_nil_of_length_eq_zero h0
    refine wpList_plain hgd fun K hK => ?_
    have hr := run_append_none w t o.type 117 i ht hi g c #[] hk A
    unfold Oper.wp execOp
    simp only [ho, resolve, invoke, builtin, Sem.run_bind, Sem.run_pure, Result.andThen_ok, List.map_toArray, List.map_cons, List.map_nil, hs, hx, List.length_nil, hr]
    exact hK _ _ (h _ _ w hown (Below.refl _ _))
  · obtain ⟨b, off, e, _, _⟩ := hX hp
    subst e
    have hsrc := tms_src hX
    refine wpList_append_grows w hgd s x t ho 117 i z 2 16 ht hi hz hsize hby hzs (by omega) (some ⟨g, 0, none⟩) 0 0 [] hs (fun e => by cases e) (by simp) (fun _ _ j u e => by simp at e) ⟨b, off, none⟩ xs.length c (timeL xs) hx (timeL_len xs) (hsrc.2 _ rfl) (tms_one xs) (by omega) (by simp [maxLen]; omega) (by omega) (fun v' w' hr hg => ?_)
    rw [Nat.zero_add, List.nil_append] at hr
    obtain ⟨A', c', rfl⟩ := own_slice hr
    have hB : Below w.heap.size w w' := ⟨hg.os, hg.tape, hg.output, hg.size, fun k hk' => hg.block k hk' (by simp)⟩
    have hlt := hk.lt
    exact h A' c' w' (TmOwn.mono (base := w.heap.size) hr (by omega)) hB
end Go.Proofs.Ythefakiobpijiaa

/- HELPER, no statement of the seat: the model's copyView and AppendView. -/
namespace Go.Proofs.Ythefakiobpijiaa
open Go.RowKit Go.Sort
set_option linter.unusedSimpArgs false
set_option linter.unusedVariables false

/-- A new empty list of times. -/
def LitT (B : Nat) (v : Value) (w : World) : Prop := ∃ g, v = .slice (some ⟨g, 0, none⟩) 0 0 ∧ B ≤ g ∧ Blk w g 117 #[]
def TmsN (B : Nat) (xs : List Tm) (v : Value) (w : World) : Prop := ∃ A c, v = .slice A xs.length c ∧ TmOwn w B A c xs
def UpsN (w0 : World) (us : List Upd) (v : Value) (w : World) : Prop := ∃ A c, v = .slice A us.length c ∧ UpdsOw w (news w0 w) A c us
theorem stable_litT (B : Nat) : Stable (LitT B) := fun _ _ _ hb ⟨g, e, l, h⟩ => ⟨g, e, l, h.below hb⟩
theorem stable_tmsN (B : Nat) (xs : List Tm) : Stable (TmsN B xs) := fun _ _ _ hb ⟨A, c, e, h⟩ => ⟨A, c, e, h.below hb⟩
theorem stable_upsN (w0 : World) (us : List Upd) : Stable (UpsN w0 us) := fun _ _ _ hb ⟨A, c, e, h⟩ => ⟨A, c, e, (SlOw.below updO h hb).mono (fun _ hq => ⟨hq.1, Nat.lt_of_lt_of_le hq.2 hb.size⟩) (fun _ hq => hq.2)⟩
theorem upds_cat {w : World} {base : Nat} {A : Option Addr} {c n : Nat} {us tr : List Upd} {css ds : List (List Value)} (h1 : RdL UpdR w css us) (h2 : RdL UpdR w ds tr) (hn : n = us.length + tr.length) (hr : w.ownsRow base 119 4 (.slice A n c) n (css.flatten ++ ds.flatten)) : UpdsAt w A (us ++ tr) := by
  have h3 : RdL UpdR w (css ++ ds) (us ++ tr) := by
    refine ⟨by simp [h1.len, h2.len], fun j g1 g2 => ?_⟩
    by_cases h : j < us.length
    · have h' : j < css.length := by rw [h1.len]; exact h
      rw [List.getElem_append_left h', List.getElem_append_left h]
      exact h1.elt j h' h
    · have h' : css.length ≤ j := by rw [h1.len]; omega
      rw [List.getElem_append_right h', List.getElem_append_right (by omega)]
      simp only [h1.len]
      exact h2.elt (j - us.length) (by simp at g1; rw [h1.len] at g1; omega) (by simp at g2; omega)
  rw [← List.flatten_append] at hr
  exact h3.at_ updR (by simp; omega) hr
/-- A view made since w0. -/
def VewN (w0 : World) (lo up : List Tm) (us : List Upd) (v : Value) (w : World) : Prop := ∃ A c B d C e, v = .agg #[.slice A lo.length c, .slice B up.length d, .slice C us.length e] ∧ TmOwn w w0.heap.size A c lo ∧ TmOwn w w0.heap.size B d up ∧ UpdsOw w (news w0 w) C e us
theorem stable_vewN (w0 : World) (lo up : List Tm) (us : List Upd) : Stable (VewN w0 lo up us) := fun _ _ _ hb ⟨A, c, B, d, C, f, e, h1, h2, h3⟩ => ⟨A, c, B, d, C, f, e, h1.below hb, h2.below hb, (SlOw.below updO h3 hb).mono (fun _ hq => ⟨hq.1, Nat.lt_of_lt_of_le hq.2 hb.size⟩) (fun _ hq => hq.2)⟩
set_option maxRecDepth 100000 in
set_option maxHeartbeats 6400000 in
theorem copyView_s (LA UA TA : Option Addr) (lc uc tc : Nat) (lo up : List Tm) (us : List Upd) (w : World) (h1 : TimesAt w LA lo) (h2 : TimesAt w UA up) (h3 : UpdsAt w TA us) (n1 : lo.length ≤ 4194304) (n2 : up.length ≤ 4194304) (n3 : us.length ≤ 4194303) (r3 : rowsU us 4194304) :
    Calls Try.prog 103 #[.agg #[.slice LA lo.length lc, .slice UA up.length uc, .slice TA us.length tc]] w fun e w' => ∃ L1 d1 U1 d2 T1 d3, e = .returned (.agg #[.slice L1 lo.length d1, .slice U1 up.length d2, .slice T1 us.length d3]) ∧ TmOwn w' w.heap.size L1 d1 lo ∧ TmOwn w' w.heap.size U1 d2 up ∧ UpdsOw w' (fun k => w.heap.size + 2 ≤ k ∧ k < w'.heap.size) T1 d3 us ∧ Below w.heap.size w w' := by
  obtain ⟨i0, hi, hz0, hz1, hz2⟩ := info_parts Try.infoTime
  go_enter Try.func103, Try.ntmps103
  go_wp2_with fail
  refine abs_world (fun W => Below w.heap.size w W ∧ W.heap.size = w.heap.size + 2 ∧ Blk W w.heap.size 52 #[.slice LA lo.length lc, .slice UA up.length uc, .slice TA us.length tc] ∧ Blk W (w.heap.size + 1) 52 #[.slice none 0 0, .slice none 0 0, .slice none 0 0]) ⟨bal (bal (Below.refl _ _) _) _, by simp, (Blk.newAt rfl).alloc _, Blk.newAt (by simp)⟩ ?_
  rintro W0 ⟨hB0, hsz, kA, kR⟩
  have g1 := h1.below hB0
  have g2 := h2.below hB0
  have g3 := h3.below updR hB0
  have ci := fun W (hW : Below W0.heap.size W0 W) => copyTrace_s TA tc us W (g3.below updR hW) n3 r3
  clear g3 h3
  refine wp_region_facts [[], [], [1], [0, 1, 2], [], [], [5], [4, 5, 6], [], [8], [8, 9], List.range 11]
    [LitT W0.heap.size, fun v' _ => v' = .pointer (some ⟨w.heap.size, 0, none⟩), fun v' _ => v' = .slice LA lo.length lc, TmsN W0.heap.size lo, LitT W0.heap.size, fun v' _ => v' = .pointer (some ⟨w.heap.size, 1, none⟩), fun v' _ => v' = .slice UA up.length uc, TmsN W0.heap.size up, fun v' _ => v' = .pointer (some ⟨w.heap.size, 2, none⟩), fun v' _ => v' = .slice TA us.length tc, UpsN W0 us, VewN W0 lo up us]
    (by kernel_rfl) (by kernel_rfl) rfl ⟨stable_litT _, stable_pure _, stable_pure _, stable_tmsN _ _, stable_litT _, stable_pure _, stable_pure _, stable_tmsN _ _, stable_pure _, stable_pure _, stable_upsN _ _, stable_vewN _ _ _ _, trivial⟩ ?_
  refine wf_stepK [] [] (by kernel_rfl) (by kernel_rfl) (fun wf hb hf => ?_) (fun t0 => ?_)
  · refine ⟨?_⟩
    have hs := hb.size
    go_wp2
    exact ⟨rfl, .slice (some ⟨wf.heap.size, 0, none⟩) 0 0, by kernel_rfl, bal (Below.refl _ _) _, wf.heap.size, rfl, (by omega), Blk.newAt rfl⟩
  refine wf_stepK [] [] (by kernel_rfl) (by kernel_rfl) (fun wf hb hf => ?_) (fun t1 => ?_)
  · refine ⟨?_⟩
    go_wp2
    exact ⟨rfl, .pointer (some ⟨w.heap.size, 0, none⟩), by kernel_rfl, Below.refl _ _, rfl⟩
  refine wf_stepK [1] [fun _ => t1 = .pointer (some ⟨w.heap.size, 0, none⟩)] (by kernel_rfl) (by kernel_rfl) (fun wf hb hf => ?_) (fun t2 => ?_)
  · obtain ⟨rfl, -⟩ := hf
    refine ⟨?_⟩
    have p0 := (kA.below hb).cell 0
    simp at p0
    go_wp2
    exact ⟨rfl, .slice LA lo.length lc, by kernel_rfl, Below.refl _ _, rfl⟩
  refine wf_stepK [0, 2] [LitT W0.heap.size t0, fun _ => t2 = .slice LA lo.length lc] (by kernel_rfl) (by kernel_rfl) (fun wf hb hf => ?_) (fun t3 => ?_)
  · obtain ⟨⟨g, rfl, hg, hk⟩, rfl, -⟩ := hf
    refine ⟨?_⟩
    go_wp2_with (at_builtin; refine wpList_appT rfl _ _ 23 rfl i0 (.agg #[.int .i64 0, .int .i64 0]) Try.underlying23 hi hz0 hz1 hz2 rfl g rfl hk LA lc lo rfl (g1.below hb) n1 W0.heap.size hg ?_)
    intro A' c' w2 ho hb2
    exact ⟨rfl, .slice A' lo.length c', by kernel_rfl, hb2, A', c', rfl, ho⟩
  refine wf_stepK [] [] (by kernel_rfl) (by kernel_rfl) (fun wf hb hf => ?_) (fun t4 => ?_)
  · refine ⟨?_⟩
    have hs := hb.size
    go_wp2
    exact ⟨rfl, .slice (some ⟨wf.heap.size, 0, none⟩) 0 0, by kernel_rfl, bal (Below.refl _ _) _, wf.heap.size, rfl, (by omega), Blk.newAt rfl⟩
  refine wf_stepK [] [] (by kernel_rfl) (by kernel_rfl) (fun wf hb hf => ?_) (fun t5 => ?_)
  · refine ⟨?_⟩
    go_wp2
    exact ⟨rfl, .pointer (some ⟨w.heap.size, 1, none⟩), by kernel_rfl, Below.refl _ _, rfl⟩
  refine wf_stepK [5] [fun _ => t5 = .pointer (some ⟨w.heap.size, 1, none⟩)] (by kernel_rfl) (by kernel_rfl) (fun wf hb hf => ?_) (fun t6 => ?_)
  · obtain ⟨rfl, -⟩ := hf
    refine ⟨?_⟩
    have p0 := (kA.below hb).cell 1
    simp at p0
    go_wp2
    exact ⟨rfl, .slice UA up.length uc, by kernel_rfl, Below.refl _ _, rfl⟩
  refine wf_stepK [4, 6] [LitT W0.heap.size t4, fun _ => t6 = .slice UA up.length uc] (by kernel_rfl) (by kernel_rfl) (fun wf hb hf => ?_) (fun t7 => ?_)
  · obtain ⟨⟨g, rfl, hg, hk⟩, rfl, -⟩ := hf
    refine ⟨?_⟩
    go_wp2_with (at_builtin; refine wpList_appT rfl _ _ 23 rfl i0 (.agg #[.int .i64 0, .int .i64 0]) Try.underlying23 hi hz0 hz1 hz2 rfl g rfl hk UA uc up rfl (g2.below hb) n2 W0.heap.size hg ?_)
    intro A' c' w2 ho hb2
    exact ⟨rfl, .slice A' up.length c', by kernel_rfl, hb2, A', c', rfl, ho⟩
  refine wf_stepK [] [] (by kernel_rfl) (by kernel_rfl) (fun wf hb hf => ?_) (fun t8 => ?_)
  · refine ⟨?_⟩
    go_wp2
    exact ⟨rfl, .pointer (some ⟨w.heap.size, 2, none⟩), by kernel_rfl, Below.refl _ _, rfl⟩
  refine wf_stepK [8] [fun _ => t8 = .pointer (some ⟨w.heap.size, 2, none⟩)] (by kernel_rfl) (by kernel_rfl) (fun wf hb hf => ?_) (fun t9 => ?_)
  · obtain ⟨rfl, -⟩ := hf
    refine ⟨?_⟩
    have p0 := (kA.below hb).cell 2
    simp at p0
    go_wp2
    exact ⟨rfl, .slice TA us.length tc, by kernel_rfl, Below.refl _ _, rfl⟩
  refine wf_stepK [9] [fun _ => t9 = .slice TA us.length tc] (by kernel_rfl) (by kernel_rfl) (fun wf hb hf => ?_) (fun t10 => ?_)
  · obtain ⟨rfl, -⟩ := hf
    refine ⟨?_⟩
    go_wp2_with (go_at_call 75; refine (ci _ hb).mono ?_; rintro e w2 ⟨A', c', rfl, ho, hb2⟩)
    exact ⟨rfl, .slice A' us.length c', by kernel_rfl, hb2, A', c', rfl, ho.mono (fun q hq => ⟨Nat.le_trans hb.size hq.1, hq.2⟩) (fun q hq => hq.2)⟩
  refine wf_stepK [3, 7, 10] [TmsN W0.heap.size lo t3, TmsN W0.heap.size up t7, UpsN W0 us t10] (by kernel_rfl) (by kernel_rfl) (fun wf hb hf => ?_) (fun t11 => ?_)
  · obtain ⟨⟨A, c, rfl, o1⟩, ⟨B, d, rfl, o2⟩, ⟨C, f, rfl, o3⟩, -⟩ := hf
    refine ⟨?_⟩
    go_wp2
    exact ⟨rfl, .agg #[.slice A lo.length c, .slice B up.length d, .slice C us.length f], by kernel_rfl, Below.refl _ _, A, c, B, d, C, f, rfl, o1, o2, o3⟩
  refine wf_doneK [11] [VewN W0 lo up us t11] (by kernel_rfl) (by kernel_rfl) (fun w9 b9 hf => ?_)
  obtain ⟨⟨A, c, B, d, C, f, rfl, o1, o2, o3⟩, -⟩ := hf
  show wpList _ _ _ [_] _ _
  refine wpList_frame (by simp [Act.put]; rfl) ?_
  have kR9 := kR.below b9
  have g0 := kR9.cell 0
  have g1 := kR9.cell 1
  have g2 := kR9.cell 2
  have f0 := kR9.frozen 0
  have f1 := kR9.frozen 1
  have f2 := kR9.frozen 2
  simp at g0 g1 g2
  have kR5 := ((kR9.set_ 0 (.slice A lo.length c)).set_ 1 (.slice B up.length d)).set_ 2 (.slice C us.length f)
  have r0 := kR5.cell 0
  have r1 := kR5.cell 1
  have r2 := kR5.cell 2
  simp at r0 r1 r2
  have HR := Lib.hid (And.intro r0 (And.intro r1 r2))
  have far : ∀ q, w.heap.size + 2 ≤ q → (((w9.setCell ⟨w.heap.size + 1, 0, none⟩ (.slice A lo.length c)).setCell ⟨w.heap.size + 1, 1, none⟩ (.slice B up.length d)).setCell ⟨w.heap.size + 1, 2, none⟩ (.slice C us.length f)).heap[q]? = w9.heap[q]? := fun q hq =>
    (Below.heap_setCell _ _ _ _ (by simp; omega)).trans ((Below.heap_setCell _ _ _ _ (by simp; omega)).trans (Below.heap_setCell _ _ _ _ (by simp; omega)))
  have hsz9 : (((w9.setCell ⟨w.heap.size + 1, 0, none⟩ (.slice A lo.length c)).setCell ⟨w.heap.size + 1, 1, none⟩ (.slice B up.length d)).setCell ⟨w.heap.size + 1, 2, none⟩ (.slice C us.length f)).heap.size = w9.heap.size := by simp [World.setCell]
  have H1 := Lib.hid ((o1.loc (fun q hq => far q (by have := (o1.lt q hq).1; omega))).mono (base' := w.heap.size) (by omega))
  have H2 := Lib.hid ((o2.loc (fun q hq => far q (by have := (o2.lt q hq).1; omega))).mono (base' := w.heap.size) (by omega))
  have H3 : Hid (UpdsOw (((w9.setCell ⟨w.heap.size + 1, 0, none⟩ (.slice A lo.length c)).setCell ⟨w.heap.size + 1, 1, none⟩ (.slice B up.length d)).setCell ⟨w.heap.size + 1, 2, none⟩ (.slice C us.length f)) (fun k => w.heap.size + 2 ≤ k ∧ k < (((w9.setCell ⟨w.heap.size + 1, 0, none⟩ (.slice A lo.length c)).setCell ⟨w.heap.size + 1, 1, none⟩ (.slice B up.length d)).setCell ⟨w.heap.size + 1, 2, none⟩ (.slice C us.length f)).heap.size) C f us) :=
    (SlOw.loc updO o3 (fun q hq => far q (by have := hq.1; omega))).mono (fun q hq => ⟨by have := hq.1; omega, by rw [hsz9]; exact hq.2⟩) (fun q hq => hq.2)
  have HB := Lib.hid (btr hB0 b9)
  clear kR kR9 kR5 r0 r1 r2 o1 o2 o3 b9 hB0 kA ci far hsz9
  go_wp2
  exact bodyPost_ret (v := .agg #[.slice A lo.length c, .slice B up.length d, .slice C us.length f]) (by simp [results, Try.results103, go_sem, HR.out.1, HR.out.2.1, HR.out.2.2]) rfl ⟨A, c, B, d, C, f, rfl, H1.out, H2.out, H3.out, bset (bset (bset HB.out (by simp <;> omega) _) (by simp <;> omega) _) (by simp <;> omega) _⟩
end Go.Proofs.Ythefakiobpijiaa

/- HELPER, no statement of the seat: the model's AppendView. -/
namespace Go.Proofs.Ythefakiobpijiaa
open Go.RowKit Go.Sort
set_option linter.unusedSimpArgs false
set_option linter.unusedVariables false

/-- A list of times and a list of updates lie in different blocks, for these are of different types. -/
theorem tm_upd_ne {w : World} {b b2 : Nat} {A B : Option Addr} {c d n : Nat} {xs : List Tm} {vs : List Value} (h : TmOwn w b A c xs) (k : w.ownsRow b2 119 4 (.slice B n d) n vs) : ∀ q, blk A = some q → blk B ≠ some q := fun q hq he => by
  rcases h.2 with ⟨e, _⟩ | ⟨g, cap, cur, e, _, hg, _⟩
  · injection e with e1
    subst e1
    cases hq
  · injection e with e1
    subst e1
    rcases k.2 with ⟨e, _⟩ | ⟨g', cap', cur', e, _, hg', _⟩
    · injection e with e1
      subst e1
      cases he
    · injection e with e1
      subst e1
      have h1 : g = q := by simpa [blk] using hq
      have h2 : g' = q := by simpa [blk] using he
      rw [h1] at hg
      rw [h2, hg] at hg'
      injection hg' with hg'
      injection hg' with _ ht
      exact absurd ht (by decide)
theorem tm_box_ne {w : World} {b g c : Nat} {A : Option Addr} {xs : List Tm} {cs : Array Value} (h : TmOwn w b A c xs) (k : Blk w g 52 cs) : blk A = some g → False := fun hq => by
  rcases h.2 with ⟨e, _⟩ | ⟨g', cap, cur, e, _, hg, _⟩
  · injection e with e1
    subst e1
    cases hq
  · injection e with e1
    subst e1
    have h1 : g' = g := by simpa [blk] using hq
    rw [h1] at hg
    unfold Blk at k
    rw [hg] at k
    injection k with k
    injection k with _ ht
    exact absurd ht (by decide)
set_option maxRecDepth 100000 in
set_option maxHeartbeats 12800000 in
theorem AppendView_s (LA UA TA RA VA : Option Addr) (lc uc tc rc vc : Nat) (lo up : List Tm) (us tr : List Upd) (u : List Tm) (w : World) (h1 : TimesAt w LA lo) (h2 : TimesAt w UA up) (h3 : UpdsAt w TA us) (h4 : UpdsAt w RA tr) (h5 : TimesAt w VA u)
    (n1 : lo.length ≤ 4194304) (n2 : up.length ≤ 4194304) (n3 : us.length ≤ 4194303) (r3 : rowsU us 4194304) (n4 : tr.length ≤ 4194304) (r4 : rowsU tr 4194304) (n5 : u.length ≤ 4194304) :
    Calls Try.prog 32 #[.agg #[.slice LA lo.length lc, .slice UA up.length uc, .slice TA us.length tc], .slice RA tr.length rc, .slice VA u.length vc] w fun e w' => ∃ L1 d1 U1 d2 T1 d3, e = .returned (.tuple #[.agg #[.slice L1 (appV (lo, (up, us)) tr u).1.length d1, .slice U1 (appV (lo, (up, us)) tr u).2.1.length d2, .slice T1 (appV (lo, (up, us)) tr u).2.2.length d3], .bool (appOk (lo, (up, us)) tr u)]) ∧
      TimesAt w' L1 (appV (lo, (up, us)) tr u).1 ∧ TimesAt w' U1 (appV (lo, (up, us)) tr u).2.1 ∧ UpdsAt w' T1 (appV (lo, (up, us)) tr u).2.2 ∧ Below w.heap.size w w' := by
  have hB0 : Below w.heap.size w ((w.alloc (.cells #[.slice LA lo.length lc, .slice UA up.length uc, .slice TA us.length tc] 52)).alloc (.cells #[.slice none 0 0, .slice none 0 0, .slice none 0 0] 52)) := bal (bal (Below.refl _ _) _) _
  have kA : Blk ((w.alloc (.cells #[.slice LA lo.length lc, .slice UA up.length uc, .slice TA us.length tc] 52)).alloc (.cells #[.slice none 0 0, .slice none 0 0, .slice none 0 0] 52)) w.heap.size 52 #[.slice LA lo.length lc, .slice UA up.length uc, .slice TA us.length tc] := (Blk.newAt rfl).alloc _
  have kR : Blk ((w.alloc (.cells #[.slice LA lo.length lc, .slice UA up.length uc, .slice TA us.length tc] 52)).alloc (.cells #[.slice none 0 0, .slice none 0 0, .slice none 0 0] 52)) (w.heap.size + 1) 52 #[.slice none 0 0, .slice none 0 0, .slice none 0 0] := Blk.newAt (by simp)
  have cv := fun W (hW : Below w.heap.size w W) => validView_s LA UA TA lc uc tc lo up us W (h1.below hW) (h2.below hW) (h3.below updR hW) n1 n2 (by omega) r3
  have ct := fun W (hW : Below w.heap.size w W) => validTrace_s RA rc tr W (h4.below updR hW) n4 r4
  have cf := fun W (hW : Below w.heap.size w W) => validFrontier_s VA vc u W (h5.below hW) n5
  have cl := fun W (hW : Below w.heap.size w W) => frontierLessEqual_s UA uc up VA vc u W (h2.below hW) n2 (h5.below hW) n5
  have HV0 : appOk (lo, (up, us)) tr u = false → appV (lo, (up, us)) tr u = ([], ([], [])) := fun h => by simp [appV, h]
  cases e1 : vewB (lo, (up, us))
  · have HF : appOk (lo, (up, us)) tr u = false := by simp [appOk, batB, flB, e1]
    rw [HV0 HF, HF]
    rw [e1] at cv
    clear HF HV0 e1 ct cf cl
    go_enter Try.func32, Try.ntmps32
    go_wp2_with fail
    refine (cv _ hB0).mono ?_
    rintro e w1 ⟨rfl, b1⟩
    have B1 := btr hB0 b1
    have kR1 := kR.below b1
    have g0 := kR1.cell 0
    have g1 := kR1.cell 1
    have g2 := kR1.cell 2
    have f0 := kR1.frozen 0
    have f1 := kR1.frozen 1
    have f2 := kR1.frozen 2
    simp at g0 g1 g2
    have kR5 := ((kR1.set_ 0 (.slice none 0 0)).set_ 1 (.slice none 0 0)).set_ 2 (.slice none 0 0)
    have r0 := kR5.cell 0
    have r1 := kR5.cell 1
    have r2 := kR5.cell 2
    simp at r0 r1 r2
    have HR := Lib.hid (And.intro r0 (And.intro r1 r2))
    have HB := Lib.hid B1
    clear cv kR kR1 kR5 r0 r1 r2 hB0 kA b1 B1
    go_wp2
    exact bodyPost_ret (v := .tuple #[.agg #[.slice none 0 0, .slice none 0 0, .slice none 0 0], .bool false]) (by simp [results, Try.results32, go_sem, HR.out.1, HR.out.2.1, HR.out.2.2]) rfl ⟨none, 0, none, 0, none, 0, rfl, (fun h => absurd h (by simp)), (fun h => absurd h (by simp)), SlAt.nil, bset (bset (bset HB.out (by simp <;> omega) _) (by simp <;> omega) _) (by simp <;> omega) _⟩
  rw [e1] at cv
  cases e2 : trB tr
  · have HF : appOk (lo, (up, us)) tr u = false := by simp [appOk, batB, flB, e2]
    rw [HV0 HF, HF]
    rw [e2] at ct
    clear HF HV0 e1 e2 cf cl
    go_enter Try.func32, Try.ntmps32
    go_wp2_with fail
    refine (cv _ hB0).mono ?_
    rintro e w1 ⟨rfl, b1⟩
    have B1 := btr hB0 b1
    go_wp2_with fail
    refine (ct _ B1).mono ?_
    rintro e w2 ⟨rfl, b2⟩
    have B2 := btr B1 b2
    have kR1 := kR.below (btr b1 b2)
    have g0 := kR1.cell 0
    have g1 := kR1.cell 1
    have g2 := kR1.cell 2
    have f0 := kR1.frozen 0
    have f1 := kR1.frozen 1
    have f2 := kR1.frozen 2
    simp at g0 g1 g2
    have kR5 := ((kR1.set_ 0 (.slice none 0 0)).set_ 1 (.slice none 0 0)).set_ 2 (.slice none 0 0)
    have r0 := kR5.cell 0
    have r1 := kR5.cell 1
    have r2 := kR5.cell 2
    simp at r0 r1 r2
    have HR := Lib.hid (And.intro r0 (And.intro r1 r2))
    have HB := Lib.hid B2
    clear cv ct kR kR1 kR5 r0 r1 r2 hB0 kA b1 B1 b2 B2
    go_wp2
    exact bodyPost_ret (v := .tuple #[.agg #[.slice none 0 0, .slice none 0 0, .slice none 0 0], .bool false]) (by simp [results, Try.results32, go_sem, HR.out.1, HR.out.2.1, HR.out.2.2]) rfl ⟨none, 0, none, 0, none, 0, rfl, (fun h => absurd h (by simp)), (fun h => absurd h (by simp)), SlAt.nil, bset (bset (bset HB.out (by simp <;> omega) _) (by simp <;> omega) _) (by simp <;> omega) _⟩
  rw [e2] at ct
  cases e3 : frB u
  · have HF : appOk (lo, (up, us)) tr u = false := by simp [appOk, batB, flB, e3]
    rw [HV0 HF, HF]
    rw [e3] at cf
    clear HF HV0 e1 e2 e3 cl
    go_enter Try.func32, Try.ntmps32
    go_wp2_with fail
    refine (cv _ hB0).mono ?_
    rintro e w1 ⟨rfl, b1⟩
    have B1 := btr hB0 b1
    go_wp2_with fail
    refine (ct _ B1).mono ?_
    rintro e w2 ⟨rfl, b2⟩
    have B2 := btr B1 b2
    go_wp2_with fail
    refine (cf _ B2).mono ?_
    rintro e w3 ⟨rfl, b3⟩
    have B3 := btr B2 b3
    have kR1 := kR.below (btr (btr b1 b2) b3)
    have g0 := kR1.cell 0
    have g1 := kR1.cell 1
    have g2 := kR1.cell 2
    have f0 := kR1.frozen 0
    have f1 := kR1.frozen 1
    have f2 := kR1.frozen 2
    simp at g0 g1 g2
    have kR5 := ((kR1.set_ 0 (.slice none 0 0)).set_ 1 (.slice none 0 0)).set_ 2 (.slice none 0 0)
    have r0 := kR5.cell 0
    have r1 := kR5.cell 1
    have r2 := kR5.cell 2
    simp at r0 r1 r2
    have HR := Lib.hid (And.intro r0 (And.intro r1 r2))
    have HB := Lib.hid B3
    clear cv ct cf kR kR1 kR5 r0 r1 r2 hB0 kA b1 B1 b2 B2 b3 B3
    go_wp2
    exact bodyPost_ret (v := .tuple #[.agg #[.slice none 0 0, .slice none 0 0, .slice none 0 0], .bool false]) (by simp [results, Try.results32, go_sem, HR.out.1, HR.out.2.1, HR.out.2.2]) rfl ⟨none, 0, none, 0, none, 0, rfl, (fun h => absurd h (by simp)), (fun h => absurd h (by simp)), SlAt.nil, bset (bset (bset HB.out (by simp <;> omega) _) (by simp <;> omega) _) (by simp <;> omega) _⟩
  rw [e3] at cf
  cases e4 : (u.all fun e => cvB up e.1 e.2)
  · have HF : appOk (lo, (up, us)) tr u = false := by simp [appOk, batB, flB, e4]
    rw [HV0 HF, HF]
    rw [e4] at cl
    clear HF HV0 e1 e2 e3 e4
    go_enter Try.func32, Try.ntmps32
    go_wp2_with fail
    refine (cv _ hB0).mono ?_
    rintro e w1 ⟨rfl, b1⟩
    have B1 := btr hB0 b1
    go_wp2_with fail
    refine (ct _ B1).mono ?_
    rintro e w2 ⟨rfl, b2⟩
    have B2 := btr B1 b2
    go_wp2_with fail
    refine (cf _ B2).mono ?_
    rintro e w3 ⟨rfl, b3⟩
    have B3 := btr B2 b3
    have p1 := (kA.below (btr (btr b1 b2) b3)).cell 1
    simp at p1
    go_wp2_with fail
    refine (cl _ B3).mono ?_
    rintro e w4 ⟨rfl, b4⟩
    have B4 := btr B3 b4
    clear p1
    have kR1 := kR.below (btr (btr (btr b1 b2) b3) b4)
    have g0 := kR1.cell 0
    have g1 := kR1.cell 1
    have g2 := kR1.cell 2
    have f0 := kR1.frozen 0
    have f1 := kR1.frozen 1
    have f2 := kR1.frozen 2
    simp at g0 g1 g2
    have kR5 := ((kR1.set_ 0 (.slice none 0 0)).set_ 1 (.slice none 0 0)).set_ 2 (.slice none 0 0)
    have r0 := kR5.cell 0
    have r1 := kR5.cell 1
    have r2 := kR5.cell 2
    simp at r0 r1 r2
    have HR := Lib.hid (And.intro r0 (And.intro r1 r2))
    have HB := Lib.hid B4
    clear cv ct cf cl kR kR1 kR5 r0 r1 r2 hB0 kA b1 B1 b2 B2 b3 B3 b4 B4
    go_wp2
    exact bodyPost_ret (v := .tuple #[.agg #[.slice none 0 0, .slice none 0 0, .slice none 0 0], .bool false]) (by simp [results, Try.results32, go_sem, HR.out.1, HR.out.2.1, HR.out.2.2]) rfl ⟨none, 0, none, 0, none, 0, rfl, (fun h => absurd h (by simp)), (fun h => absurd h (by simp)), SlAt.nil, bset (bset (bset HB.out (by simp <;> omega) _) (by simp <;> omega) _) (by simp <;> omega) _⟩
  rw [e4] at cl
  have HFL : flB up u = true := by
    have h0 := (vew_parts e1).1
    simp only [flB, Bool.and_eq_true] at h0 ⊢
    exact ⟨⟨h0.1.2, e3⟩, e4⟩
  have HBT : Hid (batB (up, (u, tr)) = tr.all fun e => inBt up u e.1.2) := by simp only [Hid, batB, HFL, e2, Bool.true_and]
  have HT := Lib.hid (And.intro e1 e2)
  have hc := fun W x y (h : Below w.heap.size w W) => inBatch_s UA VA uc vc up u x y W (h2.below h) (h5.below h) n2 n5
  clear e1 e2 e3 e4 HFL
  go_enter Try.func32, Try.ntmps32
  go_wp2_with fail
  refine (cv _ hB0).mono ?_
  rintro e w1 ⟨rfl, b1⟩
  have B1 := btr hB0 b1
  go_wp2_with fail
  refine (ct _ B1).mono ?_
  rintro e w2 ⟨rfl, b2⟩
  have B2 := btr B1 b2
  go_wp2_with fail
  refine (cf _ B2).mono ?_
  rintro e w3 ⟨rfl, b3⟩
  have B3 := btr B2 b3
  have p1 := (kA.below (btr (btr b1 b2) b3)).cell 1
  simp at p1
  go_wp2_with fail
  refine (cl _ B3).mono ?_
  rintro e w4 ⟨rfl, b4⟩
  have B4 := btr B3 b4
  clear p1
  have kA4 := kA.below (btr (btr (btr b1 b2) b3) b4)
  have kR4 := kR.below (btr (btr (btr b1 b2) b3) b4)
  have HB4 := Lib.hid B4
  have HK4 := Lib.hid (And.intro kA4 kR4)
  clear B1 B2 B3 B4 b1 b2 b3 b4 kA kR hB0 cv ct cf cl kA4 kR4
  go_wp2
  go_loopw [8] (fun i wr => ∃ k : Nat, k ≤ tr.length ∧ i = .int .i64 (k : Nat) ∧ Hid (∀ j (h : j < tr.length), j < k → inBt up u tr[j].1.2 = true) ∧ Blk wr w.heap.size 52 #[.slice LA lo.length lc, .slice UA up.length uc, .slice TA us.length tc] ∧ Blk wr (w.heap.size + 1) 52 #[.slice none 0 0, .slice none 0 0, .slice none 0 0] ∧ Below w.heap.size w wr) (fun i _ => tr.length - (intOf i).toNat)
  case atStart => exact ⟨0, by omega, rfl, fun j h h0 => absurd h0 (by omega), HK4.out.1, HK4.out.2, HB4.out⟩
  case round =>
    obtain ⟨k, hk, rfl, hall, kA, kR, hbel⟩ := hrel
    clear HK4 HB4
    have p1 := kA.cell 1
    simp at p1
    by_cases hlt : k < tr.length
    · obtain ⟨b, off, QA, qc, rfl, hbl, hc0, hc1, hc2, hc3, hml, hrow⟩ := h4.get k hlt
      have q1 := (hbel.cell (p := ⟨b, off + k * 4 + 1, none⟩) hbl).trans hc1
      have q2 := (hbel.cell (p := ⟨b, off + k * 4 + 2, none⟩) hbl).trans hc2
      have r1 := cgrow p1
      have r3' := cgrow q1
      have r4' := cgrow q2
      have hlt' : (k : Int) < tr.length := by omega
      have hcon := fun W (hW : Below wr.heap.size wr W) => hc W tr[k].1.2.1 tr[k].1.2.2 (btr hbel hW)
      clear hc0 hc1 hc2 hc3 hrow hml hc
      cases hi : inBt up u tr[k].1.2
      · have HF : appOk (lo, (up, us)) tr u = false := by
          simp only [appOk, HBT.out, all_uptoV (f := fun e : Upd => inBt up u e.1.2) hlt hi, Bool.false_and, Bool.and_false]
        have HVZ := Lib.hid (And.intro (HV0 HF) HF)
        rw [show (tr[k].1.2.1, tr[k].1.2.2) = tr[k].1.2 from rfl, hi] at hcon
        clear hi HF HV0
        go_wp2_with fail
        refine wp_region_quiet_below (by kernel_rfl) (by kernel_rfl) ?_
        repeat (go_big_quiet_step (exact Calls.regrown_of (hcon _ (below_regrown _ _ _))))
        refine wpQuiet_nil ?_
        intro wq hwq
        obtain ⟨⟨dq, osq⟩, rfl⟩ := hwq
        have hbq := below_regrown wr dq osq
        generalize grow (redrawn wr dq) osq = w9 at hbq
        have kR1 := kR.below hbq
        have g0 := kR1.cell 0
        have g1 := kR1.cell 1
        have g2 := kR1.cell 2
        have f0 := kR1.frozen 0
        have f1 := kR1.frozen 1
        have f2 := kR1.frozen 2
        simp at g0 g1 g2
        have kR5 := ((kR1.set_ 0 (.slice none 0 0)).set_ 1 (.slice none 0 0)).set_ 2 (.slice none 0 0)
        have r0 := kR5.cell 0
        have r1x := kR5.cell 1
        have r2 := kR5.cell 2
        simp at r0 r1x r2
        have HR := Lib.hid (And.intro r0 (And.intro r1x r2))
        have HB := Lib.hid (btr hbel hbq)
        clear r1x p1 q1 q2 r1 r3' r4' hcon kR kR1 kR5 r0 r2 kA hbq hbel
        go_wp2
        exact bodyPost_ret (v := .tuple #[.agg #[.slice none 0 0, .slice none 0 0, .slice none 0 0], .bool false]) (by simp [results, Try.results32, go_sem, HR.out.1, HR.out.2.1, HR.out.2.2]) rfl ⟨none, 0, none, 0, none, 0, by rw [HVZ.out.1, HVZ.out.2]; rfl, by rw [HVZ.out.1]; exact fun h => absurd h (by simp), by rw [HVZ.out.1]; exact fun h => absurd h (by simp), by rw [HVZ.out.1]; exact SlAt.nil, bset (bset (bset HB.out (by simp <;> omega) _) (by simp <;> omega) _) (by simp <;> omega) _⟩
      · have HA : Hid (∀ j (h : j < tr.length), j < k + 1 → inBt up u tr[j].1.2 = true) := fun j h hj => by
          rcases Nat.lt_or_ge j k with h' | h'
          · exact hall.out j h h'
          · obtain rfl : j = k := by omega
            exact hi
        rw [show (tr[k].1.2.1, tr[k].1.2.2) = tr[k].1.2 from rfl, hi] at hcon
        clear hi
        go_wp2_with fail
        refine wp_region_quiet_below (by kernel_rfl) (by kernel_rfl) ?_
        repeat (go_big_quiet_step (exact Calls.regrown_of (hcon _ (below_regrown _ _ _))))
        refine wpQuiet_nil ?_
        intro wq hwq
        obtain ⟨⟨dq, osq⟩, rfl⟩ := hwq
        have hbq := below_regrown wr dq osq
        have HB := Lib.hid (btr hbel hbq)
        have HK := Lib.hid (And.intro (kA.below hbq) (kR.below hbq))
        clear p1 q1 q2 r1 r3' r4' hcon hbq kA kR hbel
        go_wp2
        go_roundw
        case rel => exact ⟨k + 1, by omega, by go_num, HA, HK.out.1, HK.out.2, HB.out⟩
        case measure => simp [intOf]; omega
    · obtain rfl : k = tr.length := by omega
      have e5 : batB (up, (u, tr)) = true := by
        rw [HBT.out, List.all_eq_true]
        intro x hx
        obtain ⟨j, hj, rfl⟩ := List.getElem_of_mem hx
        exact hall.out j hj hj
      have hap := app_many (b := (lo, (up, us))) (tr := tr) (u := u) HT.out.1 e5
      have hOK : appOk (lo, (up, us)) tr u = trB (mrgT us tr) := by simp only [appOk, HT.out.1, e5, Bool.true_and]
      have hnorm : nz (NormLU (us ++ tr)) = mrgT us tr := mrg_norm (vew_parts HT.out.1).2.1
      have hul : us.length ≤ 400 := trB_len (vew_parts HT.out.1).2.1
      have htl : tr.length ≤ 400 := trB_len HT.out.2
      have hcr : rowsU (us ++ tr) 10 := fun e he => by
        rcases List.mem_append.1 he with he | he
        · have := trB_row (vew_parts HT.out.1).2.1 e he; omega
        · have := trB_row HT.out.2 e he; omega
      have hcw : wIn (us ++ tr) 1000000 := fun e he => by
        rcases List.mem_append.1 he with he | he
        · exact wts_tr (vew_parts HT.out.1).2.1 e he
        · exact wts_tr HT.out.2 e he
      have hcl : (us ++ tr).length ≤ 100000 := by rw [List.length_append]; omega
      have cc := fun A c W (hx : UpdsAt W A (us ++ tr)) => consolidate_w A c (us ++ tr) W hx hcl hcr hcw
      rw [List.length_append, hnorm] at cc
      have HQ : Hid (((((chkT (mrgT us tr)).length : Nat) : Int) != (us.length : Int) + (tr.length : Int)) = !trB (mrgT us tr)) := by
        rw [Hid, ← hap]
        by_cases h : (chkT (mrgT us tr)).length = us.length + tr.length
        · have h' : (((chkT (mrgT us tr)).length : Nat) : Int) = (us.length : Int) + (tr.length : Int) := by omega
          simp [h, h']
        · have h' : ¬ (((chkT (mrgT us tr)).length : Nat) : Int) = (us.length : Int) + (tr.length : Int) := by omega
          simp [h, h', bne]
      have HCM : Hid (trB (mrgT us tr) = true → chkT (mrgT us tr) = mrgT us tr) := fun h => by simp [chkT, h]
      have HVY : Hid (trB (mrgT us tr) = true → appV (lo, (up, us)) tr u = (lo, (u, mrgT us tr)) ∧ appOk (lo, (up, us)) tr u = true) := fun h => ⟨by simp [appV, hOK, h], by rw [hOK, h]⟩
      have HVN : Hid (trB (mrgT us tr) = false → appV (lo, (up, us)) tr u = ([], ([], [])) ∧ appOk (lo, (up, us)) tr u = false) := fun h => ⟨HV0 (by rw [hOK, h]), by rw [hOK, h]⟩
      have cy := copyView_s LA UA TA lc uc tc lo up us wr (h1.below hbel) (h2.below hbel) (h3.below updR hbel) n1 n2 n3 r3
      obtain ⟨css2, hrd2, ha0, hsrc2, hone2⟩ := upds_src h4
      have hfl2 : css2.flatten.length = tr.length * 4 := by rw [flat_len (hrd2.elen updR), hrd2.len]
      obtain ⟨i0, hi, hz0, hz1, hz2⟩ := info_parts Try.infoTime
      obtain ⟨j0, hj, hy0, hy1, hy2⟩ := info_parts Try.infoUpd
      have HH5 : Hid (∀ W, Below w.heap.size w W → TimesAt W VA u) := fun W hW => h5.below hW
      have HH4 : Hid ((∀ W, Below w.heap.size w W → RdL UpdR W css2 tr) ∧ (∀ W, Below w.heap.size w W → ∀ a, RA = some a → ∀ j x, css2.flatten[j]? = some x → W.cell? (a.add j) = some x)) :=
        ⟨fun W hW => hrd2.below updR hW, fun W hW a e j x hx => by
          have := hsrc2 a e j x hx
          rw [hW.cell (block_lt_of_cell this)]
          exact this⟩
      have HFL2 := Lib.hid hfl2
      generalize chkT (mrgT us tr) = C at *
      generalize mrgT us tr = M at *
      clear p1 e5 hall HBT HV0 hap hOK hnorm hcr hcw hcl hrd2 hsrc2 hfl2 HT h1 h2 h3 h4 h5 hc hlt hk
      have p0 := kA.cell 0
      have p1 := kA.cell 1
      have p2 := kA.cell 2
      simp at p0 p1 p2
      go_wp2_with fail
      refine cy.mono ?_
      rintro e w2 ⟨L1, d1, U1, d2, T1, d3, rfl, oL, oU, oT, b2⟩
      clear cy p0 p1 p2
      have kO : Blk ((w2.alloc (.cells #[.slice L1 lo.length d1, .slice U1 up.length d2, .slice T1 us.length d3] 52)).alloc (.cells #[] 117)) w2.heap.size 52 #[.slice L1 lo.length d1, .slice U1 up.length d2, .slice T1 us.length d3] := (Blk.newAt rfl).alloc _
      have kE : Blk ((w2.alloc (.cells #[.slice L1 lo.length d1, .slice U1 up.length d2, .slice T1 us.length d3] 52)).alloc (.cells #[] 117)) (w2.heap.size + 1) 117 #[] := Blk.newAt (by simp)
      have hb3 : Below w2.heap.size w2 ((w2.alloc (.cells #[.slice L1 lo.length d1, .slice U1 up.length d2, .slice T1 us.length d3] 52)).alloc (.cells #[] 117)) := bal (bal (Below.refl _ _) _) _
      have hB3 := btr hbel (btr b2 hb3)
      go_wp2_with (at_builtin; refine wpList_appT rfl _ _ 23 rfl i0 (.agg #[.int .i64 0, .int .i64 0]) Try.underlying23 hi hz0 hz1 hz2 rfl (w2.heap.size + 1) rfl kE VA vc u rfl (HH5.out _ hB3) n5 (w2.heap.size + 1) (Nat.le_refl _) ?_)
      intro U2 d4 w3 oU2 b3z
      have b3 : Below ((w2.alloc (.cells #[.slice L1 lo.length d1, .slice U1 up.length d2, .slice T1 us.length d3] 52)).alloc (.cells #[] 117)).heap.size ((w2.alloc (.cells #[.slice L1 lo.length d1, .slice U1 up.length d2, .slice T1 us.length d3] 52)).alloc (.cells #[] 117)) w3 := by simpa using b3z
      clear b3z
      have b23 := btr hb3 b3
      have B3 := btr hbel (btr b2 b23)
      have hs2 := b2.size
      have hs3 := b23.size
      have hlr := kR.lt
      have hs4 : w2.heap.size + 2 ≤ w3.heap.size := by have := b3.size; simpa using this
      have kO3 := kO.below b3
      have kA3 := kA.below (btr b2 b23)
      have kR3 := kR.below (btr b2 b23)
      have hlO := kO3.lt
      have kO4 := kO3.set_ 1 (.slice U2 u.length d4)
      have kA4 := kA3.far (p := ⟨w2.heap.size, 1, none⟩) (by simp; omega) (.slice U2 u.length d4)
      have kR4 := kR3.far (p := ⟨w2.heap.size, 1, none⟩) (by simp; omega) (.slice U2 u.length d4)
      have far1 : ∀ q, q ≠ w2.heap.size → (w3.setCell ⟨w2.heap.size, 1, none⟩ (.slice U2 u.length d4)).heap[q]? = w3.heap[q]? := fun q hq => Below.heap_setCell _ _ _ _ (by simpa using hq)
      have oL4 : TmOwn (w3.setCell ⟨w2.heap.size, 1, none⟩ (.slice U2 u.length d4)) wr.heap.size L1 d1 lo := (oL.below b23).loc (fun q hq => far1 q (by have := (oL.lt q hq).2; omega))
      have oU4 : TmOwn (w3.setCell ⟨w2.heap.size, 1, none⟩ (.slice U2 u.length d4)) (w2.heap.size + 1) U2 d4 u := oU2.loc (fun q hq => far1 q (by have := (oU2.lt q hq).1; omega))
      have oT4 : UpdsOw (w3.setCell ⟨w2.heap.size, 1, none⟩ (.slice U2 u.length d4)) (fun k => wr.heap.size + 2 ≤ k ∧ k < w2.heap.size) T1 d3 us := SlOw.loc updO (SlOw.below updO oT b23) (fun q hq => far1 q (by have := hq.2; omega))
      have B4 := bset B3 (p := ⟨w2.heap.size, 1, none⟩) (by simp; have := hbel.size; omega) (.slice U2 u.length d4)
      have hsz4 : (w3.setCell ⟨w2.heap.size, 1, none⟩ (.slice U2 u.length d4)).heap.size = w3.heap.size := by simp [World.setCell]
      obtain ⟨css, F, hF⟩ := oT4
      have hbase : ∀ k, blk T1 = some k → wr.heap.size + 2 ≤ k := fun k hk => (hF.top k hk).1
      have hRow := ownsRow_base hF.row hbase
      have hnew := HH4.out.2 _ B4
      have g0 := kO3.cell 0
      have g1 := kO3.cell 1
      have g2 := kO3.cell 2
      have f1 := kO3.frozen 1
      simp at g0 g1 g2
      have p2 := kA3.cell 2
      simp at p2
      have y2 := kO4.cell 2
      simp at y2
      have z2 := kA4.cell 2
      simp at z2
      have hne1 : ¬ w2.heap.size = w.heap.size := by have := hbel.size; omega
      have hne2 : ¬ w.heap.size = w2.heap.size := by have := hbel.size; omega
      have HP := Lib.hid (And.intro kO4 (And.intro kR4 (And.intro oL4 (And.intro oU4 (And.intro B4 hF)))))
      clear oL oU oT oL4 oU4 kO kE kO3 kA3 kR3 kA4 kR4 kO4 hB3 hb3 oU2 b23 B3 b2 hF far1 kA kR
      go_wp2_with (at_builtin; refine wpList_append_src _ rfl _ _ 24 rfl (wr.heap.size + 2) 119 j0 (.agg #[.slice none 0 0, .int .i64 0, .int .i64 0, .int .i64 0]) 4 48 Try.underlying24 hj hy0 hy1 hy2 rfl (by decide) _ _ _ rfl hRow RA tr.length rc css2.flatten rfl HFL2.out ha0 hnew hone2 (by unfold maxLen; omega) (by omega) (by rw [hsz4]; omega) ?_)
      intro v' w5 hown' hgrow hloc
      rw [ownBlock_slice] at hgrow
      obtain ⟨kO4, kR4, oL4, oU4, B4, hF⟩ := HP.out
      clear HP hnew y2 z2 p2 g0 g1 g2
      have hs5 := hgrow.size
      rw [hsz4] at hs5
      have ht1 : ∀ k, blk T1 = some k → k < w2.heap.size := fun k hk => (hF.top k hk).2
      have kO5 : Blk w5 w2.heap.size 52 #[.slice L1 lo.length d1, .slice U2 u.length d4, .slice T1 us.length d3] := by
        have := (hgrow.block w2.heap.size (by rw [hsz4]; omega) (fun e => by have := ht1 _ e.symm; omega)).trans kO4
        unfold Blk
        simpa using this
      have kR5 : Blk w5 (w.heap.size + 1) 52 #[.slice none 0 0, .slice none 0 0, .slice none 0 0] := (hgrow.block (w.heap.size + 1) (by rw [hsz4]; omega) (fun e => by have := hbase _ e.symm; have := hbel.size; omega)).trans kR4
      have oU5 : TmOwn w5 (w2.heap.size + 1) U2 d4 u := oU4.loc (fun q hq => hgrow.block q (oU4.lt q hq).2 (fun e => by have := ht1 _ e.symm; have := (oU4.lt q hq).1; omega))
      have oL5 : TmOwn w5 wr.heap.size L1 d1 lo := oL4.loc (fun q hq => hgrow.block q (oL4.lt q hq).2 (fun e => tm_upd_ne oL4 hF.row q hq e.symm))
      have B5 : Below w.heap.size w w5 := B4.grown hgrow B4.size (fun k hk => by have := hbase k hk; have := hbel.size; omega)
      have rd1 : RdL UpdR w5 css us := ⟨hF.clen, fun j g1 g2 => updO.rd (updO.loc (hF.elt j g1 g2) (fun k hk => hgrow.block k (by have := (hF.sub j k hk).1.2; rw [hsz4]; omega) (fun e => (hF.sub j k hk).2 e.symm)))⟩
      obtain ⟨A5, c5, hv⟩ := own_slice hown'
      subst hv
      have hx5 : UpdsAt w5 A5 (us ++ tr) := upds_cat rd1 (HH4.out.1 w5 B5) rfl hown'
      have HP := Lib.hid (And.intro kO5 (And.intro kR5 (And.intro oL5 (And.intro oU5 (And.intro B5 hx5)))))
      clear hgrow hloc hown' kO4 kR4 oL4 oU4 B4 hF rd1 kO5 kR5 oL5 oU5 B5 hx5 hRow hbase ht1 f1
      go_wp2_with fail
      refine (cc A5 c5 w5 HP.out.2.2.2.2.2).mono ?_
      rintro e w6 ⟨A6, c6, rfl, o6, b6⟩
      obtain ⟨kO5, kR5, oL5, oU5, B5, hx5⟩ := HP.out
      have kO6 := kO5.below b6
      have kR6 := kR5.below b6
      have hs6 := b6.size
      have kO7 := kO6.set_ 2 (.slice A6 C.length c6)
      have kR7 := kR6.far (p := ⟨w2.heap.size, 2, none⟩) (by simp; omega) (.slice A6 C.length c6)
      have far2 : ∀ q, q ≠ w2.heap.size → (w6.setCell ⟨w2.heap.size, 2, none⟩ (.slice A6 C.length c6)).heap[q]? = w6.heap[q]? := fun q hq => Below.heap_setCell _ _ _ _ (by simpa using hq)
      have oL7 : TmOwn (w6.setCell ⟨w2.heap.size, 2, none⟩ (.slice A6 C.length c6)) wr.heap.size L1 d1 lo := (oL5.below b6).loc (fun q hq => far2 q (fun e => by subst e; exact tm_box_ne oL5 kO5 hq))
      have oU7 : TmOwn (w6.setCell ⟨w2.heap.size, 2, none⟩ (.slice A6 C.length c6)) (w2.heap.size + 1) U2 d4 u := (oU5.below b6).loc (fun q hq => far2 q (by have := (oU5.lt q hq).1; omega))
      have o7 : UpdsOw (w6.setCell ⟨w2.heap.size, 2, none⟩ (.slice A6 C.length c6)) (news w5 w6) A6 c6 C := SlOw.loc updO o6 (fun q hq => far2 q (by have := hq.1; have := kO5.lt; omega))
      have B7 := bset (btr B5 b6) (p := ⟨w2.heap.size, 2, none⟩) (by simp; have := hbel.size; omega) (.slice A6 C.length c6)
      have g2 := kO6.cell 2
      have f2 := kO6.frozen 2
      simp at g2
      have y0 := kO7.cell 0
      have y1 := kO7.cell 1
      have y2 := kO7.cell 2
      simp at y0 y1 y2
      have r0 := kR7.cell 0
      have r1 := kR7.cell 1
      have r2 := kR7.cell 2
      have s0 := kR7.frozen 0
      have s1 := kR7.frozen 1
      have s2 := kR7.frozen 2
      simp at r0 r1 r2
      have hlt5 := kO5.lt
      cases hm : trB M
      · have hq : (((C.length : Nat) : Int) != (us.length : Int) + (tr.length : Int)) = true := by rw [HQ.out, hm]; rfl
        have HW := Lib.hid (HVN.out hm)
        have kR9 := ((kR7.set_ 0 (.slice none 0 0)).set_ 1 (.slice none 0 0)).set_ 2 (.slice none 0 0)
        have v0 := kR9.cell 0
        have v1 := kR9.cell 1
        have v2 := kR9.cell 2
        simp at v0 v1 v2
        have HR := Lib.hid (And.intro v0 (And.intro v1 v2))
        have HB := Lib.hid B7
        clear kO5 kR5 oL5 oU5 B5 hx5 kO6 kR6 kO7 kR7 oL7 oU7 o7 B7 o6 b6 far2 kR9 v0 v1 v2 HQ HCM HVY HVN hm HP cc
        go_wp2
        exact bodyPost_ret (v := .tuple #[.agg #[.slice none 0 0, .slice none 0 0, .slice none 0 0], .bool false]) (by simp [results, Try.results32, go_sem, HR.out.1, HR.out.2.1, HR.out.2.2]) rfl ⟨none, 0, none, 0, none, 0, by rw [HW.out.1, HW.out.2]; rfl, by rw [HW.out.1]; exact fun h => absurd h (by simp), by rw [HW.out.1]; exact fun h => absurd h (by simp), by rw [HW.out.1]; exact SlAt.nil, bset (bset (bset HB.out (by simp <;> omega) _) (by simp <;> omega) _) (by simp <;> omega) _⟩
      · have hq : (((C.length : Nat) : Int) != (us.length : Int) + (tr.length : Int)) = false := by rw [HQ.out, hm]; rfl
        have HW := Lib.hid (HVY.out hm)
        obtain rfl : C = M := HCM.out hm
        have kR9 := ((kR7.set_ 0 (.slice L1 lo.length d1)).set_ 1 (.slice U2 u.length d4)).set_ 2 (.slice A6 C.length c6)
        have v0 := kR9.cell 0
        have v1 := kR9.cell 1
        have v2 := kR9.cell 2
        simp at v0 v1 v2
        have HR := Lib.hid (And.intro v0 (And.intro v1 v2))
        have HB := Lib.hid B7
        have far3 : ∀ q, q ≠ w.heap.size + 1 → ((((w6.setCell ⟨w2.heap.size, 2, none⟩ (.slice A6 C.length c6)).setCell ⟨w.heap.size + 1, 0, none⟩ (.slice L1 lo.length d1)).setCell ⟨w.heap.size + 1, 1, none⟩ (.slice U2 u.length d4)).setCell ⟨w.heap.size + 1, 2, none⟩ (.slice A6 C.length c6)).heap[q]? = (w6.setCell ⟨w2.heap.size, 2, none⟩ (.slice A6 C.length c6)).heap[q]? := fun q hq =>
          (Below.heap_setCell _ _ _ _ (by simpa using hq)).trans ((Below.heap_setCell _ _ _ _ (by simpa using hq)).trans (Below.heap_setCell _ _ _ _ (by simpa using hq)))
        have H1 := Lib.hid (oL7.loc (fun q hq => far3 q (by have := (oL7.lt q hq).1; have := hlr; omega))).at_
        have H2 := Lib.hid (oU7.loc (fun q hq => far3 q (by have := (oU7.lt q hq).1; omega))).at_
        have H3 := Lib.hid (SlOw.at_ updO (SlOw.loc updO o7 (fun q hq => far3 q (by have := hq.1; omega))))
        clear kO5 kR5 oL5 oU5 B5 hx5 kO6 kR6 kO7 kR7 oL7 oU7 o7 B7 o6 b6 far2 far3 kR9 v0 v1 v2 HQ HCM HVY HVN hm HP cc
        go_wp2
        exact bodyPost_ret (v := .tuple #[.agg #[.slice L1 lo.length d1, .slice U2 u.length d4, .slice A6 C.length c6], .bool true]) (by simp [results, Try.results32, go_sem, HR.out.1, HR.out.2.1, HR.out.2.2]) rfl ⟨L1, d1, U2, d4, A6, c6, by rw [HW.out.1, HW.out.2], by rw [HW.out.1]; exact H1.out, by rw [HW.out.1]; exact H2.out, by rw [HW.out.1]; exact H3.out, bset (bset (bset HB.out (by simp <;> omega) _) (by simp <;> omega) _) (by simp <;> omega) _⟩
end Go.Proofs.Ythefakiobpijiaa

/- HELPER, no statement of the seat: the model's CompactView. -/
namespace Go.Proofs.Ythefakiobpijiaa
open Go.RowKit Go.Sort
set_option linter.unusedSimpArgs false
set_option linter.unusedVariables false

end Go.Proofs.Ythefakiobpijiaa
