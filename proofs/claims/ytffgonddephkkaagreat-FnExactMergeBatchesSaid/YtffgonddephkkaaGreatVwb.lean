/- HELPER, no statement of the seat: several texts in one file. -/
import Derived.Test.YtffgonddephkkaaGreatUpdN
import Derived.Test.YtffgonddephkkaaGreatZba
import Derived.Test.YtffgonddephkkaaGreatTmH
import Derived.ArgAppend
import Derived.Test.YtffgonddephkkaaGreatVwa
import Derived.Test.YtffgonddephkkaaGreatConsS
import Derived.Test.YtffgonddephkkaaGreatCpt
/- HELPER, no statement of the seat: the model's copy of a list of updates (copyTrace). -/
namespace Go.Proofs.YtffgonddephkkaaGreat
open Go.RowKit Go.Sort
set_option linter.unusedSimpArgs false
set_option linter.unusedVariables false

set_option maxRecDepth 100000 in
set_option maxHeartbeats 6400000 in
theorem copyTrace_s (A : Option Addr) (c : Nat) (us : List Upd) (w : World) (hx : UpdsAt w A us) (hn : us.length ≤ 4194303) (hr : rowsU us 4194304) :
    Calls Tryz.prog 16 #[.slice A us.length c] w fun e w' => ∃ A' c', e = .returned (.slice A' us.length c') ∧ UpdsOw w' (news w w') A' c' us ∧ Below w.heap.size w w' := by
  obtain ⟨i0, hi, hz0, hz1, hz2⟩ := info_parts Tryz.infoUpd
  have hmade := SlF.made UpdO 4 66 w #[] 0 (by simp [maxLen]) (by simp) (S := news w (w.alloc (.cells #[] 66))) ⟨Nat.le_refl _, by simp⟩ (fun k hk => by have := hk.2; simpa using this)
  have HM : Hid (UpdsOw (w.alloc (.cells #[] 66)) (news w (w.alloc (.cells #[] 66))) (some ⟨w.heap.size, 0, none⟩) 0 []) := ⟨_, _, hmade⟩
  clear hmade
  go_enter Tryz.func16, Tryz.ntmps16
  go_wp2
  go_loopw [3, 4] (fun v i wr => ∃ k A' c', k ≤ us.length ∧ i = .int .i64 (k : Nat) ∧ v = .slice A' k c' ∧ UpdsOw wr (news w wr) A' c' (us.take k) ∧ Below w.heap.size w wr) (fun _ i _ => us.length - (intOf i).toNat)
  case atStart => exact ⟨0, _, 0, by omega, rfl, rfl, by rw [List.take_zero]; exact HM.out, bal (Below.refl _ _) _⟩
  case round =>
    obtain ⟨k, A', c', hk, rfl, rfl, ⟨css, F, hown⟩, hbel⟩ := hrel
    clear HM
    by_cases hlt : k < us.length
    · obtain ⟨b, off, RA, rc, rfl, hbl, hc0, hc1, hc2, hc3, hml, hrow⟩ := hx.get k hlt
      have q0 := (hbel.cell (p := ⟨b, off + k * 4, none⟩) hbl).trans hc0
      have q1 := (hbel.cell (p := ⟨b, off + k * 4 + 1, none⟩) hbl).trans hc1
      have q2 := (hbel.cell (p := ⟨b, off + k * 4 + 2, none⟩) hbl).trans hc2
      have q3 := (hbel.cell (p := ⟨b, off + k * 4 + 3, none⟩) hbl).trans hc3
      have hlt' : (k : Int) < us.length := by omega
      have hrl := hr.get hlt
      have hkl : (us.take k).length = k := by simp; omega
      have HS : Hid (us.take (k + 1) = us.take k ++ [us[k]]) := List.take_succ_eq_append_getElem hlt
      have HF := Lib.hid hown
      have hs1 := hbel.size
      clear hc0 hc1 hc2 hc3 hown
      go_wp2_with fail
      refine (copyUpdate_s _ _ _ _ _ _ _ (hrow.below hbel) hrl).mono ?_
      rintro e w2 ⟨RA', rc', rfl, ho, hb2⟩
      have hrow2 := (HF.out.loc updO (fun q hq => hb2.block q hq.2)).row
      rw [hkl] at hrow2
      have hbase : ∀ q, blk A' = some q → w.heap.size ≤ q := fun q hq => (HF.out.top q hq).1
      have hs2 := hb2.size
      go_wp2_with (at_builtin; refine wpList_append_src _ rfl _ _ 28 rfl w.heap.size 66 i0 (.agg #[.slice none 0 0, .int .i64 0, .int .i64 0, .int .i64 0]) 4 48 Tryz.underlying28 hi hz0 hz1 hz2 rfl (by decide) _ _ _ rfl ((ownsRow_base hrow2 hbase).alloc _) (some ⟨w2.heap.size, 0, none⟩) 1 1 [.slice RA' us[k].1.1.length rc', .int .i64 us[k].1.2.1, .int .i64 us[k].1.2.2, .int .i64 us[k].2] rfl rfl (fun h => by cases h) upd_srcs upd_ones (by unfold maxLen; omega) (by omega) (by simp; omega) ?_)
      intro v' w3 hown' hgrow hloc
      rw [ownBlock_slice] at hgrow hloc
      have hp := HF.out.pushU (w2 := w3) hbel hb2 ho (by rw [hkl]; exact hown') hgrow hloc
      rw [hkl, show us.take k ++ [((us[k].1.1, (us[k].1.2.1, us[k].1.2.2)), us[k].2)] = us.take (k + 1) from HS.out.symm] at hp
      obtain ⟨A3, c3, rfl, ho3, hb3⟩ := hp
      have HO := Lib.hid ho3
      have HB := Lib.hid hb3
      clear hown' hgrow hloc ho3 hb3 hrow2 hbase ho hb2 hbel hrow q0 q1 q2 q3 HF
      go_wp2
      go_roundw
      case rel => exact ⟨k + 1, A3, c3, by omega, by go_num, rfl, HO.out, HB.out⟩
      case measure => simp [intOf]; omega
    · obtain rfl : k = us.length := by omega
      rw [List.take_length] at hown
      have HO := Lib.hid hown
      have HB := Lib.hid hbel
      clear hown hbel
      go_wp2
      go_ret
      exact ⟨A', c', rfl, ⟨_, _, HO.out⟩, HB.out⟩
end Go.Proofs.YtffgonddephkkaaGreat

/- HELPER, no statement of the seat: append of a list of times to a new empty list: nothing that was there turns. -/
namespace Go.Proofs.YtffgonddephkkaaGreat
open Go.RowKit Go.Sort
set_option linter.unusedSimpArgs false
set_option linter.unusedVariables false

section
variable {P : Program}
theorem run_append_none (w : World) (t ty e : TypeId) (i : TypeInfo) (ht : P.underlying t = some (.slice e)) (hi : P.info? e = some i) (g : Nat) (c : Nat) (cs : Array Value) (hk : Blk w g e cs) (A : Option Addr) :
    (Builtin.append_ #[t, t] ty #[.slice (some ⟨g, 0, none⟩) 0 0, .slice A 0 c]).run P w = .ok (.slice (some ⟨g, 0, none⟩) 0 0) w := by
  cases A <;> simp [Builtin.append_, run_underlying ht, sizeOf, typeInfo, hi, Builtin.lenOf, Builtin.firstCells, loadCells, loadCellsFrom, storeCells]
end
theorem wpList_appT {P : Program} {w : World} {ops : Array Oper} {rest : List Oper} {o : Oper} {a : Act} {Q : Exit → Act → World → Prop} (hgd : o.guard = none) (s x : Operand) (t : TypeId)
    (ho : o.op = .call { callee := .builtin .append, args := #[s, x], argTypes := #[t, t] }) (i : TypeInfo) (z : Value) (ht : P.underlying t = some (.slice 64)) (hi : P.info? 64 = some i) (hz : i.zero = some z)
    (hsize : i.size = 2) (hby : i.bytes = 16) (hzs : z.cells.size = 2) (g : Nat) (hs : a.eval s = .slice (some ⟨g, 0, none⟩) 0 0) (hk : Blk w g 64 #[])
    (A : Option Addr) (c : Nat) (xs : List Tm) (hx : a.eval x = .slice A xs.length c) (hX : TimesAt w A xs) (hn : xs.length ≤ 4194304) (base : Nat) (hbase : base ≤ g)
    (h : ∀ A' c' w', TmOwn w' base A' c' xs → Below w.heap.size w w' → wpList P ops Q rest (a.put o.dst (.slice A' xs.length c')) w') : wpList P ops Q (o :: rest) a w := by
  have hown : TmOwn w base (some ⟨g, 0, none⟩) 0 [] := ⟨rfl, .inr ⟨g, 0, #[], rfl, hbase, hk, Nat.le_refl _, by simp [maxLen], rfl, rfl⟩⟩
  rcases Nat.eq_zero_or_pos xs.length with h0 | hp
  · obtain rfl := List.eq_nil_of_length_eq_zero h0
    refine wpList_plain hgd fun K hK => ?_
    have hr := run_append_none w t o.type 64 i ht hi g c #[] hk A
    unfold Oper.wp execOp
    simp only [ho, resolve, invoke, builtin, Sem.run_bind, Sem.run_pure, Result.andThen_ok, List.map_toArray, List.map_cons, List.map_nil, hs, hx, List.length_nil, hr]
    exact hK _ _ (h _ _ w hown (Below.refl _ _))
  · obtain ⟨b, off, e, _, _⟩ := hX hp
    subst e
    have hsrc := tms_src hX
    refine wpList_append_grows w hgd s x t ho 64 i z 2 16 ht hi hz hsize hby hzs (by omega) (some ⟨g, 0, none⟩) 0 0 [] hs (fun e => by cases e) (by simp) (fun _ _ j u e => by simp at e) ⟨b, off, none⟩ xs.length c (timeL xs) hx (timeL_len xs) (hsrc.2 _ rfl) (tms_one xs) (by omega) (by simp [maxLen]; omega) (by omega) (fun v' w' hr hg => ?_)
    rw [Nat.zero_add, List.nil_append] at hr
    obtain ⟨A', c', rfl⟩ := own_slice hr
    have hB : Below w.heap.size w w' := ⟨hg.os, hg.tape, hg.output, hg.size, fun k hk' => hg.block k hk' (by simp)⟩
    have hlt := hk.lt
    exact h A' c' w' (TmOwn.mono (base := w.heap.size) hr (by omega)) hB
end Go.Proofs.YtffgonddephkkaaGreat

/- HELPER, no statement of the seat: the model's copyView and AppendView. -/
namespace Go.Proofs.YtffgonddephkkaaGreat
open Go.RowKit Go.Sort
set_option linter.unusedSimpArgs false
set_option linter.unusedVariables false

/-- A new empty list of times. -/
def LitT (B : Nat) (v : Value) (w : World) : Prop := ∃ g, v = .slice (some ⟨g, 0, none⟩) 0 0 ∧ B ≤ g ∧ Blk w g 64 #[]
def TmsN (B : Nat) (xs : List Tm) (v : Value) (w : World) : Prop := ∃ A c, v = .slice A xs.length c ∧ TmOwn w B A c xs
def UpsN (w0 : World) (us : List Upd) (v : Value) (w : World) : Prop := ∃ A c, v = .slice A us.length c ∧ UpdsOw w (news w0 w) A c us
theorem stable_litT (B : Nat) : Stable (LitT B) := fun _ _ _ hb ⟨g, e, l, h⟩ => ⟨g, e, l, h.below hb⟩
theorem stable_tmsN (B : Nat) (xs : List Tm) : Stable (TmsN B xs) := fun _ _ _ hb ⟨A, c, e, h⟩ => ⟨A, c, e, h.below hb⟩
theorem stable_upsN (w0 : World) (us : List Upd) : Stable (UpsN w0 us) := fun _ _ _ hb ⟨A, c, e, h⟩ => ⟨A, c, e, (SlOw.below updO h hb).mono (fun _ hq => ⟨hq.1, Nat.lt_of_lt_of_le hq.2 hb.size⟩) (fun _ hq => hq.2)⟩
theorem upds_cat {w : World} {base : Nat} {A : Option Addr} {c n : Nat} {us tr : List Upd} {css ds : List (List Value)} (h1 : RdL UpdR w css us) (h2 : RdL UpdR w ds tr) (hn : n = us.length + tr.length) (hr : w.ownsRow base 66 4 (.slice A n c) n (css.flatten ++ ds.flatten)) : UpdsAt w A (us ++ tr) := by
  have h3 : RdL UpdR w (css ++ ds) (us ++ tr) := by
    refine ⟨by simp [h1.len, h2.len], fun j g1 g2 => ?_⟩
    by_cases h : j < us.length
    · have h' : j < css.length := by rw [h1.len]; exact h
      rw [List.getElem_append_left h', List.getElem_append_left h]
      exact h1.elt j h' h
    · have h' : css.length ≤ j := by rw [h1.len]; omega
      rw [List.getElem_append_right h', List.getElem_append_right (by omega)]
      simp only [h1.len]
      exact h2.elt (j - us.length) (by simp at g1; rw [h1.len] at g1; omega) (by simp at g2; omega)
  rw [← List.flatten_append] at hr
  exact h3.at_ updR (by simp; omega) hr
/-- A view made since w0. -/
def VewN (w0 : World) (lo up : List Tm) (us : List Upd) (v : Value) (w : World) : Prop := ∃ A c B d C e, v = .agg #[.slice A lo.length c, .slice B up.length d, .slice C us.length e] ∧ TmOwn w w0.heap.size A c lo ∧ TmOwn w w0.heap.size B d up ∧ UpdsOw w (news w0 w) C e us
theorem stable_vewN (w0 : World) (lo up : List Tm) (us : List Upd) : Stable (VewN w0 lo up us) := fun _ _ _ hb ⟨A, c, B, d, C, f, e, h1, h2, h3⟩ => ⟨A, c, B, d, C, f, e, h1.below hb, h2.below hb, (SlOw.below updO h3 hb).mono (fun _ hq => ⟨hq.1, Nat.lt_of_lt_of_le hq.2 hb.size⟩) (fun _ hq => hq.2)⟩
end Go.Proofs.YtffgonddephkkaaGreat

/- HELPER, no statement of the seat: the model's AppendView. -/
namespace Go.Proofs.YtffgonddephkkaaGreat
open Go.RowKit Go.Sort
set_option linter.unusedSimpArgs false
set_option linter.unusedVariables false

/-- A list of times and a list of updates lie in different blocks, for these are of different types. -/
theorem tm_upd_ne {w : World} {b b2 : Nat} {A B : Option Addr} {c d n : Nat} {xs : List Tm} {vs : List Value} (h : TmOwn w b A c xs) (k : w.ownsRow b2 66 4 (.slice B n d) n vs) : ∀ q, blk A = some q → blk B ≠ some q := fun q hq he => by
  rcases h.2 with ⟨e, _⟩ | ⟨g, cap, cur, e, _, hg, _⟩
  · injection e with e1
    subst e1
    cases hq
  · injection e with e1
    subst e1
    rcases k.2 with ⟨e, _⟩ | ⟨g', cap', cur', e, _, hg', _⟩
    · injection e with e1
      subst e1
      cases he
    · injection e with e1
      subst e1
      have h1 : g = q := by simpa [blk] using hq
      have h2 : g' = q := by simpa [blk] using he
      rw [h1] at hg
      rw [h2, hg] at hg'
      injection hg' with hg'
      injection hg' with _ ht
      exact absurd ht (by decide)
end Go.Proofs.YtffgonddephkkaaGreat

/- HELPER, no statement of the seat: the model's CompactView. -/
namespace Go.Proofs.YtffgonddephkkaaGreat
open Go.RowKit Go.Sort
set_option linter.unusedSimpArgs false
set_option linter.unusedVariables false

end Go.Proofs.YtffgonddephkkaaGreat
