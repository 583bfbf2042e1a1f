/- HELPER, no statement of the seat: the model's sum into a sorted list of updates. -/
import Derived.Test.YtffgonddephkkaaGreatAddE
import Derived.Test.YtffgonddephkkaaGreatUpdN
import Derived.Test.YtffgonddephkkaaGreatUph
import Derived.Test.YtffgonddephkkaaGreatNormU
import Derived.Test.YtffgonddephkkaaGreatUpdM
import Derived.Laws.StructEq
namespace Go.Proofs.YtffgonddephkkaaGreat
open Go.RowKit Go.Sort
set_option linter.unusedSimpArgs false
set_option linter.unusedVariables false

theorem asc_ltU {z : List Upd} (h : Asc ltU z) {i j : Nat} (hi : i < z.length) (hj : j < z.length) (hij : i < j) : ltU z[i].1 z[j].1 = true := List.pairwise_iff_getElem.1 h i j hi hj hij
theorem above_ofU {z : List Upd} (h : Asc ltU z) {r : KeyU} {m : Nat} (hm : m < z.length) (hl : ltU z[m].1 r = false) : ∀ j (hj : j < z.length), m ≤ j → ltU z[j].1 r = false := fun j hj hle => by
  by_cases e : j = m
  · subst e; exact hl
  · cases hc : ltU z[j].1 r with
    | false => rfl
    | true => have := updTot.trans _ _ _ (asc_ltU h hm hj (by omega)) hc; rw [hl] at this; cases this
theorem lt_stepU {z : List Upd} {r : KeyU} {k : Nat} (hk : k < z.length) (h : ∀ j (hj : j < z.length), j < k → ltU z[j].1 r = true) (hl : ltU z[k].1 r = true) : ∀ j (hj : j < z.length), j < k + 1 → ltU z[j].1 r = true := fun j hj hlt => by
  by_cases e : j = k
  · subst e; exact hl
  · exact h j hj (by omega)
theorem flat_onesU {w : World} {S : Fp} {A : Option Addr} {c : Nat} {es : List Upd} {css : List (List Value)} {F : Nat → Fp} (h : SlF UpdO 4 66 w S A c es css F) : ∀ cs ∈ css, ∀ u ∈ cs, u.oneCell' = true := by
  intro cs hcs u hu
  obtain ⟨j, hj, rfl⟩ := List.getElem_of_mem hcs
  exact updO.one (h.elt j hj (by rw [← h.clen]; exact hj)) u hu
theorem flat_onesU2 {w : World} {S : Fp} {A : Option Addr} {c : Nat} {es : List Upd} {css : List (List Value)} {F : Nat → Fp} (h : SlF UpdO 4 66 w S A c es css F) (k m : Nat) : ∀ u ∈ ((css.drop k).take m).flatten, u.oneCell' = true := by
  intro u hu
  obtain ⟨cs, hcs, hu⟩ := List.mem_flatten.1 hu
  exact flat_onesU h cs (List.mem_of_mem_drop (List.mem_of_mem_take hcs)) u hu

/-! ### Times are equal if both coordinates are -/
set_option maxRecDepth 100000 in
theorem timeIn_eq (a b c d : Int) (w : World) : (Op.equalIn 10000 64 (.agg #[.int .i64 a, .int .i64 b]) (.agg #[.int .i64 c, .int .i64 d])).run Tryz.prog w = .ok (a == c && b == d) w := by
  have u3 := Tryz.underlying3
  have a3 := Tryz.isAgg3
  have z3 := Tryz.sizeOf3
  have hS : Tryz.prog.underlying 64 = some (.struct (Tryz.prog.fieldsOf 64)) := by kernel_rfl
  have hp : Tryz.prog.stoodInHeld 64 = false := by kernel_rfl
  rw [show (10000 : Nat) = 9999 + 1 from rfl, run_equalIn_agg w 9999 64 _ _ hS hp]
  simp only [Program.fieldsOf, Tryz.underlying64]
  go_simp
  by_cases h1 : a = c <;> by_cases h2 : b = d <;> simp [h1, h2]
theorem time_eql (a b c d : Int) (w : World) : (binOp .eql 64 (.agg #[.int .i64 a, .int .i64 b]) (.agg #[.int .i64 c, .int .i64 d])).run Tryz.prog w = .ok (.bool (a == c && b == d)) w := by
  rw [run_eql_struct, timeIn_eq]; rfl

set_option maxRecDepth 100000 in
set_option maxHeartbeats 12800000 in
theorem addUpdate_s (S : Fp) (A : Option Addr) (c : Nat) (z : List Upd) (B : Option Addr) (d : Nat) (r : List Int) (p q x : Int) (w : World) (hz : UpdsOw w S A c z) (hA : A ≠ none) (hasc : Asc ltU z) (hy : IntsAt w B r) (hn : z.length ≤ 4194302) (hr : rowsU z 4194304) (hm : r.length ≤ 4194304) (hw : wIn z 1099511627776) (hx0 : -1099511627776 ≤ x) (hx1 : x ≤ 1099511627776) :
    Calls Tryz.prog 33 #[.slice A z.length c, .agg #[.slice B r.length d, .int .i64 p, .int .i64 q, .int .i64 x]] w fun e w' => ∃ A' c', e = .returned (.slice A' (insK ltU z (r, (p, q)) x).length c') ∧ UpdsOw w' (plus S w w') A' c' (insK ltU z (r, (p, q)) x) ∧ GrownS w w' S := by
  obtain ⟨i0, hi, hz0, hz1, hz2⟩ := info_parts Tryz.infoUpd
  obtain ⟨css, F, hF⟩ := hz
  have hat : UpdsAt w A z := hF.at_ updO
  obtain ⟨g0, hA0, hSg, hgl, hnc, hcm⟩ : ∃ g0, A = some ⟨g0, 0, none⟩ ∧ S g0 ∧ g0 < w.heap.size ∧ z.length ≤ c ∧ c ≤ maxLen := by
    rcases hF.form with ⟨h, _⟩ | h
    · exact absurd h hA
    · exact h
  subst hA0
  have hcm' : (c : Int) ≤ 9223372036854775807 := by unfold maxLen at hcm; omega
  have HF := Lib.hid hF
  have HS := Lib.hid hasc
  clear hF hasc
  go_enter Tryz.func33, Tryz.ntmps33
  go_wp2
  go_loopw [5] (fun i wr => ∃ k : Nat, k ≤ z.length ∧ i = .int .i64 k ∧ (∀ j (hj : j < z.length), j < k → ltU z[j].1 (r, (p, q)) = true) ∧ Below w.heap.size w wr ∧ Blk wr w.heap.size 66 #[.slice B r.length d, .int .i64 p, .int .i64 q, .int .i64 x]) (fun i _ => z.length - (intOf i).toNat)
  case atStart => exact ⟨0, by omega, rfl, fun j _ h => by omega, bal (Below.refl _ _) _, Blk.newAt rfl⟩
  case round =>
    obtain ⟨k, hkn, rfl, hlo, hbel, hk⟩ := hrel
    have HL := Lib.hid hlo
    clear hlo
    have k0 := hk.cell 0
    have k1 := hk.cell 1
    have k2 := hk.cell 2
    have k3 := hk.cell 3
    simp at k0 k1 k2 k3
    have u0 := cgrow k0
    have u1 := cgrow k1
    have u2 := cgrow k2
    have u3 := cgrow k3
    clear k0 k1 k2 k3
    by_cases hlt : k < z.length
    · obtain ⟨b, off, RA, rc, hA', hbl, hc0, hc1, hc2, hc3, hml, hrow⟩ := hat.get k hlt
      injection hA' with hA'
      injection hA' with h1 h2
      subst h1
      subst h2
      simp only [Nat.zero_add] at hc0 hc1 hc2 hc3
      have q0 := cgrow ((hbel.cell (p := ⟨g0, k * 4, none⟩) hbl).trans hc0)
      have q1 := cgrow ((hbel.cell (p := ⟨g0, k * 4 + 1, none⟩) hbl).trans hc1)
      have q2 := cgrow ((hbel.cell (p := ⟨g0, k * 4 + 2, none⟩) hbl).trans hc2)
      have q3 := cgrow ((hbel.cell (p := ⟨g0, k * 4 + 3, none⟩) hbl).trans hc3)
      have hrl := hr.get hlt
      have hlt' : (k : Int) < z.length := by omega
      have hcv := fun W' (hW : Below wr.heap.size wr W') => updateLess_s RA B rc d z[k] ((r, (p, q)), x) W' ((hrow.below hbel).below hW) ((hy.below hbel).below hW) hrl hm
      by_cases hl : ltU z[k].1 (r, (p, q)) = true
      · have hc1 := fun W' hW => (hcv W' hW).mono fun e w' ⟨he, hb⟩ => (⟨by rw [he, hl], hb⟩ : e = Ending.returned (.bool true) ∧ Below W'.heap.size W' w')
        have HB2 := Lib.hid (lt_stepU hlt HL.out hl)
        clear hcv hl hc0 hc2 hc3 hml
        go_wp2_with fail
        refine wp_region_quiet_below (by kernel_rfl) (by kernel_rfl) ?_
        repeat (go_big_quiet_step (first | (go_at_call 52; exact Calls.regrown_of (hc1 _ (below_regrown _ _ _)))))
        refine wpQuiet_nil ?_
        intro wq hwq
        obtain ⟨⟨dq, osq⟩, rfl⟩ := hwq
        have hb := below_regrown wr dq osq
        have hbz := btr hbel hb
        have hkb := hk.below hb
        generalize grow (redrawn wr dq) osq = wz at hb hbz hkb
        clear q0 q1 q2 q3 u0 u1 u2 u3 hc1
        go_wp2
        go_roundw
        case rel => exact ⟨k + 1, by omega, by go_num, HB2.out, hbz, hkb⟩
        case measure => simp [intOf]; omega
      · have hl' : ltU z[k].1 (r, (p, q)) = false := by simpa using hl
        have HH := Lib.hid (above_ofU HS.out hlt hl')
        have hc1x := fun W' hW => (hcv W' hW).mono fun e w' ⟨he, hb⟩ => (⟨by rw [he, hl'], hb⟩ : e = Ending.returned (.bool false) ∧ Below W'.heap.size W' w')
        clear hcv hl hl'
        obtain ⟨i1, i2⟩ := insK_at updTot HS.out (w := x) hkn HL.out HH.out
        have HI1 := Lib.hid i1
        have HI2 := Lib.hid i2
        clear i1 i2
        go_wp2_with fail
        refine wp_region_quiet_below (by kernel_rfl) (by kernel_rfl) ?_
        repeat (go_big_quiet_step (first | (go_at_call 52; exact Calls.regrown_of (hc1x _ (below_regrown _ _ _)))))
        refine wpQuiet_nil ?_
        intro wq hwq
        obtain ⟨⟨dq, osq⟩, rfl⟩ := hwq
        have hb := below_regrown wr dq osq
        have hbz := btr hbel hb
        have hkb := hk.below hb
        generalize grow (redrawn wr dq) osq = wz at hb hbz hkb
        clear q0 q1 q2 q3 u0 u1 u2 u3 hc1x
        have k0 := hkb.cell 0
        have k1 := hkb.cell 1
        have k2 := hkb.cell 2
        have k3 := hkb.cell 3
        simp at k0 k1 k2 k3
        have u0 := cgrow k0
        have u1 := cgrow k1
        have u2 := cgrow k2
        have u3 := cgrow k3
        clear k0 k1 k2 k3
        have q0 := cgrow ((hbz.cell (p := ⟨g0, k * 4, none⟩) hbl).trans hc0)
        have q1 := cgrow ((hbz.cell (p := ⟨g0, k * 4 + 1, none⟩) hbl).trans hc1)
        have q2 := cgrow ((hbz.cell (p := ⟨g0, k * 4 + 2, none⟩) hbl).trans hc2)
        have q3 := cgrow ((hbz.cell (p := ⟨g0, k * 4 + 3, none⟩) hbl).trans hc3)
        have hkq := hkb
        have hcq := fun W' (hW : Below wz.heap.size wz W') => equalInts_s RA B rc d z[k].1.1 r W' ((hrow.below hbz).below hW) ((hy.below hbz).below hW) (by omega) (by omega)
        clear hc0 hc1 hc2 hc3 hml hkb hb
        by_cases e1 : z[k].1.1 = r
        · have hc3 := fun W' hW => (hcq W' hW).mono fun e w' ⟨he, hb⟩ => (⟨by rw [he]; simp [e1], hb⟩ : e = Ending.returned (.bool true) ∧ Below W'.heap.size W' w')
          clear hcq
          by_cases e2 : z[k].1.2 = (p, q)
          · have he : z[k].1 = (r, (p, q)) := Prod.ext e1 e2
            have hins := HI1.out hlt he
            have e21 : z[k].1.2.1 = p := by rw [e2]
            have e22 : z[k].1.2.2 = q := by rw [e2]
            rw [e21] at q1
            rw [e22] at q2
            have qe : ∀ W, (Op.equalIn 10000 64 (.agg #[.int .i64 p, .int .i64 q]) (.agg #[.int .i64 p, .int .i64 q])).run Tryz.prog W = .ok true W := fun W => by rw [timeIn_eq]; simp
            have HI := Lib.hid hins
            have HE := Lib.hid he
            have hwl := hw.get hlt
            have hwl1 := hwl.1
            have hwl2 := hwl.2
            clear hins he e1 e2 e21 e22 hwl
            go_wp2_with fail
            refine wp_region_quiet_below (by kernel_rfl) (by kernel_rfl) ?_
            repeat (go_big_quiet_step (first | (go_at_call 53; exact Calls.regrown_of (hc3 _ (below_regrown _ _ _)))))
            refine wpQuiet_nil ?_
            intro wq hwq
            obtain ⟨⟨dq, osq⟩, rfl⟩ := hwq
            have hb := below_regrown wz dq osq
            have hB := btr hbz hb
            have hkb := hkq.below hb
            generalize grow (redrawn wz dq) osq = w1 at hb hB hkb
            clear q0 q1 q2 q3 u0 u1 u2 u3 hc3 qe
            have hF1 := HF.out.loc updO (fun q hq => hB.block q (HF.out.lt q hq))
            have hcl : k < css.length := by rw [hF1.clen]; exact hlt
            have q3 : w1.cell? ⟨g0, k * 4 + 3, none⟩ = some (.int .i64 z[k].2) := by
              obtain ⟨RA3, rc3, hcs, -, -⟩ := UpdO.form (hF1.elt k hcl hlt)
              rw [hF1.cell k hcl 3 (by decide), hcs]; rfl
            have HF1 := Lib.hid hF1
            clear hF1
            go_wp2_with fail
            refine wp_region_facts [[], [], [], [], [2, 3], [2, 3, 4], [2, 3, 4, 5], [], [7], [2, 3, 4, 5, 6, 7, 8], [0, 1], [0, 1, 10]]
              [fun v' _ => v' = .slice (some ⟨g0, 0, none⟩) z.length c, fun v' _ => v' = .int .i64 (k : Int), fun v' _ => v' = .slice (some ⟨g0, 0, none⟩) z.length c, fun v' _ => v' = .int .i64 (k : Int), fun v' _ => v' = .pointer (some ⟨g0, k * 4, none⟩), fun v' _ => v' = .pointer (some ⟨g0, k * 4 + 3, none⟩), fun v' _ => v' = .int .i64 z[k].2, fun v' _ => v' = .pointer (some ⟨w.heap.size, 3, none⟩), fun v' _ => v' = .int .i64 x, fun v' _ => v' = .int .i64 (z[k].2 + x), fun v' _ => v' = .pointer (some ⟨g0, k * 4, none⟩), fun v' _ => v' = .pointer (some ⟨g0, k * 4 + 3, none⟩)]
              (by kernel_rfl) (by kernel_rfl) rfl ⟨stable_pure _, stable_pure _, stable_pure _, stable_pure _, stable_pure _, stable_pure _, stable_pure _, stable_pure _, stable_pure _, stable_pure _, stable_pure _, stable_pure _, trivial⟩ ?_
            refine wf_step (fun wf hb hf => ?_) (fun t0 => ?_)
            · go_wp2
              exact ⟨rfl, _, rfl, Below.refl _ _, rfl⟩
            refine wf_step (fun wf hb hf => ?_) (fun t1 => ?_)
            · go_wp2
              exact ⟨rfl, _, rfl, Below.refl _ _, rfl⟩
            refine wf_step (fun wf hb hf => ?_) (fun t2 => ?_)
            · go_wp2
              exact ⟨rfl, _, rfl, Below.refl _ _, rfl⟩
            refine wf_step (fun wf hb hf => ?_) (fun t3 => ?_)
            · go_wp2
              exact ⟨rfl, _, rfl, Below.refl _ _, rfl⟩
            refine wf_step (fun wf hb hf => ?_) (fun t4 => ?_)
            · obtain ⟨rfl, rfl, -⟩ := hf
              go_wp2
              exact ⟨rfl, _, rfl, Below.refl _ _, rfl⟩
            refine wf_step (fun wf hb hf => ?_) (fun t5 => ?_)
            · obtain ⟨rfl, rfl, rfl, -⟩ := hf
              go_wp2
              exact ⟨rfl, _, rfl, Below.refl _ _, rfl⟩
            refine wf_step (fun wf hb hf => ?_) (fun t6 => ?_)
            · obtain ⟨rfl, rfl, rfl, rfl, -⟩ := hf
              have c0 := (hb.cell (p := ⟨g0, k * 4 + 3, none⟩) (HF1.out.lt g0 hSg)).trans q3
              go_wp2
              exact ⟨rfl, _, rfl, Below.refl _ _, rfl⟩
            refine wf_step (fun wf hb hf => ?_) (fun t7 => ?_)
            · go_wp2
              exact ⟨rfl, _, rfl, Below.refl _ _, rfl⟩
            refine wf_step (fun wf hb hf => ?_) (fun t8 => ?_)
            · obtain ⟨rfl, -⟩ := hf
              have c0 := (hkb.below hb).cell 3
              simp at c0
              go_wp2
              exact ⟨rfl, _, rfl, Below.refl _ _, rfl⟩
            refine wf_step (fun wf hb hf => ?_) (fun t9 => ?_)
            · obtain ⟨rfl, rfl, rfl, rfl, rfl, rfl, rfl, -⟩ := hf
              go_wp2
              exact ⟨rfl, _, rfl, Below.refl _ _, rfl⟩
            refine wf_step (fun wf hb hf => ?_) (fun t10 => ?_)
            · obtain ⟨rfl, rfl, -⟩ := hf
              go_wp2
              exact ⟨rfl, _, rfl, Below.refl _ _, rfl⟩
            refine wf_step (fun wf hb hf => ?_) (fun t11 => ?_)
            · obtain ⟨rfl, rfl, rfl, -⟩ := hf
              go_wp2
              exact ⟨rfl, _, rfl, Below.refl _ _, rfl⟩
            refine wf_done (fun wC hb hf => ?_)
            obtain ⟨rfl, rfl, rfl, rfl, rfl, rfl, rfl, rfl, rfl, rfl, rfl, rfl, -⟩ := hf
            show wpList _ _ _ [_] _ _
            refine wpList_frame (by simp [Act.put]; rfl) ?_
            have hBC := btr hB hb
            have hFC := HF.out.loc updO (fun q hq => hBC.block q (HF.out.lt q hq))
            have hel := hFC.elt k hcl hlt
            obtain ⟨RA2, rc2, hcs, hFb, hrow2⟩ := UpdO.form hel
            have q4 := (hb.cell (p := ⟨g0, k * 4 + 3, none⟩) (HF1.out.lt g0 hSg)).trans q3
            have hf1 := hFC.frozen (k * 4 + 3)
            have hst := hFC.store updO (i := 3) (j := k) hlt hcl (by omega) (.int .i64 (z[k].2 + x)) (x' := (z[k].1, z[k].2 + x)) (by rw [hcs]; exact UpdO.mk (updO.lt hel) hFb hrow2)
            rw [show (z[k].1, z[k].2 + x) = ((r, (p, q)), z[k].2 + x) by rw [HE.out], ← HI.out] at hst
            have HT := Lib.hid hst
            have HG : Hid (GrownS w wC S) := GrownS.ofBelow hBC
            have HLn : Hid ((insK ltU z (r, (p, q)) x).length = z.length) := by rw [HI.out]; simp [Hid]
            clear q3 hst hel hcs hFb hrow2 hFC hBC hb hB hkb
            go_wp2
            go_ret
            exact ⟨_, c, by rw [HLn.out]; rfl, ⟨_, _, HT.out.mono (fun q hq => .inl hq) (fun q hq => by
              rcases hq with hq | hq
              · exact HT.out.lt q hq
              · exact hq.2)⟩, HG.out.set_ (p := ⟨g0, k * 4 + 3, none⟩) hSg _⟩
          · have hins := HI2.out (fun _ h => e2 (by rw [h]))
            have qn : (z[k].1.2.1 == p && z[k].1.2.2 == q) = false := by
              cases hh : (z[k].1.2.1 == p && z[k].1.2.2 == q) with
              | false => rfl
              | true => simp at hh; exact absurd (Prod.ext hh.1 hh.2) e2
            have qe : ∀ W, (Op.equalIn 10000 64 (.agg #[.int .i64 z[k].1.2.1, .int .i64 z[k].1.2.2]) (.agg #[.int .i64 p, .int .i64 q])).run Tryz.prog W = .ok false W := fun W => by rw [timeIn_eq, qn]
            clear qn e2 e1
            have HI := Lib.hid hins
            have hck : ¬ c = k := by omega
            have hlc : (k : Int) ≤ c := by omega
            have hlz : (k : Int) ≤ z.length := by omega
            clear hins
            go_wp2_with fail
            refine wp_region_quiet_below (by kernel_rfl) (by kernel_rfl) ?_
            repeat (go_big_quiet_step (first | (go_at_call 53; exact Calls.regrown_of (hc3 _ (below_regrown _ _ _)))))
            refine wpQuiet_nil ?_
            intro wq hwq
            obtain ⟨⟨dq, osq⟩, rfl⟩ := hwq
            have hb := below_regrown wz dq osq
            have hB := btr hbz hb
            have hkb := hkq.below hb
            generalize grow (redrawn wz dq) osq = w1 at hb hB hkb
            clear q0 q1 q2 q3 u0 u1 u2 u3 hc3
            have hF1 := HF.out.loc updO (fun q hq => hB.block q (HF.out.lt q hq))
            have hF1a : SlF UpdO 4 66 (w1.alloc (.cells #[] 66)) S _ c z css F := hF1.loc updO (fun q hq => Below.heap_alloc _ _ _ (hF1.lt q hq))
            have hs1 := hB.size
            have l1 : (css.take k).flatten.length = k * 4 := by rw [flat_len (sz := 4) (fun q hq => hF1.elen q (List.mem_of_mem_take hq)), List.length_take, Nat.min_eq_left (by rw [hF1.clen]; omega)]
            have l3 : ((css.drop k).take (z.length - k)).flatten.length = (z.length - k) * 4 := by rw [flat_len (sz := 4) (fun q hq => hF1.elen q (List.mem_of_mem_drop (List.mem_of_mem_take hq))), List.length_take, List.length_drop, hF1.clen, Nat.min_self]
            have o1 := flat_onesU2 hF1a 0 k
            have n1 := flat_srcs (k := 0) (m := k) (o := 0) hF1a.elen hF1a.row hF1a.clen (by simp)
            simp only [List.drop_zero] at o1 n1
            have rl1 : (w1.alloc (.cells #[] 66)).ownsRow w.heap.size 66 4 (.slice (some ⟨w1.heap.size, 0, none⟩) 0 0) 0 [] := World.ownsRow_lit w1 #[] 0 hs1 (by simp [maxLen]) (by simp)
            have HF1 := Lib.hid hF1
            clear hF1 hF1a
            go_wp2_with (at_builtin; refine wpList_append_src _ rfl _ _ 28 rfl w.heap.size 66 i0 (.agg #[.slice none 0 0, .int .i64 0, .int .i64 0, .int .i64 0]) 4 48 Tryz.underlying28 hi hz0 hz1 hz2 rfl (by decide) _ _ _ rfl rl1 (some ⟨g0, 0, none⟩) k c (css.take k).flatten rfl l1 (fun h => by cases h) n1 o1 (by unfold maxLen; omega) (by omega) (by simp; omega) ?_)
            intro v1 w2 r1 g1 loc1
            obtain ⟨A1, c1, rfl⟩ := own_slice r1
            have b12 : Below w1.heap.size w1 w2 := (bal (Below.refl _ _) _).grown g1 (by simp) (fun k hk => by simp [Value.ownBlock] at hk; omega)
            have hB2 := btr hB b12
            have hA1 : ∀ k, blk A1 = some k → w1.heap.size ≤ k ∧ k < w2.heap.size := fun k hk => ⟨(loc1 k (by rw [ownBlock_slice]; exact hk)).elim (fun h => by simp [Value.ownBlock] at h; omega) (fun h => by first | omega | (simp at h; omega)), (World.ownsRow.lt r1 k (by rw [ownBlock_slice]; exact hk)).2⟩
            have hs2 := b12.size
            clear loc1 g1 rl1 o1 n1
            have hk2 := hkb.below b12
            have v0 := hk2.cell 0
            have v1' := hk2.cell 1
            have v2' := hk2.cell 2
            have v3' := hk2.cell 3
            simp at v0 v1' v2' v3'
            go_wp2_with fail
            refine (copyUpdate_s _ _ _ _ _ _ _ (hy.below hB2) hm).mono ?_
            rintro e w3 ⟨RA', rc', rfl, ho, b23⟩
            have r1' : w3.ownsRow w.heap.size 66 4 (.slice A1 k c1) k (css.take k).flatten := ownsRow_loc r1 (fun k hk => b23.block k (hA1 k hk).2)
            have hB3 := btr hB2 b23
            have hs3 := b23.size
            go_wp2_with (at_builtin; refine wpList_append_src _ rfl _ _ 28 rfl w.heap.size 66 i0 (.agg #[.slice none 0 0, .int .i64 0, .int .i64 0, .int .i64 0]) 4 48 Tryz.underlying28 hi hz0 hz1 hz2 rfl (by decide) _ _ _ rfl (r1'.alloc _) (some ⟨w3.heap.size, 0, none⟩) 1 1 [.slice RA' r.length rc', .int .i64 p, .int .i64 q, .int .i64 x] rfl rfl (fun h => by cases h) upd_srcs upd_ones (by unfold maxLen; omega) (by omega) (by simp; omega) ?_)
            intro v2 w4 r2 g2 loc2
            obtain ⟨A2, c2, rfl⟩ := own_slice r2
            rw [ownBlock_slice] at g2
            have hs4 : w3.heap.size + 1 ≤ w4.heap.size := by have := g2.size; simpa using this
            have hA2 : ∀ k, blk A2 = some k → (blk A1 = some k ∨ w3.heap.size ≤ k) ∧ k < w4.heap.size := fun k hk => ⟨(loc2 k (by rw [ownBlock_slice]; exact hk)).elim (fun h => .inl (by rw [ownBlock_slice] at h; exact h)) (fun h => .inr (by first | omega | (simp at h; omega))), (World.ownsRow.lt r2 k (by rw [ownBlock_slice]; exact hk)).2⟩
            have b34 : ∀ k, k < w3.heap.size → blk A1 ≠ some k → w4.heap[k]? = w3.heap[k]? := fun k hk hn => (g2.block k (by simp; omega) (fun e => hn e.symm)).trans (Below.heap_alloc _ _ _ hk)
            have hB4 : Below w.heap.size w w4 := (bal hB3 _).grown g2 (by simp; omega) (fun k hk => by have := (hA1 k hk).1; omega)
            have hF4 := HF.out.loc updO (fun q hq => hB4.block q (HF.out.lt q hq))
            have n3 := flat_srcs (k := k) (m := z.length - k) (o := k * 4) hF4.elen hF4.row hF4.clen rfl
            have o3 := flat_onesU2 hF4 k (z.length - k)
            have HF4 := Lib.hid hF4
            clear hF4 g2 loc2 r1 r1'
            go_wp2_with (at_builtin; refine wpList_append_src _ rfl _ _ 28 rfl w.heap.size 66 i0 (.agg #[.slice none 0 0, .int .i64 0, .int .i64 0, .int .i64 0]) 4 48 Tryz.underlying28 hi hz0 hz1 hz2 rfl (by decide) _ _ _ rfl r2 (some ⟨g0, k * 4, none⟩) (z.length - k) (c - k) ((css.drop k).take (z.length - k)).flatten rfl l3 (fun h => by cases h) n3 o3 (by unfold maxLen; omega) (by omega) (by omega) ?_)
            intro v3 w5 r3 g3 loc3
            obtain ⟨A3, c3, rfl⟩ := own_slice r3
            rw [ownBlock_slice] at g3
            have hs5 := g3.size
            have hA3 : ∀ k, blk A3 = some k → (blk A1 = some k ∨ w3.heap.size ≤ k) ∧ k < w5.heap.size := fun k hk => ⟨(loc3 k (by rw [ownBlock_slice]; exact hk)).elim (fun h => (hA2 k (by rw [ownBlock_slice] at h; exact h)).1) (fun h => .inr (by omega)), (World.ownsRow.lt r3 k (by rw [ownBlock_slice]; exact hk)).2⟩
            have b35 : ∀ k, k < w3.heap.size → blk A1 ≠ some k → w5.heap[k]? = w3.heap[k]? := fun k hk hn => (g3.block k (by omega) (fun e => (hA2 k e.symm).1.elim (fun h => hn h) (fun h => by omega))).trans (b34 k hk hn)
            have hB5 : Below w.heap.size w w5 := hB4.grown g3 (by omega) (fun k hk => (hA2 k hk).1.elim (fun h => by have := (hA1 k h).1; omega) (fun h => by omega))
            have hF5 := HF.out.loc updO (fun q hq => hB5.block q (HF.out.lt q hq))
            have hTq : ∀ q, news w2 w3 q → blk A1 ≠ some q := fun q hq e => by have := (hA1 q e).2; have := hq.1; omega
            have hel0 : UpdO w3 (news w2 w3) [.slice RA' r.length rc', .int .i64 p, .int .i64 q, .int .i64 x] ((r, (p, q)), x) := UpdO.mk (fun k hk => hk.2) (fun q hq => by
              rcases ownsRow_form ho with ⟨e, _⟩ | ⟨g, e, hg1, hg2, _⟩
              · rw [e] at hq; cases hq
              · rw [e] at hq; simp [blk] at hq; subst hq; exact ⟨hg1, hg2⟩) (ho.mono (Nat.zero_le _))
            have hel := updO.loc hel0 (w' := w5) (fun q hq => b35 q hq.2 (hTq q hq))
            have hlen3 : k + 1 + (z.length - k) = z.length + 1 := by omega
            have htail : ((css.drop k).take (z.length - k)).flatten = (css.drop k).flatten := by
              rw [List.take_of_length_le (by rw [List.length_drop, hF5.clen]; exact Nat.le_refl _)]
            rw [hlen3, htail] at r3
            have r3' : w5.ownsRow 0 66 4 (.slice A3 (z.length + 1) c3) (z.length + 1) ((css.take k).flatten ++ [.slice RA' r.length rc', .int .i64 p, .int .i64 q, .int .i64 x] ++ (css.drop k).flatten) := by have := ownsRow_base0 r3; simpa using this
            have hsp := hF5.splice (U := plus S w w5) updO (by omega : k ≤ z.length) hel (fun q h1 h2 => by have := h1.1; have := HF.out.lt q h2; omega) r3' (fun q hq => by
              have h3 := hA3 q hq
              have h4 : w.heap.size ≤ q := (World.ownsRow.lt r3 q (by rw [ownBlock_slice]; exact hq)).1
              refine ⟨fun h => by have := HF.out.lt q h; omega, fun h => ?_⟩
              rcases h3.1 with h5 | h5
              · exact hTq q h h5
              · have := h.2; omega) (fun q hq => by
              rcases hq with hq | hq | hq
              · exact .inl hq
              · exact .inr ⟨by have := hq.1; omega, by have := hq.2; omega⟩
              · exact .inr ⟨(World.ownsRow.lt r3 q (by rw [ownBlock_slice]; exact hq)).1, (hA3 q hq).2⟩) (fun q hq => by
              rcases hq with hq | hq
              · have := HF.out.lt q hq; omega
              · exact hq.2)
            rw [← HI.out] at hsp
            have HSP := Lib.hid hsp
            have HG : Hid (GrownS w w5 S) := GrownS.ofBelow hB5
            have HLn : Hid ((insK ltU z (r, (p, q)) x).length = k + 1 + (z.length - k)) := by rw [HI.out]; simp [Hid]; omega
            clear hsp hel hel0 hTq hF5 hB5 b35 hA3 g3 loc3 r3 r3' r2 hA2 b34 hB4 hB3 b23 ho hB2 b12 hA1 htail l1 l3 o3 n3
            go_wp2
            go_ret
            exact ⟨A3, c3, by rw [HLn.out]; first | rfl | simp, ⟨_, _, HSP.out⟩, HG.out⟩
        · have hins := HI2.out (fun _ h => e1 (by rw [h]))
          have hc3 := fun W' hW => (hcq W' hW).mono fun e w' ⟨he, hb⟩ => (⟨by rw [he]; simp [e1], hb⟩ : e = Ending.returned (.bool false) ∧ Below W'.heap.size W' w')
          clear hcq e1
          have HI := Lib.hid hins
          have hck : ¬ c = k := by omega
          have hlc : (k : Int) ≤ c := by omega
          have hlz : (k : Int) ≤ z.length := by omega
          clear hins
          go_wp2_with fail
          refine wp_region_quiet_below (by kernel_rfl) (by kernel_rfl) ?_
          repeat (go_big_quiet_step (first | (go_at_call 53; exact Calls.regrown_of (hc3 _ (below_regrown _ _ _)))))
          refine wpQuiet_nil ?_
          intro wq hwq
          obtain ⟨⟨dq, osq⟩, rfl⟩ := hwq
          have hb := below_regrown wz dq osq
          have hB := btr hbz hb
          have hkb := hkq.below hb
          generalize grow (redrawn wz dq) osq = w1 at hb hB hkb
          clear q0 q1 q2 q3 u0 u1 u2 u3 hc3
          have hF1 := HF.out.loc updO (fun q hq => hB.block q (HF.out.lt q hq))
          have hF1a : SlF UpdO 4 66 (w1.alloc (.cells #[] 66)) S _ c z css F := hF1.loc updO (fun q hq => Below.heap_alloc _ _ _ (hF1.lt q hq))
          have hs1 := hB.size
          have l1 : (css.take k).flatten.length = k * 4 := by rw [flat_len (sz := 4) (fun q hq => hF1.elen q (List.mem_of_mem_take hq)), List.length_take, Nat.min_eq_left (by rw [hF1.clen]; omega)]
          have l3 : ((css.drop k).take (z.length - k)).flatten.length = (z.length - k) * 4 := by rw [flat_len (sz := 4) (fun q hq => hF1.elen q (List.mem_of_mem_drop (List.mem_of_mem_take hq))), List.length_take, List.length_drop, hF1.clen, Nat.min_self]
          have o1 := flat_onesU2 hF1a 0 k
          have n1 := flat_srcs (k := 0) (m := k) (o := 0) hF1a.elen hF1a.row hF1a.clen (by simp)
          simp only [List.drop_zero] at o1 n1
          have rl1 : (w1.alloc (.cells #[] 66)).ownsRow w.heap.size 66 4 (.slice (some ⟨w1.heap.size, 0, none⟩) 0 0) 0 [] := World.ownsRow_lit w1 #[] 0 hs1 (by simp [maxLen]) (by simp)
          have HF1 := Lib.hid hF1
          clear hF1 hF1a
          go_wp2_with (at_builtin; refine wpList_append_src _ rfl _ _ 28 rfl w.heap.size 66 i0 (.agg #[.slice none 0 0, .int .i64 0, .int .i64 0, .int .i64 0]) 4 48 Tryz.underlying28 hi hz0 hz1 hz2 rfl (by decide) _ _ _ rfl rl1 (some ⟨g0, 0, none⟩) k c (css.take k).flatten rfl l1 (fun h => by cases h) n1 o1 (by unfold maxLen; omega) (by omega) (by simp; omega) ?_)
          intro v1 w2 r1 g1 loc1
          obtain ⟨A1, c1, rfl⟩ := own_slice r1
          have b12 : Below w1.heap.size w1 w2 := (bal (Below.refl _ _) _).grown g1 (by simp) (fun k hk => by simp [Value.ownBlock] at hk; omega)
          have hB2 := btr hB b12
          have hA1 : ∀ k, blk A1 = some k → w1.heap.size ≤ k ∧ k < w2.heap.size := fun k hk => ⟨(loc1 k (by rw [ownBlock_slice]; exact hk)).elim (fun h => by simp [Value.ownBlock] at h; omega) (fun h => by first | omega | (simp at h; omega)), (World.ownsRow.lt r1 k (by rw [ownBlock_slice]; exact hk)).2⟩
          have hs2 := b12.size
          clear loc1 g1 rl1 o1 n1
          have hk2 := hkb.below b12
          have v0 := hk2.cell 0
          have v1' := hk2.cell 1
          have v2' := hk2.cell 2
          have v3' := hk2.cell 3
          simp at v0 v1' v2' v3'
          go_wp2_with fail
          refine (copyUpdate_s _ _ _ _ _ _ _ (hy.below hB2) hm).mono ?_
          rintro e w3 ⟨RA', rc', rfl, ho, b23⟩
          have r1' : w3.ownsRow w.heap.size 66 4 (.slice A1 k c1) k (css.take k).flatten := ownsRow_loc r1 (fun k hk => b23.block k (hA1 k hk).2)
          have hB3 := btr hB2 b23
          have hs3 := b23.size
          go_wp2_with (at_builtin; refine wpList_append_src _ rfl _ _ 28 rfl w.heap.size 66 i0 (.agg #[.slice none 0 0, .int .i64 0, .int .i64 0, .int .i64 0]) 4 48 Tryz.underlying28 hi hz0 hz1 hz2 rfl (by decide) _ _ _ rfl (r1'.alloc _) (some ⟨w3.heap.size, 0, none⟩) 1 1 [.slice RA' r.length rc', .int .i64 p, .int .i64 q, .int .i64 x] rfl rfl (fun h => by cases h) upd_srcs upd_ones (by unfold maxLen; omega) (by omega) (by simp; omega) ?_)
          intro v2 w4 r2 g2 loc2
          obtain ⟨A2, c2, rfl⟩ := own_slice r2
          rw [ownBlock_slice] at g2
          have hs4 : w3.heap.size + 1 ≤ w4.heap.size := by have := g2.size; simpa using this
          have hA2 : ∀ k, blk A2 = some k → (blk A1 = some k ∨ w3.heap.size ≤ k) ∧ k < w4.heap.size := fun k hk => ⟨(loc2 k (by rw [ownBlock_slice]; exact hk)).elim (fun h => .inl (by rw [ownBlock_slice] at h; exact h)) (fun h => .inr (by first | omega | (simp at h; omega))), (World.ownsRow.lt r2 k (by rw [ownBlock_slice]; exact hk)).2⟩
          have b34 : ∀ k, k < w3.heap.size → blk A1 ≠ some k → w4.heap[k]? = w3.heap[k]? := fun k hk hn => (g2.block k (by simp; omega) (fun e => hn e.symm)).trans (Below.heap_alloc _ _ _ hk)
          have hB4 : Below w.heap.size w w4 := (bal hB3 _).grown g2 (by simp; omega) (fun k hk => by have := (hA1 k hk).1; omega)
          have hF4 := HF.out.loc updO (fun q hq => hB4.block q (HF.out.lt q hq))
          have n3 := flat_srcs (k := k) (m := z.length - k) (o := k * 4) hF4.elen hF4.row hF4.clen rfl
          have o3 := flat_onesU2 hF4 k (z.length - k)
          have HF4 := Lib.hid hF4
          clear hF4 g2 loc2 r1 r1'
          go_wp2_with (at_builtin; refine wpList_append_src _ rfl _ _ 28 rfl w.heap.size 66 i0 (.agg #[.slice none 0 0, .int .i64 0, .int .i64 0, .int .i64 0]) 4 48 Tryz.underlying28 hi hz0 hz1 hz2 rfl (by decide) _ _ _ rfl r2 (some ⟨g0, k * 4, none⟩) (z.length - k) (c - k) ((css.drop k).take (z.length - k)).flatten rfl l3 (fun h => by cases h) n3 o3 (by unfold maxLen; omega) (by omega) (by omega) ?_)
          intro v3 w5 r3 g3 loc3
          obtain ⟨A3, c3, rfl⟩ := own_slice r3
          rw [ownBlock_slice] at g3
          have hs5 := g3.size
          have hA3 : ∀ k, blk A3 = some k → (blk A1 = some k ∨ w3.heap.size ≤ k) ∧ k < w5.heap.size := fun k hk => ⟨(loc3 k (by rw [ownBlock_slice]; exact hk)).elim (fun h => (hA2 k (by rw [ownBlock_slice] at h; exact h)).1) (fun h => .inr (by omega)), (World.ownsRow.lt r3 k (by rw [ownBlock_slice]; exact hk)).2⟩
          have b35 : ∀ k, k < w3.heap.size → blk A1 ≠ some k → w5.heap[k]? = w3.heap[k]? := fun k hk hn => (g3.block k (by omega) (fun e => (hA2 k e.symm).1.elim (fun h => hn h) (fun h => by omega))).trans (b34 k hk hn)
          have hB5 : Below w.heap.size w w5 := hB4.grown g3 (by omega) (fun k hk => (hA2 k hk).1.elim (fun h => by have := (hA1 k h).1; omega) (fun h => by omega))
          have hF5 := HF.out.loc updO (fun q hq => hB5.block q (HF.out.lt q hq))
          have hTq : ∀ q, news w2 w3 q → blk A1 ≠ some q := fun q hq e => by have := (hA1 q e).2; have := hq.1; omega
          have hel0 : UpdO w3 (news w2 w3) [.slice RA' r.length rc', .int .i64 p, .int .i64 q, .int .i64 x] ((r, (p, q)), x) := UpdO.mk (fun k hk => hk.2) (fun q hq => by
            rcases ownsRow_form ho with ⟨e, _⟩ | ⟨g, e, hg1, hg2, _⟩
            · rw [e] at hq; cases hq
            · rw [e] at hq; simp [blk] at hq; subst hq; exact ⟨hg1, hg2⟩) (ho.mono (Nat.zero_le _))
          have hel := updO.loc hel0 (w' := w5) (fun q hq => b35 q hq.2 (hTq q hq))
          have hlen3 : k + 1 + (z.length - k) = z.length + 1 := by omega
          have htail : ((css.drop k).take (z.length - k)).flatten = (css.drop k).flatten := by
            rw [List.take_of_length_le (by rw [List.length_drop, hF5.clen]; exact Nat.le_refl _)]
          rw [hlen3, htail] at r3
          have r3' : w5.ownsRow 0 66 4 (.slice A3 (z.length + 1) c3) (z.length + 1) ((css.take k).flatten ++ [.slice RA' r.length rc', .int .i64 p, .int .i64 q, .int .i64 x] ++ (css.drop k).flatten) := by have := ownsRow_base0 r3; simpa using this
          have hsp := hF5.splice (U := plus S w w5) updO (by omega : k ≤ z.length) hel (fun q h1 h2 => by have := h1.1; have := HF.out.lt q h2; omega) r3' (fun q hq => by
            have h3 := hA3 q hq
            have h4 : w.heap.size ≤ q := (World.ownsRow.lt r3 q (by rw [ownBlock_slice]; exact hq)).1
            refine ⟨fun h => by have := HF.out.lt q h; omega, fun h => ?_⟩
            rcases h3.1 with h5 | h5
            · exact hTq q h h5
            · have := h.2; omega) (fun q hq => by
            rcases hq with hq | hq | hq
            · exact .inl hq
            · exact .inr ⟨by have := hq.1; omega, by have := hq.2; omega⟩
            · exact .inr ⟨(World.ownsRow.lt r3 q (by rw [ownBlock_slice]; exact hq)).1, (hA3 q hq).2⟩) (fun q hq => by
            rcases hq with hq | hq
            · have := HF.out.lt q hq; omega
            · exact hq.2)
          rw [← HI.out] at hsp
          have HSP := Lib.hid hsp
          have HG : Hid (GrownS w w5 S) := GrownS.ofBelow hB5
          have HLn : Hid ((insK ltU z (r, (p, q)) x).length = k + 1 + (z.length - k)) := by rw [HI.out]; simp [Hid]; omega
          clear hsp hel hel0 hTq hF5 hB5 b35 hA3 g3 loc3 r3 r3' r2 hA2 b34 hB4 hB3 b23 ho hB2 b12 hA1 htail l1 l3 o3 n3
          go_wp2
          go_ret
          exact ⟨A3, c3, by rw [HLn.out]; first | rfl | simp, ⟨_, _, HSP.out⟩, HG.out⟩
    · have hkz : k = z.length := by omega
      have hlz : (z.length : Int) ≤ k := by omega
      obtain ⟨i1, i2⟩ := insK_at updTot HS.out (w := x) hkn HL.out (fun j hj h2 => absurd hj (by omega))
      have hins := i2 (fun h => absurd h hlt)
      have HI := Lib.hid hins
      have hlc : (k : Int) ≤ c := by omega
      clear hins i1 i2 hkz
      go_wp2_with fail
      refine wp_region_quiet_below (by kernel_rfl) (by kernel_rfl) ?_
      repeat (go_big_quiet_step (fail))
      refine wpQuiet_nil ?_
      intro wq hwq
      obtain ⟨⟨dq, osq⟩, rfl⟩ := hwq
      have hb := below_regrown wr dq osq
      have hbz := btr hbel hb
      have hkb := hk.below hb
      generalize grow (redrawn wr dq) osq = wz at hb hbz hkb
      clear u0 u1 u2 u3
      have hkq := hkb
      clear hkb hb
      go_wp2_with fail
      refine wp_region_quiet_below (by kernel_rfl) (by kernel_rfl) ?_
      repeat (go_big_quiet_step (fail))
      refine wpQuiet_nil ?_
      intro wq hwq
      obtain ⟨⟨dq, osq⟩, rfl⟩ := hwq
      have hb := below_regrown wz dq osq
      have hB := btr hbz hb
      have hkb := hkq.below hb
      generalize grow (redrawn wz dq) osq = w1 at hb hB hkb
      clear hkq
      by_cases hck : c = k
      · subst hck
        have hF1 := HF.out.loc updO (fun q hq => hB.block q (HF.out.lt q hq))
        have hF1a : SlF UpdO 4 66 (w1.alloc (.cells #[] 66)) S _ c z css F := hF1.loc updO (fun q hq => Below.heap_alloc _ _ _ (hF1.lt q hq))
        have hs1 := hB.size
        have l1 : (css.take c).flatten.length = c * 4 := by rw [flat_len (sz := 4) (fun q hq => hF1.elen q (List.mem_of_mem_take hq)), List.length_take, Nat.min_eq_left (by rw [hF1.clen]; omega)]
        have l3 : ((css.drop c).take (z.length - c)).flatten.length = (z.length - c) * 4 := by rw [flat_len (sz := 4) (fun q hq => hF1.elen q (List.mem_of_mem_drop (List.mem_of_mem_take hq))), List.length_take, List.length_drop, hF1.clen, Nat.min_self]
        have o1 := flat_onesU2 hF1a 0 c
        have n1 := flat_srcs (k := 0) (m := c) (o := 0) hF1a.elen hF1a.row hF1a.clen (by simp)
        simp only [List.drop_zero] at o1 n1
        have rl1 : (w1.alloc (.cells #[] 66)).ownsRow w.heap.size 66 4 (.slice (some ⟨w1.heap.size, 0, none⟩) 0 0) 0 [] := World.ownsRow_lit w1 #[] 0 hs1 (by simp [maxLen]) (by simp)
        have HF1 := Lib.hid hF1
        clear hF1 hF1a
        go_wp2_with (at_builtin; refine wpList_append_src _ rfl _ _ 28 rfl w.heap.size 66 i0 (.agg #[.slice none 0 0, .int .i64 0, .int .i64 0, .int .i64 0]) 4 48 Tryz.underlying28 hi hz0 hz1 hz2 rfl (by decide) _ _ _ rfl rl1 (some ⟨g0, 0, none⟩) c c (css.take c).flatten rfl l1 (fun h => by cases h) n1 o1 (by unfold maxLen; omega) (by omega) (by simp; omega) ?_)
        intro v1 w2 r1 g1 loc1
        obtain ⟨A1, c1, rfl⟩ := own_slice r1
        have b12 : Below w1.heap.size w1 w2 := (bal (Below.refl _ _) _).grown g1 (by simp) (fun k hk => by simp [Value.ownBlock] at hk; omega)
        have hB2 := btr hB b12
        have hA1 : ∀ k, blk A1 = some k → w1.heap.size ≤ k ∧ k < w2.heap.size := fun k hk => ⟨(loc1 k (by rw [ownBlock_slice]; exact hk)).elim (fun h => by simp [Value.ownBlock] at h; omega) (fun h => by first | omega | (simp at h; omega)), (World.ownsRow.lt r1 k (by rw [ownBlock_slice]; exact hk)).2⟩
        have hs2 := b12.size
        clear loc1 g1 rl1 o1 n1
        have hk2 := hkb.below b12
        have v0 := hk2.cell 0
        have v1' := hk2.cell 1
        have v2' := hk2.cell 2
        have v3' := hk2.cell 3
        simp at v0 v1' v2' v3'
        go_wp2_with fail
        refine (copyUpdate_s _ _ _ _ _ _ _ (hy.below hB2) hm).mono ?_
        rintro e w3 ⟨RA', rc', rfl, ho, b23⟩
        have r1' : w3.ownsRow w.heap.size 66 4 (.slice A1 c c1) c (css.take c).flatten := ownsRow_loc r1 (fun k hk => b23.block k (hA1 k hk).2)
        have hB3 := btr hB2 b23
        have hs3 := b23.size
        go_wp2_with (at_builtin; refine wpList_append_src _ rfl _ _ 28 rfl w.heap.size 66 i0 (.agg #[.slice none 0 0, .int .i64 0, .int .i64 0, .int .i64 0]) 4 48 Tryz.underlying28 hi hz0 hz1 hz2 rfl (by decide) _ _ _ rfl (r1'.alloc _) (some ⟨w3.heap.size, 0, none⟩) 1 1 [.slice RA' r.length rc', .int .i64 p, .int .i64 q, .int .i64 x] rfl rfl (fun h => by cases h) upd_srcs upd_ones (by unfold maxLen; omega) (by omega) (by simp; omega) ?_)
        intro v2 w4 r2 g2 loc2
        obtain ⟨A2, c2, rfl⟩ := own_slice r2
        rw [ownBlock_slice] at g2
        have hs4 : w3.heap.size + 1 ≤ w4.heap.size := by have := g2.size; simpa using this
        have hA2 : ∀ k, blk A2 = some k → (blk A1 = some k ∨ w3.heap.size ≤ k) ∧ k < w4.heap.size := fun k hk => ⟨(loc2 k (by rw [ownBlock_slice]; exact hk)).elim (fun h => .inl (by rw [ownBlock_slice] at h; exact h)) (fun h => .inr (by first | omega | (simp at h; omega))), (World.ownsRow.lt r2 k (by rw [ownBlock_slice]; exact hk)).2⟩
        have b34 : ∀ k, k < w3.heap.size → blk A1 ≠ some k → w4.heap[k]? = w3.heap[k]? := fun k hk hn => (g2.block k (by simp; omega) (fun e => hn e.symm)).trans (Below.heap_alloc _ _ _ hk)
        have hB4 : Below w.heap.size w w4 := (bal hB3 _).grown g2 (by simp; omega) (fun k hk => by have := (hA1 k hk).1; omega)
        have hF4 := HF.out.loc updO (fun q hq => hB4.block q (HF.out.lt q hq))
        have n3 := flat_srcs (k := 0) (m := 0) (o := 0) hF4.elen hF4.row hF4.clen (by simp)
        have o3 := flat_onesU2 hF4 c (z.length - c)
        have HF4 := Lib.hid hF4
        clear hF4 g2 loc2 r1 r1'
        go_wp2_with (at_builtin; refine wpList_append_src _ rfl _ _ 28 rfl w.heap.size 66 i0 (.agg #[.slice none 0 0, .int .i64 0, .int .i64 0, .int .i64 0]) 4 48 Tryz.underlying28 hi hz0 hz1 hz2 rfl (by decide) _ _ _ rfl r2 (some ⟨g0, 0, none⟩) 0 0 [] rfl (by simp) (fun h => by cases h) (fun a h j u hu => by simp at hu) (by simp) (by unfold maxLen; omega) (by omega) (by omega) ?_)
        intro v3 w5 r3 g3 loc3
        obtain ⟨A3, c3, rfl⟩ := own_slice r3
        rw [ownBlock_slice] at g3
        have hs5 := g3.size
        have hA3 : ∀ k, blk A3 = some k → (blk A1 = some k ∨ w3.heap.size ≤ k) ∧ k < w5.heap.size := fun k hk => ⟨(loc3 k (by rw [ownBlock_slice]; exact hk)).elim (fun h => (hA2 k (by rw [ownBlock_slice] at h; exact h)).1) (fun h => .inr (by omega)), (World.ownsRow.lt r3 k (by rw [ownBlock_slice]; exact hk)).2⟩
        have b35 : ∀ k, k < w3.heap.size → blk A1 ≠ some k → w5.heap[k]? = w3.heap[k]? := fun k hk hn => (g3.block k (by omega) (fun e => (hA2 k e.symm).1.elim (fun h => hn h) (fun h => by omega))).trans (b34 k hk hn)
        have hB5 : Below w.heap.size w w5 := hB4.grown g3 (by omega) (fun k hk => (hA2 k hk).1.elim (fun h => by have := (hA1 k h).1; omega) (fun h => by omega))
        have hF5 := HF.out.loc updO (fun q hq => hB5.block q (HF.out.lt q hq))
        have hTq : ∀ q, news w2 w3 q → blk A1 ≠ some q := fun q hq e => by have := (hA1 q e).2; have := hq.1; omega
        have hel0 : UpdO w3 (news w2 w3) [.slice RA' r.length rc', .int .i64 p, .int .i64 q, .int .i64 x] ((r, (p, q)), x) := UpdO.mk (fun k hk => hk.2) (fun q hq => by
          rcases ownsRow_form ho with ⟨e, _⟩ | ⟨g, e, hg1, hg2, _⟩
          · rw [e] at hq; cases hq
          · rw [e] at hq; simp [blk] at hq; subst hq; exact ⟨hg1, hg2⟩) (ho.mono (Nat.zero_le _))
        have hel := updO.loc hel0 (w' := w5) (fun q hq => b35 q hq.2 (hTq q hq))
        have hlen3 : c + 1 + 0 = z.length + 1 := by omega
        have htail : ([] : List Value) = (css.drop c).flatten := by
          rw [List.drop_eq_nil_of_le (by rw [hF5.clen]; omega)]; rfl
        rw [hlen3, htail] at r3
        have r3' : w5.ownsRow 0 66 4 (.slice A3 (z.length + 1) c3) (z.length + 1) ((css.take c).flatten ++ [.slice RA' r.length rc', .int .i64 p, .int .i64 q, .int .i64 x] ++ (css.drop c).flatten) := by have := ownsRow_base0 r3; simpa using this
        have hsp := hF5.splice (U := plus S w w5) updO (by omega : c ≤ z.length) hel (fun q h1 h2 => by have := h1.1; have := HF.out.lt q h2; omega) r3' (fun q hq => by
          have h3 := hA3 q hq
          have h4 : w.heap.size ≤ q := (World.ownsRow.lt r3 q (by rw [ownBlock_slice]; exact hq)).1
          refine ⟨fun h => by have := HF.out.lt q h; omega, fun h => ?_⟩
          rcases h3.1 with h5 | h5
          · exact hTq q h h5
          · have := h.2; omega) (fun q hq => by
          rcases hq with hq | hq | hq
          · exact .inl hq
          · exact .inr ⟨by have := hq.1; omega, by have := hq.2; omega⟩
          · exact .inr ⟨(World.ownsRow.lt r3 q (by rw [ownBlock_slice]; exact hq)).1, (hA3 q hq).2⟩) (fun q hq => by
          rcases hq with hq | hq
          · have := HF.out.lt q hq; omega
          · exact hq.2)
        rw [← HI.out] at hsp
        have HSP := Lib.hid hsp
        have HG : Hid (GrownS w w5 S) := GrownS.ofBelow hB5
        have HLn : Hid ((insK ltU z (r, (p, q)) x).length = c + 1 + 0) := by rw [HI.out]; simp [Hid]; omega
        clear hsp hel hel0 hTq hF5 hB5 b35 hA3 g3 loc3 r3 r3' r2 hA2 b34 hB4 hB3 b23 ho hB2 b12 hA1 htail l1 l3 o3 n3
        go_wp2
        go_ret
        exact ⟨A3, c3, by rw [HLn.out]; first | rfl | simp, ⟨_, _, HSP.out⟩, HG.out⟩
      · skip
        have hF1 := HF.out.loc updO (fun q hq => hB.block q (HF.out.lt q hq))
        have hF1a : SlF UpdO 4 66 (w1.alloc (.cells #[] 66)) S _ c z css F := hF1.loc updO (fun q hq => Below.heap_alloc _ _ _ (hF1.lt q hq))
        have hs1 := hB.size
        have l1 : (css.take k).flatten.length = k * 4 := by rw [flat_len (sz := 4) (fun q hq => hF1.elen q (List.mem_of_mem_take hq)), List.length_take, Nat.min_eq_left (by rw [hF1.clen]; omega)]
        have l3 : ((css.drop k).take (z.length - k)).flatten.length = (z.length - k) * 4 := by rw [flat_len (sz := 4) (fun q hq => hF1.elen q (List.mem_of_mem_drop (List.mem_of_mem_take hq))), List.length_take, List.length_drop, hF1.clen, Nat.min_self]
        have o1 := flat_onesU2 hF1a 0 k
        have n1 := flat_srcs (k := 0) (m := k) (o := 0) hF1a.elen hF1a.row hF1a.clen (by simp)
        simp only [List.drop_zero] at o1 n1
        have rl1 : (w1.alloc (.cells #[] 66)).ownsRow w.heap.size 66 4 (.slice (some ⟨w1.heap.size, 0, none⟩) 0 0) 0 [] := World.ownsRow_lit w1 #[] 0 hs1 (by simp [maxLen]) (by simp)
        have HF1 := Lib.hid hF1
        clear hF1 hF1a
        go_wp2_with (at_builtin; refine wpList_append_src _ rfl _ _ 28 rfl w.heap.size 66 i0 (.agg #[.slice none 0 0, .int .i64 0, .int .i64 0, .int .i64 0]) 4 48 Tryz.underlying28 hi hz0 hz1 hz2 rfl (by decide) _ _ _ rfl rl1 (some ⟨g0, 0, none⟩) k c (css.take k).flatten rfl l1 (fun h => by cases h) n1 o1 (by unfold maxLen; omega) (by omega) (by simp; omega) ?_)
        intro v1 w2 r1 g1 loc1
        obtain ⟨A1, c1, rfl⟩ := own_slice r1
        have b12 : Below w1.heap.size w1 w2 := (bal (Below.refl _ _) _).grown g1 (by simp) (fun k hk => by simp [Value.ownBlock] at hk; omega)
        have hB2 := btr hB b12
        have hA1 : ∀ k, blk A1 = some k → w1.heap.size ≤ k ∧ k < w2.heap.size := fun k hk => ⟨(loc1 k (by rw [ownBlock_slice]; exact hk)).elim (fun h => by simp [Value.ownBlock] at h; omega) (fun h => by first | omega | (simp at h; omega)), (World.ownsRow.lt r1 k (by rw [ownBlock_slice]; exact hk)).2⟩
        have hs2 := b12.size
        clear loc1 g1 rl1 o1 n1
        have hk2 := hkb.below b12
        have v0 := hk2.cell 0
        have v1' := hk2.cell 1
        have v2' := hk2.cell 2
        have v3' := hk2.cell 3
        simp at v0 v1' v2' v3'
        go_wp2_with fail
        refine (copyUpdate_s _ _ _ _ _ _ _ (hy.below hB2) hm).mono ?_
        rintro e w3 ⟨RA', rc', rfl, ho, b23⟩
        have r1' : w3.ownsRow w.heap.size 66 4 (.slice A1 k c1) k (css.take k).flatten := ownsRow_loc r1 (fun k hk => b23.block k (hA1 k hk).2)
        have hB3 := btr hB2 b23
        have hs3 := b23.size
        go_wp2_with (at_builtin; refine wpList_append_src _ rfl _ _ 28 rfl w.heap.size 66 i0 (.agg #[.slice none 0 0, .int .i64 0, .int .i64 0, .int .i64 0]) 4 48 Tryz.underlying28 hi hz0 hz1 hz2 rfl (by decide) _ _ _ rfl (r1'.alloc _) (some ⟨w3.heap.size, 0, none⟩) 1 1 [.slice RA' r.length rc', .int .i64 p, .int .i64 q, .int .i64 x] rfl rfl (fun h => by cases h) upd_srcs upd_ones (by unfold maxLen; omega) (by omega) (by simp; omega) ?_)
        intro v2 w4 r2 g2 loc2
        obtain ⟨A2, c2, rfl⟩ := own_slice r2
        rw [ownBlock_slice] at g2
        have hs4 : w3.heap.size + 1 ≤ w4.heap.size := by have := g2.size; simpa using this
        have hA2 : ∀ k, blk A2 = some k → (blk A1 = some k ∨ w3.heap.size ≤ k) ∧ k < w4.heap.size := fun k hk => ⟨(loc2 k (by rw [ownBlock_slice]; exact hk)).elim (fun h => .inl (by rw [ownBlock_slice] at h; exact h)) (fun h => .inr (by first | omega | (simp at h; omega))), (World.ownsRow.lt r2 k (by rw [ownBlock_slice]; exact hk)).2⟩
        have b34 : ∀ k, k < w3.heap.size → blk A1 ≠ some k → w4.heap[k]? = w3.heap[k]? := fun k hk hn => (g2.block k (by simp; omega) (fun e => hn e.symm)).trans (Below.heap_alloc _ _ _ hk)
        have hB4 : Below w.heap.size w w4 := (bal hB3 _).grown g2 (by simp; omega) (fun k hk => by have := (hA1 k hk).1; omega)
        have hF4 := HF.out.loc updO (fun q hq => hB4.block q (HF.out.lt q hq))
        have n3 := flat_srcs (k := k) (m := z.length - k) (o := k * 4) hF4.elen hF4.row hF4.clen rfl
        have o3 := flat_onesU2 hF4 k (z.length - k)
        have HF4 := Lib.hid hF4
        clear hF4 g2 loc2 r1 r1'
        go_wp2_with (at_builtin; refine wpList_append_src _ rfl _ _ 28 rfl w.heap.size 66 i0 (.agg #[.slice none 0 0, .int .i64 0, .int .i64 0, .int .i64 0]) 4 48 Tryz.underlying28 hi hz0 hz1 hz2 rfl (by decide) _ _ _ rfl r2 (some ⟨g0, k * 4, none⟩) (z.length - k) (c - k) ((css.drop k).take (z.length - k)).flatten rfl l3 (fun h => by cases h) n3 o3 (by unfold maxLen; omega) (by omega) (by omega) ?_)
        intro v3 w5 r3 g3 loc3
        obtain ⟨A3, c3, rfl⟩ := own_slice r3
        rw [ownBlock_slice] at g3
        have hs5 := g3.size
        have hA3 : ∀ k, blk A3 = some k → (blk A1 = some k ∨ w3.heap.size ≤ k) ∧ k < w5.heap.size := fun k hk => ⟨(loc3 k (by rw [ownBlock_slice]; exact hk)).elim (fun h => (hA2 k (by rw [ownBlock_slice] at h; exact h)).1) (fun h => .inr (by omega)), (World.ownsRow.lt r3 k (by rw [ownBlock_slice]; exact hk)).2⟩
        have b35 : ∀ k, k < w3.heap.size → blk A1 ≠ some k → w5.heap[k]? = w3.heap[k]? := fun k hk hn => (g3.block k (by omega) (fun e => (hA2 k e.symm).1.elim (fun h => hn h) (fun h => by omega))).trans (b34 k hk hn)
        have hB5 : Below w.heap.size w w5 := hB4.grown g3 (by omega) (fun k hk => (hA2 k hk).1.elim (fun h => by have := (hA1 k h).1; omega) (fun h => by omega))
        have hF5 := HF.out.loc updO (fun q hq => hB5.block q (HF.out.lt q hq))
        have hTq : ∀ q, news w2 w3 q → blk A1 ≠ some q := fun q hq e => by have := (hA1 q e).2; have := hq.1; omega
        have hel0 : UpdO w3 (news w2 w3) [.slice RA' r.length rc', .int .i64 p, .int .i64 q, .int .i64 x] ((r, (p, q)), x) := UpdO.mk (fun k hk => hk.2) (fun q hq => by
          rcases ownsRow_form ho with ⟨e, _⟩ | ⟨g, e, hg1, hg2, _⟩
          · rw [e] at hq; cases hq
          · rw [e] at hq; simp [blk] at hq; subst hq; exact ⟨hg1, hg2⟩) (ho.mono (Nat.zero_le _))
        have hel := updO.loc hel0 (w' := w5) (fun q hq => b35 q hq.2 (hTq q hq))
        have hlen3 : k + 1 + (z.length - k) = z.length + 1 := by omega
        have htail : ((css.drop k).take (z.length - k)).flatten = (css.drop k).flatten := by
          rw [List.take_of_length_le (by rw [List.length_drop, hF5.clen]; exact Nat.le_refl _)]
        rw [hlen3, htail] at r3
        have r3' : w5.ownsRow 0 66 4 (.slice A3 (z.length + 1) c3) (z.length + 1) ((css.take k).flatten ++ [.slice RA' r.length rc', .int .i64 p, .int .i64 q, .int .i64 x] ++ (css.drop k).flatten) := by have := ownsRow_base0 r3; simpa using this
        have hsp := hF5.splice (U := plus S w w5) updO (by omega : k ≤ z.length) hel (fun q h1 h2 => by have := h1.1; have := HF.out.lt q h2; omega) r3' (fun q hq => by
          have h3 := hA3 q hq
          have h4 : w.heap.size ≤ q := (World.ownsRow.lt r3 q (by rw [ownBlock_slice]; exact hq)).1
          refine ⟨fun h => by have := HF.out.lt q h; omega, fun h => ?_⟩
          rcases h3.1 with h5 | h5
          · exact hTq q h h5
          · have := h.2; omega) (fun q hq => by
          rcases hq with hq | hq | hq
          · exact .inl hq
          · exact .inr ⟨by have := hq.1; omega, by have := hq.2; omega⟩
          · exact .inr ⟨(World.ownsRow.lt r3 q (by rw [ownBlock_slice]; exact hq)).1, (hA3 q hq).2⟩) (fun q hq => by
          rcases hq with hq | hq
          · have := HF.out.lt q hq; omega
          · exact hq.2)
        rw [← HI.out] at hsp
        have HSP := Lib.hid hsp
        have HG : Hid (GrownS w w5 S) := GrownS.ofBelow hB5
        have HLn : Hid ((insK ltU z (r, (p, q)) x).length = k + 1 + (z.length - k)) := by rw [HI.out]; simp [Hid]; omega
        clear hsp hel hel0 hTq hF5 hB5 b35 hA3 g3 loc3 r3 r3' r2 hA2 b34 hB4 hB3 b23 ho hB2 b12 hA1 htail l1 l3 o3 n3
        go_wp2
        go_ret
        exact ⟨A3, c3, by rw [HLn.out]; first | rfl | simp, ⟨_, _, HSP.out⟩, HG.out⟩
end Go.Proofs.YtffgonddephkkaaGreat
