/- HELPER, no statement of the seat: the specification's compose and minus. -/
import Derived.Test.YtifjenleoagefaaGreatAddZ
import Derived.Test.YtifjenleoagefaaGreatCga
import Derived.Test.YtifjenleoagefaaGreatGrf
namespace Go.Proofs.YtifjenleoagefaaGreat
open Go.RowKit Go.Sort
set_option linter.unusedSimpArgs false
set_option linter.unusedVariables false

theorem minE_step (a b : List Ent) {k : Nat} (h : k < a.length) : minE (a.take (k + 1)) b = minE (a.take k) b ++ if wOf b a[k].1 = 0 then [a[k]] else [] := by
  unfold minE
  rw [List.take_succ_eq_append_getElem h, List.filter_append]
  congr 1
  by_cases hp : wOf b a[k].1 = 0 <;> simp [hp]
theorem minE_len (a b : List Ent) (k : Nat) : (minE (a.take k) b).length ≤ k := Nat.le_trans (List.length_filter_le _ _) (by simp; omega)
set_option maxHeartbeats 1600000 in
theorem minus_s (A : Option Addr) (c : Nat) (es : List Ent) (B : Option Addr) (d : Nat) (bs : List Ent) (w : World) (hx : EntsAt w A es) (hy : EntsAt w B bs) (hn : es.length ≤ 4194303) (hr : rowsIn es 4194304) (hm : bs.length ≤ 4194304) (hs : rowsIn bs 4194304) :
    Calls Tryz.prog 63 #[.slice A es.length c, .slice B bs.length d] w fun e w' => ∃ A' c', e = .returned (.slice A' (minE es bs).length c') ∧ A' ≠ none ∧ EntsOw w' (news w w') A' c' (minE es bs) ∧ Below w.heap.size w w' := by
  obtain ⟨i0, hi, hz0, hz1, hz2⟩ := info_parts Tryz.infoEnt
  go_enter Tryz.func63, Tryz.ntmps63
  go_wp2
  go_loopw [5, 6] (fun v i wr => ∃ k A' c', k ≤ es.length ∧ i = .int .i64 (k : Nat) ∧ v = .slice A' (minE (es.take k) bs).length c' ∧ A' ≠ none ∧ EntsOw wr (news w wr) A' c' (minE (es.take k) bs) ∧ Below w.heap.size w wr) (fun _ i _ => es.length - (intOf i).toNat)
  case atStart => exact ⟨0, _, _, by omega, rfl, rfl, by simp, ⟨_, _, SlF.made EntO 2 33 w #[] 0 (by simp [maxLen]) (by simp) ⟨Nat.le_refl _, by simp⟩ (fun k hk => by have := hk.2; simpa using this)⟩, bal (Below.refl _ _) _⟩
  case round =>
    obtain ⟨k, A', c', hk, rfl, rfl, hA', ⟨css, F, hown⟩, hbel⟩ := hrel
    by_cases hlt : k < es.length
    · obtain ⟨b, off, RA, rc, rfl, hbl, hc0, hc1, -, hrow⟩ := hx.get k hlt
      have q0 := (hbel.cell (p := ⟨b, off + k * 2, none⟩) hbl).trans hc0
      have q1 := (hbel.cell (p := ⟨b, off + k * 2 + 1, none⟩) hbl).trans hc1
      have hrl := hr.get hlt
      have hst := minE_step es bs hlt
      have hml := minE_len es bs k
      have hcon := weightOf_s B d bs RA rc es[k].1 wr (hy.below entR hbel) (hrow.below hbel) hm hs hrl
      have HF := Lib.hid hown
      have HA := Lib.hid hA'
      clear hown hA'
      generalize hM : minE (es.take k) bs = M at *
      clear hM
      by_cases hp : wOf bs es[k].1 = 0
      · rw [if_pos hp] at hst
        rw [hp] at hcon
        have HST := Lib.hid hst
        clear hst hp
        go_wp2_with fail
        refine hcon.mono ?_
        rintro e w1 ⟨rfl, b1⟩
        have hbel1 := btr hbel b1
        have q0 := (hbel1.cell (p := ⟨b, off + k * 2, none⟩) hbl).trans hc0
        have q1 := (hbel1.cell (p := ⟨b, off + k * 2 + 1, none⟩) hbl).trans hc1
        have HF1 := Lib.hid ((HF.out.loc entO (fun k hk => b1.block k hk.2)).mono (fun q hq => (⟨hq.1, Nat.lt_of_lt_of_le hq.2 b1.size⟩ : news w w1 q)) (fun q hq => hq.2))
        clear hcon HF
        go_wp2_with fail
        refine (copyEntry_s _ _ _ _ _ (hrow.below hbel1) hrl).mono ?_
        rintro e w2 ⟨RA', rc', rfl, ho, hb2⟩
        have hrow2 := (HF1.out.loc entO (fun k hk => hb2.block k hk.2)).row
        have hbase : ∀ q, blk A' = some q → w.heap.size ≤ q := fun q hq => (HF1.out.top q hq).1
        have hs2 := hb2.size
        have hs1 := hbel1.size
        go_wp2_with (at_builtin; refine wpList_append_src _ rfl _ _ 23 rfl w.heap.size 33 i0 (.agg #[.slice none 0 0, .int .i64 0]) 2 32 Tryz.underlying23 hi hz0 hz1 hz2 rfl (by decide) _ _ _ rfl ((ownsRow_base hrow2 hbase).alloc _) (some ⟨w2.heap.size, 0, none⟩) 1 1 [.slice RA' es[k].1.length rc', .int .i64 es[k].2] rfl rfl (fun h => by cases h) ent_srcs ent_ones (by unfold maxLen; omega) (by omega) (by simp; omega) ?_)
        intro v' w3 hown' hgrow hloc
        rw [ownBlock_slice] at hgrow hloc
        have hp2 := HF1.out.pushE (w2 := w3) hbel1 hb2 ho hown' hgrow hloc
        obtain ⟨A3, c3, rfl, ho3, hb3⟩ := hp2
        have hA3 : A3 ≠ none := some_of_pos ho3 (by simp)
        rw [← HST.out] at ho3
        have HO := Lib.hid ho3
        have HB := Lib.hid hb3
        have HL : Hid (M.length + 1 = (minE (es.take (k + 1)) bs).length) := by rw [HST.out]; simp [Hid]
        have HA3 := Lib.hid hA3
        clear hown' hgrow hloc ho3 hb3 hrow2 hbase ho hb2 hbel hbel1 hrow q0 q1 HF1 hA3 hc0 hc1 b1
        go_wp2
        go_roundw
        case rel => exact ⟨k + 1, A3, c3, by omega, by go_num, by rw [HL.out], HA3.out, HO.out, HB.out⟩
        case measure => simp [intOf]; omega
      · rw [if_neg hp, List.append_nil] at hst
        have hne : (wOf bs es[k].1 == 0) = false := by simpa using hp
        have HST := Lib.hid hst
        clear hst hp
        go_wp2_with fail
        refine hcon.mono ?_
        rintro e w1 ⟨rfl, b1⟩
        have HF1 := Lib.hid ((HF.out.loc entO (fun k hk => b1.block k hk.2)).mono (fun q hq => (⟨hq.1, Nat.lt_of_lt_of_le hq.2 b1.size⟩ : news w w1 q)) (fun q hq => hq.2))
        have HB := Lib.hid (btr hbel b1)
        clear hcon HF hbel b1 q0 q1 hrow hc0 hc1
        go_wp2
        go_roundw
        case rel => exact ⟨k + 1, A', c', by omega, by go_num, by rw [HST.out], HA.out, by rw [HST.out]; exact ⟨_, _, HF1.out⟩, HB.out⟩
        case measure => simp [intOf]; omega
    · obtain rfl : k = es.length := by omega
      rw [List.take_length] at hown
      have HO : Hid (EntsOw wr (news w wr) A' c' (minE es bs)) := ⟨_, _, hown⟩
      have HB := Lib.hid hbel
      have HT := Lib.hid (List.take_length (l := es))
      have HA := Lib.hid hA'
      clear hown hbel hA'
      go_wp2
      go_ret
      exact ⟨A', c', by rw [HT.out]; rfl, HA.out, HO.out, HB.out⟩

/-- v is a new list of these two numbers. -/
def NewI (base : Nat) (x y : Int) (v : Value) (w : World) : Prop := ∃ G, v = .slice (some ⟨G, 0, none⟩) 2 2 ∧ base ≤ G ∧ Blk w G 3 #[.int .i64 x, .int .i64 y]
theorem stable_newI (base : Nat) (x y : Int) : Stable (NewI base x y) := fun _ _ _ hb ⟨G, e, h, k⟩ => ⟨G, e, h, k.below hb⟩
theorem NewI.ints {w : World} {G : Nat} {x y : Int} (h : Blk w G 3 #[.int .i64 x, .int .i64 y]) : IntsAt w (some ⟨G, 0, none⟩) [x, y] := fun _ => ⟨G, 0, rfl, h.lt, fun j hj => by
  have hc := h.cell j
  match j, hj with
  | 0, _ => simpa using hc
  | 1, _ => simpa using hc⟩
def cpTo (a b : List Ent) (i k : Nat) : List Ent := cmpsE (a.take i) b ++ ((b.take k).filter fun f => decide (gi (nth a i).1 1 = gi f.1 0)).map fun f => ([gi (nth a i).1 0, gi f.1 1], (1 : Int))
theorem cpTo_next {a : List Ent} (b : List Ent) {i : Nat} (hi : i < a.length) : cpTo a b i b.length = cpTo a b (i + 1) 0 := by
  unfold cpTo
  rw [List.take_length, List.take_succ_eq_append_getElem hi, nth_get hi]
  simp only [cmpsE, List.flatMap_append, List.flatMap_cons, List.flatMap_nil, List.append_nil, List.take_zero, List.filter_nil, List.map_nil]
theorem cpTo_end (a b : List Ent) : cpTo a b a.length 0 = cmpsE a b := by simp [cpTo]
theorem cpTo_step {a b : List Ent} {i k : Nat} (hi : i < a.length) (hk : k < b.length) : cpTo a b i (k + 1) = cpTo a b i k ++ if gi a[i].1 1 = gi b[k].1 0 then [([gi a[i].1 0, gi b[k].1 1], 1)] else [] := by
  unfold cpTo
  rw [List.take_succ_eq_append_getElem hk, List.filter_append, List.map_append, List.append_assoc, nth_get hi]
  congr 2
  by_cases h : gi a[i].1 1 = gi b[k].1 0 <;> simp [h]
theorem cmps_two (a b : List Ent) : ∀ e ∈ cmpsE a b, e.1.length = 2 ∧ e.2 = 1 := fun e he => by
  simp only [cmpsE, List.mem_flatMap, List.mem_map] at he
  obtain ⟨_, _, _, _, rfl⟩ := he
  exact ⟨rfl, rfl⟩
theorem cpTo_two (a b : List Ent) (i k : Nat) : ∀ e ∈ cpTo a b i k, e.1.length = 2 ∧ e.2 = 1 := fun e he => by
  unfold cpTo at he
  rcases List.mem_append.1 he with h | h
  · exact cmps_two _ _ e h
  · obtain ⟨_, _, rfl⟩ := List.mem_map.1 h
    exact ⟨rfl, rfl⟩
theorem flat_le {α β : Type} (f : α → List β) (n : Nat) (h : ∀ x, (f x).length ≤ n) : ∀ l : List α, (l.flatMap f).length ≤ l.length * n := flatR_len f n h
theorem cpTo_len {a b : List Ent} (i k : Nat) (ha : a.length ≤ 400) (hb : b.length ≤ 400) : (cpTo a b i k).length ≤ 160400 := by
  unfold cpTo
  rw [List.length_append, List.length_map]
  have h1 : (cmpsE (a.take i) b).length ≤ (a.take i).length * b.length := flat_le _ _ (fun e => by rw [List.length_map]; exact List.length_filter_le _ _) _
  have h2 := List.length_filter_le (fun f : Ent => decide (gi (nth a i).1 1 = gi f.1 0)) (b.take k)
  have h3 : (b.take k).length ≤ 400 := by simp; omega
  have h4 : (a.take i).length ≤ 400 := by simp; omega
  have h5 : (a.take i).length * b.length ≤ 400 * 400 := Nat.mul_le_mul h4 hb
  omega
theorem adl_ok : ∀ (xs M : List Ent) (n : Nat), (∀ e ∈ xs, e.1.length = 2 ∧ e.2 = 1) → n + xs.length ≤ 1000000 → M.length ≤ n → rowsIn M 4194304 → wts M (1000000 + (n : Int) * 1000000) →
    (AddL M xs).length ≤ n + xs.length ∧ rowsIn (AddL M xs) 4194304 ∧ wts (AddL M xs) (1000000 + ((n + xs.length : Nat) : Int) * 1000000)
  | [], M, n, _, _, h1, h2, h3 => ⟨by simpa [AddL] using h1, h2, by simpa [AddL] using h3⟩
  | e :: xs, M, n, he, hn, h1, h2, h3 => by
    have hee := he e (by simp)
    simp only [List.length_cons] at hn ⊢
    have := adl_ok xs (insK lessB M e.1 e.2) (n + 1) (fun f hf => he f (by simp [hf])) (by omega) (by have := insK_length (lt := lessB) M e.1 e.2; omega) (rows_ins h2 (by omega) e.2) (by
      have hw := wts_ins (d := 1000000) h3 (x := e.2) ⟨by omega, by omega⟩ (by omega) (by omega) e.1
      intro f hf
      have := hw f hf
      push_cast
      constructor <;> omega)
    rw [show n + (xs.length + 1) = n + 1 + xs.length from by omega]
    exact this
theorem AddL_snoc (M xs : List Ent) (e : Ent) : AddL M (xs ++ [e]) = insK lessB (AddL M xs) e.1 e.2 := by simp [AddL]
set_option maxRecDepth 100000 in
set_option maxHeartbeats 6400000 in
theorem compose_s (A : Option Addr) (c : Nat) (a : List Ent) (B : Option Addr) (d : Nat) (b : List Ent) (w : World) (hx : EntsAt w A a) (hy : EntsAt w B b) (ha : a.length ≤ 400) (hb : b.length ≤ 400) (ha2 : ∀ e ∈ a, e.1.length = 2) (hb2 : ∀ e ∈ b, e.1.length = 2) :
    Calls Tryz.prog 64 #[.slice A a.length c, .slice B b.length d] w fun e w' => ∃ A' c', e = .returned (.slice A' (compE a b).length c') ∧ EntsOw w' (news w w') A' c' (compE a b) ∧ Below w.heap.size w w' := by
  have hok : ∀ i k, (AddL [] (cpTo a b i k)).length ≤ 160400 ∧ rowsIn (AddL [] (cpTo a b i k)) 4194304 ∧ wts (AddL [] (cpTo a b i k)) 1099511627776 := fun i k => by
    have h1 := cpTo_len (a := a) (b := b) i k ha hb
    have := adl_ok (cpTo a b i k) [] 0 (cpTo_two a b i k) (by omega) (by simp) (fun e he => by cases he) (fun e he => by cases he)
    exact ⟨by omega, this.2.1, fun e he => by have := this.2.2 e he; omega⟩
  have HOK := Lib.hid hok
  have HA2 := Lib.hid ha2
  have HB2 := Lib.hid hb2
  clear hok ha2 hb2
  go_enter Tryz.func64, Tryz.ntmps64
  go_wp2
  go_loopw [5, 6] (fun v i wr => ∃ i' A' c', i' ≤ a.length ∧ i = .int .i64 (i' : Nat) ∧ v = .slice A' (AddL [] (cpTo a b i' 0)).length c' ∧ A' ≠ none ∧ EntsOw wr (news w wr) A' c' (AddL [] (cpTo a b i' 0)) ∧ Below w.heap.size w wr) (fun _ i _ => a.length - (intOf i).toNat)
  case atStart => exact ⟨0, _, _, by omega, rfl, rfl, by simp, ⟨_, _, SlF.made EntO 2 33 w #[] 0 (by simp [maxLen]) (by simp) ⟨Nat.le_refl _, by simp⟩ (fun k hk => by have := hk.2; simpa using this)⟩, bal (Below.refl _ _) _⟩
  case round =>
    obtain ⟨i, A', c', hi, rfl, rfl, hA', hown, hbel⟩ := hrel
    by_cases hlt : i < a.length
    · have HO := Lib.hid hown
      have HA := Lib.hid hA'
      have HB := Lib.hid hbel
      have HN := Lib.hid (cpTo_next b hlt)
      have hltI : (i : Int) < a.length := by omega
      clear hown hA' hbel
      go_wp2
      obtain ⟨V, rfl⟩ : ∃ V : World, V = wr := ⟨_, rfl⟩
      go_loopw [5, 7] (fun v j wr => ∃ k A' c', k ≤ b.length ∧ j = .int .i64 (k : Nat) ∧ v = .slice A' (AddL [] (cpTo a b i k)).length c' ∧ A' ≠ none ∧ EntsOw wr (news w wr) A' c' (AddL [] (cpTo a b i k)) ∧ Below w.heap.size w wr) (fun _ j _ => b.length - (intOf j).toNat)
      case atStart => exact ⟨0, A', c', by omega, rfl, rfl, HA.out, HO.out, HB.out⟩
      case round =>
        clear HO HA HB
        obtain ⟨k, A', c', hk, rfl, rfl, hA', hown, hbel⟩ := hrel
        by_cases hlk : k < b.length
        · obtain ⟨ab, ao, PA, pc, rfl, hab, pa, -, -, prow⟩ := hx.get i hlt
          obtain ⟨bb, bo, QA, qc, rfl, hbb, pb', -, -, qrow⟩ := hy.get k hlk
          have hsw := hbel.size
          have hl2a : a[i].1.length = 2   := HA2.out _ (List.getElem_mem hlt)
          have hl2b : b[k].1.length = 2 := HB2.out _ (List.getElem_mem hlk)
          obtain ⟨pb, po, rfl, hpb, pcc⟩ := prow (by omega)
          obtain ⟨qb, qo, rfl, hqb, qcc⟩ := qrow (by omega)
          have pa := (hbel.cell (p := ⟨ab, ao + i * 2, none⟩) hab).trans pa
          have pb' := (hbel.cell (p := ⟨bb, bo + k * 2, none⟩) hbb).trans pb'
          have px0 := (hbel.cell (p := ⟨pb, po, none⟩) hpb).trans (show _ = some (.int .i64 (gi a[i].1 0)) by have := pcc 0 (by omega); simpa [gi] using this)
          have px1 := (hbel.cell (p := ⟨pb, po + 1, none⟩) hpb).trans (show _ = some (.int .i64 (gi a[i].1 1)) by have := pcc 1 (by omega); simpa [gi] using this)
          have qy0 := (hbel.cell (p := ⟨qb, qo, none⟩) hqb).trans (show _ = some (.int .i64 (gi b[k].1 0)) by have := qcc 0 (by omega); simpa [gi] using this)
          have qy1 := (hbel.cell (p := ⟨qb, qo + 1, none⟩) hqb).trans (show _ = some (.int .i64 (gi b[k].1 1)) by have := qcc 1 (by omega); simpa [gi] using this)
          have hst := cpTo_step hlt hlk
          have hokk := HOK.out i k
          have hp0 : 0 < a[i].1.length := by omega
          have hp1 : 1 < a[i].1.length := by omega
          have hq0 : 0 < b[k].1.length := by omega
          have hq1 : 1 < b[k].1.length := by omega
          have hlkI : (k : Int) < b.length := by omega
          have HO := Lib.hid hown
          have HA := Lib.hid hA'
          have HB := Lib.hid hbel
          have HKK := Lib.hid hokk
          have hML := hokk.1
          have hasc : Hid (Asc lessB (AddL [] (cpTo a b i k))) := AddL_asc asc_nil _
          clear hown hA' hbel pcc qcc prow qrow hl2a hl2b hokk
          generalize gi a[i].1 0 = x0 at *
          generalize gi a[i].1 1 = x1 at *
          generalize gi b[k].1 0 = y0 at *
          generalize gi b[k].1 1 = y1 at *
          generalize hM : AddL [] (cpTo a b i k) = M at *
          have HM := Lib.hid hM
          clear hM
          by_cases hxy : x1 = y0
          · have hcmp : (x1 == y0) = true := by simpa using hxy
            rw [if_pos hxy] at hst
            have HST : Hid (AddL [] (cpTo a b i (k + 1)) = insK lessB M [x0, y1] 1) := by rw [Hid, hst, AddL_snoc, HM.out]
            clear hst hxy
            go_wp2_with fail
            refine wp_region_facts [[], [], [0, 1], [0, 1, 2], List.range 4, List.range 5, List.range 6, [], [], [7, 8], [7, 8, 9], [7, 8, 9, 10], [7, 8, 9, 10, 11], [7, 8, 9, 10, 11, 12]]
              [fun v' _ => v' = .slice (some ⟨ab, ao, none⟩) a.length c, fun v' _ => v' = .int .i64 ((i : Nat)), fun v' _ => v' = .pointer (some ⟨ab, ao + i * 2, none⟩), fun v' _ => v' = .pointer (some ⟨ab, ao + i * 2, none⟩), fun v' _ => v' = .slice (some ⟨pb, po, none⟩) a[i].1.length pc, fun v' _ => v' = .pointer (some ⟨pb, po + 1, none⟩), fun v' _ => v' = .int .i64 (x1), fun v' _ => v' = .slice (some ⟨bb, bo, none⟩) b.length d, fun v' _ => v' = .int .i64 ((k : Nat)), fun v' _ => v' = .pointer (some ⟨bb, bo + k * 2, none⟩), fun v' _ => v' = .pointer (some ⟨bb, bo + k * 2, none⟩), fun v' _ => v' = .slice (some ⟨qb, qo, none⟩) b[k].1.length qc, fun v' _ => v' = .pointer (some ⟨qb, qo, none⟩), fun v' _ => v' = .int .i64 (y0)]
              (by kernel_rfl) (by kernel_rfl) rfl ⟨stable_pure _, stable_pure _, stable_pure _, stable_pure _, stable_pure _, stable_pure _, stable_pure _, stable_pure _, stable_pure _, stable_pure _, stable_pure _, stable_pure _, stable_pure _, stable_pure _, trivial⟩ ?_
            refine wf_stepK [] [] (by kernel_rfl) (by kernel_rfl) (fun wf hb hf => ?_) (fun t0 => ?_)
            · refine ⟨?_⟩
              go_wp2
              exact ⟨rfl, .slice (some ⟨ab, ao, none⟩) a.length c, by kernel_rfl, Below.refl _ _, rfl⟩
            refine wf_stepK [] [] (by kernel_rfl) (by kernel_rfl) (fun wf hb hf => ?_) (fun t1 => ?_)
            · refine ⟨?_⟩
              go_wp2
              exact ⟨rfl, .int .i64 ((i : Nat)), by kernel_rfl, Below.refl _ _, rfl⟩
            refine wf_stepK [0, 1] [fun _ => t0 = .slice (some ⟨ab, ao, none⟩) a.length c, fun _ => t1 = .int .i64 ((i : Nat))] (by kernel_rfl) (by kernel_rfl) (fun wf hb hf => ?_) (fun t2 => ?_)
            · obtain ⟨rfl, rfl, -⟩ := hf
              refine ⟨?_⟩
              go_wp2
              exact ⟨rfl, .pointer (some ⟨ab, ao + i * 2, none⟩), by kernel_rfl, Below.refl _ _, rfl⟩
            refine wf_stepK [2] [fun _ => t2 = .pointer (some ⟨ab, ao + i * 2, none⟩)] (by kernel_rfl) (by kernel_rfl) (fun wf hb hf => ?_) (fun t3 => ?_)
            · obtain ⟨rfl, -⟩ := hf
              refine ⟨?_⟩
              go_wp2
              exact ⟨rfl, .pointer (some ⟨ab, ao + i * 2, none⟩), by kernel_rfl, Below.refl _ _, rfl⟩
            refine wf_stepK [3] [fun _ => t3 = .pointer (some ⟨ab, ao + i * 2, none⟩)] (by kernel_rfl) (by kernel_rfl) (fun wf hb hf => ?_) (fun t4 => ?_)
            · obtain ⟨rfl, -⟩ := hf
              refine ⟨?_⟩
              have z0 := (hb.cell (p := ⟨ab, ao + i * 2, none⟩) (Nat.lt_of_lt_of_le hab hsw)).trans pa
              go_wp2
              exact ⟨rfl, .slice (some ⟨pb, po, none⟩) a[i].1.length pc, by kernel_rfl, Below.refl _ _, rfl⟩
            refine wf_stepK [4] [fun _ => t4 = .slice (some ⟨pb, po, none⟩) a[i].1.length pc] (by kernel_rfl) (by kernel_rfl) (fun wf hb hf => ?_) (fun t5 => ?_)
            · obtain ⟨rfl, -⟩ := hf
              refine ⟨?_⟩
              go_wp2
              exact ⟨rfl, .pointer (some ⟨pb, po + 1, none⟩), by kernel_rfl, Below.refl _ _, rfl⟩
            refine wf_stepK [5] [fun _ => t5 = .pointer (some ⟨pb, po + 1, none⟩)] (by kernel_rfl) (by kernel_rfl) (fun wf hb hf => ?_) (fun t6 => ?_)
            · obtain ⟨rfl, -⟩ := hf
              refine ⟨?_⟩
              have z0 := (hb.cell (p := ⟨pb, po + 1, none⟩) (Nat.lt_of_lt_of_le hpb hsw)).trans px1
              go_wp2
              exact ⟨rfl, .int .i64 (x1), by kernel_rfl, Below.refl _ _, rfl⟩
            refine wf_stepK [] [] (by kernel_rfl) (by kernel_rfl) (fun wf hb hf => ?_) (fun t7 => ?_)
            · refine ⟨?_⟩
              go_wp2
              exact ⟨rfl, .slice (some ⟨bb, bo, none⟩) b.length d, by kernel_rfl, Below.refl _ _, rfl⟩
            refine wf_stepK [] [] (by kernel_rfl) (by kernel_rfl) (fun wf hb hf => ?_) (fun t8 => ?_)
            · refine ⟨?_⟩
              go_wp2
              exact ⟨rfl, .int .i64 ((k : Nat)), by kernel_rfl, Below.refl _ _, rfl⟩
            refine wf_stepK [7, 8] [fun _ => t7 = .slice (some ⟨bb, bo, none⟩) b.length d, fun _ => t8 = .int .i64 ((k : Nat))] (by kernel_rfl) (by kernel_rfl) (fun wf hb hf => ?_) (fun t9 => ?_)
            · obtain ⟨rfl, rfl, -⟩ := hf
              refine ⟨?_⟩
              go_wp2
              exact ⟨rfl, .pointer (some ⟨bb, bo + k * 2, none⟩), by kernel_rfl, Below.refl _ _, rfl⟩
            refine wf_stepK [9] [fun _ => t9 = .pointer (some ⟨bb, bo + k * 2, none⟩)] (by kernel_rfl) (by kernel_rfl) (fun wf hb hf => ?_) (fun t10 => ?_)
            · obtain ⟨rfl, -⟩ := hf
              refine ⟨?_⟩
              go_wp2
              exact ⟨rfl, .pointer (some ⟨bb, bo + k * 2, none⟩), by kernel_rfl, Below.refl _ _, rfl⟩
            refine wf_stepK [10] [fun _ => t10 = .pointer (some ⟨bb, bo + k * 2, none⟩)] (by kernel_rfl) (by kernel_rfl) (fun wf hb hf => ?_) (fun t11 => ?_)
            · obtain ⟨rfl, -⟩ := hf
              refine ⟨?_⟩
              have z0 := (hb.cell (p := ⟨bb, bo + k * 2, none⟩) (Nat.lt_of_lt_of_le hbb hsw)).trans pb'
              go_wp2
              exact ⟨rfl, .slice (some ⟨qb, qo, none⟩) b[k].1.length qc, by kernel_rfl, Below.refl _ _, rfl⟩
            refine wf_stepK [11] [fun _ => t11 = .slice (some ⟨qb, qo, none⟩) b[k].1.length qc] (by kernel_rfl) (by kernel_rfl) (fun wf hb hf => ?_) (fun t12 => ?_)
            · obtain ⟨rfl, -⟩ := hf
              refine ⟨?_⟩
              go_wp2
              exact ⟨rfl, .pointer (some ⟨qb, qo, none⟩), by kernel_rfl, Below.refl _ _, rfl⟩
            refine wf_stepK [12] [fun _ => t12 = .pointer (some ⟨qb, qo, none⟩)] (by kernel_rfl) (by kernel_rfl) (fun wf hb hf => ?_) (fun t13 => ?_)
            · obtain ⟨rfl, -⟩ := hf
              refine ⟨?_⟩
              have z0 := (hb.cell (p := ⟨qb, qo, none⟩) (Nat.lt_of_lt_of_le hqb hsw)).trans qy0
              go_wp2
              exact ⟨rfl, .int .i64 (y0), by kernel_rfl, Below.refl _ _, rfl⟩
            refine wf_doneK [6, 13] [fun _ => t6 = .int .i64 (x1), fun _ => t13 = .int .i64 (y0)] (by kernel_rfl) (by kernel_rfl) (fun w8 b8 hf => ?_)
            obtain ⟨rfl, rfl, -⟩ := hf
            show wpList _ _ _ [_] _ _
            refine wpList_frame (by simp [Act.put]; rfl) ?_
            have hF8 : Hid (EntsOw w8 (news w w8) A' c' M) := (HO.out.below entO b8).mono (fun q hq => (⟨hq.1, Nat.lt_of_lt_of_le hq.2 b8.size⟩ : news w w8 q)) (fun q hq => hq.2)
            have hB8 := btr HB.out b8
            have HB8 := Lib.hid hB8
            have hsw8 := hB8.size
            have pa8 := (b8.cell (p := ⟨ab, ao + i * 2, none⟩) (Nat.lt_of_lt_of_le hab hsw)).trans pa
            have pb8 := (b8.cell (p := ⟨bb, bo + k * 2, none⟩) (Nat.lt_of_lt_of_le hbb hsw)).trans pb'
            have px8 := (b8.cell (p := ⟨pb, po, none⟩) (Nat.lt_of_lt_of_le hpb hsw)).trans px0
            have qy8 := (b8.cell (p := ⟨qb, qo + 1, none⟩) (Nat.lt_of_lt_of_le hqb hsw)).trans qy1
            clear pa pb' px0 px1 qy0 qy1 HO HB hsw b8 hB8
            have pa := pa8
            have pb' := pb8
            have px0 := px8
            have qy1 := qy8
            have hsw := hsw8
            clear pa8 pb8 px8 qy8 hsw8
            obtain ⟨wr, rfl⟩ : ∃ W : World, W = w8 := ⟨_, rfl⟩
            go_wp2_with fail
            refine wp_region_facts [[], [], [], [1, 2], [1, 2, 3], [1, 2, 3, 4], [1, 2, 3, 4, 5], [1, 2, 3, 4, 5, 6], [], [], [8, 9], [8, 9, 10], [8, 9, 10, 11], [8, 9, 10, 11, 12], [8, 9, 10, 11, 12, 13], [1, 2, 3, 4, 5, 6, 7, 8, 9, 10, 11, 12, 13, 14]]
              [fun v' _ => v' = .slice A' M.length c', fun v' _ => v' = .slice (some ⟨ab, ao, none⟩) a.length c, fun v' _ => v' = .int .i64 ((i : Nat)), fun v' _ => v' = .pointer (some ⟨ab, ao + i * 2, none⟩), fun v' _ => v' = .pointer (some ⟨ab, ao + i * 2, none⟩), fun v' _ => v' = .slice (some ⟨pb, po, none⟩) a[i].1.length pc, fun v' _ => v' = .pointer (some ⟨pb, po, none⟩), fun v' _ => v' = .int .i64 (x0), fun v' _ => v' = .slice (some ⟨bb, bo, none⟩) b.length d, fun v' _ => v' = .int .i64 ((k : Nat)), fun v' _ => v' = .pointer (some ⟨bb, bo + k * 2, none⟩), fun v' _ => v' = .pointer (some ⟨bb, bo + k * 2, none⟩), fun v' _ => v' = .slice (some ⟨qb, qo, none⟩) b[k].1.length qc, fun v' _ => v' = .pointer (some ⟨qb, qo + 1, none⟩), fun v' _ => v' = .int .i64 (y1), NewI wr.heap.size x0 y1]
              (by kernel_rfl) (by kernel_rfl) rfl ⟨stable_pure _, stable_pure _, stable_pure _, stable_pure _, stable_pure _, stable_pure _, stable_pure _, stable_pure _, stable_pure _, stable_pure _, stable_pure _, stable_pure _, stable_pure _, stable_pure _, stable_pure _, stable_newI _ _ _, trivial⟩ ?_
            refine wf_stepK [] [] (by kernel_rfl) (by kernel_rfl) (fun wf hb hf => ?_) (fun t0 => ?_)
            · refine ⟨?_⟩
              go_wp2
              exact ⟨rfl, .slice A' M.length c', by kernel_rfl, Below.refl _ _, rfl⟩
            refine wf_stepK [] [] (by kernel_rfl) (by kernel_rfl) (fun wf hb hf => ?_) (fun t1 => ?_)
            · refine ⟨?_⟩
              go_wp2
              exact ⟨rfl, .slice (some ⟨ab, ao, none⟩) a.length c, by kernel_rfl, Below.refl _ _, rfl⟩
            refine wf_stepK [] [] (by kernel_rfl) (by kernel_rfl) (fun wf hb hf => ?_) (fun t2 => ?_)
            · refine ⟨?_⟩
              go_wp2
              exact ⟨rfl, .int .i64 ((i : Nat)), by kernel_rfl, Below.refl _ _, rfl⟩
            refine wf_stepK [1, 2] [fun _ => t1 = .slice (some ⟨ab, ao, none⟩) a.length c, fun _ => t2 = .int .i64 ((i : Nat))] (by kernel_rfl) (by kernel_rfl) (fun wf hb hf => ?_) (fun t3 => ?_)
            · obtain ⟨rfl, rfl, -⟩ := hf
              refine ⟨?_⟩
              go_wp2
              exact ⟨rfl, .pointer (some ⟨ab, ao + i * 2, none⟩), by kernel_rfl, Below.refl _ _, rfl⟩
            refine wf_stepK [3] [fun _ => t3 = .pointer (some ⟨ab, ao + i * 2, none⟩)] (by kernel_rfl) (by kernel_rfl) (fun wf hb hf => ?_) (fun t4 => ?_)
            · obtain ⟨rfl, -⟩ := hf
              refine ⟨?_⟩
              go_wp2
              exact ⟨rfl, .pointer (some ⟨ab, ao + i * 2, none⟩), by kernel_rfl, Below.refl _ _, rfl⟩
            refine wf_stepK [4] [fun _ => t4 = .pointer (some ⟨ab, ao + i * 2, none⟩)] (by kernel_rfl) (by kernel_rfl) (fun wf hb hf => ?_) (fun t5 => ?_)
            · obtain ⟨rfl, -⟩ := hf
              refine ⟨?_⟩
              have z0 := (hb.cell (p := ⟨ab, ao + i * 2, none⟩) (Nat.lt_of_lt_of_le hab hsw)).trans pa
              go_wp2
              exact ⟨rfl, .slice (some ⟨pb, po, none⟩) a[i].1.length pc, by kernel_rfl, Below.refl _ _, rfl⟩
            refine wf_stepK [5] [fun _ => t5 = .slice (some ⟨pb, po, none⟩) a[i].1.length pc] (by kernel_rfl) (by kernel_rfl) (fun wf hb hf => ?_) (fun t6 => ?_)
            · obtain ⟨rfl, -⟩ := hf
              refine ⟨?_⟩
              go_wp2
              exact ⟨rfl, .pointer (some ⟨pb, po, none⟩), by kernel_rfl, Below.refl _ _, rfl⟩
            refine wf_stepK [6] [fun _ => t6 = .pointer (some ⟨pb, po, none⟩)] (by kernel_rfl) (by kernel_rfl) (fun wf hb hf => ?_) (fun t7 => ?_)
            · obtain ⟨rfl, -⟩ := hf
              refine ⟨?_⟩
              have z0 := (hb.cell (p := ⟨pb, po, none⟩) (Nat.lt_of_lt_of_le hpb hsw)).trans px0
              go_wp2
              exact ⟨rfl, .int .i64 (x0), by kernel_rfl, Below.refl _ _, rfl⟩
            refine wf_stepK [] [] (by kernel_rfl) (by kernel_rfl) (fun wf hb hf => ?_) (fun t8 => ?_)
            · refine ⟨?_⟩
              go_wp2
              exact ⟨rfl, .slice (some ⟨bb, bo, none⟩) b.length d, by kernel_rfl, Below.refl _ _, rfl⟩
            refine wf_stepK [] [] (by kernel_rfl) (by kernel_rfl) (fun wf hb hf => ?_) (fun t9 => ?_)
            · refine ⟨?_⟩
              go_wp2
              exact ⟨rfl, .int .i64 ((k : Nat)), by kernel_rfl, Below.refl _ _, rfl⟩
            refine wf_stepK [8, 9] [fun _ => t8 = .slice (some ⟨bb, bo, none⟩) b.length d, fun _ => t9 = .int .i64 ((k : Nat))] (by kernel_rfl) (by kernel_rfl) (fun wf hb hf => ?_) (fun t10 => ?_)
            · obtain ⟨rfl, rfl, -⟩ := hf
              refine ⟨?_⟩
              go_wp2
              exact ⟨rfl, .pointer (some ⟨bb, bo + k * 2, none⟩), by kernel_rfl, Below.refl _ _, rfl⟩
            refine wf_stepK [10] [fun _ => t10 = .pointer (some ⟨bb, bo + k * 2, none⟩)] (by kernel_rfl) (by kernel_rfl) (fun wf hb hf => ?_) (fun t11 => ?_)
            · obtain ⟨rfl, -⟩ := hf
              refine ⟨?_⟩
              go_wp2
              exact ⟨rfl, .pointer (some ⟨bb, bo + k * 2, none⟩), by kernel_rfl, Below.refl _ _, rfl⟩
            refine wf_stepK [11] [fun _ => t11 = .pointer (some ⟨bb, bo + k * 2, none⟩)] (by kernel_rfl) (by kernel_rfl) (fun wf hb hf => ?_) (fun t12 => ?_)
            · obtain ⟨rfl, -⟩ := hf
              refine ⟨?_⟩
              have z0 := (hb.cell (p := ⟨bb, bo + k * 2, none⟩) (Nat.lt_of_lt_of_le hbb hsw)).trans pb'
              go_wp2
              exact ⟨rfl, .slice (some ⟨qb, qo, none⟩) b[k].1.length qc, by kernel_rfl, Below.refl _ _, rfl⟩
            refine wf_stepK [12] [fun _ => t12 = .slice (some ⟨qb, qo, none⟩) b[k].1.length qc] (by kernel_rfl) (by kernel_rfl) (fun wf hb hf => ?_) (fun t13 => ?_)
            · obtain ⟨rfl, -⟩ := hf
              refine ⟨?_⟩
              go_wp2
              exact ⟨rfl, .pointer (some ⟨qb, qo + 1, none⟩), by kernel_rfl, Below.refl _ _, rfl⟩
            refine wf_stepK [13] [fun _ => t13 = .pointer (some ⟨qb, qo + 1, none⟩)] (by kernel_rfl) (by kernel_rfl) (fun wf hb hf => ?_) (fun t14 => ?_)
            · obtain ⟨rfl, -⟩ := hf
              refine ⟨?_⟩
              have z0 := (hb.cell (p := ⟨qb, qo + 1, none⟩) (Nat.lt_of_lt_of_le hqb hsw)).trans qy1
              go_wp2
              exact ⟨rfl, .int .i64 (y1), by kernel_rfl, Below.refl _ _, rfl⟩
            refine wf_stepK [7, 14] [fun _ => t7 = .int .i64 (x0), fun _ => t14 = .int .i64 (y1)] (by kernel_rfl) (by kernel_rfl) (fun wf hb hf => ?_) (fun t15 => ?_)
            · obtain ⟨rfl, rfl, -⟩ := hf
              refine ⟨?_⟩
              go_wp2
              exact ⟨rfl, .slice (some ⟨wf.heap.size, 0, none⟩) 2 2, by kernel_rfl, bal (Below.refl _ _) _, _, rfl, hb.size, Blk.newAt rfl⟩
            refine wf_doneK [0, 15] [fun _ => t0 = .slice A' M.length c', NewI wr.heap.size x0 y1 t15] (by kernel_rfl) (by kernel_rfl) (fun w9 b9 hf => ?_)
            obtain ⟨rfl, ⟨G, rfl, hGl, hG⟩, -⟩ := hf
            show wpList _ _ _ [_, _] _ _
            refine wpList_frame (by simp [Act.put]; rfl) ?_
            have hO9 : EntsOw w9 (news w w9) A' c' M := (hF8.out.below entO b9).mono (fun q hq => (⟨hq.1, Nat.lt_of_lt_of_le hq.2 b9.size⟩ : news w w9 q)) (fun q hq => hq.2)
            have hB9 := btr HB8.out b9
            have hI9 := NewI.ints hG
            go_wp2_with fail
            refine (addEntry_s (news w w9) _ _ _ _ _ [x0, y1] _ _ hO9 HA.out hasc.out hI9 (by omega) HKK.out.2.1 (by simp) HKK.out.2.2 (by omega) (by omega)).mono ?_
            rintro e w2 ⟨A2, c2, rfl, ho2, g2⟩
            have hs2 := g2.size
            have hb2 := g2.below hB9 (fun q hq => hq.1)
            have hsz9 := hB9.size
            have ho3 : EntsOw w2 (news w w2) A2 c2 (insK lessB M [x0, y1] 1) := ho2.mono (fun q hq => by
              rcases hq with hq | hq
              · exact ⟨hq.1, by have := hq.2; omega⟩
              · exact ⟨by have := hq.1; omega, hq.2⟩) (fun q hq => hq.2)
            have hA2 := some_of_pos ho3 (insK_pos _ _ _)
            have HO3 := Lib.hid ho3
            have HBB := Lib.hid hb2
            have HA3 := Lib.hid hA2
            have HLN : Hid ((insK lessB M [x0, y1] 1).length = (AddL [] (cpTo a b i (k + 1))).length) := by rw [Hid, HST.out]
            clear ho2 ho3 g2 hb2 hA2 hO9 hB9 hI9 hG hF8 HB8 b9 pa pb' px0 qy1 hsw
            go_wp2
            go_roundw
            case rel => exact ⟨k + 1, A2, c2, by omega, by go_num, by rw [HLN.out], HA3.out, by rw [HST.out]; exact HO3.out, HBB.out⟩
            case measure => simp [intOf]; omega
          · have hcmp : (x1 == y0) = false := by simpa using hxy
            rw [if_neg hxy, List.append_nil] at hst
            have HST : Hid (AddL [] (cpTo a b i (k + 1)) = M) := by rw [Hid, hst, HM.out]
            clear hst hxy
            go_wp2_with fail
            refine wp_region_facts [[], [], [0, 1], [0, 1, 2], List.range 4, List.range 5, List.range 6, [], [], [7, 8], [7, 8, 9], [7, 8, 9, 10], [7, 8, 9, 10, 11], [7, 8, 9, 10, 11, 12]]
              [fun v' _ => v' = .slice (some ⟨ab, ao, none⟩) a.length c, fun v' _ => v' = .int .i64 ((i : Nat)), fun v' _ => v' = .pointer (some ⟨ab, ao + i * 2, none⟩), fun v' _ => v' = .pointer (some ⟨ab, ao + i * 2, none⟩), fun v' _ => v' = .slice (some ⟨pb, po, none⟩) a[i].1.length pc, fun v' _ => v' = .pointer (some ⟨pb, po + 1, none⟩), fun v' _ => v' = .int .i64 (x1), fun v' _ => v' = .slice (some ⟨bb, bo, none⟩) b.length d, fun v' _ => v' = .int .i64 ((k : Nat)), fun v' _ => v' = .pointer (some ⟨bb, bo + k * 2, none⟩), fun v' _ => v' = .pointer (some ⟨bb, bo + k * 2, none⟩), fun v' _ => v' = .slice (some ⟨qb, qo, none⟩) b[k].1.length qc, fun v' _ => v' = .pointer (some ⟨qb, qo, none⟩), fun v' _ => v' = .int .i64 (y0)]
              (by kernel_rfl) (by kernel_rfl) rfl ⟨stable_pure _, stable_pure _, stable_pure _, stable_pure _, stable_pure _, stable_pure _, stable_pure _, stable_pure _, stable_pure _, stable_pure _, stable_pure _, stable_pure _, stable_pure _, stable_pure _, trivial⟩ ?_
            refine wf_stepK [] [] (by kernel_rfl) (by kernel_rfl) (fun wf hb hf => ?_) (fun t0 => ?_)
            · refine ⟨?_⟩
              go_wp2
              exact ⟨rfl, .slice (some ⟨ab, ao, none⟩) a.length c, by kernel_rfl, Below.refl _ _, rfl⟩
            refine wf_stepK [] [] (by kernel_rfl) (by kernel_rfl) (fun wf hb hf => ?_) (fun t1 => ?_)
            · refine ⟨?_⟩
              go_wp2
              exact ⟨rfl, .int .i64 ((i : Nat)), by kernel_rfl, Below.refl _ _, rfl⟩
            refine wf_stepK [0, 1] [fun _ => t0 = .slice (some ⟨ab, ao, none⟩) a.length c, fun _ => t1 = .int .i64 ((i : Nat))] (by kernel_rfl) (by kernel_rfl) (fun wf hb hf => ?_) (fun t2 => ?_)
            · obtain ⟨rfl, rfl, -⟩ := hf
              refine ⟨?_⟩
              go_wp2
              exact ⟨rfl, .pointer (some ⟨ab, ao + i * 2, none⟩), by kernel_rfl, Below.refl _ _, rfl⟩
            refine wf_stepK [2] [fun _ => t2 = .pointer (some ⟨ab, ao + i * 2, none⟩)] (by kernel_rfl) (by kernel_rfl) (fun wf hb hf => ?_) (fun t3 => ?_)
            · obtain ⟨rfl, -⟩ := hf
              refine ⟨?_⟩
              go_wp2
              exact ⟨rfl, .pointer (some ⟨ab, ao + i * 2, none⟩), by kernel_rfl, Below.refl _ _, rfl⟩
            refine wf_stepK [3] [fun _ => t3 = .pointer (some ⟨ab, ao + i * 2, none⟩)] (by kernel_rfl) (by kernel_rfl) (fun wf hb hf => ?_) (fun t4 => ?_)
            · obtain ⟨rfl, -⟩ := hf
              refine ⟨?_⟩
              have z0 := (hb.cell (p := ⟨ab, ao + i * 2, none⟩) (Nat.lt_of_lt_of_le hab hsw)).trans pa
              go_wp2
              exact ⟨rfl, .slice (some ⟨pb, po, none⟩) a[i].1.length pc, by kernel_rfl, Below.refl _ _, rfl⟩
            refine wf_stepK [4] [fun _ => t4 = .slice (some ⟨pb, po, none⟩) a[i].1.length pc] (by kernel_rfl) (by kernel_rfl) (fun wf hb hf => ?_) (fun t5 => ?_)
            · obtain ⟨rfl, -⟩ := hf
              refine ⟨?_⟩
              go_wp2
              exact ⟨rfl, .pointer (some ⟨pb, po + 1, none⟩), by kernel_rfl, Below.refl _ _, rfl⟩
            refine wf_stepK [5] [fun _ => t5 = .pointer (some ⟨pb, po + 1, none⟩)] (by kernel_rfl) (by kernel_rfl) (fun wf hb hf => ?_) (fun t6 => ?_)
            · obtain ⟨rfl, -⟩ := hf
              refine ⟨?_⟩
              have z0 := (hb.cell (p := ⟨pb, po + 1, none⟩) (Nat.lt_of_lt_of_le hpb hsw)).trans px1
              go_wp2
              exact ⟨rfl, .int .i64 (x1), by kernel_rfl, Below.refl _ _, rfl⟩
            refine wf_stepK [] [] (by kernel_rfl) (by kernel_rfl) (fun wf hb hf => ?_) (fun t7 => ?_)
            · refine ⟨?_⟩
              go_wp2
              exact ⟨rfl, .slice (some ⟨bb, bo, none⟩) b.length d, by kernel_rfl, Below.refl _ _, rfl⟩
            refine wf_stepK [] [] (by kernel_rfl) (by kernel_rfl) (fun wf hb hf => ?_) (fun t8 => ?_)
            · refine ⟨?_⟩
              go_wp2
              exact ⟨rfl, .int .i64 ((k : Nat)), by kernel_rfl, Below.refl _ _, rfl⟩
            refine wf_stepK [7, 8] [fun _ => t7 = .slice (some ⟨bb, bo, none⟩) b.length d, fun _ => t8 = .int .i64 ((k : Nat))] (by kernel_rfl) (by kernel_rfl) (fun wf hb hf => ?_) (fun t9 => ?_)
            · obtain ⟨rfl, rfl, -⟩ := hf
              refine ⟨?_⟩
              go_wp2
              exact ⟨rfl, .pointer (some ⟨bb, bo + k * 2, none⟩), by kernel_rfl, Below.refl _ _, rfl⟩
            refine wf_stepK [9] [fun _ => t9 = .pointer (some ⟨bb, bo + k * 2, none⟩)] (by kernel_rfl) (by kernel_rfl) (fun wf hb hf => ?_) (fun t10 => ?_)
            · obtain ⟨rfl, -⟩ := hf
              refine ⟨?_⟩
              go_wp2
              exact ⟨rfl, .pointer (some ⟨bb, bo + k * 2, none⟩), by kernel_rfl, Below.refl _ _, rfl⟩
            refine wf_stepK [10] [fun _ => t10 = .pointer (some ⟨bb, bo + k * 2, none⟩)] (by kernel_rfl) (by kernel_rfl) (fun wf hb hf => ?_) (fun t11 => ?_)
            · obtain ⟨rfl, -⟩ := hf
              refine ⟨?_⟩
              have z0 := (hb.cell (p := ⟨bb, bo + k * 2, none⟩) (Nat.lt_of_lt_of_le hbb hsw)).trans pb'
              go_wp2
              exact ⟨rfl, .slice (some ⟨qb, qo, none⟩) b[k].1.length qc, by kernel_rfl, Below.refl _ _, rfl⟩
            refine wf_stepK [11] [fun _ => t11 = .slice (some ⟨qb, qo, none⟩) b[k].1.length qc] (by kernel_rfl) (by kernel_rfl) (fun wf hb hf => ?_) (fun t12 => ?_)
            · obtain ⟨rfl, -⟩ := hf
              refine ⟨?_⟩
              go_wp2
              exact ⟨rfl, .pointer (some ⟨qb, qo, none⟩), by kernel_rfl, Below.refl _ _, rfl⟩
            refine wf_stepK [12] [fun _ => t12 = .pointer (some ⟨qb, qo, none⟩)] (by kernel_rfl) (by kernel_rfl) (fun wf hb hf => ?_) (fun t13 => ?_)
            · obtain ⟨rfl, -⟩ := hf
              refine ⟨?_⟩
              have z0 := (hb.cell (p := ⟨qb, qo, none⟩) (Nat.lt_of_lt_of_le hqb hsw)).trans qy0
              go_wp2
              exact ⟨rfl, .int .i64 (y0), by kernel_rfl, Below.refl _ _, rfl⟩
            refine wf_doneK [6, 13] [fun _ => t6 = .int .i64 (x1), fun _ => t13 = .int .i64 (y0)] (by kernel_rfl) (by kernel_rfl) (fun w8 b8 hf => ?_)
            obtain ⟨rfl, rfl, -⟩ := hf
            show wpList _ _ _ [_] _ _
            refine wpList_frame (by simp [Act.put]; rfl) ?_
            have HO8 := Lib.hid ((HO.out.below entO b8).mono (fun q hq => (⟨hq.1, Nat.lt_of_lt_of_le hq.2 b8.size⟩ : news w w8 q)) (fun q hq => hq.2))
            have HB8 := Lib.hid (btr HB.out b8)
            clear pa pb' px0 px1 qy0 qy1 HO HB hsw b8
            go_wp2
            go_roundw
            case rel => exact ⟨k + 1, A', c', by omega, by go_num, by rw [HST.out], HA.out, by rw [HST.out]; exact HO8.out, HB8.out⟩
            case measure => simp [intOf]; omega
        · obtain rfl : k = b.length := by omega
          rw [HN.out] at hown
          have HO := Lib.hid hown
          have HA := Lib.hid hA'
          have HB := Lib.hid hbel
          have HNL : Hid ((AddL [] (cpTo a b i b.length)).length = (AddL [] (cpTo a b (i + 1) 0)).length) := by rw [Hid, HN.out]
          clear hown hA' hbel
          go_wp2
          go_roundw
          case rel => exact ⟨i + 1, A', c', by omega, by go_num, by rw [HNL.out], HA.out, HO.out, HB.out⟩
          case measure => simp [intOf]; omega
    · obtain rfl : i = a.length := by omega
      rw [cpTo_end] at hown
      have hok2 := HOK.out a.length 0
      rw [cpTo_end] at hok2
      have HO := Lib.hid hown
      have HB := Lib.hid hbel
      have HE : Hid (AddL [] (cpTo a b a.length 0) = AddL [] (cmpsE a b)) := by rw [Hid, cpTo_end]
      clear hown hbel hA'
      simp only [HE.out]
      go_wp2_with fail
      refine (distinct_s _ _ _ _ (SlOw.at_ entO HO.out) (by omega) hok2.2.1).mono ?_
      rintro e w2 ⟨A2, c2, rfl, ho2, b2⟩
      have hs2 := HB.out.size
      have HO2 := Lib.hid (ho2.mono (fun q hq => (⟨by have := hq.1; omega, hq.2⟩ : news w w2 q)) (fun q hq => hq.2))
      have HBB := Lib.hid (btr HB.out b2)
      clear ho2 b2 HO HB
      go_wp2_with fail
      go_ret
      exact ⟨A2, c2, rfl, HO2.out, HBB.out⟩
end Go.Proofs.YtifjenleoagefaaGreat
