/- HELPER, no statement of the seat: the model's Consolidate. -/
import Derived.Test.YtffgonddephkkaaGreatAddU
import Derived.Test.YtffgonddephkkaaGreatAddZ
namespace Go.Proofs.YtffgonddephkkaaGreat
open Go.RowKit Go.Sort
set_option linter.unusedSimpArgs false
set_option linter.unusedVariables false

/-! ### Sums -/
theorem wIn_insU {z : List Upd} {b x d : Int} (h : wIn z b) (hd : -d ≤ x ∧ x ≤ d) (hd0 : 0 ≤ d) (hb0 : 0 ≤ b) (r : KeyU) : wIn (insK ltU z r x) (b + d) := by
  induction z with
  | nil =>
    intro e he
    simp [insK] at he
    subst he
    simp only
    omega
  | cons y l ih =>
    intro e he
    have hy := h y (by simp)
    have hl : wIn l b := fun q hq => h q (by simp [hq])
    unfold insK at he
    split at he
    · rcases List.mem_cons.1 he with rfl | he
      · omega
      · exact ih hl e he
    · split at he
      · rcases List.mem_cons.1 he with rfl | he
        · simp only; omega
        · have := hl e he; omega
      · rcases List.mem_cons.1 he with rfl | he
        · simp only; omega
        · have := h e he; omega
theorem rows_insU {z : List Upd} {n : Nat} (h : rowsU z n) {r : KeyU} (hr : r.1.length ≤ n) (x : Int) : rowsU (insK ltU z r x) n := by
  intro e he
  rcases insK_key he with h1 | ⟨q, hq, h1⟩
  · rw [h1]; exact hr
  · rw [h1]; exact h q hq
theorem insK_posU (z : List Upd) (r : KeyU) (x : Int) : 0 < (insK ltU z r x).length := by
  cases z with
  | nil => simp [insK]
  | cons y l =>
    unfold insK
    split
    · simp
    · split <;> simp
theorem AddLU_take {a b : List Upd} {k : Nat} (h : k < b.length) : AddLU a (b.take (k + 1)) = insK ltU (AddLU a (b.take k)) b[k].1 b[k].2 := by
  rw [List.take_succ_eq_append_getElem h, AddLU, List.foldl_append]
  rfl
theorem some_of_posU {w : World} {S : Fp} {A : Option Addr} {c : Nat} {z : List Upd} (h : UpdsOw w S A c z) (hp : 0 < z.length) : A ≠ none := by
  obtain ⟨css, F, h⟩ := h
  rcases h.form with ⟨_, _, rfl⟩ | ⟨g, e, _⟩
  · simp at hp
  · rw [e]; simp
theorem wIn_nextU {z : List Upd} {k : Nat} (h : wIn z (1000000 + (k : Int) * 1000000 + 1000000)) : wIn z (1000000 + ((k + 1 : Nat) : Int) * 1000000) := fun e he => by
  have := h e he
  push_cast
  constructor <;> omega

/-! ### The places of what is not zero -/
def nzToU (z : List Upd) (k : Nat) : List Nat := (List.range k).filter fun j => decide ((nthU z j).2 ≠ 0)
theorem nzToU_step {z : List Upd} {k : Nat} (h : k < z.length) : nzToU z (k + 1) = nzToU z k ++ if z[k].2 ≠ 0 then [k] else [] := by
  unfold nzToU
  rw [List.range_succ, List.filter_append]
  congr 1
  by_cases e : z[k].2 = 0 <;> simp [nthU_get h, e]
theorem nzToU_len (z : List Upd) (k : Nat) : (nzToU z k).length ≤ k := by
  have := List.length_filter_le (fun j => decide ((nthU z j).2 ≠ 0)) (List.range k)
  simpa [nzToU] using this
theorem nzToU_lt {z : List Upd} {k j : Nat} (h : j ∈ nzToU z k) : j < k := by
  have := (List.mem_filter.1 h).1
  simpa using this
theorem nzToU_nodup (z : List Upd) (k : Nat) : (nzToU z k).Nodup := List.Pairwise.sublist List.filter_sublist List.nodup_range
theorem nzToU_nz (z : List Upd) : ∀ k, k ≤ z.length → (nzToU z k).map (fun j => z.getD j (([], (0, 0)), 0)) = nz (z.take k) := by
  intro k
  induction k with
  | zero => intro _; rfl
  | succ k ih =>
    intro hk
    have hk' : k < z.length := by omega
    rw [nzToU_step hk', List.map_append, ih (by omega), List.take_succ_eq_append_getElem hk', nz, nz, List.filter_append]
    congr 1
    by_cases e : z[k].2 = 0 <;> simp [e, hk']

set_option maxRecDepth 100000 in
set_option maxHeartbeats 6400000 in
theorem consolidate_w (B : Option Addr) (d : Nat) (b : List Upd) (w : World) (hy : UpdsAt w B b) (hb4 : b.length ≤ 100000) (hbr : rowsU b 10) (hbw : wIn b 1000000) :
    Calls Tryz.prog 15 #[.slice B b.length d] w fun e w' => ∃ A' c', e = .returned (.slice A' (chkT (nz (NormLU b))).length c') ∧ UpdsOw w' (news w w') A' c' (chkT (nz (NormLU b))) ∧ Below w.heap.size w w' := by
  obtain ⟨i0, hi, hz0, hz1, hz2⟩ := info_parts Tryz.infoUpd
  have HAA : Hid (Asc ltU ([] : List Upd)) := List.Pairwise.nil
  have hmade := SlF.made UpdO 4 66 w #[] 0 (by simp [maxLen]) (by simp) (S := news w (w.alloc (.cells #[] 66))) ⟨Nat.le_refl _, by simp⟩ (fun k hk => by have := hk.2; simpa using this)
  have HM : Hid (UpdsOw (w.alloc (.cells #[] 66)) (news w (w.alloc (.cells #[] 66))) (some ⟨w.heap.size, 0, none⟩) 0 []) := ⟨_, _, hmade⟩
  clear hmade
  go_enter Tryz.func15, Tryz.ntmps15
  go_wp2
  go_loopw [3, 4] (fun v i wr => ∃ k A' c', k ≤ b.length ∧ i = .int .i64 (k : Nat) ∧ v = .slice A' (AddLU [] (b.take k)).length c' ∧ A' ≠ none ∧ UpdsOw wr (news w wr) A' c' (AddLU [] (b.take k)) ∧ (AddLU [] (b.take k)).length ≤ k ∧ rowsU (AddLU [] (b.take k)) 4194304 ∧ wIn (AddLU [] (b.take k)) (1000000 + k * 1000000) ∧ Below w.heap.size w wr) (fun _ i _ => b.length - (intOf i).toNat)
  case atStart => exact ⟨0, some ⟨w.heap.size, 0, none⟩, 0, by omega, rfl, rfl, by simp, HM.out, by simp [AddLU], (fun e he => by cases he), (fun e he => by cases he), bal (Below.refl _ _) _⟩
  case round =>
    obtain ⟨k, A', c', hk, rfl, rfl, hA', hown, hlen, hrows, hwts, hbel⟩ := hrel
    have hs1 := hbel.size
    by_cases hlt : k < b.length
    · obtain ⟨bb, off, RB, rd, rfl, hbl', hc0, hc1, hc2, hc3, hml, hrow⟩ := hy.get k hlt
      have q0 := (hbel.cell (p := ⟨bb, off + k * 4, none⟩) hbl').trans hc0
      have q1 := (hbel.cell (p := ⟨bb, off + k * 4 + 1, none⟩) hbl').trans hc1
      have q2 := (hbel.cell (p := ⟨bb, off + k * 4 + 2, none⟩) hbl').trans hc2
      have q3 := (hbel.cell (p := ⟨bb, off + k * 4 + 3, none⟩) hbl').trans hc3
      have hlt' : (k : Int) < b.length := by omega
      have hst := AddLU_take (a := []) hlt
      have hwk := hbw.get hlt
      have hrk := hbr.get hlt
      have hasc := AddLU_asc HAA.out (b.take k)
      have hl2 := insK_length (lt := ltU) (AddLU [] (b.take k)) b[k].1 b[k].2
      have hp2 := insK_posU (AddLU [] (b.take k)) b[k].1 b[k].2
      have hr2 := rows_insU hrows (r := b[k].1) (by omega) b[k].2
      have hw2 := wIn_insU hwts ⟨hwk.1, hwk.2⟩ (by omega) (by omega) b[k].1
      have hw3 : wIn (AddLU [] (b.take k)) 1099511627776 := fun e he => by have := hwts e he; omega
      have hwk1 : -1099511627776 ≤ b[k].2 := by omega
      have hwk2 : b[k].2 ≤ 1099511627776 := by omega
      have HST := Lib.hid hst
      have HO := Lib.hid hown
      have HR2 := Lib.hid hr2
      have HW2 := Lib.hid hw2
      have HW3 := Lib.hid hw3
      have HASC := Lib.hid hasc
      have HR := Lib.hid hrows
      have HL2 := Lib.hid hl2
      have HP2 := Lib.hid hp2
      clear hst hown hr2 hw2 hw3 hasc hrows hwts hl2 hp2 hc0 hc1 hc2 hc3 hml
      generalize hM : AddLU [] (b.take k) = M at *
      clear hM
      go_wp2_with fail
      refine (addUpdate_s (news w wr) _ _ M _ _ b[k].1.1 b[k].1.2.1 b[k].1.2.2 b[k].2 _ HO.out hA' HASC.out (hrow.below hbel) (by omega) HR.out (by omega) HW3.out hwk1 hwk2).mono ?_
      rintro e w2 ⟨A2, c2, rfl, ho2, g2⟩
      have hs2 := g2.size
      have hb2 := g2.below hbel (fun q hq => hq.1)
      have ho3 : UpdsOw w2 (news w w2) A2 c2 (insK ltU M b[k].1 b[k].2) := ho2.mono (fun q hq => by
        rcases hq with hq | hq
        · exact ⟨hq.1, by have := hq.2; omega⟩
        · exact ⟨by have := hq.1; omega, hq.2⟩) (fun q hq => hq.2)
      have hA2 := some_of_posU ho3 HP2.out
      have HO3 := Lib.hid ho3
      clear ho2 ho3 g2 hbel hrow q0 q1 q2 q3 HO
      go_wp2
      go_roundw
      case rel => exact ⟨k + 1, A2, c2, by omega, by go_num, by rw [HST.out], hA2, by rw [HST.out]; exact HO3.out, by rw [HST.out]; have := HL2.out; omega, by rw [HST.out]; exact HR2.out, by rw [HST.out]; exact wIn_nextU HW2.out, hb2⟩
      case measure => simp [intOf]; omega
    · obtain rfl : k = b.length := by omega
      rw [List.take_length] at hown hlen hrows hwts
      have HT := Lib.hid (List.take_length (l := b))
      simp only [HT.out]
      have hNL : AddLU [] b = NormLU b := rfl
      rw [hNL] at hown hlen hrows ⊢
      clear hwts hNL HAA HM
      generalize hz : NormLU b = z at hown hlen hrows ⊢
      have hn : z.length ≤ 100000 := by omega
      have HZ := Lib.hid hz
      clear hz hlen
      obtain ⟨V, rfl⟩ : ∃ V : World, V = wr := ⟨wr, rfl⟩
      obtain ⟨css, F, hF⟩ := hown
      have hat : UpdsAt V A' z := hF.at_ updO
      have HF := Lib.hid hF
      have hcl := hF.clen
      clear hF
      go_wp2
      go_loopw [5, 6] (fun v i wr => ∃ k A'' c'', k ≤ z.length ∧ i = .int .i64 (k : Nat) ∧ v = .slice A'' (nzToU z k).length c'' ∧ wr.ownsRow V.heap.size 66 4 (.slice A'' (nzToU z k).length c'') (nzToU z k).length ((nzToU z k).map fun j => css.getD j []).flatten ∧ Below V.heap.size V wr) (fun _ i _ => z.length - (intOf i).toNat)
      case atStart => exact ⟨0, _, _, by omega, rfl, rfl, World.ownsRow_lit V #[] 0 (Nat.le_refl _) (by simp [maxLen]) (by simp), bal (Below.refl _ _) _⟩
      case round =>
        obtain ⟨k, A2, c2, hk, rfl, rfl, hown, hb2⟩ := hrel
        by_cases hlt : k < z.length
        · obtain ⟨bb, off, RA, rc, hA, hbl, hc0, hc1, hc2, hc3, -, -⟩ := hat.get k hlt
          subst hA
          have q0 := (hb2.cell (p := ⟨bb, off + k * 4, none⟩) hbl).trans hc0
          have q1 := (hb2.cell (p := ⟨bb, off + k * 4 + 1, none⟩) hbl).trans hc1
          have q2 := (hb2.cell (p := ⟨bb, off + k * 4 + 2, none⟩) hbl).trans hc2
          have q3 := (hb2.cell (p := ⟨bb, off + k * 4 + 3, none⟩) hbl).trans hc3
          have hst := nzToU_step hlt
          have hlen := nzToU_len z k
          have hs2 := hb2.size
          have hlt' : (k : Int) < z.length := by omega
          by_cases hp : z[k].2 = 0
          · have hne : (z[k].2 != 0) = false := by simp [hp]
            rw [if_neg (by simp [hp]), List.append_nil] at hst
            have HST := Lib.hid hst
            have HO := Lib.hid hown
            clear hst hp hc0 hc1 hc2 hc3 hown
            generalize hM : nzToU z k = M at *
            clear hM
            go_wp2
            go_roundw
            case rel => exact ⟨k + 1, A2, c2, by omega, by go_num, by rw [HST.out], by rw [HST.out]; exact HO.out, hb2⟩
            case measure => simp [intOf]; omega
          · have hne : (z[k].2 != 0) = true := by simp [hp]
            rw [if_pos hp] at hst
            have hcs : css.getD k [] = [.slice RA z[k].1.1.length rc, .int .i64 z[k].1.2.1, .int .i64 z[k].1.2.2, .int .i64 z[k].2] := by
              have h1 : k < css.length := by rw [hcl]; exact hlt
              have hform := HF.out.form
              obtain ⟨g, hg⟩ : ∃ g, some (⟨bb, off, none⟩ : Addr) = some ⟨g, 0, none⟩ := by
                rcases hform with ⟨h, _⟩ | ⟨g, h, _⟩
                · cases h
                · exact ⟨g, h⟩
              injection hg with hg
              injection hg with hg1 hg2
              subst hg1
              subst hg2
              have c0 := HF.out.cell k h1 0 (by omega)
              have c1 := HF.out.cell k h1 1 (by omega)
              have c2 := HF.out.cell k h1 2 (by omega)
              have c3 := HF.out.cell k h1 3 (by omega)
              have hl2 := HF.out.elen _ (List.getElem_mem h1)
              simp only [Nat.zero_add, Nat.add_zero] at c0 c1 c2 c3 hc0 hc1 hc2 hc3
              rw [hc0] at c0
              rw [hc1] at c1
              rw [hc2] at c2
              rw [hc3] at c3
              rw [getD_lt _  h1]
              match hm : css[k], hl2 with
              | [u0, u1, u2, u3], _ =>
                rw [hm] at c0 c1 c2 c3
                simp at c0 c1 c2 c3
                rw [c0, c1, c2, c3]
            have HST := Lib.hid hst
            have HCS := Lib.hid hcs
            clear hst hp hc0 hc1 hc2 hc3 hcs
            generalize hM : nzToU z k = M at *
            clear hM
            go_wp2_with (at_builtin; refine wpList_append_src _ rfl _ _ 28 rfl V.heap.size 66 i0 (.agg #[.slice none 0 0, .int .i64 0, .int .i64 0, .int .i64 0]) 4 48 Tryz.underlying28 hi hz0 hz1 hz2 rfl (by decide) _ _ _ rfl (hown.alloc _) (some ⟨wr.heap.size, 0, none⟩) 1 1 [.slice RA z[k].1.1.length rc, .int .i64 z[k].1.2.1, .int .i64 z[k].1.2.2, .int .i64 z[k].2] rfl rfl (fun h => by cases h) upd_srcs upd_ones (by unfold maxLen; omega) (by omega) (by simp; omega) ?_)
            intro v' w3 hown' hgrow hloc
            obtain ⟨A3, c3, rfl⟩ := own_slice hown'
            have hb3 : Below V.heap.size V w3 := (bal hb2 _).grown hgrow (by simp; omega) (fun q hq => (World.ownsRow.lt hown q hq).1)
            have hrow3 : w3.ownsRow V.heap.size 66 4 (.slice A3 (nzToU z (k + 1)).length c3) (nzToU z (k + 1)).length ((nzToU z (k + 1)).map fun j => css.getD j []).flatten := by
              rw [HST.out]
              simp only [List.length_append, List.length_cons, List.length_nil, Nat.zero_add, List.map_append, List.map_cons, List.map_nil, List.flatten_append, List.flatten_cons, List.flatten_nil, List.append_nil, HCS.out]
              exact hown'
            have HR := Lib.hid hrow3
            have HL : Hid (M.length + 1 = (nzToU z (k + 1)).length) := by rw [HST.out]; simp [Hid]
            clear hown' hgrow hloc hrow3 hown hb2 q0 q1 q2 q3 HCS
            go_wp2
            go_roundw
            case rel => exact ⟨k + 1, A3, c3, by omega, by go_num, by rw [HL.out], HR.out, hb3⟩
            case measure => simp [intOf]; omega
        · obtain rfl : k = z.length := by omega
          have hF2 := HF.out.loc updO (fun q hq => hb2.block q (HF.out.lt q hq))
          have hp := hF2.pick (U := plus (news w V) V wr) updO (([], (0, 0)), 0) (nzToU z z.length) (nzToU_nodup _ _) (fun j hj => nzToU_lt hj) (ownsRow_base0 hown) (fun q hq => .inr (fun h => by
            have h1 := (World.ownsRow.lt hown q (by rw [ownBlock_slice]; exact hq)).1
            have h2 := HF.out.lt q h
            omega)) (fun q hq => by
            rcases hq with hq | hq
            · exact .inl hq
            · exact .inr (World.ownsRow.lt hown q (by rw [ownBlock_slice]; exact hq))) (fun q hq => by
            rcases hq with hq | hq
            · exact hF2.lt q hq
            · exact hq.2)
          have he := nzToU_nz z z.length (Nat.le_refl _)
          rw [List.take_length] at he
          rw [he] at hp
          have HL : Hid ((nzToU z z.length).length = (nz z).length) := by rw [← he]; simp [Hid]
          have hs2 := hb2.size
          have hpo : UpdsOw wr (news w wr) A2 c2 (nz z) := SlOw.mono ⟨_, _, hp⟩ (fun q hq => by
            rcases hq with hq | hq
            · exact ⟨hq.1, by have := hq.2; omega⟩
            · exact ⟨by have := hq.1; omega, hq.2⟩) (fun q hq => hq.2)
          have hatn : UpdsAt wr A2 (nz z) := SlOw.at_ updO hpo
          have hnl : (nz z).length ≤ z.length := List.length_filter_le _ _
          have hnr : rowsU (nz z) 4194304 := fun e he => hrows e (List.mem_filter.1 he).1
          have HP := Lib.hid hpo
          have HB2 := Lib.hid (btr hbel hb2)
          have hcv := validTrace_s A2 c2 (nz z) wr hatn (by omega) hnr
          clear hp he hF2 hown hpo hatn hnr
          simp only [HL.out]
          cases ht : trB (nz z)
          · rw [ht] at hcv
            have HC : Hid (chkT (nz z) = []) := by simp [Hid, chkT, ht]
            clear ht
            go_wp2_with fail
            refine hcv.mono ?_
            rintro e w4 ⟨rfl, b4⟩
            have hB4 := btr HB2.out b4
            have hs4 := hB4.size
            have HM := Lib.hid (SlF.made UpdO 4 66 w4 #[] 0 (by simp [maxLen]) (by simp) (S := news w (w4.alloc (.cells #[] 66))) ⟨hs4, by simp⟩ (fun k hk => by have := hk.2; simpa using this))
            clear hcv
            go_wp2
            go_ret
            exact ⟨_, 0, by rw [HZ.out, HC.out]; rfl, by rw [HZ.out, HC.out]; exact ⟨_, _, HM.out⟩, bal hB4 _⟩
          · rw [ht] at hcv
            have HC : Hid (chkT (nz z) = nz z) := by simp [Hid, chkT, ht]
            clear ht
            go_wp2_with fail
            refine hcv.mono ?_
            rintro e w4 ⟨rfl, b4⟩
            have hs4 := b4.size
            have HP4 := Lib.hid ((SlOw.below updO HP.out b4).mono (S' := news w w4) (fun k hk => ⟨hk.1, Nat.lt_of_lt_of_le hk.2 hs4⟩) (fun k hk => hk.2))
            have hB4 := btr HB2.out b4
            clear hcv HP
            go_wp2
            go_ret
            exact ⟨A2, c2, by rw [HZ.out, HC.out]; rfl, by rw [HZ.out, HC.out]; exact HP4.out, hB4⟩

theorem consolidate_s (B : Option Addr) (d : Nat) (b : List Upd) (w : World) (hy : UpdsAt w B b) (hb4 : b.length ≤ 400) (hb : sumsU b = true) :
    Calls Tryz.prog 15 #[.slice B b.length d] w fun e w' => ∃ A' c', e = .returned (.slice A' (chkT (nz (NormLU b))).length c') ∧ UpdsOw w' (news w w') A' c' (chkT (nz (NormLU b))) ∧ Below w.heap.size w w' :=
  consolidate_w B d b w hy (by omega) (fun e he => Nat.le_trans (sums_rowsU hb e he) (by decide)) (sums_wtsU hb)
end Go.Proofs.YtffgonddephkkaaGreat
