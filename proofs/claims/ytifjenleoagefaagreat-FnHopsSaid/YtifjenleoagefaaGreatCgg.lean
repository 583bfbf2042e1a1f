/- HELPER, no statement of the seat: several texts in one file. -/
import Derived.Test.YtifjenleoagefaaGreatCgc
import Derived.Test.YtifjenleoagefaaGreatEdg
import Derived.Test.YtifjenleoagefaaGreatCrd
import Derived.Test.YtifjenleoagefaaGreatRs
import Derived.Test.YtifjenleoagefaaGreatRfn
/- HELPER, no statement of the seat: the model's distanceIn. -/
namespace Go.Proofs.YtifjenleoagefaaGreat
open Go.RowKit Go.Sort
set_option linter.unusedSimpArgs false
set_option linter.unusedVariables false

def dinL : List Ent → Int → Int → Int
  | [], _, _ => 0
  | e :: l, x, y => if gi e.1 0 = x ∧ gi e.1 1 = y then gi e.1 2 else dinL l x y
theorem dinL_step {es : List Ent} {k : Nat} (hk : k < es.length) (x y : Int) : dinL (es.drop k) x y = if gi es[k].1 0 = x ∧ gi es[k].1 1 = y then gi es[k].1 2 else dinL (es.drop (k + 1)) x y := by
  rw [List.drop_eq_getElem_cons hk]; rfl
theorem dinL_none : ∀ {l : List Ent} {x y : Int}, (∀ e ∈ l, ¬ (gi e.1 0 = x ∧ gi e.1 1 = y)) → dinL l x y = 0
  | [], _, _, _ => rfl
  | e :: l, x, y, h => by
    rw [dinL, if_neg (h e (by simp)), dinL_none (fun f hf => h f (by simp [hf]))]
theorem dinL_some : ∀ {l : List Ent} {x y d : Int}, (∃ e ∈ l, gi e.1 0 = x ∧ gi e.1 1 = y) → (∀ e ∈ l, gi e.1 0 = x ∧ gi e.1 1 = y → gi e.1 2 = d) → dinL l x y = d
  | [], _, _, _, ⟨e, he, _⟩, _ => by cases he
  | e :: l, x, y, d, ⟨f, hf, h1⟩, h => by
    by_cases hc : gi e.1 0 = x ∧ gi e.1 1 = y
    · rw [dinL, if_pos hc, h e (by simp) hc]
    · rw [dinL, if_neg hc]
      rcases List.mem_cons.1 hf with rfl | hf
      · exact absurd h1 hc
      · exact dinL_some ⟨f, hf, h1⟩ (fun g hg => h g (by simp [hg]))
theorem dinL_ent {T : List Int} (hT : ∀ x y, x < 20 → y < 20 → 0 ≤ getT T x y) {x y : Nat} (hx : x < 20) (hy : y < 20) : dinL (entT T) (x : Int) (y : Int) = getT T x y := by
  by_cases h0 : 0 < getT T x y
  · refine dinL_some ⟨([(x : Int), (y : Int), getT T x y], 1), mem_entT.2 ⟨x, y, hx, hy, h0, rfl⟩, rfl, rfl⟩ (fun e he h => ?_)
    obtain ⟨x', y', _, _, _, rfl⟩ := mem_entT.1 he
    obtain ⟨h1, h2⟩ := h
    have e1 : (x' : Int) = x := h1
    have e2 : (y' : Int) = y := h2
    have e3 : x' = x := by omega
    have e4 : y' = y := by omega
    subst e3; subst e4; rfl
  · rw [show getT T x y = 0 by have := hT x y hx hy; omega]
    refine dinL_none (fun e he h => ?_)
    obtain ⟨x', y', _, _, h3, rfl⟩ := mem_entT.1 he
    obtain ⟨h1, h2⟩ := h
    have e1 : (x' : Int) = x := h1
    have e2 : (y' : Int) = y := h2
    have e3 : x' = x := by omega
    have e4 : y' = y := by omega
    subst e3; subst e4
    exact h0 h3
theorem dinL_out {T : List Int} {x y : Int} (h : ¬ (0 ≤ x ∧ x < 20 ∧ 0 ≤ y ∧ y < 20)) : dinL (entT T) x y = 0 :=
  dinL_none (fun e he h2 => by
    obtain ⟨x', y', hx, hy, _, rfl⟩ := mem_entT.1 he
    obtain ⟨h1, h3⟩ := h2
    have e1 : (x' : Int) = x := h1
    have e2 : (y' : Int) = y := h3
    omega)
end Go.Proofs.YtifjenleoagefaaGreat

/- HELPER, no statement of the seat: the model's distances and CertifyClosure. -/
namespace Go.Proofs.YtifjenleoagefaaGreat
open Go.RowKit Go.Sort
set_option linter.unusedSimpArgs false
set_option linter.unusedVariables false

theorem adl3_ok : ∀ (xs M : List Ent) (n : Nat), (∀ e ∈ xs, e.1.length = 3 ∧ e.2 = 1) → n + xs.length ≤ 1000000 → M.length ≤ n → rowsIn M 4194304 → wts M (1000000 + (n : Int) * 1000000) →
    (AddL M xs).length ≤ n + xs.length ∧ rowsIn (AddL M xs) 4194304 ∧ wts (AddL M xs) (1000000 + ((n + xs.length : Nat) : Int) * 1000000)
  | [], M, n, _, _, h1, h2, h3 => ⟨by simpa [AddL] using h1, h2, by simpa [AddL] using h3⟩
  | e :: xs, M, n, he, hn, h1, h2, h3 => by
    have hee := he e (by simp)
    simp only [List.length_cons] at hn ⊢
    have := adl3_ok xs (insK lessB M e.1 e.2) (n + 1) (fun f hf => he f (by simp [hf])) (by omega) (by have := insK_length (lt := lessB) M e.1 e.2; omega) (rows_ins h2 (by omega) e.2) (by
      have hw := wts_ins (d := 1000000) h3 (x := e.2) ⟨by omega, by omega⟩ (by omega) (by omega) e.1
      intro f hf
      have := hw f hf
      push_cast
      constructor <;> omega)
    rw [show n + (xs.length + 1) = n + 1 + xs.length from by omega]
    exact this
theorem intZ_src1 {w1 : World} {E : TypeId} (x : Int) : ∀ a, some (⟨w1.heap.size, 0, none⟩ : Addr) = some a → ∀ j u, [Value.int .i64 x][j]? = some u → (w1.alloc (.cells #[.int .i64 x] E)).cell? (a.add j) = some u := by
  intro a ha j u hu
  injection ha with ha
  subst ha
  match j, hu with
  | 0, hu => simp at hu; subst hu; simp [Addr.add]
theorem intZ_one1 (x : Int) : ∀ u ∈ [Value.int .i64 x], u.oneCell' = true := by
  intro u hu
  simp at hu
  subst hu
  rfl
def dsTo (L : List (List Nat)) (i k : Nat) : List Ent := dstN 1 (L.take i) ++ ((prs (L.getD i [])).take k).map (wd (i + 1))
theorem dstN_len : ∀ (L : List (List Nat)) (n : Nat), (dstN n L).length ≤ L.length * 400
  | [], n => by simp [dstN]
  | l :: L, n => by
    have h1 := dstN_len L (n + 1)
    have h2 := prs_len l
    rw [dstN, List.length_append, List.length_map, List.length_cons, Nat.succ_mul]; omega
theorem dsTo_len {L : List (List Nat)} (hL : L.length ≤ 400) (i k : Nat) : (dsTo L i k).length ≤ 160400 := by
  have h1 := dstN_len (L.take i) 1
  have h2 : (L.take i).length ≤ 400 := by rw [List.length_take]; omega
  have h3 := prs_len (L.getD i [])
  rw [dsTo, List.length_append, List.length_map, List.length_take]
  have h4 : (L.take i).length * 400 ≤ 400 * 400 := Nat.mul_le_mul_right _ h2
  omega
theorem dsTo_three (L : List (List Nat)) (i k : Nat) : ∀ e ∈ dsTo L i k, e.1.length = 3 ∧ e.2 = 1 := fun e he => by
  rcases List.mem_append.1 he with h | h
  · exact dstN_three _ _ e h
  · obtain ⟨f, hf, rfl⟩ := List.mem_map.1 h
    have := (prs_row _ f (List.mem_of_mem_take hf)).2
    exact ⟨by simp [wd, this], rfl⟩
theorem dsTo_zero (L : List (List Nat)) (i : Nat) : dsTo L i 0 = dstN 1 (L.take i) := by simp [dsTo]
theorem dsTo_next {L : List (List Nat)} {i : Nat} (h : i < L.length) : dsTo L i (prs L[i]).length = dsTo L (i + 1) 0 := by
  rw [dsTo_zero, dstN_step L h, dsTo, show L.getD i [] = L[i] by simp [h], List.take_length]
theorem dsTo_step {L : List (List Nat)} {i k : Nat} (h : i < L.length) (hk : k < (prs L[i]).length) : dsTo L i (k + 1) = dsTo L i k ++ [((prs L[i])[k].1 ++ [((i + 1 : Nat) : Int)], 1)] := by
  have e : L.getD i [] = L[i] := by simp [h]
  rw [dsTo, dsTo, e, List.take_succ_eq_append_getElem hk, List.map_append, ← List.append_assoc]
  rfl
theorem dsTo_end (L : List (List Nat)) : dsTo L L.length 0 = dstN 1 L := by rw [dsTo_zero, List.take_length]
set_option maxRecDepth 100000 in
set_option maxHeartbeats 6400000 in
theorem distances_s (A : Option Addr) (c : Nat) (r : List Nat) (w : World) (hx : EntsAt w A (prs r)) (hr : OkR r) :
    Calls Tryz.prog 44 #[.slice A (prs r).length c] w fun e w' => ∃ A' c', e = .returned (.slice A' (entT (distT r)).length c') ∧ EntsOw w' (news w w') A' c' (entT (distT r)) ∧ Below w.heap.size w w' := by
  obtain ⟨i0, hi0, hz0, hz1, hz2⟩ := info_parts Tryz.infoInt
  have hlr := rds_len hr
  have hok : ∀ i k, (AddL [] (dsTo (rds r) i k)).length ≤ 160400 ∧ rowsIn (AddL [] (dsTo (rds r) i k)) 4194304 ∧ wts (AddL [] (dsTo (rds r) i k)) 1099511627776 := fun i k => by
    have h1 := dsTo_len hlr i k
    have := adl3_ok (dsTo (rds r) i k) [] 0 (dsTo_three _ i k) (by omega) (by simp) (fun e he => by cases he) (fun e he => by cases he)
    exact ⟨by omega, this.2.1, fun e he => by have := this.2.2 e he; omega⟩
  have HOK := Lib.hid hok
  have HL := Lib.hid (dst_law hr)
  have hbA := bal (Below.refl w.heap.size w) (.cells #[] 33)
  have hcr := closureRounds_r A c r (w.alloc (.cells #[] 33)) (hx.below entR hbA) hr
  have hA0 := SlF.made EntO 2 33 w #[] 0 (by simp [maxLen]) (by simp) (S := news w (w.alloc (.cells #[] 33))) ⟨Nat.le_refl _, by simp⟩ (fun k hk => by have := hk.2; simpa using this)
  have HA0 := Lib.hid hA0
  have HBA := Lib.hid hbA
  clear hA0 hbA hx hok
  go_enter Tryz.func44, Tryz.ntmps44
  go_wp2_with fail
  refine hcr.mono ?_
  clear hcr
  rintro e w1 ⟨AR, cR, rfl, ho1, b1⟩
  have HB1 := Lib.hid (btr HBA.out b1)
  have hs0 : w.heap.size < w1.heap.size := by have := b1.size; simp at this; omega
  have HOL := Lib.hid ho1
  have HO1 : Hid (EntsOw w1 (fun k => k = w.heap.size ∨ (w1.heap.size ≤ k ∧ k < w1.heap.size)) (some ⟨w.heap.size, 0, none⟩) 0 (AddL [] (dsTo (rds r) 0 0))) := ⟨_, _, (HA0.out.loc entO (fun k hk => b1.block k hk.2)).mono (fun k hk => .inl (by have h1 := hk.1; have h2 := hk.2; simp at h2; omega)) (fun k hk => by rcases hk with hk | hk <;> omega)⟩
  have HRD : Hid (∀ wr, GrownS w1 wr (fun k => k = w.heap.size) → ZssAt wr AR ((rds r).map prs)) := fun wr hg => SlOw.at_ zlO (SlOw.loc zlO HOL.out (fun k hk => hg.block k hk.2 (fun e => by have := hk.1; simp at this; omega)))
  clear ho1 b1 HA0 HBA
  go_wp2
  go_loopw [3, 5] (fun v iv wr => ∃ (i : Nat) (B : Option Addr) (cb : Nat), i ≤ (rds r).length ∧ iv = .int .i64 (i : Nat) ∧ v = .slice B (AddL [] (dsTo (rds r) i 0)).length cb ∧ B ≠ none ∧ EntsOw wr (fun k => k = w.heap.size ∨ (w1.heap.size ≤ k ∧ k < wr.heap.size)) B cb (AddL [] (dsTo (rds r) i 0)) ∧ GrownS w1 wr (fun k => k = w.heap.size)) (fun _ iv _ => (rds r).length - (intOf iv).toNat)
  case atStart => exact ⟨0, _, 0, Nat.zero_le _, rfl, rfl, by simp, HO1.out, GrownS.refl _ _⟩
  case round =>
    obtain ⟨i, B, cb, hi, rfl, rfl, hB, hO, hbel⟩ := hrel
    by_cases hil : i < (rds r).length
    · have hiI : (i : Int) < (rds r).length := by omega
      have HO := Lib.hid hO
      have HBn := Lib.hid hB
      have HBV := Lib.hid hbel
      have HN := Lib.hid (dsTo_next hil)
      clear hO hbel hB
      have hg : ((rds r).map prs)[i]'(by simpa using hil) = prs (rds r)[i] := by simp
      have HGET : Hid (∀ wr, GrownS w1 wr (fun k => k = w.heap.size) → ∃ b off ZA zc, AR = some ⟨b, off, none⟩ ∧ wr.cell? ⟨b, off + i, none⟩ = some (.slice ZA (prs (rds r)[i]).length zc) ∧ EntsAt wr ZA (prs (rds r)[i])) := fun wr hgr => by
        obtain ⟨b, off, ZA, zc, h1, h2, h3, -, h5⟩ := (HRD.out wr hgr).get i (by simpa using hil)
        rw [hg] at h3 h5
        exact ⟨b, off, ZA, zc, h1, h3, h5⟩
      have HST := Lib.hid (fun k (hk : k < (prs (rds r)[i]).length) => dsTo_step hil hk)
      have HTW := Lib.hid (fun k (hk : k < (prs (rds r)[i]).length) => (prs_row (rds r)[i] _ (List.getElem_mem hk)).2)
      have hpl := prs_len (rds r)[i]
      clear hg
      generalize prs (rds r)[i] = Q at *
      go_wp2
      obtain ⟨V, rfl⟩ : ∃ V : World, V = wr := ⟨_, rfl⟩
      go_loopw [3, 6] (fun v j wr => ∃ (k : Nat) (B : Option Addr) (cb : Nat), k ≤ Q.length ∧ j = .int .i64 (k : Nat) ∧ v = .slice B (AddL [] (dsTo (rds r) i k)).length cb ∧ B ≠ none ∧ EntsOw wr (fun k => k = w.heap.size ∨ (w1.heap.size ≤ k ∧ k < wr.heap.size)) B cb (AddL [] (dsTo (rds r) i k)) ∧ GrownS w1 wr (fun k => k = w.heap.size)) (fun _ j _ => Q.length - (intOf j).toNat)
      case atStart => exact ⟨0, B, cb, Nat.zero_le _, rfl, rfl, HBn.out, HO.out, HBV.out⟩
      case round =>
        clear HO HBn HBV
        obtain ⟨k, B, cb, hk, rfl, rfl, hB, hO, hbel⟩ := hrel
        obtain ⟨b, off, ZA, zc, hAe, q0, hz⟩ := HGET.out wr hbel
        subst hAe
        by_cases hkl : k < Q.length
        · have hkI : (k : Int) < Q.length := by omega
          have hst := HST.out k hkl
          have htw : Q[k].1.length ≤ 2 := by have := HTW.out k hkl; omega
          obtain ⟨eb, eo, PA, pc, hZe, heb, q1, -, -, herow⟩ := hz.get k hkl
          subst hZe
          have HKK := Lib.hid (HOK.out i k)
          have hML := (HOK.out i k).1
          have hasc : Hid (Asc lessB (AddL [] (dsTo (rds r) i k))) := AddL_asc asc_nil _
          have HSTI : Hid (AddL [] (dsTo (rds r) i (k + 1)) = insK lessB (AddL [] (dsTo (rds r) i k)) (Q[k].1 ++ [((i + 1 : Nat) : Int)]) 1) := by rw [Hid, hst, AddL_snoc]
          have hcp := copyInts_s PA pc Q[k].1 wr herow (by omega)
          generalize hM : AddL [] (dsTo (rds r) i k) = M at *
          have HM := Lib.hid hM
          clear hM herow hst hz
          have HO := Lib.hid hO
          have HBn := Lib.hid hB
          have HBV := Lib.hid hbel
          clear hO hB hbel
          generalize Q[k].1 = row at *
          go_wp2_with fail
          refine hcp.mono ?_
          clear hcp
          rintro e w3 ⟨A3, c3, rfl, ho3, b3⟩
          have hs3 := b3.size
          have HO3 : Hid (w3.ownsRow wr.heap.size 3 1 (.slice A3 row.length c3) row.length (row.map (Value.int .i64))) := ho3
          clear ho3
          go_wp2_with (at_builtin; refine wpList_append_src _ rfl _ _ 31 rfl wr.heap.size 3 i0 (.int .i64 0) 1 8 Tryz.underlying31 hi0 hz0 hz1 hz2 rfl (by decide) _ _ _ rfl (HO3.out.alloc _) (some ⟨w3.heap.size, 0, none⟩) 1 1 [.int .i64 ((i : Int) + 1)] rfl rfl (fun h => by cases h) (intZ_src1 _) (intZ_one1 _) (by unfold maxLen; omega) (by omega) (by simp; omega) ?_)
          intro v' w4 hown' hgrow hloc
          obtain ⟨A4, c4, rfl⟩ := own_slice hown'
          have hrw : ∀ q, (Value.slice A3 row.length c3).ownBlock = some q → wr.heap.size ≤ q := fun q hq => (World.ownsRow.lt HO3.out q hq).1
          have hb4 : Below wr.heap.size wr w4 := (bal b3 _).grown hgrow (by simp; omega) hrw
          have hrow4 : IntsOwn w4 wr.heap.size A4 c4 (row ++ [(i : Int) + 1]) := by
            have : w4.ownsRow wr.heap.size 3 1 (.slice A4 (row ++ [(i : Int) + 1]).length c4) (row ++ [(i : Int) + 1]).length ((row ++ [(i : Int) + 1]).map (Value.int .i64)) := by simpa using hown'
            exact this
          have hs4 := hb4.size
          have hO4 : EntsOw w4 (fun k => k = w.heap.size ∨ (w1.heap.size ≤ k ∧ k < w4.heap.size)) B cb M := (HO.out.below entO hb4).mono (fun q hq => hq.imp id (fun h => ⟨h.1, by have := h.2; omega⟩)) (fun q hq => by have := HBV.out.size; rcases hq with hq | hq <;> omega)
          have hadd := addEntry_s _ B cb M A4 c4 (row ++ [(i : Int) + 1]) 1 w4 hO4 HBn.out hasc.out hrow4.at_ (by omega) HKK.out.2.1 (by simp; omega) HKK.out.2.2 (by omega) (by omega)
          rw [show (row ++ [(i : Int) + 1]).length = row.length + 1 by simp] at hadd
          clear hown' hgrow hloc hrw hrow4 hO4 b3 HO3
          go_wp2_with fail
          refine hadd.mono ?_
          clear hadd
          rintro e w5 ⟨A5, c5, rfl, ho5, g5⟩
          have hs5 := g5.size
          have hs1 := HBV.out.size
          have hb5 : GrownS w1 w5 (fun k => k = w.heap.size) := ⟨g5.os.trans (hb4.os.trans HBV.out.os), g5.tape.trans (hb4.tape.trans HBV.out.tape), g5.output.trans (hb4.output.trans HBV.out.output), by omega, fun k hk hn => (g5.block k (by omega) (fun h => by rcases h with h | h; exact hn h; omega)).trans ((hb4.block k (by omega)).trans (HBV.out.block k hk hn))⟩
          have ho6 : EntsOw w5 (fun k => k = w.heap.size ∨ (w1.heap.size ≤ k ∧ k < w5.heap.size)) A5 c5 (insK lessB M (row ++ [(i : Int) + 1]) 1) := ho5.mono (fun q hq => by
            rcases hq with hq | hq
            · exact hq.imp id (fun h => ⟨h.1, by have := h.2; omega⟩)
            · exact .inr ⟨by have := hq.1; omega, hq.2⟩) (fun q hq => by rcases hq with hq | hq <;> omega)
          have hA5 := some_of_pos ho6 (insK_pos _ _ _)
          have HLN : Hid ((insK lessB M (row ++ [(i : Int) + 1]) 1).length = (AddL [] (dsTo (rds r) i (k + 1))).length ∧ AddL [] (dsTo (rds r) i (k + 1)) = insK lessB M (row ++ [(i : Int) + 1]) 1) := by
            have h1 := HSTI.out
            push_cast at h1
            exact ⟨by rw [h1], h1⟩
          have HO6 := Lib.hid ho6
          have HA6 := Lib.hid hA5
          have HB6 := Lib.hid hb5
          clear ho5 ho6 g5 hb5 hA5 hb4 q0 q1
          go_wp2
          go_roundw
          case rel => exact ⟨k + 1, A5, c5, by omega, by go_num, by rw [HLN.out.1], HA6.out, by rw [HLN.out.2]; exact HO6.out, HB6.out⟩
          case measure => simp [intOf]; omega
        · obtain rfl : k = Q.length := by omega
          rw [HN.out] at hO
          have HO := Lib.hid hO
          have HBn := Lib.hid hB
          have HBV := Lib.hid hbel
          have HNL : Hid ((AddL [] (dsTo (rds r) i Q.length)).length = (AddL [] (dsTo (rds r) (i + 1) 0)).length) := by rw [Hid, HN.out]
          clear hO hB hbel
          go_wp2
          go_roundw
          case rel => exact ⟨i + 1, B, cb, by omega, by go_num, by rw [HNL.out], HBn.out, HO.out, HBV.out⟩
          case measure => simp [intOf]; omega
    · obtain rfl : i = (rds r).length := by omega
      rw [dsTo_end, HL.out] at hO ⊢
      have hs2 := hbel.size
      have HO := Lib.hid (hO.mono (S' := news w wr) (fun q hq => ⟨by rcases hq with hq | hq <;> omega, by rcases hq with hq | hq <;> omega⟩) (fun q hq => hq.2))
      have HB := Lib.hid (HB1.out.trans (below_grown hbel HB1.out.size (fun q hq => by omega)))
      clear hO hbel hB
      go_wp2
      go_ret
      exact ⟨B, cb, rfl, HO.out, HB.out⟩
def CerF (es : List Ent) : List Ent := if edgB es = true then entT (distT (relOf es)) else []
theorem CerF_len (es : List Ent) : (CerF es).length ≤ 400 := by
  unfold CerF; split
  · exact entT_len _
  · simp
theorem CerF_row (es : List Ent) : rowsIn (CerF es) 4194304 := fun e he => by
  unfold CerF at he; split at he
  · obtain ⟨x, y, _, _, _, rfl⟩ := mem_entT.1 he
    simp
  · cases he
set_option maxHeartbeats 1600000 in
theorem CertifyClosure_s (A : Option Addr) (c : Nat) (es : List Ent) (w : World) (hx : EntsAt w A es) (hn : es.length ≤ 4194304) (hr : rowsIn es 4194304) :
    Calls Tryz.prog 16 #[.slice A es.length c] w fun e w' => ∃ A' c', e = .returned (.slice A' (CerF es).length c') ∧ EntsOw w' (news w w') A' c' (CerF es) ∧ Below w.heap.size w w' := by
  have hv := validEdges_s A c es w hx hn hr
  cases h1 : edgB es
  · have HT : Hid (CerF es = []) := by simp [Hid, CerF, h1]
    rw [h1] at hv
    clear h1
    go_enter Tryz.func16, Tryz.ntmps16
    go_wp2_with fail
    refine hv.mono ?_
    rintro e w1 ⟨rfl, b1⟩
    clear hv
    have hA0 := SlF.made EntO 2 33 w1 #[] 0 (by simp [maxLen]) (by simp) (S := fun k => w.heap.size ≤ k ∧ k < w1.heap.size + 1) ⟨b1.size, by simp⟩ (fun k hk => by have := hk.2; simpa using this)
    have HA0 := Lib.hid hA0
    have HB := Lib.hid (bal b1 (.cells #[] 33))
    clear hA0 b1
    go_wp2
    go_ret
    rw [HT.out]
    exact ⟨_, 0, rfl, ⟨_, _, HA0.out.mono (fun k hk => ⟨hk.1, by have := hk.2; simpa using this⟩) (fun k hk => hk.2)⟩, HB.out⟩
  · have hro := relOf_ok h1
    have HT : Hid (CerF es = entT (distT (relOf es))) := by simp [Hid, CerF, h1]
    have hpr := prs_relOf h1
    have hcon := fun (W : World) (hb : Below w.heap.size w W) => distances_s A c (relOf es) W (by rw [hpr]; exact hx.below entR hb) hro
    rw [hpr] at hcon
    rw [h1] at hv
    clear h1 hpr
    go_enter Tryz.func16, Tryz.ntmps16
    go_wp2_with fail
    refine hv.mono ?_
    rintro e w1 ⟨rfl, b1⟩
    clear hv
    go_wp2_with fail
    refine (hcon w1 b1).mono ?_
    rintro e w2 ⟨A', c', rfl, ho, b2⟩
    have HO := Lib.hid (SlOw.mono (S' := news w w2) ho (fun k hk => ⟨by have := hk.1; have := b1.size; omega, hk.2⟩) (fun k hk => hk.2))
    have HB := Lib.hid (btr b1 b2)
    clear hcon ho b1 b2
    go_wp2_with fail
    go_ret
    rw [HT.out]
    exact ⟨A', c', rfl, HO.out, HB.out⟩
end Go.Proofs.YtifjenleoagefaaGreat

/- HELPER, no statement of the seat: the model's CertifyPath. -/
namespace Go.Proofs.YtifjenleoagefaaGreat
open Go.RowKit Go.Sort
set_option linter.unusedSimpArgs false
set_option linter.unusedVariables false

theorem wOf_has {es : List Ent} (h : edgB es = true) (u v : Nat) : wOf es [(u : Int), (v : Int)] = if hasR (relOf es) u v = true then 1 else 0 := by
  have hr := relOf_ok h
  have hp := prs_relOf h
  have h1 := has_prs hr u v
  rw [hp] at h1
  have ho : Ones es := by rw [← hp]; exact prs_ones _
  rw [ones_wOf ho]
  by_cases hc : hasR (relOf es) u v = true
  · rw [if_pos hc]; exact if_pos (h1.2 hc)
  · rw [if_neg hc]; exact if_neg (fun h => hc (h1.1 h))
theorem PthB_din {es : List Ent} (h : edgB es = true) (x y : Int) : PthB es x y = decide (dinL (entT (distT (relOf es))) x y ≠ 0) := by
  have hr := relOf_ok h
  by_cases hc : 0 ≤ x ∧ x < 20 ∧ 0 ≤ y ∧ y < 20
  · obtain ⟨X, rfl⟩ : ∃ X : Nat, x = X := ⟨x.toNat, by omega⟩
    obtain ⟨Y, rfl⟩ : ∃ Y : Nat, y = Y := ⟨y.toNat, by omega⟩
    have hX : X < 20 := by omega
    have hY : Y < 20 := by omega
    rw [dinL_ent (fun a b ha hb => (dist_le hr ha hb).1) hX hY]
    have i1 : inB (X : Int) 0 19 = true := by simp [inB]; omega
    have i2 : inB (Y : Int) 0 19 = true := by simp [inB]; omega
    simp [PthB, h, i1, i2]
  · rw [dinL_out hc]
    have : (inB x 0 19 && (inB y 0 19 && decide (getT (distT (relOf es)) x.toNat y.toNat ≠ 0))) = false := by
      cases i1 : inB x 0 19
      · rfl
      · cases i2 : inB y 0 19
        · rfl
        · simp [inB] at i1 i2; omega
    rw [PthB, this]; simp
end Go.Proofs.YtifjenleoagefaaGreat
