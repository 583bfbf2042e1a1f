/- HELPER, no statement of the seat: the model's Hops. -/
import Derived.Test.YtdaikdenpabfgaaHol
import Derived.Test.YtdaikdenpabfgaaCrd
import Derived.Test.YtdaikdenpabfgaaRs
import Derived.Test.YtdaikdenpabfgaaEdg
import Derived.Test.YtdaikdenpabfgaaRfn
namespace Go.Proofs.Ytdaikdenpabfgaa
open Go.RowKit Go.Sort
set_option linter.unusedSimpArgs false
set_option linter.unusedVariables false

theorem adl2_ok : ∀ (xs M : List Ent) (n : Nat), (∀ e ∈ xs, e.1.length = 2 ∧ e.2 = 1) → n + xs.length ≤ 1000000 → M.length ≤ n → rowsIn M 4194304 → wts M (1000000 + (n : Int) * 1000000) →
    (AddL M xs).length ≤ n + xs.length ∧ rowsIn (AddL M xs) 4194304 ∧ wts (AddL M xs) (1000000 + ((n + xs.length : Nat) : Int) * 1000000)
  | [], M, n, _, _, h1, h2, h3 => ⟨by simpa [AddL] using h1, h2, by simpa [AddL] using h3⟩
  | e :: xs, M, n, he, hn, h1, h2, h3 => by
    have hee := he e (by simp)
    simp only [List.length_cons] at hn ⊢
    have := adl2_ok xs (insK lessB M e.1 e.2) (n + 1) (fun f hf => he f (by simp [hf])) (by omega) (by have := insK_length (lt := lessB) M e.1 e.2; omega) (rows_ins h2 (by omega) e.2) (by
      have hw := wts_ins (d := 1000000) h3 (x := e.2) ⟨by omega, by omega⟩ (by omega) (by omega) e.1
      intro f hf
      have := hw f hf
      push_cast
      constructor <;> omega)
    rw [show n + (xs.length + 1) = n + 1 + xs.length from by omega]
    exact this
theorem made_s (w : World) : EntsOw (w.alloc (.cells #[] 52)) (news w (w.alloc (.cells #[] 52))) (some ⟨w.heap.size, 0, none⟩) 0 [] :=
  ⟨_, _, SlF.made EntO 2 52 w #[] 0 (by simp [maxLen]) (by simp) (S := news w (w.alloc (.cells #[] 52))) ⟨Nat.le_refl _, by simp⟩ (fun k hk => by have := hk.2; simpa using this)⟩
set_option maxRecDepth 100000 in
set_option maxHeartbeats 6400000 in
theorem Hops_s (A : Option Addr) (c : Nat) (es : List Ent) (n : Int) (w : World) (hx : EntsAt w A es) (hn : es.length ≤ 4194304) (hr : rowsIn es 4194304) :
    Calls Try.prog 27 #[.slice A es.length c, .int .i64 n] w fun e w' => ∃ A' c', e = .returned (.slice A' (HopsF es n).length c') ∧ EntsOw w' (news w w') A' c' (HopsF es n) ∧ Below w.heap.size w w' := by
  have hv := validEdges_s A c es (w.alloc (.cells #[] 52)) (hx.below entR (bal (Below.refl w.heap.size w) _)) hn hr
  have hbA := bal (Below.refl w.heap.size w) (.cells #[] 52)
  have HM0 := Lib.hid (made_s w)
  cases h1 : edgB es
  · have HT : Hid (HopsF es n = []) := by simp [Hid, HopsF, h1]
    rw [h1] at hv
    clear h1
    go_enter Try.func27, Try.ntmps27
    go_wp2_with fail
    refine hv.mono ?_
    rintro e w1 ⟨rfl, b1⟩
    clear hv
    have HO := Lib.hid ((HM0.out.below entO b1).mono (S' := news w w1) (fun k hk => ⟨hk.1, Nat.lt_of_lt_of_le hk.2 b1.size⟩) (fun k hk => hk.2))
    have HB := Lib.hid (btr hbA b1)
    clear b1 hbA HM0
    go_wp2
    go_ret
    rw [HT.out]
    exact ⟨_, 0, rfl, HO.out, HB.out⟩
  have hir := fun W => inRange_any n 0 19 W
  cases hin : inB n 0 19
  · have HT : Hid (HopsF es n = []) := by
      have h2 : ¬ (0 ≤ n ∧ n ≤ 19) := fun h => by simp [inB] at hin; omega
      simp [Hid, HopsF, h2]
    rw [h1] at hv
    rw [hin] at hir
    clear h1 hin
    go_enter Try.func27, Try.ntmps27
    go_wp2_with fail
    refine hv.mono ?_
    rintro e w1 ⟨rfl, b1⟩
    clear hv
    have HO := Lib.hid ((HM0.out.below entO b1).mono (S' := news w w1) (fun k hk => ⟨hk.1, Nat.lt_of_lt_of_le hk.2 b1.size⟩) (fun k hk => hk.2))
    have HB := Lib.hid (btr hbA b1)
    clear b1 hbA HM0
    go_wp2_with fail
    refine (hir _).mono ?_
    rintro e wx ⟨rfl, rfl⟩
    clear hir
    go_wp2
    go_ret
    rw [HT.out]
    exact ⟨_, 0, rfl, HO.out, HB.out⟩
  have hr := relOf_ok h1
  have hpr := prs_relOf h1
  have hn19 : 0 ≤ n ∧ n ≤ 19 := by simp [inB] at hin; omega
  obtain ⟨s, rfl⟩ : ∃ s : Nat, n = s := ⟨n.toNat, by omega⟩
  have hs20 : s < 20 := by omega
  have HT : Hid (HopsF es (s : Int) = AddL [] (hopN s 1 (rds (relOf es)))) := by simp [Hid, HopsF, h1, hn19]
  have hlr := rds_len hr
  have hcr := fun (W : World) (hb : Below w.heap.size w W) => closureRounds_r A c (relOf es) W (by rw [hpr]; exact hx.below entR hb) hr
  rw [hpr] at hcr
  rw [h1] at hv
  rw [hin] at hir
  rw [HT.out]
  clear h1 hin hpr HT hx
  generalize relOf es = r at *
  have hok : ∀ i k, (AddL [] (hpTo s (rds r) i k)).length ≤ 160400 ∧ rowsIn (AddL [] (hpTo s (rds r) i k)) 4194304 ∧ wts (AddL [] (hpTo s (rds r) i k)) 1099511627776 := fun i k => by
    have h1 := hpTo_len s hlr i k
    have := adl2_ok (hpTo s (rds r) i k) [] 0 (hpTo_two hs20 _ i k) (by omega) (by simp) (fun e he => by cases he) (fun e he => by cases he)
    exact ⟨by omega, this.2.1, fun e he => by have := this.2.2 e he; omega⟩
  have HOK := Lib.hid hok
  clear hok
  go_enter Try.func27, Try.ntmps27
  go_wp2_with fail
  refine hv.mono ?_
  rintro e w0 ⟨rfl, b0⟩
  clear hv
  have hb0 := btr hbA b0
  have HM1 := Lib.hid (HM0.out.below entO b0)
  have hsw0 : w.heap.size < w0.heap.size := by have := b0.size; simp at this; omega
  have HBA := Lib.hid hb0
  clear b0 hbA HM0
  go_wp2_with fail
  refine (hir _).mono ?_
  rintro e wx ⟨rfl, rfl⟩
  clear hir
  go_wp2_with fail
  refine (hcr _ hb0).mono ?_
  clear hcr hb0
  rintro e w1 ⟨AR, cR, rfl, ho1, b1⟩
  have HB1 := Lib.hid (btr HBA.out b1)
  have hs0 : w.heap.size < w1.heap.size := by have := b1.size; omega
  have HOL := Lib.hid ho1
  have HO1 : Hid (EntsOw w1 (fun k => k = w.heap.size ∨ (w1.heap.size ≤ k ∧ k < w1.heap.size)) (some ⟨w.heap.size, 0, none⟩) 0 (AddL [] (hpTo s (rds r) 0 0))) := (HM1.out.below entO b1).mono (fun k hk => .inl (by have h1 := hk.1; have h2 := hk.2; simp at h2; omega)) (fun k hk => by rcases hk with hk | hk <;> omega)
  have HRD : Hid (∀ wr, GrownS w1 wr (fun k => k = w.heap.size) → ZssAt wr AR ((rds r).map prs)) := fun wr hg => SlOw.at_ zlO (SlOw.loc zlO HOL.out (fun k hk => hg.block k hk.2 (fun e => by have := hk.1; omega)))
  clear ho1 b1 HM1 HBA
  go_wp2
  go_loopw [5, 7] (fun v iv wr => ∃ (i : Nat) (B : Option Addr) (cb : Nat), i ≤ (rds r).length ∧ iv = .int .i64 (i : Nat) ∧ v = .slice B (AddL [] (hpTo s (rds r) i 0)).length cb ∧ B ≠ none ∧ EntsOw wr (fun k => k = w.heap.size ∨ (w1.heap.size ≤ k ∧ k < wr.heap.size)) B cb (AddL [] (hpTo s (rds r) i 0)) ∧ GrownS w1 wr (fun k => k = w.heap.size)) (fun _ iv _ => (rds r).length - (intOf iv).toNat)
  case atStart => exact ⟨0, _, 0, Nat.zero_le _, rfl, rfl, by simp, HO1.out, GrownS.refl _ _⟩
  case round =>
    obtain ⟨i, B, cb, hi, rfl, rfl, hB, hO, hbel⟩ := hrel
    by_cases hil : i < (rds r).length
    · have hiI : (i : Int) < (rds r).length := by omega
      have HO := Lib.hid hO
      have HBn := Lib.hid hB
      have HBV := Lib.hid hbel
      have HN := Lib.hid (hpTo_next hs20 hil)
      clear hO hbel hB
      have hg : ((rds r).map prs)[i]'(by simpa using hil) = prs (rds r)[i] := by simp
      have HGET : Hid (∀ wr, GrownS w1 wr (fun k => k = w.heap.size) → ∃ b off ZA zc, AR = some ⟨b, off, none⟩ ∧ wr.cell? ⟨b, off + i, none⟩ = some (.slice ZA (prs (rds r)[i]).length zc) ∧ EntsAt wr ZA (prs (rds r)[i])) := fun wr hgr => by
        obtain ⟨b, off, ZA, zc, h1, h2, h3, -, h5⟩ := (HRD.out wr hgr).get i (by simpa using hil)
        rw [hg] at h3 h5
        exact ⟨b, off, ZA, zc, h1, h3, h5⟩
      have HST := Lib.hid (fun k (hk : k < (prs (rds r)[i]).length) => hpTo_step (s := s) hil hk)
      have HTW := Lib.hid (fun k (hk : k < (prs (rds r)[i]).length) => (prs_row (rds r)[i] _ (List.getElem_mem hk)).2)
      have hpl := prs_len (rds r)[i]
      clear hg
      generalize prs (rds r)[i] = Q at *
      go_wp2
      obtain ⟨V, rfl⟩ : ∃ V : World, V = wr := ⟨_, rfl⟩
      go_loopw [5, 8] (fun v j wr => ∃ (k : Nat) (B : Option Addr) (cb : Nat), k ≤ Q.length ∧ j = .int .i64 (k : Nat) ∧ v = .slice B (AddL [] (hpTo s (rds r) i k)).length cb ∧ B ≠ none ∧ EntsOw wr (fun k => k = w.heap.size ∨ (w1.heap.size ≤ k ∧ k < wr.heap.size)) B cb (AddL [] (hpTo s (rds r) i k)) ∧ GrownS w1 wr (fun k => k = w.heap.size)) (fun _ j _ => Q.length - (intOf j).toNat)
      case atStart => exact ⟨0, B, cb, Nat.zero_le _, rfl, rfl, HBn.out, HO.out, HBV.out⟩
      case round =>
        clear HO HBn HBV
        obtain ⟨k, B, cb, hk, rfl, rfl, hB, hO, hbel⟩ := hrel
        obtain ⟨b, off, ZA, zc, hAe, q0, hz⟩ := HGET.out wr hbel
        subst hAe
        by_cases hkl : k < Q.length
        · have hkI : (k : Int) < Q.length := by omega
          have hst := HST.out k hkl
          have htw := HTW.out k hkl
          obtain ⟨eb, eo, PA, pc, hZe, heb, q1, -, -, herow⟩ := hz.get k hkl
          subst hZe
          have HKK := Lib.hid (HOK.out i k)
          have hML := (HOK.out i k).1
          have hasc : Hid (Asc lessB (AddL [] (hpTo s (rds r) i k))) := AddL_asc asc_nil _
          obtain ⟨x0, y0, hxy⟩ : ∃ x0 y0, Q[k].1 = [x0, y0] := by
            match hQ : Q[k].1, htw with
            | [x0, y0], _ => exact ⟨x0, y0, rfl⟩
          rw [hxy] at hst herow q1
          have hst : hpTo s (rds r) i (k + 1) = hpTo s (rds r) i k ++ if x0 = (s : Int) then [([y0, ((i + 1 : Nat) : Int)], 1)] else [] := by simpa using hst
          obtain ⟨rb, ro, hPe, hrb, hrc⟩ := herow (by simp)
          subst hPe
          have cr0 := hrc 0 (by simp)
          have cr1 := hrc 1 (by simp)
          simp at cr0 cr1
          by_cases hp : x0 = (s : Int)
          · rw [if_pos hp] at hst
            have hpB : (x0 == (s : Int)) = true := by simpa using hp
            have HSTI : Hid (AddL [] (hpTo s (rds r) i (k + 1)) = insK lessB (AddL [] (hpTo s (rds r) i k)) [y0, ((i + 1 : Nat) : Int)] 1) := by rw [Hid, hst, AddL_snoc]
            generalize hM : AddL [] (hpTo s (rds r) i k) = M at *
            have HM := Lib.hid hM
            clear hM herow hst hz hrc hxy htw
            have HO := Lib.hid hO
            have HBn := Lib.hid hB
            have HBV := Lib.hid hbel
            clear hO hB hbel
            have hb4 : Below wr.heap.size wr (wr.alloc (.cells #[.int .i64 y0, .int .i64 ((i : Int) + 1)] 3)) := bal (Below.refl _ _) _
            have hrow4 : IntsOwn (wr.alloc (.cells #[.int .i64 y0, .int .i64 ((i : Int) + 1)] 3)) wr.heap.size (some ⟨wr.heap.size, 0, none⟩) 2 [y0, (i : Int) + 1] := World.ownsRow_lit (base := wr.heap.size) (size := 1) (e := 3) wr #[.int .i64 y0, .int .i64 ((i : Int) + 1)] 2 (Nat.le_refl _) (by simp [maxLen]) (by simp)
            have hO4 : EntsOw (wr.alloc (.cells #[.int .i64 y0, .int .i64 ((i : Int) + 1)] 3)) (fun k => k = w.heap.size ∨ (w1.heap.size ≤ k ∧ k < (wr.alloc (.cells #[.int .i64 y0, .int .i64 ((i : Int) + 1)] 3)).heap.size)) B cb M := (HO.out.below entO hb4).mono (fun q hq => hq.imp id (fun h => ⟨h.1, by have := h.2; have := hb4.size; omega⟩)) (fun q hq => by have := HBV.out.size; have := hb4.size; rcases hq with hq | hq <;> omega)
            have hadd := addEntry_s _ B cb M (some ⟨wr.heap.size, 0, none⟩) 2 [y0, (i : Int) + 1] 1 _ hO4 HBn.out hasc.out hrow4.at_ (by omega) HKK.out.2.1 (by simp) HKK.out.2.2 (by omega) (by omega)
            rw [show ([y0, (i : Int) + 1] : List Int).length = 2 from rfl] at hadd
            clear hrow4 hO4
            go_wp2_with fail
            refine hadd.mono ?_
            clear hadd
            rintro e w5 ⟨A5, c5, rfl, ho5, g5⟩
            have hs4 := hb4.size
            have hs5 := g5.size
            have hs1 := HBV.out.size
            have hb5 : GrownS w1 w5 (fun k => k = w.heap.size) := ⟨g5.os.trans (hb4.os.trans HBV.out.os), g5.tape.trans (hb4.tape.trans HBV.out.tape), g5.output.trans (hb4.output.trans HBV.out.output), by omega, fun k hk hn => (g5.block k (by omega) (fun h => by rcases h with h | h; exact hn h; omega)).trans ((hb4.block k (by omega)).trans (HBV.out.block k hk hn))⟩
            have ho6 : EntsOw w5 (fun k => k = w.heap.size ∨ (w1.heap.size ≤ k ∧ k < w5.heap.size)) A5 c5 (insK lessB M [y0, (i : Int) + 1] 1) := ho5.mono (fun q hq => by
              rcases hq with hq | hq
              · exact hq.imp id (fun h => ⟨h.1, by have := h.2; omega⟩)
              · exact .inr ⟨by have := hq.1; omega, hq.2⟩) (fun q hq => by rcases hq with hq | hq <;> omega)
            have hA5 := some_of_pos ho6 (insK_pos _ _ _)
            have HLN : Hid ((insK lessB M [y0, (i : Int) + 1] 1).length = (AddL [] (hpTo s (rds r) i (k + 1))).length ∧ AddL [] (hpTo s (rds r) i (k + 1)) = insK lessB M [y0, (i : Int) + 1] 1) := by
              have h1 := HSTI.out
              push_cast at h1
              exact ⟨by rw [h1], h1⟩
            have HO6 := Lib.hid ho6
            have HA6 := Lib.hid hA5
            have HB6 := Lib.hid hb5
            clear ho5 ho6 g5 hb5 hA5 hb4 q0 q1 cr0 cr1
            go_wp2
            go_roundw
            case rel => exact ⟨k + 1, A5, c5, by omega, by go_num, by rw [HLN.out.1], HA6.out, by rw [HLN.out.2]; exact HO6.out, HB6.out⟩
            case measure => simp [intOf]; omega
          · rw [if_neg hp, List.append_nil] at hst
            have hpB : (x0 == (s : Int)) = false := by simpa using hp
            have HST2 := Lib.hid hst
            clear herow hst hz hrc hxy htw hp
            have HO := Lib.hid hO
            have HBn := Lib.hid hB
            have HBV := Lib.hid hbel
            clear hO hB hbel
            go_wp2
            go_roundw
            case rel => exact ⟨k + 1, B, cb, by omega, by go_num, by rw [HST2.out], HBn.out, by rw [HST2.out]; exact HO.out, HBV.out⟩
            case measure => simp [intOf]; omega
        · obtain rfl : k = Q.length := by omega
          rw [HN.out] at hO
          have HO := Lib.hid hO
          have HBn := Lib.hid hB
          have HBV := Lib.hid hbel
          have HNL : Hid ((AddL [] (hpTo s (rds r) i Q.length)).length = (AddL [] (hpTo s (rds r) (i + 1) 0)).length) := by rw [Hid, HN.out]
          clear hO hB hbel
          go_wp2
          go_roundw
          case rel => exact ⟨i + 1, B, cb, by omega, by go_num, by rw [HNL.out], HBn.out, HO.out, HBV.out⟩
          case measure => simp [intOf]; omega
    · obtain rfl : i = (rds r).length := by omega
      rw [hpTo_end] at hO ⊢
      have hs2 := hbel.size
      have HO := Lib.hid (hO.mono (S' := news w wr) (fun q hq => ⟨by rcases hq with hq | hq <;> omega, by rcases hq with hq | hq <;> omega⟩) (fun q hq => hq.2))
      have HB := Lib.hid (HB1.out.trans (below_grown hbel HB1.out.size (fun q hq => by omega)))
      clear hO hbel hB
      go_wp2
      go_ret
      exact ⟨B, cb, rfl, HO.out, HB.out⟩
end Go.Proofs.Ytdaikdenpabfgaa
