/- HELPER, no statement of the seat: slices.Compact at times. -/
import Derived.Test.YtkonhjdfcfljpaaFrJ
namespace Go.Proofs.Ytkonhjdfcfljpaa
open Go.RowKit Go.Sort
set_option linter.unusedSimpArgs false
set_option linter.unusedVariables false

/-- The first of each run of equal neighbours, among the first r. -/
def ddN (zs : List Tm) : Nat → List Tm
  | 0 => []
  | i + 1 => if i = 0 ∨ tg zs i ≠ tg zs (i - 1) then ddN zs i ++ [tg zs i] else ddN zs i
theorem ddN_all {zs : List Tm} : ∀ k, k ≤ zs.length → (∀ j, 1 ≤ j → j < k → tg zs j ≠ tg zs (j - 1)) → ddN zs k = zs.take k
  | 0, _, _ => rfl
  | k + 1, hk, h => by
    have ih := ddN_all k (by omega) (fun j h1 h2 => h j h1 (by omega))
    unfold ddN
    rw [if_pos, ih, List.take_succ_eq_append_getElem (by omega), tg_lt (by omega)]
    rcases Nat.eq_zero_or_pos k with h0 | h0
    · exact .inl h0
    · exact .inr (h k h0 (by omega))
structure CmpI (zs : List Tm) (r m : Nat) (D : List Tm) : Prop where
  len : D.length = zs.length
  cnt : m = (ddN zs r).length
  head : D.take m = ddN zs r
  tail : D.drop (r - 1) = zs.drop (r - 1)
  lt : m + 1 ≤ r
theorem CmpI.start {zs : List Tm} {k : Nat} (h1 : 1 ≤ k) (hk : k < zs.length) (h : ∀ j, 1 ≤ j → j < k → tg zs j ≠ tg zs (j - 1)) (he : tg zs k = tg zs (k - 1)) : CmpI zs (k + 1) k zs := by
  have e : ddN zs (k + 1) = zs.take k := by
    unfold ddN
    rw [if_neg (by rintro (h0 | h0); omega; exact h0 he)]
    exact ddN_all k (by omega) h
  exact ⟨rfl, by rw [e, List.length_take]; omega, e.symm, rfl, by omega⟩
theorem CmpI.at_ {zs D : List Tm} {r m i : Nat} (h : CmpI zs r m D) (hi : r - 1 ≤ i) (hz : i < zs.length) : D.getD i (0, 0) = tg zs i := by
  have e := congrArg (fun l => l[i - (r - 1)]?) h.tail
  simp only [List.getElem?_drop] at e
  rw [show r - 1 + (i - (r - 1)) = i by omega] at e
  unfold tg
  rw [List.getD_eq_getElem?_getD, e, ← List.getD_eq_getElem?_getD]
theorem CmpI.skip {zs D : List Tm} {r m : Nat} (h : CmpI zs r m D) (hr : 1 ≤ r) (he : tg zs r = tg zs (r - 1)) : CmpI zs (r + 1) m D := by
  have e : ddN zs (r + 1) = ddN zs r := by
    conv => lhs; unfold ddN
    rw [if_neg (by rintro (h0 | h0); omega; exact h0 he)]
  refine ⟨h.len, by rw [e]; exact h.cnt, by rw [e]; exact h.head, ?_, by have := h.lt; omega⟩
  have := congrArg (List.drop 1) h.tail
  rw [List.drop_drop, List.drop_drop] at this
  rw [show r + 1 - 1 = r - 1 + 1 by omega]
  exact this
theorem CmpI.keep {zs D : List Tm} {r m : Nat} (h : CmpI zs r m D) (hr : 1 ≤ r) (hz : r < zs.length) (he : tg zs r ≠ tg zs (r - 1)) : CmpI zs (r + 1) (m + 1) (D.set m (tg zs r)) := by
  have e : ddN zs (r + 1) = ddN zs r ++ [tg zs r] := by
    conv => lhs; unfold ddN
    rw [if_pos (.inr he)]
  have hl := h.lt
  have hD := h.len
  refine ⟨by simp [hD], by rw [e, List.length_append, ← h.cnt]; rfl, ?_, ?_, by omega⟩
  · rw [e, ← h.head, List.take_succ_eq_append_getElem (by simp; omega), List.getElem_set_self, List.take_set, List.set_eq_of_length_le (by simp; omega)]
  · have := congrArg (List.drop 1) h.tail
    rw [List.drop_drop, List.drop_drop] at this
    rw [List.drop_set_of_lt (by omega), show r + 1 - 1 = r - 1 + 1 by omega]
    exact this
theorem timeIn_eqC (a b c d : Int) (w : World) : (Op.equalIn 10000 52 (.agg #[.int .i64 a, .int .i64 b]) (.agg #[.int .i64 c, .int .i64 d])).run Try.prog w = .ok (a == c && b == d) w := by
  have u3 := Try.underlying3
  have a3 := Try.isAgg3
  have z3 := Try.sizeOf3
  have hS : Try.prog.underlying 52 = some (.struct (Try.prog.fieldsOf 52)) := by kernel_rfl
  have hp : Try.prog.stoodInHeld 52 = false := by kernel_rfl
  rw [show (10000 : Nat) = 9999 + 1 from rfl, run_equalIn_agg w 9999 52 _ _ hS hp]
  simp only [Program.fieldsOf, Try.underlying52]
  go_simp
  by_cases h1 : a = c <;> by_cases h2 : b = d <;> simp [h1, h2]
theorem timeIn_b {a b : Tm} {r : Bool} (h : decide (a = b) = r) (w : World) : (Op.equalIn 10000 52 (.agg #[.int .i64 a.1, .int .i64 a.2]) (.agg #[.int .i64 b.1, .int .i64 b.2])).run Try.prog w = .ok r w := by
  rw [timeIn_eqC, ← h]
  congr 1
  rw [Bool.eq_iff_iff]
  simp only [Bool.and_eq_true, beq_iff_eq, decide_eq_true_eq, Prod.ext_iff]

set_option maxRecDepth 100000 in
set_option maxHeartbeats 6400000 in
theorem compactM (w : World) (base : Nat) (A : Option Addr) (c : Nat) (zs : List Tm) (ho : TmOwn w base A c zs) (hn : zs.length ≤ 4194304) :
    Calls Try.prog 82 #[.slice A zs.length c] w fun e w' => e = .returned (.slice A (ddN zs zs.length).length c) ∧ TmOwn w' base A c (ddN zs zs.length) ∧ GrownS w w' (fun k => blk A = some k) := by
  by_cases h2 : zs.length < 2
  · have e : Hid (ddN zs zs.length = zs) := by
      have := ddN_all (zs := zs) zs.length (Nat.le_refl _) (fun j h1 h2 => by omega)
      rw [List.take_length] at this
      exact this
    go_enter Try.func82, Try.ntmps82
    go_wp2
    go_ret
    exact ⟨by rw [e.out]; rfl, by rw [e.out]; exact ho, GrownS.refl _ _⟩
  obtain ⟨g, rfl, hbg, hgl, hnc, hcm⟩ : ∃ g, A = some ⟨g, 0, none⟩ ∧ base ≤ g ∧ g < w.heap.size ∧ zs.length ≤ c ∧ c ≤ maxLen := by
    rcases ownsRow_form ho with ⟨_, _, h⟩ | h
    · omega
    · exact h
  have hcm' : (c : Int) ≤ 9223372036854775807 := by unfold maxLen at hcm; omega
  have HO := Lib.hid ho
  clear ho
  go_enter Try.func82, Try.ntmps82
  go_wp2
  go_loopw [3] (fun kv wr => ∃ j : Nat, j + 1 ≤ zs.length ∧ kv = .int .i64 ((j : Int) + 1) ∧ Hid (∀ i, 1 ≤ i → i < j + 1 → tg zs i ≠ tg zs (i - 1)) ∧ Below w.heap.size w wr) (fun kv _ => zs.length - (intOf kv).toNat)
  case atStart => exact ⟨0, by omega, by simp, fun i h1 h2 => by omega, RowKit.Below.refl _ _⟩
  case round =>
    obtain ⟨j, hj, rfl, hall, hbel⟩ := hrel
    have hgb : g < wr.heap.size := Nat.lt_of_lt_of_le hgl hbel.size
    have hor : TmOwn wr base (some ⟨g, 0, none⟩) c zs := HO.out.below hbel
    by_cases hlt : j + 1 < zs.length
    · have hltI : (j : Int) + 1 < zs.length := by omega
      have hjI : (j : Int) < zs.length := by omega
      have g1 := timeL_get zs (j + 1) hlt
      have g0 := timeL_get zs j (by omega)
      have q10 := (World.ownsRow.cellAt hor ((j + 1) * 2) (by omega)).trans g1.1
      have q11 := (World.ownsRow.cellAt hor ((j + 1) * 2 + 1) (by omega)).trans g1.2
      have q00 := (World.ownsRow.cellAt hor (j * 2) (by omega)).trans g0.1
      have q01 := (World.ownsRow.cellAt hor (j * 2 + 1) (by omega)).trans g0.2
      change _ = some (Value.int .i64 (tg zs (j + 1)).1) at q10
      change _ = some (Value.int .i64 (tg zs (j + 1)).2) at q11
      change _ = some (Value.int .i64 (tg zs j).1) at q00
      change _ = some (Value.int .i64 (tg zs j).2) at q01
      clear g1 g0
      by_cases he : tg zs (j + 1) = tg zs j
      · have heq := timeIn_b (a := tg zs (j + 1)) (b := tg zs j) (r := true) (by simp [he])
        have HI := Lib.hid (CmpI.start (k := j + 1) (by omega) hlt hall.out he)
        have HOR := Lib.hid hor
        clear he hall hor
        go_wp2_with fail
        refine wp_region_facts [[], [], [0, 1], [0, 1, 2], [], [], [5], [4, 5, 6], [4, 5, 6, 7]]
          [fun v' _ => v' = .slice (some ⟨g, 0, none⟩) zs.length c, fun v' _ => v' = .int .i64 (j + 1), fun v' _ => v' = .pointer (some ⟨g, (j + 1) * 2, none⟩), fun v' _ => v' = .agg #[.int .i64 (tg zs (j + 1)).1, .int .i64 (tg zs (j + 1)).2], fun v' _ => v' = .slice (some ⟨g, 0, none⟩) zs.length c, fun v' _ => v' = .int .i64 (j + 1), fun v' _ => v' = .int .i64 j, fun v' _ => v' = .pointer (some ⟨g, j * 2, none⟩), fun v' _ => v' = .agg #[.int .i64 (tg zs j).1, .int .i64 (tg zs j).2]]
          (by kernel_rfl) (by kernel_rfl) rfl ⟨stable_pure _, stable_pure _, stable_pure _, stable_pure _, stable_pure _, stable_pure _, stable_pure _, stable_pure _, stable_pure _, trivial⟩ ?_
        refine wf_step (fun wf hb hf => ?_) (fun t0 => ?_)
        · go_wp2
          exact ⟨rfl, .slice (some ⟨g, 0, none⟩) zs.length c, by simp [Act.put], Below.refl _ _, rfl⟩
        refine wf_step (fun wf hb hf => ?_) (fun t1 => ?_)
        · go_wp2
          exact ⟨rfl, .int .i64 (j + 1), by simp [Act.put], Below.refl _ _, rfl⟩
        refine wf_step (fun wf hb hf => ?_) (fun t2 => ?_)
        · obtain ⟨rfl, rfl, -⟩ := hf
          go_wp2
          exact ⟨rfl, .pointer (some ⟨g, (j + 1) * 2, none⟩), by simp [Act.put], Below.refl _ _, rfl⟩
        refine wf_step (fun wf hb hf => ?_) (fun t3 => ?_)
        · obtain ⟨rfl, rfl, rfl, -⟩ := hf
          have p0 := (hb.cell (p := ⟨g, (j + 1) * 2, none⟩) hgb).trans q10
          have p1 := (hb.cell (p := ⟨g, (j + 1) * 2 + 1, none⟩) hgb).trans q11
          go_wp2
          exact ⟨rfl, .agg #[.int .i64 (tg zs (j + 1)).1, .int .i64 (tg zs (j + 1)).2], by simp [Act.put], Below.refl _ _, rfl⟩
        refine wf_step (fun wf hb hf => ?_) (fun t4 => ?_)
        · go_wp2
          exact ⟨rfl, .slice (some ⟨g, 0, none⟩) zs.length c, by simp [Act.put], Below.refl _ _, rfl⟩
        refine wf_step (fun wf hb hf => ?_) (fun t5 => ?_)
        · go_wp2
          exact ⟨rfl, .int .i64 (j + 1), by simp [Act.put], Below.refl _ _, rfl⟩
        refine wf_step (fun wf hb hf => ?_) (fun t6 => ?_)
        · obtain ⟨rfl, -⟩ := hf
          go_wp2
          exact ⟨rfl, .int .i64 j, by simp [Act.put], Below.refl _ _, rfl⟩
        refine wf_step (fun wf hb hf => ?_) (fun t7 => ?_)
        · obtain ⟨rfl, rfl, rfl, -⟩ := hf
          go_wp2
          exact ⟨rfl, .pointer (some ⟨g, j * 2, none⟩), by simp [Act.put], Below.refl _ _, rfl⟩
        refine wf_step (fun wf hb hf => ?_) (fun t8 => ?_)
        · obtain ⟨rfl, rfl, rfl, rfl, -⟩ := hf
          have p0 := (hb.cell (p := ⟨g, j * 2, none⟩) hgb).trans q00
          have p1 := (hb.cell (p := ⟨g, j * 2 + 1, none⟩) hgb).trans q01
          go_wp2
          exact ⟨rfl, .agg #[.int .i64 (tg zs j).1, .int .i64 (tg zs j).2], by simp [Act.put], Below.refl _ _, rfl⟩
        refine wf_done (fun w9 b9 hf => ?_)
        obtain ⟨rfl, rfl, rfl, rfl, rfl, rfl, rfl, rfl, rfl, -⟩ := hf
        show wpList _ _ _ [_] _ _
        refine wpList_frame (by simp [Act.put]; rfl) ?_
        have hB9 := btr hbel b9
        have hor9 : TmOwn w9 base (some ⟨g, 0, none⟩) c zs := HOR.out.below b9
        have HO9 := Lib.hid hor9
        have hkc : ¬ (c = j + 1) := by omega
        have HG9 : Hid (GrownS w w9 (fun k => blk (some ⟨g, 0, none⟩) = some k)) := GrownS.ofBelow hB9
        clear q10 q11 q00 q01 hbel hgb hor9 b9 HOR hB9
        go_wp2
        obtain ⟨V, rfl⟩ : ∃ V : World, V = wr := ⟨_, rfl⟩
        go_loopw [3, 5] (fun kv iv wr => ∃ (i m : Nat) (D : List Tm), j + 1 + (i + 1) ≤ zs.length ∧ iv = .int .i64 ((i : Int) + 1) ∧ kv = .int .i64 m ∧ Hid (CmpI zs (j + 1 + (i + 1)) m D) ∧ Hid (wr.ownsRow base 52 2 (.slice (some ⟨g, 0, none⟩) zs.length c) zs.length (timeL D)) ∧ Hid (GrownS w wr (fun k => blk (some ⟨g, 0, none⟩) = some k))) (fun _ iv _ => zs.length - (j + 1) - (intOf iv).toNat)
        case atStart => exact ⟨0, j + 1, zs, by omega, by simp, by go_num, by simpa [Hid] using HI.out, HO9.out, HG9.out⟩
        case round =>
          obtain ⟨i, m, D, hi, rfl, rfl, HD, HR, HG⟩ := hrel
          have hDl := HD.out.len
          have hml := HD.out.lt
          have hgb : g < wr.heap.size := (World.ownsRow.lt HR.out g rfl).2
          by_cases hlt2 : j + 1 + (i + 1) < zs.length
          · have g1 := timeL_get D (j + 1 + (i + 1)) (by omega)
            have g0 := timeL_get D (j + 1 + i) (by omega)
            rw [HD.out.at_ (by omega) hlt2] at g1
            rw [HD.out.at_ (by omega) (by omega)] at g0
            have e1 : (j + 1) * 2 + (i + 1) * 2 = (j + 1 + (i + 1)) * 2 := by omega
            have e0 : (j + 1) * 2 + i * 2 = (j + 1 + i) * 2 := by omega
            have q10 := (World.ownsRow.cellAt HR.out ((j + 1 + (i + 1)) * 2) (by omega)).trans g1.1
            have q11 := (World.ownsRow.cellAt HR.out ((j + 1 + (i + 1)) * 2 + 1) (by omega)).trans g1.2
            have q00 := (World.ownsRow.cellAt HR.out ((j + 1 + i) * 2) (by omega)).trans g0.1
            have q01 := (World.ownsRow.cellAt HR.out ((j + 1 + i) * 2 + 1) (by omega)).trans g0.2
            rw [← e1] at q10 q11
            rw [← e0] at q00 q01
            have hiI : (i : Int) + 1 < ((zs.length - (j + 1) : Nat) : Int) := by omega
            have hiI0 : (i : Int) < ((zs.length - (j + 1) : Nat) : Int) := by omega
            have hiN : i + 1 < zs.length - (j + 1) := by omega
            have hDL := Lib.hid hDl
            clear g1 g0 e1 e0 hDl
            by_cases he : tg zs (j + 1 + (i + 1)) = tg zs (j + 1 + i)
            · have heq := timeIn_b (a := tg zs (j + 1 + (i + 1))) (b := tg zs (j + 1 + i)) (r := true) (by simp [he])
              have HD2 := Lib.hid (HD.out.skip (by omega) (by simpa using he))
              clear he
              go_wp2_with fail
              refine wp_region_facts [[], [], [0, 1], [0, 1, 2], [], [], [5], [4, 5, 6], [4, 5, 6, 7]]
                [fun v' _ => v' = .slice (some ⟨g, (j + 1) * 2, none⟩) (zs.length - (j + 1)) (c - (j + 1)), fun v' _ => v' = .int .i64 (i + 1), fun v' _ => v' = .pointer (some ⟨g, (j + 1) * 2 + (i + 1) * 2, none⟩), fun v' _ => v' = .agg #[.int .i64 (tg zs (j + 1 + (i + 1))).1, .int .i64 (tg zs (j + 1 + (i + 1))).2], fun v' _ => v' = .slice (some ⟨g, (j + 1) * 2, none⟩) (zs.length - (j + 1)) (c - (j + 1)), fun v' _ => v' = .int .i64 (i + 1), fun v' _ => v' = .int .i64 i, fun v' _ => v' = .pointer (some ⟨g, (j + 1) * 2 + i * 2, none⟩), fun v' _ => v' = .agg #[.int .i64 (tg zs (j + 1 + i)).1, .int .i64 (tg zs (j + 1 + i)).2]]
                (by kernel_rfl) (by kernel_rfl) rfl ⟨stable_pure _, stable_pure _, stable_pure _, stable_pure _, stable_pure _, stable_pure _, stable_pure _, stable_pure _, stable_pure _, trivial⟩ ?_
              refine wf_step (fun wf hb hf => ?_) (fun t0 => ?_)
              · go_wp2
                exact ⟨rfl, .slice (some ⟨g, (j + 1) * 2, none⟩) (zs.length - (j + 1)) (c - (j + 1)), by simp [Act.put], Below.refl _ _, rfl⟩
              refine wf_step (fun wf hb hf => ?_) (fun t1 => ?_)
              · go_wp2
                exact ⟨rfl, .int .i64 (i + 1), by simp [Act.put], Below.refl _ _, rfl⟩
              refine wf_step (fun wf hb hf => ?_) (fun t2 => ?_)
              · obtain ⟨rfl, rfl, -⟩ := hf
                go_wp2
                exact ⟨rfl, .pointer (some ⟨g, (j + 1) * 2 + (i + 1) * 2, none⟩), by simp [Act.put], Below.refl _ _, rfl⟩
              refine wf_step (fun wf hb hf => ?_) (fun t3 => ?_)
              · obtain ⟨rfl, rfl, rfl, -⟩ := hf
                have p0 := (hb.cell (p := ⟨g, (j + 1) * 2 + (i + 1) * 2, none⟩) hgb).trans q10
                have p1 := (hb.cell (p := ⟨g, (j + 1) * 2 + (i + 1) * 2 + 1, none⟩) hgb).trans q11
                go_wp2
                exact ⟨rfl, .agg #[.int .i64 (tg zs (j + 1 + (i + 1))).1, .int .i64 (tg zs (j + 1 + (i + 1))).2], by simp [Act.put], Below.refl _ _, rfl⟩
              refine wf_step (fun wf hb hf => ?_) (fun t4 => ?_)
              · go_wp2
                exact ⟨rfl, .slice (some ⟨g, (j + 1) * 2, none⟩) (zs.length - (j + 1)) (c - (j + 1)), by simp [Act.put], Below.refl _ _, rfl⟩
              refine wf_step (fun wf hb hf => ?_) (fun t5 => ?_)
              · go_wp2
                exact ⟨rfl, .int .i64 (i + 1), by simp [Act.put], Below.refl _ _, rfl⟩
              refine wf_step (fun wf hb hf => ?_) (fun t6 => ?_)
              · obtain ⟨rfl, -⟩ := hf
                go_wp2
                exact ⟨rfl, .int .i64 i, by simp [Act.put], Below.refl _ _, rfl⟩
              refine wf_step (fun wf hb hf => ?_) (fun t7 => ?_)
              · obtain ⟨rfl, rfl, rfl, -⟩ := hf
                go_wp2
                exact ⟨rfl, .pointer (some ⟨g, (j + 1) * 2 + i * 2, none⟩), by simp [Act.put], Below.refl _ _, rfl⟩
              refine wf_step (fun wf hb hf => ?_) (fun t8 => ?_)
              · obtain ⟨rfl, rfl, rfl, rfl, -⟩ := hf
                have p0 := (hb.cell (p := ⟨g, (j + 1) * 2 + i * 2, none⟩) hgb).trans q00
                have p1 := (hb.cell (p := ⟨g, (j + 1) * 2 + i * 2 + 1, none⟩) hgb).trans q01
                go_wp2
                exact ⟨rfl, .agg #[.int .i64 (tg zs (j + 1 + i)).1, .int .i64 (tg zs (j + 1 + i)).2], by simp [Act.put], Below.refl _ _, rfl⟩
              refine wf_done (fun w10 b10 hf => ?_)
              obtain ⟨rfl, rfl, rfl, rfl, rfl, rfl, rfl, rfl, rfl, -⟩ := hf
              show wpList _ _ _ [_] _ _
              refine wpList_frame (by simp [Act.put]; rfl) ?_
              have HR9 : Hid (w10.ownsRow base 52 2 (.slice (some ⟨g, 0, none⟩) zs.length c) zs.length (timeL D)) := ownsRow_loc HR.out (fun k hk => b10.block k (World.ownsRow.lt HR.out k (by rw [ownBlock_slice]; exact hk)).2)
              have HG10 : Hid (GrownS w w10 (fun k => blk (some ⟨g, 0, none⟩) = some k)) := HG.out.trans (GrownS.ofBelow b10)
              clear q10 q11 q00 q01 b10
              go_wp2
              go_roundw
              case rel => exact ⟨i + 1, m, D, by omega, by go_num, rfl, HD2, HR9, HG10⟩
              case measure => simp [intOf]; omega
            · have heq := timeIn_b (a := tg zs (j + 1 + (i + 1))) (b := tg zs (j + 1 + i)) (r := false) (by simp [he])
              have HD2 := Lib.hid (HD.out.keep (by omega) hlt2 (by simpa using he))
              clear he
              go_wp2_with fail
              refine wp_region_facts [[], [], [0, 1], [0, 1, 2], [], [], [5], [4, 5, 6], [4, 5, 6, 7]]
                [fun v' _ => v' = .slice (some ⟨g, (j + 1) * 2, none⟩) (zs.length - (j + 1)) (c - (j + 1)), fun v' _ => v' = .int .i64 (i + 1), fun v' _ => v' = .pointer (some ⟨g, (j + 1) * 2 + (i + 1) * 2, none⟩), fun v' _ => v' = .agg #[.int .i64 (tg zs (j + 1 + (i + 1))).1, .int .i64 (tg zs (j + 1 + (i + 1))).2], fun v' _ => v' = .slice (some ⟨g, (j + 1) * 2, none⟩) (zs.length - (j + 1)) (c - (j + 1)), fun v' _ => v' = .int .i64 (i + 1), fun v' _ => v' = .int .i64 i, fun v' _ => v' = .pointer (some ⟨g, (j + 1) * 2 + i * 2, none⟩), fun v' _ => v' = .agg #[.int .i64 (tg zs (j + 1 + i)).1, .int .i64 (tg zs (j + 1 + i)).2]]
                (by kernel_rfl) (by kernel_rfl) rfl ⟨stable_pure _, stable_pure _, stable_pure _, stable_pure _, stable_pure _, stable_pure _, stable_pure _, stable_pure _, stable_pure _, trivial⟩ ?_
              refine wf_step (fun wf hb hf => ?_) (fun t0 => ?_)
              · go_wp2
                exact ⟨rfl, .slice (some ⟨g, (j + 1) * 2, none⟩) (zs.length - (j + 1)) (c - (j + 1)), by simp [Act.put], Below.refl _ _, rfl⟩
              refine wf_step (fun wf hb hf => ?_) (fun t1 => ?_)
              · go_wp2
                exact ⟨rfl, .int .i64 (i + 1), by simp [Act.put], Below.refl _ _, rfl⟩
              refine wf_step (fun wf hb hf => ?_) (fun t2 => ?_)
              · obtain ⟨rfl, rfl, -⟩ := hf
                go_wp2
                exact ⟨rfl, .pointer (some ⟨g, (j + 1) * 2 + (i + 1) * 2, none⟩), by simp [Act.put], Below.refl _ _, rfl⟩
              refine wf_step (fun wf hb hf => ?_) (fun t3 => ?_)
              · obtain ⟨rfl, rfl, rfl, -⟩ := hf
                have p0 := (hb.cell (p := ⟨g, (j + 1) * 2 + (i + 1) * 2, none⟩) hgb).trans q10
                have p1 := (hb.cell (p := ⟨g, (j + 1) * 2 + (i + 1) * 2 + 1, none⟩) hgb).trans q11
                go_wp2
                exact ⟨rfl, .agg #[.int .i64 (tg zs (j + 1 + (i + 1))).1, .int .i64 (tg zs (j + 1 + (i + 1))).2], by simp [Act.put], Below.refl _ _, rfl⟩
              refine wf_step (fun wf hb hf => ?_) (fun t4 => ?_)
              · go_wp2
                exact ⟨rfl, .slice (some ⟨g, (j + 1) * 2, none⟩) (zs.length - (j + 1)) (c - (j + 1)), by simp [Act.put], Below.refl _ _, rfl⟩
              refine wf_step (fun wf hb hf => ?_) (fun t5 => ?_)
              · go_wp2
                exact ⟨rfl, .int .i64 (i + 1), by simp [Act.put], Below.refl _ _, rfl⟩
              refine wf_step (fun wf hb hf => ?_) (fun t6 => ?_)
              · obtain ⟨rfl, -⟩ := hf
                go_wp2
                exact ⟨rfl, .int .i64 i, by simp [Act.put], Below.refl _ _, rfl⟩
              refine wf_step (fun wf hb hf => ?_) (fun t7 => ?_)
              · obtain ⟨rfl, rfl, rfl, -⟩ := hf
                go_wp2
                exact ⟨rfl, .pointer (some ⟨g, (j + 1) * 2 + i * 2, none⟩), by simp [Act.put], Below.refl _ _, rfl⟩
              refine wf_step (fun wf hb hf => ?_) (fun t8 => ?_)
              · obtain ⟨rfl, rfl, rfl, rfl, -⟩ := hf
                have p0 := (hb.cell (p := ⟨g, (j + 1) * 2 + i * 2, none⟩) hgb).trans q00
                have p1 := (hb.cell (p := ⟨g, (j + 1) * 2 + i * 2 + 1, none⟩) hgb).trans q01
                go_wp2
                exact ⟨rfl, .agg #[.int .i64 (tg zs (j + 1 + i)).1, .int .i64 (tg zs (j + 1 + i)).2], by simp [Act.put], Below.refl _ _, rfl⟩
              refine wf_done (fun w10 b10 hf => ?_)
              obtain ⟨rfl, rfl, rfl, rfl, rfl, rfl, rfl, rfl, rfl, -⟩ := hf
              show wpList _ _ _ [_] _ _
              refine wpList_frame (by simp [Act.put]; rfl) ?_
              have hR9 : w10.ownsRow base 52 2 (.slice (some ⟨g, 0, none⟩) zs.length c) zs.length (timeL D) := ownsRow_loc HR.out (fun k hk => b10.block k (World.ownsRow.lt HR.out k (by rw [ownBlock_slice]; exact hk)).2)
              have HG10 : Hid (GrownS w w10 (fun k => blk (some ⟨g, 0, none⟩) = some k)) := HG.out.trans (GrownS.ofBelow b10)
              have p10 := (b10.cell (p := ⟨g, (j + 1) * 2 + (i + 1) * 2, none⟩) hgb).trans q10
              have p11 := (b10.cell (p := ⟨g, (j + 1) * 2 + (i + 1) * 2 + 1, none⟩) hgb).trans q11
              have hg3 := timeL_get D m (by rw [hDL.out]; omega)
              have v0 := (World.ownsRow.cellAt hR9 (m * 2) (by omega)).trans hg3.1
              have v1 := (World.ownsRow.cellAt hR9 (m * 2 + 1) (by omega)).trans hg3.2
              have f0 := World.ownsRow.frozenAt hR9 (m * 2)
              have f1 := World.ownsRow.frozenAt hR9 (m * 2 + 1)
              have hst := (World.ownsRow.stored (World.ownsRow.stored hR9 (m * 2) (.int .i64 (tg zs (j + 1 + (i + 1))).1)).1 (m * 2 + 1) (.int .i64 (tg zs (j + 1 + (i + 1))).2)).1
              rw [timeL_set _ _ _ (by rw [hDL.out]; omega)] at hst
              have HST := Lib.hid hst
              have hmI : (m : Int) < zs.length := by omega
              clear q10 q11 q00 q01 b10 hst hR9 hg3
              go_wp2
              go_roundw
              case rel => exact ⟨i + 1, m + 1, _, by omega, by go_num, by go_num, HD2, HST, (HG10.out.set_ (p := ⟨g, m * 2, none⟩) rfl _).set_ (p := ⟨g, m * 2 + 1, none⟩) rfl _⟩
              case measure => simp [intOf]; omega
          · have hr : j + 1 + (i + 1) = zs.length := by omega
            have hiE : ¬ ((i : Int) + 1 < ((zs.length - (j + 1) : Nat) : Int)) := by omega
            have hiN : ¬ (i + 1 < zs.length - (j + 1)) := by omega
            have hml2 : m < zs.length := by omega
            have hmI : (m : Int) ≤ zs.length := by omega
            have hm0 : (0 : Int) ≤ (m : Int) := by omega
            have hmc : ¬ c = m := by omega
            have hmc2 : (m : Int) ≤ c := by omega
            have hcl : ∀ ty, (Builtin.clear_ #[30] ty #[.slice (some ⟨g, m * 2, none⟩) (zs.length - m) (c - m)]).run Try.prog wr = .ok (.tuple #[]) (wr.setCells g (m * 2) (Builtin.zeroCells (Value.agg #[.int .i64 0, .int .i64 0]).cells (zs.length - m)).toList) :=
              fun ty => run_clear_k wr _ _ ty _ 2 Try.underlying30 zero_time rfl (fun u hu => by simp [Value.cells] at hu; rcases hu with rfl | rfl <;> rfl) g (m * 2) _ _ (by omega) (fun o ho => by
                rw [World.ownsRow.cellAt HR.out (m * 2 + o) (by omega), List.getElem?_eq_getElem (by rw [timeL_len, hDl]; omega)]; rfl) (fun o ho => World.ownsRow.frozenAt HR.out _)
            have hdd : D.take m = ddN zs zs.length := by rw [HD.out.head, hr]
            have hmd : m = (ddN zs zs.length).length := by rw [← hr]; exact HD.out.cnt
            have hZ : ∀ W : World, W = wr.setCells g (m * 2) (Builtin.zeroCells (Value.agg #[.int .i64 0, .int .i64 0]).cells (zs.length - m)).toList → TmOwn W base (some ⟨g, 0, none⟩) c (ddN zs zs.length) ∧ GrownS w W (fun k => blk (some ⟨g, 0, none⟩) = some k) := by
              rintro W rfl
              obtain ⟨xs', h1, h2⟩ := ownsRow_setCells (Builtin.zeroCells (Value.agg #[.int .i64 0, .int .i64 0]).cells (zs.length - m)).toList (m * 2) wr _ HR.out
              have h3 := ownsRow_take h1 (show m ≤ zs.length by omega)
              rw [h2, timeL_take, hdd] at h3
              refine ⟨?_, grownS_setCells (S := fun k => blk (some ⟨g, 0, none⟩) = some k) rfl _ _ _ HG.out⟩
              unfold TmOwn
              rw [← hmd]
              exact h3
            have HZ := Lib.hid hZ
            have HL := Lib.hid hmd
            clear hZ hdd hmd hr hDl
            go_wp2
            go_ret
            exact ⟨by rw [← HL.out]; rfl, HZ.out _ rfl⟩
      · have heq := timeIn_b (a := tg zs (j + 1)) (b := tg zs j) (r := false) (by simp [he])
        have HA : Hid (∀ i, 1 ≤ i → i < j + 1 + 1 → tg zs i ≠ tg zs (i - 1)) := fun i h1 h2 => by
          rcases Nat.lt_or_ge i (j + 1) with h | h
          · exact hall.out i h1 h
          · obtain rfl : i = j + 1 := by omega
            exact he
        clear he hor
        go_wp2_with fail
        refine wp_region_facts [[], [], [0, 1], [0, 1, 2], [], [], [5], [4, 5, 6], [4, 5, 6, 7]]
          [fun v' _ => v' = .slice (some ⟨g, 0, none⟩) zs.length c, fun v' _ => v' = .int .i64 (j + 1), fun v' _ => v' = .pointer (some ⟨g, (j + 1) * 2, none⟩), fun v' _ => v' = .agg #[.int .i64 (tg zs (j + 1)).1, .int .i64 (tg zs (j + 1)).2], fun v' _ => v' = .slice (some ⟨g, 0, none⟩) zs.length c, fun v' _ => v' = .int .i64 (j + 1), fun v' _ => v' = .int .i64 j, fun v' _ => v' = .pointer (some ⟨g, j * 2, none⟩), fun v' _ => v' = .agg #[.int .i64 (tg zs j).1, .int .i64 (tg zs j).2]]
          (by kernel_rfl) (by kernel_rfl) rfl ⟨stable_pure _, stable_pure _, stable_pure _, stable_pure _, stable_pure _, stable_pure _, stable_pure _, stable_pure _, stable_pure _, trivial⟩ ?_
        refine wf_step (fun wf hb hf => ?_) (fun t0 => ?_)
        · go_wp2
          exact ⟨rfl, .slice (some ⟨g, 0, none⟩) zs.length c, by simp [Act.put], Below.refl _ _, rfl⟩
        refine wf_step (fun wf hb hf => ?_) (fun t1 => ?_)
        · go_wp2
          exact ⟨rfl, .int .i64 (j + 1), by simp [Act.put], Below.refl _ _, rfl⟩
        refine wf_step (fun wf hb hf => ?_) (fun t2 => ?_)
        · obtain ⟨rfl, rfl, -⟩ := hf
          go_wp2
          exact ⟨rfl, .pointer (some ⟨g, (j + 1) * 2, none⟩), by simp [Act.put], Below.refl _ _, rfl⟩
        refine wf_step (fun wf hb hf => ?_) (fun t3 => ?_)
        · obtain ⟨rfl, rfl, rfl, -⟩ := hf
          have p0 := (hb.cell (p := ⟨g, (j + 1) * 2, none⟩) hgb).trans q10
          have p1 := (hb.cell (p := ⟨g, (j + 1) * 2 + 1, none⟩) hgb).trans q11
          go_wp2
          exact ⟨rfl, .agg #[.int .i64 (tg zs (j + 1)).1, .int .i64 (tg zs (j + 1)).2], by simp [Act.put], Below.refl _ _, rfl⟩
        refine wf_step (fun wf hb hf => ?_) (fun t4 => ?_)
        · go_wp2
          exact ⟨rfl, .slice (some ⟨g, 0, none⟩) zs.length c, by simp [Act.put], Below.refl _ _, rfl⟩
        refine wf_step (fun wf hb hf => ?_) (fun t5 => ?_)
        · go_wp2
          exact ⟨rfl, .int .i64 (j + 1), by simp [Act.put], Below.refl _ _, rfl⟩
        refine wf_step (fun wf hb hf => ?_) (fun t6 => ?_)
        · obtain ⟨rfl, -⟩ := hf
          go_wp2
          exact ⟨rfl, .int .i64 j, by simp [Act.put], Below.refl _ _, rfl⟩
        refine wf_step (fun wf hb hf => ?_) (fun t7 => ?_)
        · obtain ⟨rfl, rfl, rfl, -⟩ := hf
          go_wp2
          exact ⟨rfl, .pointer (some ⟨g, j * 2, none⟩), by simp [Act.put], Below.refl _ _, rfl⟩
        refine wf_step (fun wf hb hf => ?_) (fun t8 => ?_)
        · obtain ⟨rfl, rfl, rfl, rfl, -⟩ := hf
          have p0 := (hb.cell (p := ⟨g, j * 2, none⟩) hgb).trans q00
          have p1 := (hb.cell (p := ⟨g, j * 2 + 1, none⟩) hgb).trans q01
          go_wp2
          exact ⟨rfl, .agg #[.int .i64 (tg zs j).1, .int .i64 (tg zs j).2], by simp [Act.put], Below.refl _ _, rfl⟩
        refine wf_done (fun w9 b9 hf => ?_)
        obtain ⟨rfl, rfl, rfl, rfl, rfl, rfl, rfl, rfl, rfl, -⟩ := hf
        show wpList _ _ _ [_] _ _
        refine wpList_frame (by simp [Act.put]; rfl) ?_
        have hB9 := btr hbel b9
        clear q10 q11 q00 q01 b9
        go_wp2
        go_roundw
        case rel => exact ⟨j + 1, by omega, by go_num, HA, hB9⟩
        case measure => simp [intOf]; omega
    · have hjn : j + 1 = zs.length := by omega
      have e : Hid (ddN zs zs.length = zs) := by
        have := ddN_all (zs := zs) zs.length (Nat.le_refl _) (fun i h1 h2 => hall.out i h1 (by omega))
        rw [List.take_length] at this
        exact this
      have hjI : ¬ ((j : Int) + 1 < zs.length) := by omega
      have HJ := Lib.hid hjn
      have HOR := Lib.hid hor
      clear hjn hor
      go_wp2
      go_ret
      exact ⟨by rw [e.out]; rfl, by rw [e.out]; exact HOR.out, GrownS.ofBelow hbel⟩
end Go.Proofs.Ytkonhjdfcfljpaa
