/- HELPER, no statement of the seat: the model's reaches and overdeleted. -/
import Derived.Test.YtageodemjlgdcaaMns
namespace Go.Proofs.Ytageodemjlgdcaa
open Go.RowKit Go.Sort
set_option linter.unusedSimpArgs false
set_option linter.unusedVariables false

theorem reaches_s (A : Option Addr) (c : Nat) (es : List Ent) (x y : Int) (w : World) (hx : EntsAt w A es) (hn : es.length ≤ 4194304) (hr : rowsIn es 4194304) :
    Calls Try.prog 116 #[.slice A es.length c, .int .i64 x, .int .i64 y] w fun e w' => e = .returned (.bool (reachB es x y)) ∧ Below w.heap.size w w' := by
  by_cases h : x = y
  · subst h
    have HT : Hid (reachB es x x = true) := by simp [Hid, reachB]
    go_enter Try.func116, Try.ntmps116
    go_wp2
    go_ret
    exact ⟨ret_bool HT.out.symm, Below.refl _ _⟩
  · have hcmp : (x == y) = false := by simpa using h
    have HT : Hid (reachB es x y = decide (0 < wOf es [x, y])) := by simp [Hid, reachB, h]
    have hcon := weightOf_s A c es (some ⟨w.heap.size, 0, none⟩) 2 [x, y] (w.alloc (.cells #[.int .i64 x, .int .i64 y] 3)) (hx.below entR (bal (Below.refl _ _) _)) (NewI.ints (Blk.newAt rfl)) hn hr (by simp)
    clear h hx
    generalize wOf es [x, y] = z at *
    go_enter Try.func116, Try.ntmps116
    go_wp2_with fail
    refine hcon.mono ?_
    rintro e w1 ⟨rfl, b1⟩
    have HB := Lib.hid (btr (bal (Below.refl w.heap.size w) (.cells #[.int .i64 x, .int .i64 y] 3)) b1)
    clear hcon b1
    go_wp2
    go_ret
    exact ⟨ret_bool HT.out.symm, HB.out⟩
def ovTo (a b : List Ent) (i : Nat) : List Ent := (a.take i).filter fun e => b.any fun f => hitB a e f
theorem ovTo_step (a b : List Ent) {i : Nat} (h : i < a.length) : ovTo a b (i + 1) = ovTo a b i ++ if (b.any fun f => hitB a a[i] f) = true then [a[i]] else [] := by
  unfold ovTo
  rw [List.take_succ_eq_append_getElem h, List.filter_append]
  congr 1
  by_cases hp : (b.any fun f => hitB a a[i] f) = true <;> simp [hp]
theorem ovTo_len (a b : List Ent) (i : Nat) : (ovTo a b i).length ≤ i := Nat.le_trans (List.length_filter_le _ _) (by simp; omega)
theorem ovTo_end (a b : List Ent) : ovTo a b a.length = overE a b := by simp [ovTo, overE]
theorem any_step {α : Type} {l : List α} (p : α → Bool) {k : Nat} (h : k < l.length) : (l.take (k + 1)).any p = ((l.take k).any p || p l[k]) := by
  rw [List.take_succ_eq_append_getElem h, List.any_append, List.any_cons, List.any_nil, Bool.or_false]
set_option maxRecDepth 100000 in
set_option maxHeartbeats 6400000 in
theorem overdeleted_s (A : Option Addr) (c : Nat) (a : List Ent) (B : Option Addr) (d : Nat) (b : List Ent) (w : World) (hx : EntsAt w A a) (hy : EntsAt w B b) (hra : rowsIn a 4194304) (ha : a.length ≤ 400) (hb : b.length ≤ 400) (ha2 : ∀ e ∈ a, e.1.length = 2) (hb2 : ∀ e ∈ b, e.1.length = 2) :
    Calls Try.prog 87 #[.slice A a.length c, .slice B b.length d] w fun e w' => ∃ A' c', e = .returned (.slice A' (overE a b).length c') ∧ EntsOw w' (news w w') A' c' (overE a b) ∧ Below w.heap.size w w' := by
  obtain ⟨i0, hi, hz0, hz1, hz2⟩ := info_parts Try.infoEnt
  have HA2 := Lib.hid ha2
  have HB2 := Lib.hid hb2
  have HXX := Lib.hid hx
  clear ha2 hb2
  go_enter Try.func87, Try.ntmps87
  go_wp2
  go_loopw [5, 6] (fun v i wr => ∃ i' A' c', i' ≤ a.length ∧ i = .int .i64 (i' : Nat) ∧ v = .slice A' (ovTo a b i').length c' ∧ EntsOw wr (news w wr) A' c' (ovTo a b i') ∧ Below w.heap.size w wr) (fun _ i _ => a.length - (intOf i).toNat)
  case atStart => exact ⟨0, _, _, by omega, rfl, rfl, ⟨_, _, SlF.made EntO 2 39 w #[] 0 (by simp [maxLen]) (by simp) ⟨Nat.le_refl _, by simp⟩ (fun k hk => by have := hk.2; simpa using this)⟩, bal (Below.refl _ _) _⟩
  case round =>
    obtain ⟨i, A', c', hil, rfl, rfl, hown, hbel⟩ := hrel
    by_cases hlt : i < a.length
    · have HO := Lib.hid hown
      have HBV := Lib.hid hbel
      have hltI : (i : Int) < a.length := by omega
      have hst := ovTo_step a b hlt
      have hml := ovTo_len a b i
      have hrl := hra.get hlt
      have hl2a : a[i].1.length = 2 := HA2.out _ (List.getElem_mem hlt)
      obtain ⟨ab, ao, PA, pc, rfl, hab, pa0, pa1, -, prow⟩ := hx.get i hlt
      have HP := Lib.hid prow
      obtain ⟨pb, po, rfl, hpb, pcc⟩ := prow (by omega)
      have px0' := show w.cell? ⟨pb, po, none⟩ = some (.int .i64 (gi a[i].1 0)) by have := pcc 0 (by omega); simpa [gi] using this
      have px1' := show w.cell? ⟨pb, po + 1, none⟩ = some (.int .i64 (gi a[i].1 1)) by have := pcc 1 (by omega); simpa [gi] using this
      have HPX := Lib.hid (And.intro px0' (And.intro px1' (And.intro pa0 pa1)))
      have hp0 : 0 < a[i].1.length := by omega
      have hp1 : 1 < a[i].1.length := by omega
      clear hown hbel px0' px1' pa0 pa1 pcc prow hl2a
      generalize hM : ovTo a b i = M at *
      have HM := Lib.hid hM
      clear hM
      go_wp2
      obtain ⟨V, rfl⟩ : ∃ V : World, V = wr := ⟨_, rfl⟩
      go_loopw [7, 8] (fun v j wr => ∃ k, k ≤ b.length ∧ j = .int .i64 (k : Nat) ∧ v = .bool ((b.take k).any fun f => hitB a a[i] f) ∧ Below V.heap.size V wr) (fun _ j _ => b.length - (intOf j).toNat)
      case atStart => exact ⟨0, by omega, rfl, by simp, Below.refl _ _⟩
      case round =>
        obtain ⟨k, hk, rfl, rfl, hbel⟩ := hrel
        by_cases hlk : k < b.length
        · have HV := Lib.hid hbel
          have HB := Lib.hid (btr HBV.out hbel)
          obtain ⟨bb, bo, QA, qc, rfl, hbb, pb', -, -, qrow⟩ := hy.get k hlk
          have hsw := HB.out.size
          have hl2b : b[k].1.length = 2 := HB2.out _ (List.getElem_mem hlk)
          obtain ⟨qb, qo, rfl, hqb, qcc⟩ := qrow (by omega)
          have pa := (HB.out.cell (p := ⟨ab, ao + i * 2, none⟩) hab).trans HPX.out.2.2.1
          have pb' := (HB.out.cell (p := ⟨bb, bo + k * 2, none⟩) hbb).trans pb'
          have px0 := (HB.out.cell (p := ⟨pb, po, none⟩) hpb).trans HPX.out.1
          have px1 := (HB.out.cell (p := ⟨pb, po + 1, none⟩) hpb).trans HPX.out.2.1
          have qy0 := (HB.out.cell (p := ⟨qb, qo, none⟩) hqb).trans (show _ = some (.int .i64 (gi b[k].1 0)) by have := qcc 0 (by omega); simpa [gi] using this)
          have qy1 := (HB.out.cell (p := ⟨qb, qo + 1, none⟩) hqb).trans (show _ = some (.int .i64 (gi b[k].1 1)) by have := qcc 1 (by omega); simpa [gi] using this)
          have hq0 : 0 < b[k].1.length := by omega
          have hq1 : 1 < b[k].1.length := by omega
          have hlkI : (k : Int) < b.length := by omega
          have hst := any_step (fun f => hitB a a[i] f) hlk
          have hc1 := fun (W : World) (hb : Below w.heap.size w W) => reaches_s (some ⟨ab, ao, none⟩) c a (gi a[i].1 0) (gi b[k].1 0) W (HXX.out.below entR hb) (by omega) hra
          have hc2 := fun (W : World) (hb : Below w.heap.size w W) => reaches_s (some ⟨ab, ao, none⟩) c a (gi b[k].1 1) (gi a[i].1 1) W (HXX.out.below entR hb) (by omega) hra
          have hhit : hitB a a[i] b[k] = (reachB a (gi a[i].1 0) (gi b[k].1 0) && reachB a (gi b[k].1 1) (gi a[i].1 1)) := rfl
          rw [hhit] at hst
          have HST := Lib.hid hst
          clear hbel qcc qrow hl2b hhit hst
          generalize reachB a (gi a[i].1 0) (gi b[k].1 0) = r1 at *
          generalize reachB a (gi b[k].1 1) (gi a[i].1 1) = r2 at *
          generalize gi a[i].1 0 = x0 at *
          generalize gi a[i].1 1 = x1 at *
          generalize gi b[k].1 0 = y0 at *
          generalize gi b[k].1 1 = y1 at *
          generalize ((b.take k).any fun f => hitB a a[i] f) = is at *
          cases is
          · cases r1
            · have HN : Hid (((b.take (k + 1)).any fun f => hitB a a[i] f) = false) := by rw [Hid, HST.out]; rfl
              clear HST
              go_wp2_with fail
              refine wp_region_facts [[], [0], [0, 1], [0, 1], [0, 1], [0, 1, 3, 4], [0, 1, 3, 4, 5], [0, 1, 3, 4, 5, 6], [0, 1, 3, 4, 5, 6, 7], [0, 1, 3, 4, 5, 6, 7, 8], [0, 1], [0, 1], [0, 1, 10, 11], [0, 1, 10, 11, 12], [0, 1, 10, 11, 12, 13], [0, 1, 10, 11, 12, 13, 14], [0, 1, 10, 11, 12, 13, 14, 15], List.range 17, List.range 18, List.range 19, List.range 19, List.range 19, [0, 1, 2, 3, 4, 5, 6, 7, 8, 9, 10, 11, 12, 13, 14, 15, 16, 17, 18, 20, 21], [0, 1, 2, 3, 4, 5, 6, 7, 8, 9, 10, 11, 12, 13, 14, 15, 16, 17, 18, 20, 21, 22], [0, 1, 2, 3, 4, 5, 6, 7, 8, 9, 10, 11, 12, 13, 14, 15, 16, 17, 18, 20, 21, 22, 23], [0, 1, 2, 3, 4, 5, 6, 7, 8, 9, 10, 11, 12, 13, 14, 15, 16, 17, 18, 20, 21, 22, 23, 24], [0, 1, 2, 3, 4, 5, 6, 7, 8, 9, 10, 11, 12, 13, 14, 15, 16, 17, 18, 20, 21, 22, 23, 24, 25], List.range 19, List.range 19, [0, 1, 2, 3, 4, 5, 6, 7, 8, 9, 10, 11, 12, 13, 14, 15, 16, 17, 18, 27, 28], [0, 1, 2, 3, 4, 5, 6, 7, 8, 9, 10, 11, 12, 13, 14, 15, 16, 17, 18, 27, 28, 29], [0, 1, 2, 3, 4, 5, 6, 7, 8, 9, 10, 11, 12, 13, 14, 15, 16, 17, 18, 27, 28, 29, 30], [0, 1, 2, 3, 4, 5, 6, 7, 8, 9, 10, 11, 12, 13, 14, 15, 16, 17, 18, 27, 28, 29, 30, 31], [0, 1, 2, 3, 4, 5, 6, 7, 8, 9, 10, 11, 12, 13, 14, 15, 16, 17, 18, 27, 28, 29, 30, 31, 32], List.range 34, List.range 35, List.range 36]
                [fun v' _ => v' = .bool false, fun v' _ => v' = .bool false, fun v' _ => v' = .slice (some ⟨ab, ao, none⟩) a.length c, fun v' _ => v' = .slice (some ⟨ab, ao, none⟩) a.length c, fun v' _ => v' = .int .i64 ((i : Nat)), fun v' _ => v' = .pointer (some ⟨ab, ao + i * 2, none⟩), fun v' _ => v' = .pointer (some ⟨ab, ao + i * 2, none⟩), fun v' _ => v' = .slice (some ⟨pb, po, none⟩) a[i].1.length pc, fun v' _ => v' = .pointer (some ⟨pb, po, none⟩), fun v' _ => v' = .int .i64 (x0), fun v' _ => v' = .slice (some ⟨bb, bo, none⟩) b.length d, fun v' _ => v' = .int .i64 ((k : Nat)), fun v' _ => v' = .pointer (some ⟨bb, bo + k * 2, none⟩), fun v' _ => v' = .pointer (some ⟨bb, bo + k * 2, none⟩), fun v' _ => v' = .slice (some ⟨qb, qo, none⟩) b[k].1.length qc, fun v' _ => v' = .pointer (some ⟨qb, qo, none⟩), fun v' _ => v' = .int .i64 (y0), fun v' _ => v' = .bool false, fun v' _ => v' = .bool false, fun v' _ => v' = undef, fun v' _ => v' = undef, fun v' _ => v' = undef, fun v' _ => v' = undef, fun v' _ => v' = undef, fun v' _ => v' = undef, fun v' _ => v' = undef, fun v' _ => v' = undef, fun v' _ => v' = undef, fun v' _ => v' = undef, fun v' _ => v' = undef, fun v' _ => v' = undef, fun v' _ => v' = undef, fun v' _ => v' = undef, fun v' _ => v' = undef, fun v' _ => v' = undef, fun v' _ => v' = .bool false, fun v' _ => v' = .bool false]
                (by kernel_rfl) (by kernel_rfl) rfl ⟨stable_pure _, stable_pure _, stable_pure _, stable_pure _, stable_pure _, stable_pure _, stable_pure _, stable_pure _, stable_pure _, stable_pure _, stable_pure _, stable_pure _, stable_pure _, stable_pure _, stable_pure _, stable_pure _, stable_pure _, stable_pure _, stable_pure _, stable_pure _, stable_pure _, stable_pure _, stable_pure _, stable_pure _, stable_pure _, stable_pure _, stable_pure _, stable_pure _, stable_pure _, stable_pure _, stable_pure _, stable_pure _, stable_pure _, stable_pure _, stable_pure _, stable_pure _, stable_pure _, trivial⟩ ?_
              refine wf_stepK [] [] (by kernel_rfl) (by kernel_rfl) (fun wf hb hf => ?_) (fun t0 => ?_)
              · refine ⟨?_⟩
                go_wp2
                exact ⟨rfl, .bool false, by kernel_rfl, Below.refl _ _, rfl⟩
              refine wf_stepK [0] [fun _ => t0 = .bool false] (by kernel_rfl) (by kernel_rfl) (fun wf hb hf => ?_) (fun t1 => ?_)
              · obtain ⟨rfl, -⟩ := hf
                refine ⟨?_⟩
                go_wp2
                exact ⟨rfl, .bool false, by kernel_rfl, Below.refl _ _, rfl⟩
              refine wf_stepK [1] [fun _ => t1 = .bool false] (by kernel_rfl) (by kernel_rfl) (fun wf hb hf => ?_) (fun t2 => ?_)
              · obtain ⟨rfl, -⟩ := hf
                refine WfOp.yes (by kernel_rfl) ?_
                dsimp only
                go_wp2
                exact ⟨rfl, .slice (some ⟨ab, ao, none⟩) a.length c, by kernel_rfl, Below.refl _ _, rfl⟩
              refine wf_stepK [1] [fun _ => t1 = .bool false] (by kernel_rfl) (by kernel_rfl) (fun wf hb hf => ?_) (fun t3 => ?_)
              · obtain ⟨rfl, -⟩ := hf
                refine WfOp.yes (by kernel_rfl) ?_
                dsimp only
                go_wp2
                exact ⟨rfl, .slice (some ⟨ab, ao, none⟩) a.length c, by kernel_rfl, Below.refl _ _, rfl⟩
              refine wf_stepK [1] [fun _ => t1 = .bool false] (by kernel_rfl) (by kernel_rfl) (fun wf hb hf => ?_) (fun t4 => ?_)
              · obtain ⟨rfl, -⟩ := hf
                refine WfOp.yes (by kernel_rfl) ?_
                dsimp only
                go_wp2
                exact ⟨rfl, .int .i64 ((i : Nat)), by kernel_rfl, Below.refl _ _, rfl⟩
              refine wf_stepK [1, 3, 4] [fun _ => t1 = .bool false, fun _ => t3 = .slice (some ⟨ab, ao, none⟩) a.length c, fun _ => t4 = .int .i64 ((i : Nat))] (by kernel_rfl) (by kernel_rfl) (fun wf hb hf => ?_) (fun t5 => ?_)
              · obtain ⟨rfl, rfl, rfl, -⟩ := hf
                refine WfOp.yes (by kernel_rfl) ?_
                dsimp only
                go_wp2
                exact ⟨rfl, .pointer (some ⟨ab, ao + i * 2, none⟩), by kernel_rfl, Below.refl _ _, rfl⟩
              refine wf_stepK [1, 5] [fun _ => t1 = .bool false, fun _ => t5 = .pointer (some ⟨ab, ao + i * 2, none⟩)] (by kernel_rfl) (by kernel_rfl) (fun wf hb hf => ?_) (fun t6 => ?_)
              · obtain ⟨rfl, rfl, -⟩ := hf
                refine WfOp.yes (by kernel_rfl) ?_
                dsimp only
                go_wp2
                exact ⟨rfl, .pointer (some ⟨ab, ao + i * 2, none⟩), by kernel_rfl, Below.refl _ _, rfl⟩
              refine wf_stepK [1, 6] [fun _ => t1 = .bool false, fun _ => t6 = .pointer (some ⟨ab, ao + i * 2, none⟩)] (by kernel_rfl) (by kernel_rfl) (fun wf hb hf => ?_) (fun t7 => ?_)
              · obtain ⟨rfl, rfl, -⟩ := hf
                refine WfOp.yes (by kernel_rfl) ?_
                dsimp only
                have z0 := (hb.cell (p := ⟨ab, ao + i * 2, none⟩) (Nat.lt_of_lt_of_le hab hsw)).trans pa
                go_wp2
                exact ⟨rfl, .slice (some ⟨pb, po, none⟩) a[i].1.length pc, by kernel_rfl, Below.refl _ _, rfl⟩
              refine wf_stepK [1, 7] [fun _ => t1 = .bool false, fun _ => t7 = .slice (some ⟨pb, po, none⟩) a[i].1.length pc] (by kernel_rfl) (by kernel_rfl) (fun wf hb hf => ?_) (fun t8 => ?_)
              · obtain ⟨rfl, rfl, -⟩ := hf
                refine WfOp.yes (by kernel_rfl) ?_
                dsimp only
                go_wp2
                exact ⟨rfl, .pointer (some ⟨pb, po, none⟩), by kernel_rfl, Below.refl _ _, rfl⟩
              refine wf_stepK [1, 8] [fun _ => t1 = .bool false, fun _ => t8 = .pointer (some ⟨pb, po, none⟩)] (by kernel_rfl) (by kernel_rfl) (fun wf hb hf => ?_) (fun t9 => ?_)
              · obtain ⟨rfl, rfl, -⟩ := hf
                refine WfOp.yes (by kernel_rfl) ?_
                dsimp only
                have z0 := (hb.cell (p := ⟨pb, po, none⟩) (Nat.lt_of_lt_of_le hpb hsw)).trans px0
                go_wp2
                exact ⟨rfl, .int .i64 (x0), by kernel_rfl, Below.refl _ _, rfl⟩
              refine wf_stepK [1] [fun _ => t1 = .bool false] (by kernel_rfl) (by kernel_rfl) (fun wf hb hf => ?_) (fun t10 => ?_)
              · obtain ⟨rfl, -⟩ := hf
                refine WfOp.yes (by kernel_rfl) ?_
                dsimp only
                go_wp2
                exact ⟨rfl, .slice (some ⟨bb, bo, none⟩) b.length d, by kernel_rfl, Below.refl _ _, rfl⟩
              refine wf_stepK [1] [fun _ => t1 = .bool false] (by kernel_rfl) (by kernel_rfl) (fun wf hb hf => ?_) (fun t11 => ?_)
              · obtain ⟨rfl, -⟩ := hf
                refine WfOp.yes (by kernel_rfl) ?_
                dsimp only
                go_wp2
                exact ⟨rfl, .int .i64 ((k : Nat)), by kernel_rfl, Below.refl _ _, rfl⟩
              refine wf_stepK [1, 10, 11] [fun _ => t1 = .bool false, fun _ => t10 = .slice (some ⟨bb, bo, none⟩) b.length d, fun _ => t11 = .int .i64 ((k : Nat))] (by kernel_rfl) (by kernel_rfl) (fun wf hb hf => ?_) (fun t12 => ?_)
              · obtain ⟨rfl, rfl, rfl, -⟩ := hf
                refine WfOp.yes (by kernel_rfl) ?_
                dsimp only
                go_wp2
                exact ⟨rfl, .pointer (some ⟨bb, bo + k * 2, none⟩), by kernel_rfl, Below.refl _ _, rfl⟩
              refine wf_stepK [1, 12] [fun _ => t1 = .bool false, fun _ => t12 = .pointer (some ⟨bb, bo + k * 2, none⟩)] (by kernel_rfl) (by kernel_rfl) (fun wf hb hf => ?_) (fun t13 => ?_)
              · obtain ⟨rfl, rfl, -⟩ := hf
                refine WfOp.yes (by kernel_rfl) ?_
                dsimp only
                go_wp2
                exact ⟨rfl, .pointer (some ⟨bb, bo + k * 2, none⟩), by kernel_rfl, Below.refl _ _, rfl⟩
              refine wf_stepK [1, 13] [fun _ => t1 = .bool false, fun _ => t13 = .pointer (some ⟨bb, bo + k * 2, none⟩)] (by kernel_rfl) (by kernel_rfl) (fun wf hb hf => ?_) (fun t14 => ?_)
              · obtain ⟨rfl, rfl, -⟩ := hf
                refine WfOp.yes (by kernel_rfl) ?_
                dsimp only
                have z0 := (hb.cell (p := ⟨bb, bo + k * 2, none⟩) (Nat.lt_of_lt_of_le hbb hsw)).trans pb'
                go_wp2
                exact ⟨rfl, .slice (some ⟨qb, qo, none⟩) b[k].1.length qc, by kernel_rfl, Below.refl _ _, rfl⟩
              refine wf_stepK [1, 14] [fun _ => t1 = .bool false, fun _ => t14 = .slice (some ⟨qb, qo, none⟩) b[k].1.length qc] (by kernel_rfl) (by kernel_rfl) (fun wf hb hf => ?_) (fun t15 => ?_)
              · obtain ⟨rfl, rfl, -⟩ := hf
                refine WfOp.yes (by kernel_rfl) ?_
                dsimp only
                go_wp2
                exact ⟨rfl, .pointer (some ⟨qb, qo, none⟩), by kernel_rfl, Below.refl _ _, rfl⟩
              refine wf_stepK [1, 15] [fun _ => t1 = .bool false, fun _ => t15 = .pointer (some ⟨qb, qo, none⟩)] (by kernel_rfl) (by kernel_rfl) (fun wf hb hf => ?_) (fun t16 => ?_)
              · obtain ⟨rfl, rfl, -⟩ := hf
                refine WfOp.yes (by kernel_rfl) ?_
                dsimp only
                have z0 := (hb.cell (p := ⟨qb, qo, none⟩) (Nat.lt_of_lt_of_le hqb hsw)).trans qy0
                go_wp2
                exact ⟨rfl, .int .i64 (y0), by kernel_rfl, Below.refl _ _, rfl⟩
              refine wf_stepK [1, 2, 9, 16] [fun _ => t1 = .bool false, fun _ => t2 = .slice (some ⟨ab, ao, none⟩) a.length c, fun _ => t9 = .int .i64 (x0), fun _ => t16 = .int .i64 (y0)] (by kernel_rfl) (by kernel_rfl) (fun wf hb hf => ?_) (fun t17 => ?_)
              · obtain ⟨rfl, rfl, rfl, rfl, -⟩ := hf
                refine WfOp.yes (by kernel_rfl) ?_
                dsimp only
                go_wp2_with (go_at_call 116; refine (hc1 _ (btr HB.out hb)).mono ?_; rintro e w2 ⟨rfl, hb2⟩)
                exact ⟨rfl, _, by kernel_rfl, hb2, rfl⟩
              refine wf_stepK [1, 17] [fun _ => t1 = .bool false, fun _ => t17 = .bool false] (by kernel_rfl) (by kernel_rfl) (fun wf hb hf => ?_) (fun t18 => ?_)
              · obtain ⟨rfl, rfl, -⟩ := hf
                refine WfOp.yes (by kernel_rfl) ?_
                dsimp only
                go_wp2
                exact ⟨rfl, .bool false, by kernel_rfl, Below.refl _ _, rfl⟩
              refine wf_stepK [18] [fun _ => t18 = .bool false] (by kernel_rfl) (by kernel_rfl) (fun wf hb hf => ?_) (fun t19 => ?_)
              · obtain ⟨rfl, -⟩ := hf
                exact WfOp.no (by kernel_rfl) rfl
              refine wf_stepK [18] [fun _ => t18 = .bool false] (by kernel_rfl) (by kernel_rfl) (fun wf hb hf => ?_) (fun t20 => ?_)
              · obtain ⟨rfl, -⟩ := hf
                exact WfOp.no (by kernel_rfl) rfl
              refine wf_stepK [18] [fun _ => t18 = .bool false] (by kernel_rfl) (by kernel_rfl) (fun wf hb hf => ?_) (fun t21 => ?_)
              · obtain ⟨rfl, -⟩ := hf
                exact WfOp.no (by kernel_rfl) rfl
              refine wf_stepK [18, 20, 21] [fun _ => t18 = .bool false, fun _ => t20 = undef, fun _ => t21 = undef] (by kernel_rfl) (by kernel_rfl) (fun wf hb hf => ?_) (fun t22 => ?_)
              · obtain ⟨rfl, rfl, rfl, -⟩ := hf
                exact WfOp.no (by kernel_rfl) rfl
              refine wf_stepK [18, 22] [fun _ => t18 = .bool false, fun _ => t22 = undef] (by kernel_rfl) (by kernel_rfl) (fun wf hb hf => ?_) (fun t23 => ?_)
              · obtain ⟨rfl, rfl, -⟩ := hf
                exact WfOp.no (by kernel_rfl) rfl
              refine wf_stepK [18, 23] [fun _ => t18 = .bool false, fun _ => t23 = undef] (by kernel_rfl) (by kernel_rfl) (fun wf hb hf => ?_) (fun t24 => ?_)
              · obtain ⟨rfl, rfl, -⟩ := hf
                exact WfOp.no (by kernel_rfl) rfl
              refine wf_stepK [18, 24] [fun _ => t18 = .bool false, fun _ => t24 = undef] (by kernel_rfl) (by kernel_rfl) (fun wf hb hf => ?_) (fun t25 => ?_)
              · obtain ⟨rfl, rfl, -⟩ := hf
                exact WfOp.no (by kernel_rfl) rfl
              refine wf_stepK [18, 25] [fun _ => t18 = .bool false, fun _ => t25 = undef] (by kernel_rfl) (by kernel_rfl) (fun wf hb hf => ?_) (fun t26 => ?_)
              · obtain ⟨rfl, rfl, -⟩ := hf
                exact WfOp.no (by kernel_rfl) rfl
              refine wf_stepK [18] [fun _ => t18 = .bool false] (by kernel_rfl) (by kernel_rfl) (fun wf hb hf => ?_) (fun t27 => ?_)
              · obtain ⟨rfl, -⟩ := hf
                exact WfOp.no (by kernel_rfl) rfl
              refine wf_stepK [18] [fun _ => t18 = .bool false] (by kernel_rfl) (by kernel_rfl) (fun wf hb hf => ?_) (fun t28 => ?_)
              · obtain ⟨rfl, -⟩ := hf
                exact WfOp.no (by kernel_rfl) rfl
              refine wf_stepK [18, 27, 28] [fun _ => t18 = .bool false, fun _ => t27 = undef, fun _ => t28 = undef] (by kernel_rfl) (by kernel_rfl) (fun wf hb hf => ?_) (fun t29 => ?_)
              · obtain ⟨rfl, rfl, rfl, -⟩ := hf
                exact WfOp.no (by kernel_rfl) rfl
              refine wf_stepK [18, 29] [fun _ => t18 = .bool false, fun _ => t29 = undef] (by kernel_rfl) (by kernel_rfl) (fun wf hb hf => ?_) (fun t30 => ?_)
              · obtain ⟨rfl, rfl, -⟩ := hf
                exact WfOp.no (by kernel_rfl) rfl
              refine wf_stepK [18, 30] [fun _ => t18 = .bool false, fun _ => t30 = undef] (by kernel_rfl) (by kernel_rfl) (fun wf hb hf => ?_) (fun t31 => ?_)
              · obtain ⟨rfl, rfl, -⟩ := hf
                exact WfOp.no (by kernel_rfl) rfl
              refine wf_stepK [18, 31] [fun _ => t18 = .bool false, fun _ => t31 = undef] (by kernel_rfl) (by kernel_rfl) (fun wf hb hf => ?_) (fun t32 => ?_)
              · obtain ⟨rfl, rfl, -⟩ := hf
                exact WfOp.no (by kernel_rfl) rfl
              refine wf_stepK [18, 32] [fun _ => t18 = .bool false, fun _ => t32 = undef] (by kernel_rfl) (by kernel_rfl) (fun wf hb hf => ?_) (fun t33 => ?_)
              · obtain ⟨rfl, rfl, -⟩ := hf
                exact WfOp.no (by kernel_rfl) rfl
              refine wf_stepK [18, 19, 26, 33] [fun _ => t18 = .bool false, fun _ => t19 = undef, fun _ => t26 = undef, fun _ => t33 = undef] (by kernel_rfl) (by kernel_rfl) (fun wf hb hf => ?_) (fun t34 => ?_)
              · obtain ⟨rfl, rfl, rfl, rfl, -⟩ := hf
                exact WfOp.no (by kernel_rfl) rfl
              refine wf_stepK [1, 18, 34] [fun _ => t1 = .bool false, fun _ => t18 = .bool false, fun _ => t34 = undef] (by kernel_rfl) (by kernel_rfl) (fun wf hb hf => ?_) (fun t35 => ?_)
              · obtain ⟨rfl, rfl, rfl, -⟩ := hf
                refine WfOp.yes (by kernel_rfl) ?_
                dsimp only
                go_wp2
                exact ⟨rfl, .bool false, by kernel_rfl, Below.refl _ _, rfl⟩
              refine wf_stepK [1, 35] [fun _ => t1 = .bool false, fun _ => t35 = .bool false] (by kernel_rfl) (by kernel_rfl) (fun wf hb hf => ?_) (fun t36 => ?_)
              · obtain ⟨rfl, rfl, -⟩ := hf
                refine ⟨?_⟩
                go_wp2
                exact ⟨rfl, .bool false, by kernel_rfl, Below.refl _ _, rfl⟩
              refine wf_doneK [36] [fun _ => t36 = .bool false] (by kernel_rfl) (by kernel_rfl) (fun w8 b8 hf => ?_)
              obtain ⟨rfl, -⟩ := hf
              show wpList _ _ _ [_] _ _
              refine wpList_frame (by simp [Act.put]; rfl) ?_
              have HB8 := Lib.hid (btr HV.out b8)
              clear pa pb' px0 px1 qy0 qy1 hc1 hc2 HB HV b8 hsw
              go_wp2
              go_roundw
              case rel => exact ⟨k + 1, by omega, by go_num, by rw [HN.out], HB8.out⟩
              case measure => simp [intOf]; omega
            · cases r2
              · have HN : Hid (((b.take (k + 1)).any fun f => hitB a a[i] f) = false) := by rw [Hid, HST.out]; rfl
                clear HST
                go_wp2_with fail
                refine wp_region_facts [[], [0], [0, 1], [0, 1], [0, 1], [0, 1, 3, 4], [0, 1, 3, 4, 5], [0, 1, 3, 4, 5, 6], [0, 1, 3, 4, 5, 6, 7], [0, 1, 3, 4, 5, 6, 7, 8], [0, 1], [0, 1], [0, 1, 10, 11], [0, 1, 10, 11, 12], [0, 1, 10, 11, 12, 13], [0, 1, 10, 11, 12, 13, 14], [0, 1, 10, 11, 12, 13, 14, 15], List.range 17, List.range 18, List.range 19, List.range 19, List.range 19, [0, 1, 2, 3, 4, 5, 6, 7, 8, 9, 10, 11, 12, 13, 14, 15, 16, 17, 18, 20, 21], [0, 1, 2, 3, 4, 5, 6, 7, 8, 9, 10, 11, 12, 13, 14, 15, 16, 17, 18, 20, 21, 22], [0, 1, 2, 3, 4, 5, 6, 7, 8, 9, 10, 11, 12, 13, 14, 15, 16, 17, 18, 20, 21, 22, 23], [0, 1, 2, 3, 4, 5, 6, 7, 8, 9, 10, 11, 12, 13, 14, 15, 16, 17, 18, 20, 21, 22, 23, 24], [0, 1, 2, 3, 4, 5, 6, 7, 8, 9, 10, 11, 12, 13, 14, 15, 16, 17, 18, 20, 21, 22, 23, 24, 25], List.range 19, List.range 19, [0, 1, 2, 3, 4, 5, 6, 7, 8, 9, 10, 11, 12, 13, 14, 15, 16, 17, 18, 27, 28], [0, 1, 2, 3, 4, 5, 6, 7, 8, 9, 10, 11, 12, 13, 14, 15, 16, 17, 18, 27, 28, 29], [0, 1, 2, 3, 4, 5, 6, 7, 8, 9, 10, 11, 12, 13, 14, 15, 16, 17, 18, 27, 28, 29, 30], [0, 1, 2, 3, 4, 5, 6, 7, 8, 9, 10, 11, 12, 13, 14, 15, 16, 17, 18, 27, 28, 29, 30, 31], [0, 1, 2, 3, 4, 5, 6, 7, 8, 9, 10, 11, 12, 13, 14, 15, 16, 17, 18, 27, 28, 29, 30, 31, 32], List.range 34, List.range 35, List.range 36]
                  [fun v' _ => v' = .bool false, fun v' _ => v' = .bool false, fun v' _ => v' = .slice (some ⟨ab, ao, none⟩) a.length c, fun v' _ => v' = .slice (some ⟨ab, ao, none⟩) a.length c, fun v' _ => v' = .int .i64 ((i : Nat)), fun v' _ => v' = .pointer (some ⟨ab, ao + i * 2, none⟩), fun v' _ => v' = .pointer (some ⟨ab, ao + i * 2, none⟩), fun v' _ => v' = .slice (some ⟨pb, po, none⟩) a[i].1.length pc, fun v' _ => v' = .pointer (some ⟨pb, po, none⟩), fun v' _ => v' = .int .i64 (x0), fun v' _ => v' = .slice (some ⟨bb, bo, none⟩) b.length d, fun v' _ => v' = .int .i64 ((k : Nat)), fun v' _ => v' = .pointer (some ⟨bb, bo + k * 2, none⟩), fun v' _ => v' = .pointer (some ⟨bb, bo + k * 2, none⟩), fun v' _ => v' = .slice (some ⟨qb, qo, none⟩) b[k].1.length qc, fun v' _ => v' = .pointer (some ⟨qb, qo, none⟩), fun v' _ => v' = .int .i64 (y0), fun v' _ => v' = .bool true, fun v' _ => v' = .bool true, fun v' _ => v' = .slice (some ⟨ab, ao, none⟩) a.length c, fun v' _ => v' = .slice (some ⟨bb, bo, none⟩) b.length d, fun v' _ => v' = .int .i64 ((k : Nat)), fun v' _ => v' = .pointer (some ⟨bb, bo + k * 2, none⟩), fun v' _ => v' = .pointer (some ⟨bb, bo + k * 2, none⟩), fun v' _ => v' = .slice (some ⟨qb, qo, none⟩) b[k].1.length qc, fun v' _ => v' = .pointer (some ⟨qb, qo + 1, none⟩), fun v' _ => v' = .int .i64 (y1), fun v' _ => v' = .slice (some ⟨ab, ao, none⟩) a.length c, fun v' _ => v' = .int .i64 ((i : Nat)), fun v' _ => v' = .pointer (some ⟨ab, ao + i * 2, none⟩), fun v' _ => v' = .pointer (some ⟨ab, ao + i * 2, none⟩), fun v' _ => v' = .slice (some ⟨pb, po, none⟩) a[i].1.length pc, fun v' _ => v' = .pointer (some ⟨pb, po + 1, none⟩), fun v' _ => v' = .int .i64 (x1), fun v' _ => v' = .bool false, fun v' _ => v' = .bool false, fun v' _ => v' = .bool false]
                  (by kernel_rfl) (by kernel_rfl) rfl ⟨stable_pure _, stable_pure _, stable_pure _, stable_pure _, stable_pure _, stable_pure _, stable_pure _, stable_pure _, stable_pure _, stable_pure _, stable_pure _, stable_pure _, stable_pure _, stable_pure _, stable_pure _, stable_pure _, stable_pure _, stable_pure _, stable_pure _, stable_pure _, stable_pure _, stable_pure _, stable_pure _, stable_pure _, stable_pure _, stable_pure _, stable_pure _, stable_pure _, stable_pure _, stable_pure _, stable_pure _, stable_pure _, stable_pure _, stable_pure _, stable_pure _, stable_pure _, stable_pure _, trivial⟩ ?_
                refine wf_stepK [] [] (by kernel_rfl) (by kernel_rfl) (fun wf hb hf => ?_) (fun t0 => ?_)
                · refine ⟨?_⟩
                  go_wp2
                  exact ⟨rfl, .bool false, by kernel_rfl, Below.refl _ _, rfl⟩
                refine wf_stepK [0] [fun _ => t0 = .bool false] (by kernel_rfl) (by kernel_rfl) (fun wf hb hf => ?_) (fun t1 => ?_)
                · obtain ⟨rfl, -⟩ := hf
                  refine ⟨?_⟩
                  go_wp2
                  exact ⟨rfl, .bool false, by kernel_rfl, Below.refl _ _, rfl⟩
                refine wf_stepK [1] [fun _ => t1 = .bool false] (by kernel_rfl) (by kernel_rfl) (fun wf hb hf => ?_) (fun t2 => ?_)
                · obtain ⟨rfl, -⟩ := hf
                  refine WfOp.yes (by kernel_rfl) ?_
                  dsimp only
                  go_wp2
                  exact ⟨rfl, .slice (some ⟨ab, ao, none⟩) a.length c, by kernel_rfl, Below.refl _ _, rfl⟩
                refine wf_stepK [1] [fun _ => t1 = .bool false] (by kernel_rfl) (by kernel_rfl) (fun wf hb hf => ?_) (fun t3 => ?_)
                · obtain ⟨rfl, -⟩ := hf
                  refine WfOp.yes (by kernel_rfl) ?_
                  dsimp only
                  go_wp2
                  exact ⟨rfl, .slice (some ⟨ab, ao, none⟩) a.length c, by kernel_rfl, Below.refl _ _, rfl⟩
                refine wf_stepK [1] [fun _ => t1 = .bool false] (by kernel_rfl) (by kernel_rfl) (fun wf hb hf => ?_) (fun t4 => ?_)
                · obtain ⟨rfl, -⟩ := hf
                  refine WfOp.yes (by kernel_rfl) ?_
                  dsimp only
                  go_wp2
                  exact ⟨rfl, .int .i64 ((i : Nat)), by kernel_rfl, Below.refl _ _, rfl⟩
                refine wf_stepK [1, 3, 4] [fun _ => t1 = .bool false, fun _ => t3 = .slice (some ⟨ab, ao, none⟩) a.length c, fun _ => t4 = .int .i64 ((i : Nat))] (by kernel_rfl) (by kernel_rfl) (fun wf hb hf => ?_) (fun t5 => ?_)
                · obtain ⟨rfl, rfl, rfl, -⟩ := hf
                  refine WfOp.yes (by kernel_rfl) ?_
                  dsimp only
                  go_wp2
                  exact ⟨rfl, .pointer (some ⟨ab, ao + i * 2, none⟩), by kernel_rfl, Below.refl _ _, rfl⟩
                refine wf_stepK [1, 5] [fun _ => t1 = .bool false, fun _ => t5 = .pointer (some ⟨ab, ao + i * 2, none⟩)] (by kernel_rfl) (by kernel_rfl) (fun wf hb hf => ?_) (fun t6 => ?_)
                · obtain ⟨rfl, rfl, -⟩ := hf
                  refine WfOp.yes (by kernel_rfl) ?_
                  dsimp only
                  go_wp2
                  exact ⟨rfl, .pointer (some ⟨ab, ao + i * 2, none⟩), by kernel_rfl, Below.refl _ _, rfl⟩
                refine wf_stepK [1, 6] [fun _ => t1 = .bool false, fun _ => t6 = .pointer (some ⟨ab, ao + i * 2, none⟩)] (by kernel_rfl) (by kernel_rfl) (fun wf hb hf => ?_) (fun t7 => ?_)
                · obtain ⟨rfl, rfl, -⟩ := hf
                  refine WfOp.yes (by kernel_rfl) ?_
                  dsimp only
                  have z0 := (hb.cell (p := ⟨ab, ao + i * 2, none⟩) (Nat.lt_of_lt_of_le hab hsw)).trans pa
                  go_wp2
                  exact ⟨rfl, .slice (some ⟨pb, po, none⟩) a[i].1.length pc, by kernel_rfl, Below.refl _ _, rfl⟩
                refine wf_stepK [1, 7] [fun _ => t1 = .bool false, fun _ => t7 = .slice (some ⟨pb, po, none⟩) a[i].1.length pc] (by kernel_rfl) (by kernel_rfl) (fun wf hb hf => ?_) (fun t8 => ?_)
                · obtain ⟨rfl, rfl, -⟩ := hf
                  refine WfOp.yes (by kernel_rfl) ?_
                  dsimp only
                  go_wp2
                  exact ⟨rfl, .pointer (some ⟨pb, po, none⟩), by kernel_rfl, Below.refl _ _, rfl⟩
                refine wf_stepK [1, 8] [fun _ => t1 = .bool false, fun _ => t8 = .pointer (some ⟨pb, po, none⟩)] (by kernel_rfl) (by kernel_rfl) (fun wf hb hf => ?_) (fun t9 => ?_)
                · obtain ⟨rfl, rfl, -⟩ := hf
                  refine WfOp.yes (by kernel_rfl) ?_
                  dsimp only
                  have z0 := (hb.cell (p := ⟨pb, po, none⟩) (Nat.lt_of_lt_of_le hpb hsw)).trans px0
                  go_wp2
                  exact ⟨rfl, .int .i64 (x0), by kernel_rfl, Below.refl _ _, rfl⟩
                refine wf_stepK [1] [fun _ => t1 = .bool false] (by kernel_rfl) (by kernel_rfl) (fun wf hb hf => ?_) (fun t10 => ?_)
                · obtain ⟨rfl, -⟩ := hf
                  refine WfOp.yes (by kernel_rfl) ?_
                  dsimp only
                  go_wp2
                  exact ⟨rfl, .slice (some ⟨bb, bo, none⟩) b.length d, by kernel_rfl, Below.refl _ _, rfl⟩
                refine wf_stepK [1] [fun _ => t1 = .bool false] (by kernel_rfl) (by kernel_rfl) (fun wf hb hf => ?_) (fun t11 => ?_)
                · obtain ⟨rfl, -⟩ := hf
                  refine WfOp.yes (by kernel_rfl) ?_
                  dsimp only
                  go_wp2
                  exact ⟨rfl, .int .i64 ((k : Nat)), by kernel_rfl, Below.refl _ _, rfl⟩
                refine wf_stepK [1, 10, 11] [fun _ => t1 = .bool false, fun _ => t10 = .slice (some ⟨bb, bo, none⟩) b.length d, fun _ => t11 = .int .i64 ((k : Nat))] (by kernel_rfl) (by kernel_rfl) (fun wf hb hf => ?_) (fun t12 => ?_)
                · obtain ⟨rfl, rfl, rfl, -⟩ := hf
                  refine WfOp.yes (by kernel_rfl) ?_
                  dsimp only
                  go_wp2
                  exact ⟨rfl, .pointer (some ⟨bb, bo + k * 2, none⟩), by kernel_rfl, Below.refl _ _, rfl⟩
                refine wf_stepK [1, 12] [fun _ => t1 = .bool false, fun _ => t12 = .pointer (some ⟨bb, bo + k * 2, none⟩)] (by kernel_rfl) (by kernel_rfl) (fun wf hb hf => ?_) (fun t13 => ?_)
                · obtain ⟨rfl, rfl, -⟩ := hf
                  refine WfOp.yes (by kernel_rfl) ?_
                  dsimp only
                  go_wp2
                  exact ⟨rfl, .pointer (some ⟨bb, bo + k * 2, none⟩), by kernel_rfl, Below.refl _ _, rfl⟩
                refine wf_stepK [1, 13] [fun _ => t1 = .bool false, fun _ => t13 = .pointer (some ⟨bb, bo + k * 2, none⟩)] (by kernel_rfl) (by kernel_rfl) (fun wf hb hf => ?_) (fun t14 => ?_)
                · obtain ⟨rfl, rfl, -⟩ := hf
                  refine WfOp.yes (by kernel_rfl) ?_
                  dsimp only
                  have z0 := (hb.cell (p := ⟨bb, bo + k * 2, none⟩) (Nat.lt_of_lt_of_le hbb hsw)).trans pb'
                  go_wp2
                  exact ⟨rfl, .slice (some ⟨qb, qo, none⟩) b[k].1.length qc, by kernel_rfl, Below.refl _ _, rfl⟩
                refine wf_stepK [1, 14] [fun _ => t1 = .bool false, fun _ => t14 = .slice (some ⟨qb, qo, none⟩) b[k].1.length qc] (by kernel_rfl) (by kernel_rfl) (fun wf hb hf => ?_) (fun t15 => ?_)
                · obtain ⟨rfl, rfl, -⟩ := hf
                  refine WfOp.yes (by kernel_rfl) ?_
                  dsimp only
                  go_wp2
                  exact ⟨rfl, .pointer (some ⟨qb, qo, none⟩), by kernel_rfl, Below.refl _ _, rfl⟩
                refine wf_stepK [1, 15] [fun _ => t1 = .bool false, fun _ => t15 = .pointer (some ⟨qb, qo, none⟩)] (by kernel_rfl) (by kernel_rfl) (fun wf hb hf => ?_) (fun t16 => ?_)
                · obtain ⟨rfl, rfl, -⟩ := hf
                  refine WfOp.yes (by kernel_rfl) ?_
                  dsimp only
                  have z0 := (hb.cell (p := ⟨qb, qo, none⟩) (Nat.lt_of_lt_of_le hqb hsw)).trans qy0
                  go_wp2
                  exact ⟨rfl, .int .i64 (y0), by kernel_rfl, Below.refl _ _, rfl⟩
                refine wf_stepK [1, 2, 9, 16] [fun _ => t1 = .bool false, fun _ => t2 = .slice (some ⟨ab, ao, none⟩) a.length c, fun _ => t9 = .int .i64 (x0), fun _ => t16 = .int .i64 (y0)] (by kernel_rfl) (by kernel_rfl) (fun wf hb hf => ?_) (fun t17 => ?_)
                · obtain ⟨rfl, rfl, rfl, rfl, -⟩ := hf
                  refine WfOp.yes (by kernel_rfl) ?_
                  dsimp only
                  go_wp2_with (go_at_call 116; refine (hc1 _ (btr HB.out hb)).mono ?_; rintro e w2 ⟨rfl, hb2⟩)
                  exact ⟨rfl, _, by kernel_rfl, hb2, rfl⟩
                refine wf_stepK [1, 17] [fun _ => t1 = .bool false, fun _ => t17 = .bool true] (by kernel_rfl) (by kernel_rfl) (fun wf hb hf => ?_) (fun t18 => ?_)
                · obtain ⟨rfl, rfl, -⟩ := hf
                  refine WfOp.yes (by kernel_rfl) ?_
                  dsimp only
                  go_wp2
                  exact ⟨rfl, .bool true, by kernel_rfl, Below.refl _ _, rfl⟩
                refine wf_stepK [18] [fun _ => t18 = .bool true] (by kernel_rfl) (by kernel_rfl) (fun wf hb hf => ?_) (fun t19 => ?_)
                · obtain ⟨rfl, -⟩ := hf
                  refine WfOp.yes (by kernel_rfl) ?_
                  dsimp only
                  go_wp2
                  exact ⟨rfl, .slice (some ⟨ab, ao, none⟩) a.length c, by kernel_rfl, Below.refl _ _, rfl⟩
                refine wf_stepK [18] [fun _ => t18 = .bool true] (by kernel_rfl) (by kernel_rfl) (fun wf hb hf => ?_) (fun t20 => ?_)
                · obtain ⟨rfl, -⟩ := hf
                  refine WfOp.yes (by kernel_rfl) ?_
                  dsimp only
                  go_wp2
                  exact ⟨rfl, .slice (some ⟨bb, bo, none⟩) b.length d, by kernel_rfl, Below.refl _ _, rfl⟩
                refine wf_stepK [18] [fun _ => t18 = .bool true] (by kernel_rfl) (by kernel_rfl) (fun wf hb hf => ?_) (fun t21 => ?_)
                · obtain ⟨rfl, -⟩ := hf
                  refine WfOp.yes (by kernel_rfl) ?_
                  dsimp only
                  go_wp2
                  exact ⟨rfl, .int .i64 ((k : Nat)), by kernel_rfl, Below.refl _ _, rfl⟩
                refine wf_stepK [18, 20, 21] [fun _ => t18 = .bool true, fun _ => t20 = .slice (some ⟨bb, bo, none⟩) b.length d, fun _ => t21 = .int .i64 ((k : Nat))] (by kernel_rfl) (by kernel_rfl) (fun wf hb hf => ?_) (fun t22 => ?_)
                · obtain ⟨rfl, rfl, rfl, -⟩ := hf
                  refine WfOp.yes (by kernel_rfl) ?_
                  dsimp only
                  go_wp2
                  exact ⟨rfl, .pointer (some ⟨bb, bo + k * 2, none⟩), by kernel_rfl, Below.refl _ _, rfl⟩
                refine wf_stepK [18, 22] [fun _ => t18 = .bool true, fun _ => t22 = .pointer (some ⟨bb, bo + k * 2, none⟩)] (by kernel_rfl) (by kernel_rfl) (fun wf hb hf => ?_) (fun t23 => ?_)
                · obtain ⟨rfl, rfl, -⟩ := hf
                  refine WfOp.yes (by kernel_rfl) ?_
                  dsimp only
                  go_wp2
                  exact ⟨rfl, .pointer (some ⟨bb, bo + k * 2, none⟩), by kernel_rfl, Below.refl _ _, rfl⟩
                refine wf_stepK [18, 23] [fun _ => t18 = .bool true, fun _ => t23 = .pointer (some ⟨bb, bo + k * 2, none⟩)] (by kernel_rfl) (by kernel_rfl) (fun wf hb hf => ?_) (fun t24 => ?_)
                · obtain ⟨rfl, rfl, -⟩ := hf
                  refine WfOp.yes (by kernel_rfl) ?_
                  dsimp only
                  have z0 := (hb.cell (p := ⟨bb, bo + k * 2, none⟩) (Nat.lt_of_lt_of_le hbb hsw)).trans pb'
                  go_wp2
                  exact ⟨rfl, .slice (some ⟨qb, qo, none⟩) b[k].1.length qc, by kernel_rfl, Below.refl _ _, rfl⟩
                refine wf_stepK [18, 24] [fun _ => t18 = .bool true, fun _ => t24 = .slice (some ⟨qb, qo, none⟩) b[k].1.length qc] (by kernel_rfl) (by kernel_rfl) (fun wf hb hf => ?_) (fun t25 => ?_)
                · obtain ⟨rfl, rfl, -⟩ := hf
                  refine WfOp.yes (by kernel_rfl) ?_
                  dsimp only
                  go_wp2
                  exact ⟨rfl, .pointer (some ⟨qb, qo + 1, none⟩), by kernel_rfl, Below.refl _ _, rfl⟩
                refine wf_stepK [18, 25] [fun _ => t18 = .bool true, fun _ => t25 = .pointer (some ⟨qb, qo + 1, none⟩)] (by kernel_rfl) (by kernel_rfl) (fun wf hb hf => ?_) (fun t26 => ?_)
                · obtain ⟨rfl, rfl, -⟩ := hf
                  refine WfOp.yes (by kernel_rfl) ?_
                  dsimp only
                  have z0 := (hb.cell (p := ⟨qb, qo + 1, none⟩) (Nat.lt_of_lt_of_le hqb hsw)).trans qy1
                  go_wp2
                  exact ⟨rfl, .int .i64 (y1), by kernel_rfl, Below.refl _ _, rfl⟩
                refine wf_stepK [18] [fun _ => t18 = .bool true] (by kernel_rfl) (by kernel_rfl) (fun wf hb hf => ?_) (fun t27 => ?_)
                · obtain ⟨rfl, -⟩ := hf
                  refine WfOp.yes (by kernel_rfl) ?_
                  dsimp only
                  go_wp2
                  exact ⟨rfl, .slice (some ⟨ab, ao, none⟩) a.length c, by kernel_rfl, Below.refl _ _, rfl⟩
                refine wf_stepK [18] [fun _ => t18 = .bool true] (by kernel_rfl) (by kernel_rfl) (fun wf hb hf => ?_) (fun t28 => ?_)
                · obtain ⟨rfl, -⟩ := hf
                  refine WfOp.yes (by kernel_rfl) ?_
                  dsimp only
                  go_wp2
                  exact ⟨rfl, .int .i64 ((i : Nat)), by kernel_rfl, Below.refl _ _, rfl⟩
                refine wf_stepK [18, 27, 28] [fun _ => t18 = .bool true, fun _ => t27 = .slice (some ⟨ab, ao, none⟩) a.length c, fun _ => t28 = .int .i64 ((i : Nat))] (by kernel_rfl) (by kernel_rfl) (fun wf hb hf => ?_) (fun t29 => ?_)
                · obtain ⟨rfl, rfl, rfl, -⟩ := hf
                  refine WfOp.yes (by kernel_rfl) ?_
                  dsimp only
                  go_wp2
                  exact ⟨rfl, .pointer (some ⟨ab, ao + i * 2, none⟩), by kernel_rfl, Below.refl _ _, rfl⟩
                refine wf_stepK [18, 29] [fun _ => t18 = .bool true, fun _ => t29 = .pointer (some ⟨ab, ao + i * 2, none⟩)] (by kernel_rfl) (by kernel_rfl) (fun wf hb hf => ?_) (fun t30 => ?_)
                · obtain ⟨rfl, rfl, -⟩ := hf
                  refine WfOp.yes (by kernel_rfl) ?_
                  dsimp only
                  go_wp2
                  exact ⟨rfl, .pointer (some ⟨ab, ao + i * 2, none⟩), by kernel_rfl, Below.refl _ _, rfl⟩
                refine wf_stepK [18, 30] [fun _ => t18 = .bool true, fun _ => t30 = .pointer (some ⟨ab, ao + i * 2, none⟩)] (by kernel_rfl) (by kernel_rfl) (fun wf hb hf => ?_) (fun t31 => ?_)
                · obtain ⟨rfl, rfl, -⟩ := hf
                  refine WfOp.yes (by kernel_rfl) ?_
                  dsimp only
                  have z0 := (hb.cell (p := ⟨ab, ao + i * 2, none⟩) (Nat.lt_of_lt_of_le hab hsw)).trans pa
                  go_wp2
                  exact ⟨rfl, .slice (some ⟨pb, po, none⟩) a[i].1.length pc, by kernel_rfl, Below.refl _ _, rfl⟩
                refine wf_stepK [18, 31] [fun _ => t18 = .bool true, fun _ => t31 = .slice (some ⟨pb, po, none⟩) a[i].1.length pc] (by kernel_rfl) (by kernel_rfl) (fun wf hb hf => ?_) (fun t32 => ?_)
                · obtain ⟨rfl, rfl, -⟩ := hf
                  refine WfOp.yes (by kernel_rfl) ?_
                  dsimp only
                  go_wp2
                  exact ⟨rfl, .pointer (some ⟨pb, po + 1, none⟩), by kernel_rfl, Below.refl _ _, rfl⟩
                refine wf_stepK [18, 32] [fun _ => t18 = .bool true, fun _ => t32 = .pointer (some ⟨pb, po + 1, none⟩)] (by kernel_rfl) (by kernel_rfl) (fun wf hb hf => ?_) (fun t33 => ?_)
                · obtain ⟨rfl, rfl, -⟩ := hf
                  refine WfOp.yes (by kernel_rfl) ?_
                  dsimp only
                  have z0 := (hb.cell (p := ⟨pb, po + 1, none⟩) (Nat.lt_of_lt_of_le hpb hsw)).trans px1
                  go_wp2
                  exact ⟨rfl, .int .i64 (x1), by kernel_rfl, Below.refl _ _, rfl⟩
                refine wf_stepK [18, 19, 26, 33] [fun _ => t18 = .bool true, fun _ => t19 = .slice (some ⟨ab, ao, none⟩) a.length c, fun _ => t26 = .int .i64 (y1), fun _ => t33 = .int .i64 (x1)] (by kernel_rfl) (by kernel_rfl) (fun wf hb hf => ?_) (fun t34 => ?_)
                · obtain ⟨rfl, rfl, rfl, rfl, -⟩ := hf
                  refine WfOp.yes (by kernel_rfl) ?_
                  dsimp only
                  go_wp2_with (go_at_call 116; refine (hc2 _ (btr HB.out hb)).mono ?_; rintro e w2 ⟨rfl, hb2⟩)
                  exact ⟨rfl, _, by kernel_rfl, hb2, rfl⟩
                refine wf_stepK [1, 18, 34] [fun _ => t1 = .bool false, fun _ => t18 = .bool true, fun _ => t34 = .bool false] (by kernel_rfl) (by kernel_rfl) (fun wf hb hf => ?_) (fun t35 => ?_)
                · obtain ⟨rfl, rfl, rfl, -⟩ := hf
                  refine WfOp.yes (by kernel_rfl) ?_
                  dsimp only
                  go_wp2
                  exact ⟨rfl, .bool false, by kernel_rfl, Below.refl _ _, rfl⟩
                refine wf_stepK [1, 35] [fun _ => t1 = .bool false, fun _ => t35 = .bool false] (by kernel_rfl) (by kernel_rfl) (fun wf hb hf => ?_) (fun t36 => ?_)
                · obtain ⟨rfl, rfl, -⟩ := hf
                  refine ⟨?_⟩
                  go_wp2
                  exact ⟨rfl, .bool false, by kernel_rfl, Below.refl _ _, rfl⟩
                refine wf_doneK [36] [fun _ => t36 = .bool false] (by kernel_rfl) (by kernel_rfl) (fun w8 b8 hf => ?_)
                obtain ⟨rfl, -⟩ := hf
                show wpList _ _ _ [_] _ _
                refine wpList_frame (by simp [Act.put]; rfl) ?_
                have HB8 := Lib.hid (btr HV.out b8)
                clear pa pb' px0 px1 qy0 qy1 hc1 hc2 HB HV b8 hsw
                go_wp2
                go_roundw
                case rel => exact ⟨k + 1, by omega, by go_num, by rw [HN.out], HB8.out⟩
                case measure => simp [intOf]; omega
              · have HN : Hid (((b.take (k + 1)).any fun f => hitB a a[i] f) = true) := by rw [Hid, HST.out]; rfl
                clear HST
                go_wp2_with fail
                refine wp_region_facts [[], [0], [0, 1], [0, 1], [0, 1], [0, 1, 3, 4], [0, 1, 3, 4, 5], [0, 1, 3, 4, 5, 6], [0, 1, 3, 4, 5, 6, 7], [0, 1, 3, 4, 5, 6, 7, 8], [0, 1], [0, 1], [0, 1, 10, 11], [0, 1, 10, 11, 12], [0, 1, 10, 11, 12, 13], [0, 1, 10, 11, 12, 13, 14], [0, 1, 10, 11, 12, 13, 14, 15], List.range 17, List.range 18, List.range 19, List.range 19, List.range 19, [0, 1, 2, 3, 4, 5, 6, 7, 8, 9, 10, 11, 12, 13, 14, 15, 16, 17, 18, 20, 21], [0, 1, 2, 3, 4, 5, 6, 7, 8, 9, 10, 11, 12, 13, 14, 15, 16, 17, 18, 20, 21, 22], [0, 1, 2, 3, 4, 5, 6, 7, 8, 9, 10, 11, 12, 13, 14, 15, 16, 17, 18, 20, 21, 22, 23], [0, 1, 2, 3, 4, 5, 6, 7, 8, 9, 10, 11, 12, 13, 14, 15, 16, 17, 18, 20, 21, 22, 23, 24], [0, 1, 2, 3, 4, 5, 6, 7, 8, 9, 10, 11, 12, 13, 14, 15, 16, 17, 18, 20, 21, 22, 23, 24, 25], List.range 19, List.range 19, [0, 1, 2, 3, 4, 5, 6, 7, 8, 9, 10, 11, 12, 13, 14, 15, 16, 17, 18, 27, 28], [0, 1, 2, 3, 4, 5, 6, 7, 8, 9, 10, 11, 12, 13, 14, 15, 16, 17, 18, 27, 28, 29], [0, 1, 2, 3, 4, 5, 6, 7, 8, 9, 10, 11, 12, 13, 14, 15, 16, 17, 18, 27, 28, 29, 30], [0, 1, 2, 3, 4, 5, 6, 7, 8, 9, 10, 11, 12, 13, 14, 15, 16, 17, 18, 27, 28, 29, 30, 31], [0, 1, 2, 3, 4, 5, 6, 7, 8, 9, 10, 11, 12, 13, 14, 15, 16, 17, 18, 27, 28, 29, 30, 31, 32], List.range 34, List.range 35, List.range 36]
                  [fun v' _ => v' = .bool false, fun v' _ => v' = .bool false, fun v' _ => v' = .slice (some ⟨ab, ao, none⟩) a.length c, fun v' _ => v' = .slice (some ⟨ab, ao, none⟩) a.length c, fun v' _ => v' = .int .i64 ((i : Nat)), fun v' _ => v' = .pointer (some ⟨ab, ao + i * 2, none⟩), fun v' _ => v' = .pointer (some ⟨ab, ao + i * 2, none⟩), fun v' _ => v' = .slice (some ⟨pb, po, none⟩) a[i].1.length pc, fun v' _ => v' = .pointer (some ⟨pb, po, none⟩), fun v' _ => v' = .int .i64 (x0), fun v' _ => v' = .slice (some ⟨bb, bo, none⟩) b.length d, fun v' _ => v' = .int .i64 ((k : Nat)), fun v' _ => v' = .pointer (some ⟨bb, bo + k * 2, none⟩), fun v' _ => v' = .pointer (some ⟨bb, bo + k * 2, none⟩), fun v' _ => v' = .slice (some ⟨qb, qo, none⟩) b[k].1.length qc, fun v' _ => v' = .pointer (some ⟨qb, qo, none⟩), fun v' _ => v' = .int .i64 (y0), fun v' _ => v' = .bool true, fun v' _ => v' = .bool true, fun v' _ => v' = .slice (some ⟨ab, ao, none⟩) a.length c, fun v' _ => v' = .slice (some ⟨bb, bo, none⟩) b.length d, fun v' _ => v' = .int .i64 ((k : Nat)), fun v' _ => v' = .pointer (some ⟨bb, bo + k * 2, none⟩), fun v' _ => v' = .pointer (some ⟨bb, bo + k * 2, none⟩), fun v' _ => v' = .slice (some ⟨qb, qo, none⟩) b[k].1.length qc, fun v' _ => v' = .pointer (some ⟨qb, qo + 1, none⟩), fun v' _ => v' = .int .i64 (y1), fun v' _ => v' = .slice (some ⟨ab, ao, none⟩) a.length c, fun v' _ => v' = .int .i64 ((i : Nat)), fun v' _ => v' = .pointer (some ⟨ab, ao + i * 2, none⟩), fun v' _ => v' = .pointer (some ⟨ab, ao + i * 2, none⟩), fun v' _ => v' = .slice (some ⟨pb, po, none⟩) a[i].1.length pc, fun v' _ => v' = .pointer (some ⟨pb, po + 1, none⟩), fun v' _ => v' = .int .i64 (x1), fun v' _ => v' = .bool true, fun v' _ => v' = .bool true, fun v' _ => v' = .bool true]
                  (by kernel_rfl) (by kernel_rfl) rfl ⟨stable_pure _, stable_pure _, stable_pure _, stable_pure _, stable_pure _, stable_pure _, stable_pure _, stable_pure _, stable_pure _, stable_pure _, stable_pure _, stable_pure _, stable_pure _, stable_pure _, stable_pure _, stable_pure _, stable_pure _, stable_pure _, stable_pure _, stable_pure _, stable_pure _, stable_pure _, stable_pure _, stable_pure _, stable_pure _, stable_pure _, stable_pure _, stable_pure _, stable_pure _, stable_pure _, stable_pure _, stable_pure _, stable_pure _, stable_pure _, stable_pure _, stable_pure _, stable_pure _, trivial⟩ ?_
                refine wf_stepK [] [] (by kernel_rfl) (by kernel_rfl) (fun wf hb hf => ?_) (fun t0 => ?_)
                · refine ⟨?_⟩
                  go_wp2
                  exact ⟨rfl, .bool false, by kernel_rfl, Below.refl _ _, rfl⟩
                refine wf_stepK [0] [fun _ => t0 = .bool false] (by kernel_rfl) (by kernel_rfl) (fun wf hb hf => ?_) (fun t1 => ?_)
                · obtain ⟨rfl, -⟩ := hf
                  refine ⟨?_⟩
                  go_wp2
                  exact ⟨rfl, .bool false, by kernel_rfl, Below.refl _ _, rfl⟩
                refine wf_stepK [1] [fun _ => t1 = .bool false] (by kernel_rfl) (by kernel_rfl) (fun wf hb hf => ?_) (fun t2 => ?_)
                · obtain ⟨rfl, -⟩ := hf
                  refine WfOp.yes (by kernel_rfl) ?_
                  dsimp only
                  go_wp2
                  exact ⟨rfl, .slice (some ⟨ab, ao, none⟩) a.length c, by kernel_rfl, Below.refl _ _, rfl⟩
                refine wf_stepK [1] [fun _ => t1 = .bool false] (by kernel_rfl) (by kernel_rfl) (fun wf hb hf => ?_) (fun t3 => ?_)
                · obtain ⟨rfl, -⟩ := hf
                  refine WfOp.yes (by kernel_rfl) ?_
                  dsimp only
                  go_wp2
                  exact ⟨rfl, .slice (some ⟨ab, ao, none⟩) a.length c, by kernel_rfl, Below.refl _ _, rfl⟩
                refine wf_stepK [1] [fun _ => t1 = .bool false] (by kernel_rfl) (by kernel_rfl) (fun wf hb hf => ?_) (fun t4 => ?_)
                · obtain ⟨rfl, -⟩ := hf
                  refine WfOp.yes (by kernel_rfl) ?_
                  dsimp only
                  go_wp2
                  exact ⟨rfl, .int .i64 ((i : Nat)), by kernel_rfl, Below.refl _ _, rfl⟩
                refine wf_stepK [1, 3, 4] [fun _ => t1 = .bool false, fun _ => t3 = .slice (some ⟨ab, ao, none⟩) a.length c, fun _ => t4 = .int .i64 ((i : Nat))] (by kernel_rfl) (by kernel_rfl) (fun wf hb hf => ?_) (fun t5 => ?_)
                · obtain ⟨rfl, rfl, rfl, -⟩ := hf
                  refine WfOp.yes (by kernel_rfl) ?_
                  dsimp only
                  go_wp2
                  exact ⟨rfl, .pointer (some ⟨ab, ao + i * 2, none⟩), by kernel_rfl, Below.refl _ _, rfl⟩
                refine wf_stepK [1, 5] [fun _ => t1 = .bool false, fun _ => t5 = .pointer (some ⟨ab, ao + i * 2, none⟩)] (by kernel_rfl) (by kernel_rfl) (fun wf hb hf => ?_) (fun t6 => ?_)
                · obtain ⟨rfl, rfl, -⟩ := hf
                  refine WfOp.yes (by kernel_rfl) ?_
                  dsimp only
                  go_wp2
                  exact ⟨rfl, .pointer (some ⟨ab, ao + i * 2, none⟩), by kernel_rfl, Below.refl _ _, rfl⟩
                refine wf_stepK [1, 6] [fun _ => t1 = .bool false, fun _ => t6 = .pointer (some ⟨ab, ao + i * 2, none⟩)] (by kernel_rfl) (by kernel_rfl) (fun wf hb hf => ?_) (fun t7 => ?_)
                · obtain ⟨rfl, rfl, -⟩ := hf
                  refine WfOp.yes (by kernel_rfl) ?_
                  dsimp only
                  have z0 := (hb.cell (p := ⟨ab, ao + i * 2, none⟩) (Nat.lt_of_lt_of_le hab hsw)).trans pa
                  go_wp2
                  exact ⟨rfl, .slice (some ⟨pb, po, none⟩) a[i].1.length pc, by kernel_rfl, Below.refl _ _, rfl⟩
                refine wf_stepK [1, 7] [fun _ => t1 = .bool false, fun _ => t7 = .slice (some ⟨pb, po, none⟩) a[i].1.length pc] (by kernel_rfl) (by kernel_rfl) (fun wf hb hf => ?_) (fun t8 => ?_)
                · obtain ⟨rfl, rfl, -⟩ := hf
                  refine WfOp.yes (by kernel_rfl) ?_
                  dsimp only
                  go_wp2
                  exact ⟨rfl, .pointer (some ⟨pb, po, none⟩), by kernel_rfl, Below.refl _ _, rfl⟩
                refine wf_stepK [1, 8] [fun _ => t1 = .bool false, fun _ => t8 = .pointer (some ⟨pb, po, none⟩)] (by kernel_rfl) (by kernel_rfl) (fun wf hb hf => ?_) (fun t9 => ?_)
                · obtain ⟨rfl, rfl, -⟩ := hf
                  refine WfOp.yes (by kernel_rfl) ?_
                  dsimp only
                  have z0 := (hb.cell (p := ⟨pb, po, none⟩) (Nat.lt_of_lt_of_le hpb hsw)).trans px0
                  go_wp2
                  exact ⟨rfl, .int .i64 (x0), by kernel_rfl, Below.refl _ _, rfl⟩
                refine wf_stepK [1] [fun _ => t1 = .bool false] (by kernel_rfl) (by kernel_rfl) (fun wf hb hf => ?_) (fun t10 => ?_)
                · obtain ⟨rfl, -⟩ := hf
                  refine WfOp.yes (by kernel_rfl) ?_
                  dsimp only
                  go_wp2
                  exact ⟨rfl, .slice (some ⟨bb, bo, none⟩) b.length d, by kernel_rfl, Below.refl _ _, rfl⟩
                refine wf_stepK [1] [fun _ => t1 = .bool false] (by kernel_rfl) (by kernel_rfl) (fun wf hb hf => ?_) (fun t11 => ?_)
                · obtain ⟨rfl, -⟩ := hf
                  refine WfOp.yes (by kernel_rfl) ?_
                  dsimp only
                  go_wp2
                  exact ⟨rfl, .int .i64 ((k : Nat)), by kernel_rfl, Below.refl _ _, rfl⟩
                refine wf_stepK [1, 10, 11] [fun _ => t1 = .bool false, fun _ => t10 = .slice (some ⟨bb, bo, none⟩) b.length d, fun _ => t11 = .int .i64 ((k : Nat))] (by kernel_rfl) (by kernel_rfl) (fun wf hb hf => ?_) (fun t12 => ?_)
                · obtain ⟨rfl, rfl, rfl, -⟩ := hf
                  refine WfOp.yes (by kernel_rfl) ?_
                  dsimp only
                  go_wp2
                  exact ⟨rfl, .pointer (some ⟨bb, bo + k * 2, none⟩), by kernel_rfl, Below.refl _ _, rfl⟩
                refine wf_stepK [1, 12] [fun _ => t1 = .bool false, fun _ => t12 = .pointer (some ⟨bb, bo + k * 2, none⟩)] (by kernel_rfl) (by kernel_rfl) (fun wf hb hf => ?_) (fun t13 => ?_)
                · obtain ⟨rfl, rfl, -⟩ := hf
                  refine WfOp.yes (by kernel_rfl) ?_
                  dsimp only
                  go_wp2
                  exact ⟨rfl, .pointer (some ⟨bb, bo + k * 2, none⟩), by kernel_rfl, Below.refl _ _, rfl⟩
                refine wf_stepK [1, 13] [fun _ => t1 = .bool false, fun _ => t13 = .pointer (some ⟨bb, bo + k * 2, none⟩)] (by kernel_rfl) (by kernel_rfl) (fun wf hb hf => ?_) (fun t14 => ?_)
                · obtain ⟨rfl, rfl, -⟩ := hf
                  refine WfOp.yes (by kernel_rfl) ?_
                  dsimp only
                  have z0 := (hb.cell (p := ⟨bb, bo + k * 2, none⟩) (Nat.lt_of_lt_of_le hbb hsw)).trans pb'
                  go_wp2
                  exact ⟨rfl, .slice (some ⟨qb, qo, none⟩) b[k].1.length qc, by kernel_rfl, Below.refl _ _, rfl⟩
                refine wf_stepK [1, 14] [fun _ => t1 = .bool false, fun _ => t14 = .slice (some ⟨qb, qo, none⟩) b[k].1.length qc] (by kernel_rfl) (by kernel_rfl) (fun wf hb hf => ?_) (fun t15 => ?_)
                · obtain ⟨rfl, rfl, -⟩ := hf
                  refine WfOp.yes (by kernel_rfl) ?_
                  dsimp only
                  go_wp2
                  exact ⟨rfl, .pointer (some ⟨qb, qo, none⟩), by kernel_rfl, Below.refl _ _, rfl⟩
                refine wf_stepK [1, 15] [fun _ => t1 = .bool false, fun _ => t15 = .pointer (some ⟨qb, qo, none⟩)] (by kernel_rfl) (by kernel_rfl) (fun wf hb hf => ?_) (fun t16 => ?_)
                · obtain ⟨rfl, rfl, -⟩ := hf
                  refine WfOp.yes (by kernel_rfl) ?_
                  dsimp only
                  have z0 := (hb.cell (p := ⟨qb, qo, none⟩) (Nat.lt_of_lt_of_le hqb hsw)).trans qy0
                  go_wp2
                  exact ⟨rfl, .int .i64 (y0), by kernel_rfl, Below.refl _ _, rfl⟩
                refine wf_stepK [1, 2, 9, 16] [fun _ => t1 = .bool false, fun _ => t2 = .slice (some ⟨ab, ao, none⟩) a.length c, fun _ => t9 = .int .i64 (x0), fun _ => t16 = .int .i64 (y0)] (by kernel_rfl) (by kernel_rfl) (fun wf hb hf => ?_) (fun t17 => ?_)
                · obtain ⟨rfl, rfl, rfl, rfl, -⟩ := hf
                  refine WfOp.yes (by kernel_rfl) ?_
                  dsimp only
                  go_wp2_with (go_at_call 116; refine (hc1 _ (btr HB.out hb)).mono ?_; rintro e w2 ⟨rfl, hb2⟩)
                  exact ⟨rfl, _, by kernel_rfl, hb2, rfl⟩
                refine wf_stepK [1, 17] [fun _ => t1 = .bool false, fun _ => t17 = .bool true] (by kernel_rfl) (by kernel_rfl) (fun wf hb hf => ?_) (fun t18 => ?_)
                · obtain ⟨rfl, rfl, -⟩ := hf
                  refine WfOp.yes (by kernel_rfl) ?_
                  dsimp only
                  go_wp2
                  exact ⟨rfl, .bool true, by kernel_rfl, Below.refl _ _, rfl⟩
                refine wf_stepK [18] [fun _ => t18 = .bool true] (by kernel_rfl) (by kernel_rfl) (fun wf hb hf => ?_) (fun t19 => ?_)
                · obtain ⟨rfl, -⟩ := hf
                  refine WfOp.yes (by kernel_rfl) ?_
                  dsimp only
                  go_wp2
                  exact ⟨rfl, .slice (some ⟨ab, ao, none⟩) a.length c, by kernel_rfl, Below.refl _ _, rfl⟩
                refine wf_stepK [18] [fun _ => t18 = .bool true] (by kernel_rfl) (by kernel_rfl) (fun wf hb hf => ?_) (fun t20 => ?_)
                · obtain ⟨rfl, -⟩ := hf
                  refine WfOp.yes (by kernel_rfl) ?_
                  dsimp only
                  go_wp2
                  exact ⟨rfl, .slice (some ⟨bb, bo, none⟩) b.length d, by kernel_rfl, Below.refl _ _, rfl⟩
                refine wf_stepK [18] [fun _ => t18 = .bool true] (by kernel_rfl) (by kernel_rfl) (fun wf hb hf => ?_) (fun t21 => ?_)
                · obtain ⟨rfl, -⟩ := hf
                  refine WfOp.yes (by kernel_rfl) ?_
                  dsimp only
                  go_wp2
                  exact ⟨rfl, .int .i64 ((k : Nat)), by kernel_rfl, Below.refl _ _, rfl⟩
                refine wf_stepK [18, 20, 21] [fun _ => t18 = .bool true, fun _ => t20 = .slice (some ⟨bb, bo, none⟩) b.length d, fun _ => t21 = .int .i64 ((k : Nat))] (by kernel_rfl) (by kernel_rfl) (fun wf hb hf => ?_) (fun t22 => ?_)
                · obtain ⟨rfl, rfl, rfl, -⟩ := hf
                  refine WfOp.yes (by kernel_rfl) ?_
                  dsimp only
                  go_wp2
                  exact ⟨rfl, .pointer (some ⟨bb, bo + k * 2, none⟩), by kernel_rfl, Below.refl _ _, rfl⟩
                refine wf_stepK [18, 22] [fun _ => t18 = .bool true, fun _ => t22 = .pointer (some ⟨bb, bo + k * 2, none⟩)] (by kernel_rfl) (by kernel_rfl) (fun wf hb hf => ?_) (fun t23 => ?_)
                · obtain ⟨rfl, rfl, -⟩ := hf
                  refine WfOp.yes (by kernel_rfl) ?_
                  dsimp only
                  go_wp2
                  exact ⟨rfl, .pointer (some ⟨bb, bo + k * 2, none⟩), by kernel_rfl, Below.refl _ _, rfl⟩
                refine wf_stepK [18, 23] [fun _ => t18 = .bool true, fun _ => t23 = .pointer (some ⟨bb, bo + k * 2, none⟩)] (by kernel_rfl) (by kernel_rfl) (fun wf hb hf => ?_) (fun t24 => ?_)
                · obtain ⟨rfl, rfl, -⟩ := hf
                  refine WfOp.yes (by kernel_rfl) ?_
                  dsimp only
                  have z0 := (hb.cell (p := ⟨bb, bo + k * 2, none⟩) (Nat.lt_of_lt_of_le hbb hsw)).trans pb'
                  go_wp2
                  exact ⟨rfl, .slice (some ⟨qb, qo, none⟩) b[k].1.length qc, by kernel_rfl, Below.refl _ _, rfl⟩
                refine wf_stepK [18, 24] [fun _ => t18 = .bool true, fun _ => t24 = .slice (some ⟨qb, qo, none⟩) b[k].1.length qc] (by kernel_rfl) (by kernel_rfl) (fun wf hb hf => ?_) (fun t25 => ?_)
                · obtain ⟨rfl, rfl, -⟩ := hf
                  refine WfOp.yes (by kernel_rfl) ?_
                  dsimp only
                  go_wp2
                  exact ⟨rfl, .pointer (some ⟨qb, qo + 1, none⟩), by kernel_rfl, Below.refl _ _, rfl⟩
                refine wf_stepK [18, 25] [fun _ => t18 = .bool true, fun _ => t25 = .pointer (some ⟨qb, qo + 1, none⟩)] (by kernel_rfl) (by kernel_rfl) (fun wf hb hf => ?_) (fun t26 => ?_)
                · obtain ⟨rfl, rfl, -⟩ := hf
                  refine WfOp.yes (by kernel_rfl) ?_
                  dsimp only
                  have z0 := (hb.cell (p := ⟨qb, qo + 1, none⟩) (Nat.lt_of_lt_of_le hqb hsw)).trans qy1
                  go_wp2
                  exact ⟨rfl, .int .i64 (y1), by kernel_rfl, Below.refl _ _, rfl⟩
                refine wf_stepK [18] [fun _ => t18 = .bool true] (by kernel_rfl) (by kernel_rfl) (fun wf hb hf => ?_) (fun t27 => ?_)
                · obtain ⟨rfl, -⟩ := hf
                  refine WfOp.yes (by kernel_rfl) ?_
                  dsimp only
                  go_wp2
                  exact ⟨rfl, .slice (some ⟨ab, ao, none⟩) a.length c, by kernel_rfl, Below.refl _ _, rfl⟩
                refine wf_stepK [18] [fun _ => t18 = .bool true] (by kernel_rfl) (by kernel_rfl) (fun wf hb hf => ?_) (fun t28 => ?_)
                · obtain ⟨rfl, -⟩ := hf
                  refine WfOp.yes (by kernel_rfl) ?_
                  dsimp only
                  go_wp2
                  exact ⟨rfl, .int .i64 ((i : Nat)), by kernel_rfl, Below.refl _ _, rfl⟩
                refine wf_stepK [18, 27, 28] [fun _ => t18 = .bool true, fun _ => t27 = .slice (some ⟨ab, ao, none⟩) a.length c, fun _ => t28 = .int .i64 ((i : Nat))] (by kernel_rfl) (by kernel_rfl) (fun wf hb hf => ?_) (fun t29 => ?_)
                · obtain ⟨rfl, rfl, rfl, -⟩ := hf
                  refine WfOp.yes (by kernel_rfl) ?_
                  dsimp only
                  go_wp2
                  exact ⟨rfl, .pointer (some ⟨ab, ao + i * 2, none⟩), by kernel_rfl, Below.refl _ _, rfl⟩
                refine wf_stepK [18, 29] [fun _ => t18 = .bool true, fun _ => t29 = .pointer (some ⟨ab, ao + i * 2, none⟩)] (by kernel_rfl) (by kernel_rfl) (fun wf hb hf => ?_) (fun t30 => ?_)
                · obtain ⟨rfl, rfl, -⟩ := hf
                  refine WfOp.yes (by kernel_rfl) ?_
                  dsimp only
                  go_wp2
                  exact ⟨rfl, .pointer (some ⟨ab, ao + i * 2, none⟩), by kernel_rfl, Below.refl _ _, rfl⟩
                refine wf_stepK [18, 30] [fun _ => t18 = .bool true, fun _ => t30 = .pointer (some ⟨ab, ao + i * 2, none⟩)] (by kernel_rfl) (by kernel_rfl) (fun wf hb hf => ?_) (fun t31 => ?_)
                · obtain ⟨rfl, rfl, -⟩ := hf
                  refine WfOp.yes (by kernel_rfl) ?_
                  dsimp only
                  have z0 := (hb.cell (p := ⟨ab, ao + i * 2, none⟩) (Nat.lt_of_lt_of_le hab hsw)).trans pa
                  go_wp2
                  exact ⟨rfl, .slice (some ⟨pb, po, none⟩) a[i].1.length pc, by kernel_rfl, Below.refl _ _, rfl⟩
                refine wf_stepK [18, 31] [fun _ => t18 = .bool true, fun _ => t31 = .slice (some ⟨pb, po, none⟩) a[i].1.length pc] (by kernel_rfl) (by kernel_rfl) (fun wf hb hf => ?_) (fun t32 => ?_)
                · obtain ⟨rfl, rfl, -⟩ := hf
                  refine WfOp.yes (by kernel_rfl) ?_
                  dsimp only
                  go_wp2
                  exact ⟨rfl, .pointer (some ⟨pb, po + 1, none⟩), by kernel_rfl, Below.refl _ _, rfl⟩
                refine wf_stepK [18, 32] [fun _ => t18 = .bool true, fun _ => t32 = .pointer (some ⟨pb, po + 1, none⟩)] (by kernel_rfl) (by kernel_rfl) (fun wf hb hf => ?_) (fun t33 => ?_)
                · obtain ⟨rfl, rfl, -⟩ := hf
                  refine WfOp.yes (by kernel_rfl) ?_
                  dsimp only
                  have z0 := (hb.cell (p := ⟨pb, po + 1, none⟩) (Nat.lt_of_lt_of_le hpb hsw)).trans px1
                  go_wp2
                  exact ⟨rfl, .int .i64 (x1), by kernel_rfl, Below.refl _ _, rfl⟩
                refine wf_stepK [18, 19, 26, 33] [fun _ => t18 = .bool true, fun _ => t19 = .slice (some ⟨ab, ao, none⟩) a.length c, fun _ => t26 = .int .i64 (y1), fun _ => t33 = .int .i64 (x1)] (by kernel_rfl) (by kernel_rfl) (fun wf hb hf => ?_) (fun t34 => ?_)
                · obtain ⟨rfl, rfl, rfl, rfl, -⟩ := hf
                  refine WfOp.yes (by kernel_rfl) ?_
                  dsimp only
                  go_wp2_with (go_at_call 116; refine (hc2 _ (btr HB.out hb)).mono ?_; rintro e w2 ⟨rfl, hb2⟩)
                  exact ⟨rfl, _, by kernel_rfl, hb2, rfl⟩
                refine wf_stepK [1, 18, 34] [fun _ => t1 = .bool false, fun _ => t18 = .bool true, fun _ => t34 = .bool true] (by kernel_rfl) (by kernel_rfl) (fun wf hb hf => ?_) (fun t35 => ?_)
                · obtain ⟨rfl, rfl, rfl, -⟩ := hf
                  refine WfOp.yes (by kernel_rfl) ?_
                  dsimp only
                  go_wp2
                  exact ⟨rfl, .bool true, by kernel_rfl, Below.refl _ _, rfl⟩
                refine wf_stepK [1, 35] [fun _ => t1 = .bool false, fun _ => t35 = .bool true] (by kernel_rfl) (by kernel_rfl) (fun wf hb hf => ?_) (fun t36 => ?_)
                · obtain ⟨rfl, rfl, -⟩ := hf
                  refine ⟨?_⟩
                  go_wp2
                  exact ⟨rfl, .bool true, by kernel_rfl, Below.refl _ _, rfl⟩
                refine wf_doneK [36] [fun _ => t36 = .bool true] (by kernel_rfl) (by kernel_rfl) (fun w8 b8 hf => ?_)
                obtain ⟨rfl, -⟩ := hf
                show wpList _ _ _ [_] _ _
                refine wpList_frame (by simp [Act.put]; rfl) ?_
                have HB8 := Lib.hid (btr HV.out b8)
                clear pa pb' px0 px1 qy0 qy1 hc1 hc2 HB HV b8 hsw
                go_wp2
                go_roundw
                case rel => exact ⟨k + 1, by omega, by go_num, by rw [HN.out], HB8.out⟩
                case measure => simp [intOf]; omega
          · have HN : Hid (((b.take (k + 1)).any fun f => hitB a a[i] f) = true) := by rw [Hid, HST.out]; rfl
            clear HST
            go_wp2_with fail
            refine wp_region_facts [[], [0], [0, 1], [0, 1], [0, 1], [0, 1, 3, 4], [0, 1, 3, 4, 5], [0, 1, 3, 4, 5, 6], [0, 1, 3, 4, 5, 6, 7], [0, 1, 3, 4, 5, 6, 7, 8], [0, 1], [0, 1], [0, 1, 10, 11], [0, 1, 10, 11, 12], [0, 1, 10, 11, 12, 13], [0, 1, 10, 11, 12, 13, 14], [0, 1, 10, 11, 12, 13, 14, 15], List.range 17, List.range 18, List.range 19, List.range 19, List.range 19, [0, 1, 2, 3, 4, 5, 6, 7, 8, 9, 10, 11, 12, 13, 14, 15, 16, 17, 18, 20, 21], [0, 1, 2, 3, 4, 5, 6, 7, 8, 9, 10, 11, 12, 13, 14, 15, 16, 17, 18, 20, 21, 22], [0, 1, 2, 3, 4, 5, 6, 7, 8, 9, 10, 11, 12, 13, 14, 15, 16, 17, 18, 20, 21, 22, 23], [0, 1, 2, 3, 4, 5, 6, 7, 8, 9, 10, 11, 12, 13, 14, 15, 16, 17, 18, 20, 21, 22, 23, 24], [0, 1, 2, 3, 4, 5, 6, 7, 8, 9, 10, 11, 12, 13, 14, 15, 16, 17, 18, 20, 21, 22, 23, 24, 25], List.range 19, List.range 19, [0, 1, 2, 3, 4, 5, 6, 7, 8, 9, 10, 11, 12, 13, 14, 15, 16, 17, 18, 27, 28], [0, 1, 2, 3, 4, 5, 6, 7, 8, 9, 10, 11, 12, 13, 14, 15, 16, 17, 18, 27, 28, 29], [0, 1, 2, 3, 4, 5, 6, 7, 8, 9, 10, 11, 12, 13, 14, 15, 16, 17, 18, 27, 28, 29, 30], [0, 1, 2, 3, 4, 5, 6, 7, 8, 9, 10, 11, 12, 13, 14, 15, 16, 17, 18, 27, 28, 29, 30, 31], [0, 1, 2, 3, 4, 5, 6, 7, 8, 9, 10, 11, 12, 13, 14, 15, 16, 17, 18, 27, 28, 29, 30, 31, 32], List.range 34, List.range 35, List.range 36]
              [fun v' _ => v' = .bool true, fun v' _ => v' = .bool true, fun v' _ => v' = undef, fun v' _ => v' = undef, fun v' _ => v' = undef, fun v' _ => v' = undef, fun v' _ => v' = undef, fun v' _ => v' = undef, fun v' _ => v' = undef, fun v' _ => v' = undef, fun v' _ => v' = undef, fun v' _ => v' = undef, fun v' _ => v' = undef, fun v' _ => v' = undef, fun v' _ => v' = undef, fun v' _ => v' = undef, fun v' _ => v' = undef, fun v' _ => v' = undef, fun v' _ => v' = undef, fun v' _ => v' = undef, fun v' _ => v' = undef, fun v' _ => v' = undef, fun v' _ => v' = undef, fun v' _ => v' = undef, fun v' _ => v' = undef, fun v' _ => v' = undef, fun v' _ => v' = undef, fun v' _ => v' = undef, fun v' _ => v' = undef, fun v' _ => v' = undef, fun v' _ => v' = undef, fun v' _ => v' = undef, fun v' _ => v' = undef, fun v' _ => v' = undef, fun v' _ => v' = undef, fun v' _ => v' = undef, fun v' _ => v' = .bool true]
              (by kernel_rfl) (by kernel_rfl) rfl ⟨stable_pure _, stable_pure _, stable_pure _, stable_pure _, stable_pure _, stable_pure _, stable_pure _, stable_pure _, stable_pure _, stable_pure _, stable_pure _, stable_pure _, stable_pure _, stable_pure _, stable_pure _, stable_pure _, stable_pure _, stable_pure _, stable_pure _, stable_pure _, stable_pure _, stable_pure _, stable_pure _, stable_pure _, stable_pure _, stable_pure _, stable_pure _, stable_pure _, stable_pure _, stable_pure _, stable_pure _, stable_pure _, stable_pure _, stable_pure _, stable_pure _, stable_pure _, stable_pure _, trivial⟩ ?_
            refine wf_stepK [] [] (by kernel_rfl) (by kernel_rfl) (fun wf hb hf => ?_) (fun t0 => ?_)
            · refine ⟨?_⟩
              go_wp2
              exact ⟨rfl, .bool true, by kernel_rfl, Below.refl _ _, rfl⟩
            refine wf_stepK [0] [fun _ => t0 = .bool true] (by kernel_rfl) (by kernel_rfl) (fun wf hb hf => ?_) (fun t1 => ?_)
            · obtain ⟨rfl, -⟩ := hf
              refine ⟨?_⟩
              go_wp2
              exact ⟨rfl, .bool true, by kernel_rfl, Below.refl _ _, rfl⟩
            refine wf_stepK [1] [fun _ => t1 = .bool true] (by kernel_rfl) (by kernel_rfl) (fun wf hb hf => ?_) (fun t2 => ?_)
            · obtain ⟨rfl, -⟩ := hf
              exact WfOp.no (by kernel_rfl) rfl
            refine wf_stepK [1] [fun _ => t1 = .bool true] (by kernel_rfl) (by kernel_rfl) (fun wf hb hf => ?_) (fun t3 => ?_)
            · obtain ⟨rfl, -⟩ := hf
              exact WfOp.no (by kernel_rfl) rfl
            refine wf_stepK [1] [fun _ => t1 = .bool true] (by kernel_rfl) (by kernel_rfl) (fun wf hb hf => ?_) (fun t4 => ?_)
            · obtain ⟨rfl, -⟩ := hf
              exact WfOp.no (by kernel_rfl) rfl
            refine wf_stepK [1, 3, 4] [fun _ => t1 = .bool true, fun _ => t3 = undef, fun _ => t4 = undef] (by kernel_rfl) (by kernel_rfl) (fun wf hb hf => ?_) (fun t5 => ?_)
            · obtain ⟨rfl, rfl, rfl, -⟩ := hf
              exact WfOp.no (by kernel_rfl) rfl
            refine wf_stepK [1, 5] [fun _ => t1 = .bool true, fun _ => t5 = undef] (by kernel_rfl) (by kernel_rfl) (fun wf hb hf => ?_) (fun t6 => ?_)
            · obtain ⟨rfl, rfl, -⟩ := hf
              exact WfOp.no (by kernel_rfl) rfl
            refine wf_stepK [1, 6] [fun _ => t1 = .bool true, fun _ => t6 = undef] (by kernel_rfl) (by kernel_rfl) (fun wf hb hf => ?_) (fun t7 => ?_)
            · obtain ⟨rfl, rfl, -⟩ := hf
              exact WfOp.no (by kernel_rfl) rfl
            refine wf_stepK [1, 7] [fun _ => t1 = .bool true, fun _ => t7 = undef] (by kernel_rfl) (by kernel_rfl) (fun wf hb hf => ?_) (fun t8 => ?_)
            · obtain ⟨rfl, rfl, -⟩ := hf
              exact WfOp.no (by kernel_rfl) rfl
            refine wf_stepK [1, 8] [fun _ => t1 = .bool true, fun _ => t8 = undef] (by kernel_rfl) (by kernel_rfl) (fun wf hb hf => ?_) (fun t9 => ?_)
            · obtain ⟨rfl, rfl, -⟩ := hf
              exact WfOp.no (by kernel_rfl) rfl
            refine wf_stepK [1] [fun _ => t1 = .bool true] (by kernel_rfl) (by kernel_rfl) (fun wf hb hf => ?_) (fun t10 => ?_)
            · obtain ⟨rfl, -⟩ := hf
              exact WfOp.no (by kernel_rfl) rfl
            refine wf_stepK [1] [fun _ => t1 = .bool true] (by kernel_rfl) (by kernel_rfl) (fun wf hb hf => ?_) (fun t11 => ?_)
            · obtain ⟨rfl, -⟩ := hf
              exact WfOp.no (by kernel_rfl) rfl
            refine wf_stepK [1, 10, 11] [fun _ => t1 = .bool true, fun _ => t10 = undef, fun _ => t11 = undef] (by kernel_rfl) (by kernel_rfl) (fun wf hb hf => ?_) (fun t12 => ?_)
            · obtain ⟨rfl, rfl, rfl, -⟩ := hf
              exact WfOp.no (by kernel_rfl) rfl
            refine wf_stepK [1, 12] [fun _ => t1 = .bool true, fun _ => t12 = undef] (by kernel_rfl) (by kernel_rfl) (fun wf hb hf => ?_) (fun t13 => ?_)
            · obtain ⟨rfl, rfl, -⟩ := hf
              exact WfOp.no (by kernel_rfl) rfl
            refine wf_stepK [1, 13] [fun _ => t1 = .bool true, fun _ => t13 = undef] (by kernel_rfl) (by kernel_rfl) (fun wf hb hf => ?_) (fun t14 => ?_)
            · obtain ⟨rfl, rfl, -⟩ := hf
              exact WfOp.no (by kernel_rfl) rfl
            refine wf_stepK [1, 14] [fun _ => t1 = .bool true, fun _ => t14 = undef] (by kernel_rfl) (by kernel_rfl) (fun wf hb hf => ?_) (fun t15 => ?_)
            · obtain ⟨rfl, rfl, -⟩ := hf
              exact WfOp.no (by kernel_rfl) rfl
            refine wf_stepK [1, 15] [fun _ => t1 = .bool true, fun _ => t15 = undef] (by kernel_rfl) (by kernel_rfl) (fun wf hb hf => ?_) (fun t16 => ?_)
            · obtain ⟨rfl, rfl, -⟩ := hf
              exact WfOp.no (by kernel_rfl) rfl
            refine wf_stepK [1, 2, 9, 16] [fun _ => t1 = .bool true, fun _ => t2 = undef, fun _ => t9 = undef, fun _ => t16 = undef] (by kernel_rfl) (by kernel_rfl) (fun wf hb hf => ?_) (fun t17 => ?_)
            · obtain ⟨rfl, rfl, rfl, rfl, -⟩ := hf
              exact WfOp.no (by kernel_rfl) rfl
            refine wf_stepK [1, 17] [fun _ => t1 = .bool true, fun _ => t17 = undef] (by kernel_rfl) (by kernel_rfl) (fun wf hb hf => ?_) (fun t18 => ?_)
            · obtain ⟨rfl, rfl, -⟩ := hf
              exact WfOp.no (by kernel_rfl) rfl
            refine wf_stepK [18] [fun _ => t18 = undef] (by kernel_rfl) (by kernel_rfl) (fun wf hb hf => ?_) (fun t19 => ?_)
            · obtain ⟨rfl, -⟩ := hf
              exact WfOp.no (by kernel_rfl) rfl
            refine wf_stepK [18] [fun _ => t18 = undef] (by kernel_rfl) (by kernel_rfl) (fun wf hb hf => ?_) (fun t20 => ?_)
            · obtain ⟨rfl, -⟩ := hf
              exact WfOp.no (by kernel_rfl) rfl
            refine wf_stepK [18] [fun _ => t18 = undef] (by kernel_rfl) (by kernel_rfl) (fun wf hb hf => ?_) (fun t21 => ?_)
            · obtain ⟨rfl, -⟩ := hf
              exact WfOp.no (by kernel_rfl) rfl
            refine wf_stepK [18, 20, 21] [fun _ => t18 = undef, fun _ => t20 = undef, fun _ => t21 = undef] (by kernel_rfl) (by kernel_rfl) (fun wf hb hf => ?_) (fun t22 => ?_)
            · obtain ⟨rfl, rfl, rfl, -⟩ := hf
              exact WfOp.no (by kernel_rfl) rfl
            refine wf_stepK [18, 22] [fun _ => t18 = undef, fun _ => t22 = undef] (by kernel_rfl) (by kernel_rfl) (fun wf hb hf => ?_) (fun t23 => ?_)
            · obtain ⟨rfl, rfl, -⟩ := hf
              exact WfOp.no (by kernel_rfl) rfl
            refine wf_stepK [18, 23] [fun _ => t18 = undef, fun _ => t23 = undef] (by kernel_rfl) (by kernel_rfl) (fun wf hb hf => ?_) (fun t24 => ?_)
            · obtain ⟨rfl, rfl, -⟩ := hf
              exact WfOp.no (by kernel_rfl) rfl
            refine wf_stepK [18, 24] [fun _ => t18 = undef, fun _ => t24 = undef] (by kernel_rfl) (by kernel_rfl) (fun wf hb hf => ?_) (fun t25 => ?_)
            · obtain ⟨rfl, rfl, -⟩ := hf
              exact WfOp.no (by kernel_rfl) rfl
            refine wf_stepK [18, 25] [fun _ => t18 = undef, fun _ => t25 = undef] (by kernel_rfl) (by kernel_rfl) (fun wf hb hf => ?_) (fun t26 => ?_)
            · obtain ⟨rfl, rfl, -⟩ := hf
              exact WfOp.no (by kernel_rfl) rfl
            refine wf_stepK [18] [fun _ => t18 = undef] (by kernel_rfl) (by kernel_rfl) (fun wf hb hf => ?_) (fun t27 => ?_)
            · obtain ⟨rfl, -⟩ := hf
              exact WfOp.no (by kernel_rfl) rfl
            refine wf_stepK [18] [fun _ => t18 = undef] (by kernel_rfl) (by kernel_rfl) (fun wf hb hf => ?_) (fun t28 => ?_)
            · obtain ⟨rfl, -⟩ := hf
              exact WfOp.no (by kernel_rfl) rfl
            refine wf_stepK [18, 27, 28] [fun _ => t18 = undef, fun _ => t27 = undef, fun _ => t28 = undef] (by kernel_rfl) (by kernel_rfl) (fun wf hb hf => ?_) (fun t29 => ?_)
            · obtain ⟨rfl, rfl, rfl, -⟩ := hf
              exact WfOp.no (by kernel_rfl) rfl
            refine wf_stepK [18, 29] [fun _ => t18 = undef, fun _ => t29 = undef] (by kernel_rfl) (by kernel_rfl) (fun wf hb hf => ?_) (fun t30 => ?_)
            · obtain ⟨rfl, rfl, -⟩ := hf
              exact WfOp.no (by kernel_rfl) rfl
            refine wf_stepK [18, 30] [fun _ => t18 = undef, fun _ => t30 = undef] (by kernel_rfl) (by kernel_rfl) (fun wf hb hf => ?_) (fun t31 => ?_)
            · obtain ⟨rfl, rfl, -⟩ := hf
              exact WfOp.no (by kernel_rfl) rfl
            refine wf_stepK [18, 31] [fun _ => t18 = undef, fun _ => t31 = undef] (by kernel_rfl) (by kernel_rfl) (fun wf hb hf => ?_) (fun t32 => ?_)
            · obtain ⟨rfl, rfl, -⟩ := hf
              exact WfOp.no (by kernel_rfl) rfl
            refine wf_stepK [18, 32] [fun _ => t18 = undef, fun _ => t32 = undef] (by kernel_rfl) (by kernel_rfl) (fun wf hb hf => ?_) (fun t33 => ?_)
            · obtain ⟨rfl, rfl, -⟩ := hf
              exact WfOp.no (by kernel_rfl) rfl
            refine wf_stepK [18, 19, 26, 33] [fun _ => t18 = undef, fun _ => t19 = undef, fun _ => t26 = undef, fun _ => t33 = undef] (by kernel_rfl) (by kernel_rfl) (fun wf hb hf => ?_) (fun t34 => ?_)
            · obtain ⟨rfl, rfl, rfl, rfl, -⟩ := hf
              exact WfOp.no (by kernel_rfl) rfl
            refine wf_stepK [1, 18, 34] [fun _ => t1 = .bool true, fun _ => t18 = undef, fun _ => t34 = undef] (by kernel_rfl) (by kernel_rfl) (fun wf hb hf => ?_) (fun t35 => ?_)
            · obtain ⟨rfl, rfl, rfl, -⟩ := hf
              exact WfOp.no (by kernel_rfl) rfl
            refine wf_stepK [1, 35] [fun _ => t1 = .bool true, fun _ => t35 = undef] (by kernel_rfl) (by kernel_rfl) (fun wf hb hf => ?_) (fun t36 => ?_)
            · obtain ⟨rfl, rfl, -⟩ := hf
              refine ⟨?_⟩
              go_wp2
              exact ⟨rfl, .bool true, by kernel_rfl, Below.refl _ _, rfl⟩
            refine wf_doneK [36] [fun _ => t36 = .bool true] (by kernel_rfl) (by kernel_rfl) (fun w8 b8 hf => ?_)
            obtain ⟨rfl, -⟩ := hf
            show wpList _ _ _ [_] _ _
            refine wpList_frame (by simp [Act.put]; rfl) ?_
            have HB8 := Lib.hid (btr HV.out b8)
            clear pa pb' px0 px1 qy0 qy1 hc1 hc2 HB HV b8 hsw
            go_wp2
            go_roundw
            case rel => exact ⟨k + 1, by omega, by go_num, by rw [HN.out], HB8.out⟩
            case measure => simp [intOf]; omega
        · obtain rfl : k = b.length := by omega
          rw [List.take_length]
          have hbel1 := btr HBV.out hbel
          have HF1 := Lib.hid ((HO.out.below entO hbel).mono (fun q hq => (⟨hq.1, Nat.lt_of_lt_of_le hq.2 hbel.size⟩ : news w wr q)) (fun q hq => hq.2))
          have hs1 := hbel1.size
          by_cases hp : (b.any fun f => hitB a a[i] f) = true
          · rw [if_pos hp] at hst
            have q0 := (hbel1.cell (p := ⟨ab, ao + i * 2, none⟩) hab).trans HPX.out.2.2.1
            have q1 := (hbel1.cell (p := ⟨ab, ao + i * 2 + 1, none⟩) hab).trans HPX.out.2.2.2
            have HST := Lib.hid hst
            rw [hp]
            clear hst hp HO HBV
            obtain ⟨css, F, hfl⟩ := HF1.out
            have HFL := Lib.hid hfl
            clear hfl HF1
            go_wp2_with fail
            refine (copyEntry_s _ _ _ _ _ (HP.out.below hbel1) hrl).mono ?_
            rintro e w2 ⟨RA', rc', rfl, ho, hb2⟩
            have hrow2 := (HFL.out.loc entO (fun k hk => hb2.block k hk.2)).row
            have hbase : ∀ q, blk A' = some q → w.heap.size ≤ q := fun q hq => (HFL.out.top q hq).1
            have hs2 := hb2.size
            go_wp2_with (at_builtin; refine wpList_append_src _ rfl _ _ 23 rfl w.heap.size 39 i0 (.agg #[.slice none 0 0, .int .i64 0]) 2 32 Try.underlying23 hi hz0 hz1 hz2 rfl (by decide) _ _ _ rfl ((ownsRow_base hrow2 hbase).alloc _) (some ⟨w2.heap.size, 0, none⟩) 1 1 [.slice RA' a[i].1.length rc', .int .i64 a[i].2] rfl rfl (fun h => by cases h) ent_srcs ent_ones (by unfold maxLen; omega) (by omega) (by simp; omega) ?_)
            intro v' w3 hown' hgrow hloc
            rw [ownBlock_slice] at hgrow hloc
            have hp2 := HFL.out.pushE (w2 := w3) hbel1 hb2 ho hown' hgrow hloc
            obtain ⟨A3, c3, rfl, ho3, hb3⟩ := hp2
            rw [← HST.out] at ho3
            have HO3 := Lib.hid ho3
            have HB3 := Lib.hid hb3
            have HL : Hid (M.length + 1 = (ovTo a b (i + 1)).length) := by rw [HST.out]; simp [Hid]
            clear hown' hgrow hloc ho3 hb3 hrow2 hbase ho hb2 hbel hbel1 q0 q1 HFL
            go_wp2
            go_roundw
            case rel => exact ⟨i + 1, A3, c3, by omega, by go_num, by rw [HL.out], HO3.out, HB3.out⟩
            case measure => simp [intOf]; omega
          · rw [if_neg hp, List.append_nil] at hst
            have hp' : (b.any fun f => hitB a a[i] f) = false := by simpa using hp
            have HST := Lib.hid hst
            have HB3 := Lib.hid hbel1
            rw [hp']
            clear hst hp hp' HO HBV hbel hbel1
            go_wp2
            go_roundw
            case rel => exact ⟨i + 1, A', c', by omega, by go_num, by rw [HST.out], by rw [HST.out]; exact HF1.out, HB3.out⟩
            case measure => simp [intOf]; omega
    · obtain rfl : i = a.length := by omega
      rw [ovTo_end] at hown
      have HO := Lib.hid hown
      have HB := Lib.hid hbel
      have HT := Lib.hid (ovTo_end a b)
      clear hown hbel
      go_wp2
      go_ret
      exact ⟨A', c', by rw [HT.out]; rfl, HO.out, HB.out⟩
theorem overdeleted_r (A : Option Addr) (c : Nat) (q : List Nat) (B : Option Addr) (d : Nat) (g : List Nat) (w : World) (hx : EntsAt w A (prs q)) (hy : EntsAt w B (prs g)) {r m : List Nat} (hr : OkR r) (hm : OkR m) (hcl : closR r = q) (hg : g = andR r m) :
    Calls Try.prog 87 #[.slice A (prs q).length c, .slice B (prs g).length d] w fun e w' => ∃ A' c', e = .returned (.slice A' (prs (overR q g)).length c') ∧ EntsOw w' (news w w') A' c' (prs (overR q g)) ∧ Below w.heap.size w w' := by
  have h := overdeleted_s A c (prs q) B d (prs g) w hx hy (prs_smallR q) (prs_len q) (prs_len g) (fun e he => (prs_row q e he).2) (fun e he => (prs_row g e he).2)
  have he : overE (prs q) (prs g) = prs (overR q g) := by
    rw [← hcl]
    exact overE_prs hr (by rw [hg]; exact andR_ok hr hm) (fun x y h => by rw [hg, andR_has hr hm, Bool.and_eq_true] at h; exact h.1)
  rw [he] at h
  exact h
end Go.Proofs.Ytageodemjlgdcaa
