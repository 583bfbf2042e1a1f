/- HELPER, no statement of the seat: ValidPoly on the model's side. -/
import Derived.Test.YtffgonddephkkaaPlyV
namespace Go.Proofs.Ytffgonddephkkaa
open Go.RowKit Go.Sort
set_option linter.unusedSimpArgs false
set_option linter.unusedVariables false

theorem termLess_s (RA RB : Option Addr) (c d : Nat) (xs ys : List Int) (x y : Int) (w : World) (hx : IntsAt w RA xs) (hy : IntsAt w RB ys) (hn : xs.length ≤ 4194304) (hm : ys.length ≤ 4194304) :
    Calls Try.prog 86 #[.agg #[.int .i64 x, .slice RA xs.length c], .agg #[.int .i64 y, .slice RB ys.length d]] w fun e w' => e = .returned (.bool (lessB xs ys)) ∧ Below w.heap.size w w' := by
  have hb0 : Below w.heap.size w ((w.alloc (.cells #[.int .i64 x, .slice RA xs.length c] 103)).alloc (.cells #[.int .i64 y, .slice RB ys.length d] 103)) := bal (bal (Below.refl _ _) _) _
  go_enter Try.func86, Try.ntmps86
  go_wp2_with fail
  refine (rowLess_s _ _ _ _ _ _ _ (hx.below hb0) (hy.below hb0) (by omega) (by omega)).mono ?_
  rintro e w1 ⟨rfl, hb⟩
  have hB := btr hb0 hb
  go_wp2
  go_ret
  exact ⟨rfl, hB⟩
theorem inR_below (n : Int) (b : Bool) (h : inB n 0 299 = b) (w : World) : Calls Try.prog 54 #[.int .i64 n, .int .i64 0, .int .i64 299] w fun e w' => e = .returned (.bool b) ∧ Below w.heap.size w w' :=
  (inRange_any n _ _ w).mono fun e w' ⟨he, hw⟩ => ⟨by rw [he, ← h], hw ▸ Below.refl _ _⟩
/-- The variables up to m are in range and ascend. -/
def VarTo (xs : List Int) (m : Nat) : Prop := (∀ v ∈ xs.take m, inB v 0 299 = true) ∧ (∀ j (h : j + 1 < xs.length), j + 1 < m → xs[j]'(by omega) ≤ xs[j + 1])
theorem varTo_first {xs : List Int} (h0 : 0 < xs.length) (h : inB xs[0] 0 299 = true) : VarTo xs 1 := ⟨fun v hv => by
  rw [List.take_succ_eq_append_getElem h0] at hv
  simp at hv; subst hv; exact h, fun j hj hk => by omega⟩
theorem varTo_step {xs : List Int} {j : Nat} (hj : j + 1 < xs.length) (h : VarTo xs (j + 1)) (h1 : inB xs[j + 1] 0 299 = true) (h2 : xs[j]'(by omega) ≤ xs[j + 1]) : VarTo xs (j + 1 + 1) := ⟨fun v hv => by
  rw [List.take_succ_eq_append_getElem hj] at hv
  rcases List.mem_append.1 hv with hv | hv
  · exact h.1 v hv
  · simp at hv; subst hv; exact h1, fun i hi hk => by
  by_cases e : i = j
  · subst e; exact h2
  · exact h.2 i hi (by omega)⟩
theorem varTo_end {xs : List Int} (h : VarTo xs xs.length) : (∀ v ∈ xs, inB v 0 299 = true) ∧ Srt xs := ⟨fun v hv => h.1 v (by rw [List.take_length]; exact hv), fun j hj => h.2 j hj hj⟩

set_option maxRecDepth 100000 in
set_option maxHeartbeats 6400000 in
theorem validPoly_s (A : Option Addr) (c : Nat) (es : List Ent) (w : World) (hx : TrmsAt w A es) (hn : es.length ≤ 4194304) (hr : rowsIn es 4194304) :
    Calls Try.prog 58 #[.slice A es.length c] w fun e w' => e = .returned (.bool (plyB es)) ∧ Below w.heap.size w w' := by
  go_enter Try.func58, Try.ntmps58
  go_wp2
  go_loopw [3, 4, 5] (fun i _ _ wr => ∃ k : Nat, k ≤ es.length ∧ i = .int .i64 k ∧ PlyTo es k ∧ Below w.heap.size w wr) (fun i _ _ _ => es.length - (intOf i).toNat)
  case atStart => exact ⟨0, by omega, rfl, ⟨fun j h hk => by omega, fun j h hk => by omega⟩, Below.refl _ _⟩
  case round =>
    obtain ⟨k, hk, rfl, hall, hbel⟩ := hrel
    have HA := Lib.hid hall
    clear hall
    obtain ⟨V, hV⟩ : ∃ V : World, V = wr := ⟨_, rfl⟩
    subst hV
    by_cases hlt : k < es.length
    · have hx' := hx
      obtain ⟨b, off, RA, rc, rfl, hbl, hc0, hc1, -, hrow⟩ := hx.get k hlt
      have q1 := (hbel.cell (p := ⟨b, off + k * 2 + 1, none⟩) hbl).trans hc1
      have hrl := hr.get hlt
      have hlt' : (k : Int) < es.length := by omega
      obtain ⟨xs, hxs⟩ : ∃ xs, es[k].1 = xs := ⟨_, rfl⟩
      rw [hxs] at q1 hrow hrl hc1
      have HX := Lib.hid hxs
      clear hxs
      go_wp2
      clear q1
      go_loopw [5] (fun i wr => ∃ m : Nat, m ≤ xs.length ∧ i = .int .i64 m ∧ VarTo xs m ∧ Below w.heap.size w wr) (fun i _ => xs.length - (intOf i).toNat)
      case atStart => exact ⟨0, by omega, rfl, ⟨by simp, fun j h hk => by omega⟩, hbel⟩
      case round =>
        obtain ⟨m, hm, rfl, hv, hbel⟩ := hrel
        have HV := Lib.hid hv
        clear hv
        by_cases hml : m < xs.length
        · obtain ⟨b2, off2, rfl, hbl2, hcr⟩ := hrow (by omega)
          have hml' : (m : Int) < xs.length := by omega
          have c0 := cgrow ((hbel.cell (p := ⟨b2, off2 + m, none⟩) hbl2).trans (show w.cell? ⟨b2, off2 + m, none⟩ = some (.int .i64 xs[m]) by rw [hcr m hml]; simp [hml]))
          by_cases g1 : inB xs[m] 0 299 = true
          · have hi := fun W => inR_below xs[m] true g1 W
            by_cases hm0 : m = 0
            · subst hm0
              have HS := Lib.hid (varTo_first hml g1)
              simp only [Nat.add_zero] at c0
              clear g1 hcr
              go_wp2_with fail
              refine wp_region_quiet_below (by kernel_rfl) (by kernel_rfl) ?_
              repeat (go_big_quiet_step (first | (go_at_call 54; exact Calls.regrown_of (hi _))))
              refine wpQuiet_nil ?_
              intro w4 hw4
              obtain ⟨⟨dq, osq⟩, rfl⟩ := hw4
              have hbq := btr hbel (below_regrown _ dq osq)
              generalize grow (redrawn _ dq) osq = w5 at hbq
              clear c0 hi
              go_wp2
              go_roundw
              case rel => exact ⟨1, by omega, by go_num, HS.out, hbq⟩
              case measure => simp [intOf]; omega
            · obtain ⟨j, rfl⟩ : ∃ j, m = j + 1 := ⟨m - 1, by omega⟩
              have hjl : j < xs.length := by omega
              have c1 := cgrow ((hbel.cell (p := ⟨b2, off2 + j, none⟩) hbl2).trans (show w.cell? ⟨b2, off2 + j, none⟩ = some (.int .i64 xs[j]) by rw [hcr j hjl]; simp [hjl]))
              have e1 : IntKind.i64.wrap ((j : Int) + 1 - 1) = j := by rw [IntKind.wrap_i64]; omega
              have e2 : IntKind.i64.wrap (j : Int) = j := by rw [IntKind.wrap_i64]; omega
              have hpos : (0 : Int) < (j : Int) + 1 := by omega
              have hjl2 : (j : Int) < xs.length := by omega
              have hjl3 : (j : Int) + 1 < xs.length := by omega
              by_cases hgt : xs[j + 1] < xs[j]
              · have HR := Lib.hid (ply_no (es := es) (fun h => by
                  have h2 := (h.1 k hlt).2.2.1
                  rw [HX.out] at h2
                  have := h2 j hml
                  omega))
                clear g1 hcr
                go_wp2_with fail
                refine wp_region_quiet_below (by kernel_rfl) (by kernel_rfl) ?_
                repeat (go_big_quiet_step (first | (go_at_call 54; exact Calls.regrown_of (hi _))))
                refine wpQuiet_nil ?_
                intro w4 hw4
                obtain ⟨⟨dq, osq⟩, rfl⟩ := hw4
                have hbq := btr hbel (below_regrown _ dq osq)
                generalize grow (redrawn _ dq) osq = w5 at hbq
                clear c0 c1 hi
                go_wp2
                go_ret
                exact ⟨ret_bool HR.out.symm, hbq⟩
              · have HS := Lib.hid (varTo_step hml HV.out g1 (by omega))
                clear g1 hcr
                go_wp2_with fail
                refine wp_region_quiet_below (by kernel_rfl) (by kernel_rfl) ?_
                repeat (go_big_quiet_step (first | (go_at_call 54; exact Calls.regrown_of (hi _))))
                refine wpQuiet_nil ?_
                intro w4 hw4
                obtain ⟨⟨dq, osq⟩, rfl⟩ := hw4
                have hbq := btr hbel (below_regrown _ dq osq)
                generalize grow (redrawn _ dq) osq = w5 at hbq
                clear c0 c1 hi
                go_wp2
                go_roundw
                case rel => exact ⟨j + 1 + 1, by omega, by go_num, HS.out, hbq⟩
                case measure => simp [intOf]; omega
          · have HR := Lib.hid (ply_no (es := es) (fun h => by
              have h2 := (h.1 k hlt).1
              rw [HX.out] at h2
              exact g1 (h2 _ (List.getElem_mem hml))))
            have hi := fun W => inR_below xs[m] false (by simpa using g1) W
            clear g1 hcr
            go_wp2_with fail
            refine wp_region_quiet_below (by kernel_rfl) (by kernel_rfl) ?_
            repeat (go_big_quiet_step (first | (go_at_call 54; exact Calls.regrown_of (hi _))))
            refine wpQuiet_nil ?_
            intro w4 hw4
            obtain ⟨⟨dq, osq⟩, rfl⟩ := hw4
            have hbq := btr hbel (below_regrown _ dq osq)
            generalize grow (redrawn _ dq) osq = w5 at hbq
            clear c0 hi
            go_wp2
            go_ret
            exact ⟨ret_bool HR.out.symm, hbq⟩
        · obtain rfl : m = xs.length := by omega
          have HE := Lib.hid (varTo_end HV.out)
          have p0 := cgrow ((hbel.cell (p := ⟨b, off + k * 2, none⟩) hbl).trans hc0)
          have p1 := cgrow ((hbel.cell (p := ⟨b, off + k * 2 + 1, none⟩) hbl).trans hc1)
          by_cases g1 : xs.length ≤ 6
          · have g1' : ¬ (6 : Int) < xs.length := by omega
            have g1a : decide ((6 : Int) < xs.length) = false := by simp only [decide_eq_false_iff_not]; exact g1'
            have g1b : decide (6 < xs.length) = false := by simp only [decide_eq_false_iff_not]; omega
            have g1c : ¬ 6 < xs.length := by omega
            by_cases g3 : es[k].2 = 0
            · have hz : (es[k].2 == 0) = true := by simp [g3]
              have HR := Lib.hid (ply_no (es := es) (fun h => (h.1 k hlt).2.2.2.1 g3))
              clear g3
              go_wp2_with fail
              refine wp_region_quiet_below (by kernel_rfl) (by kernel_rfl) ?_
              repeat (go_big_quiet_step (fail))
              refine wpQuiet_nil ?_
              intro w4 hw4
              obtain ⟨⟨dq, osq⟩, rfl⟩ := hw4
              have hbq := btr hbel (below_regrown _ dq osq)
              generalize grow (redrawn _ dq) osq = w5 at hbq
              clear p0 p1
              go_wp2
              go_ret
              exact ⟨ret_bool HR.out.symm, hbq⟩
            · have hz : (es[k].2 == 0) = false := by simp [g3]
              by_cases g4 : wtB es[k].2 = true
              · have hi := fun W => inB_below es[k].2 true g4 W
                have HK := Lib.hid (show TrmOk es[k] from ⟨by rw [HX.out]; exact HE.out.1, by rw [HX.out]; exact g1, by rw [HX.out]; exact HE.out.2, g3, g4⟩)
                clear g3 g4
                by_cases hk0 : k = 0
                · subst hk0
                  have HS := Lib.hid (plyTo_first hlt HK.out)
                  simp only [Nat.zero_mul, Nat.add_zero] at p0 p1
                  go_wp2_with fail
                  refine wp_region_quiet_below (by kernel_rfl) (by kernel_rfl) ?_
                  repeat (go_big_quiet_step (first | (go_at_call 54; exact Calls.regrown_of (hi _))))
                  refine wpQuiet_nil ?_
                  intro w4 hw4
                  obtain ⟨⟨dq, osq⟩, rfl⟩ := hw4
                  have hbq := btr hbel (below_regrown _ dq osq)
                  generalize grow (redrawn _ dq) osq = w5 at hbq
                  clear p0 p1 hi
                  go_wp2
                  go_roundw
                  case rel => exact ⟨1, by omega, by go_num, HS.out, hbq⟩
                  case measure => simp [intOf]; omega
                · obtain ⟨p, rfl⟩ : ∃ p, k = p + 1 := ⟨k - 1, by omega⟩
                  obtain ⟨b', off', RP, pc, hA', -, hd0, hd1, -, hrow'⟩ := hx'.get p (by omega)
                  injection hA' with hA'
                  injection hA' with h1 h2
                  subst h1
                  subst h2
                  have hlm : p < es.length := by omega
                  have q4 := cgrow ((hbel.cell (p := ⟨b, off + p * 2, none⟩) hbl).trans hd0)
                  have q5 := cgrow ((hbel.cell (p := ⟨b, off + p * 2 + 1, none⟩) hbl).trans hd1)
                  have hrlm := hr.get hlm
                  have e1 : IntKind.i64.wrap ((p : Int) + 1 - 1) = p := by rw [IntKind.wrap_i64]; omega
                  have e2 : IntKind.i64.wrap (p : Int) = p := by rw [IntKind.wrap_i64]; omega
                  have hpos : (0 : Int) < (p : Int) + 1 := by omega
                  have hml2 : (p : Int) < es.length := by omega
                  have hml3 : (p : Int) + 1 < es.length := by omega
                  have hcl := fun W' (hW : Below wr.heap.size wr W') => termLess_s RP RA pc rc es[p].1 xs es[p].2 es[p + 1].2 W' ((hrow'.below hbel).below hW) ((hrow.below hbel).below hW) hrlm hrl
                  clear hd0 hd1 hc0 hc1
                  by_cases g5 : lessB es[p].1 xs = true
                  · have hc3 := fun W' hW => (hcl W' hW).mono fun e w' ⟨he, hb⟩ => (⟨by rw [he, g5], hb⟩ : e = Ending.returned (.bool true) ∧ Below W'.heap.size W' w')
                    have HS := Lib.hid (plyTo_step hlt HA.out HK.out (by rw [HX.out]; exact g5))
                    clear g5 hcl
                    go_wp2_with fail
                    refine wp_region_quiet_below (by kernel_rfl) (by kernel_rfl) ?_
                    repeat (go_big_quiet_step (first | (go_at_call 54; exact Calls.regrown_of (hi _)) | (go_at_call 86; exact Calls.regrown_of (hc3 _ (below_regrown _ _ _)))))
                    refine wpQuiet_nil ?_
                    intro w4 hw4
                    obtain ⟨⟨dq, osq⟩, rfl⟩ := hw4
                    have hbq := btr hbel (below_regrown _ dq osq)
                    generalize grow (redrawn _ dq) osq = w5 at hbq
                    clear p0 p1 q4 q5 hi hc3
                    go_wp2
                    go_roundw
                    case rel => exact ⟨p + 1 + 1, by omega, by go_num, HS.out, hbq⟩
                    case measure => simp [intOf]; omega
                  · have hc3 := fun W' hW => (hcl W' hW).mono fun e w' ⟨he, hb⟩ => (⟨by rw [he, show lessB es[p].1 xs = false by simpa using g5], hb⟩ : e = Ending.returned (.bool false) ∧ Below W'.heap.size W' w')
                    have HR := Lib.hid (ply_no (es := es) (fun h => g5 (by have h2 := h.2.1 p hlt; rw [HX.out] at h2; exact h2)))
                    clear g5 hcl
                    go_wp2_with fail
                    refine wp_region_quiet_below (by kernel_rfl) (by kernel_rfl) ?_
                    repeat (go_big_quiet_step (first | (go_at_call 54; exact Calls.regrown_of (hi _)) | (go_at_call 86; exact Calls.regrown_of (hc3 _ (below_regrown _ _ _)))))
                    refine wpQuiet_nil ?_
                    intro w4 hw4
                    obtain ⟨⟨dq, osq⟩, rfl⟩ := hw4
                    have hbq := btr hbel (below_regrown _ dq osq)
                    generalize grow (redrawn _ dq) osq = w5 at hbq
                    clear p0 p1 q4 q5 hi hc3
                    go_wp2
                    go_ret
                    exact ⟨ret_bool HR.out.symm, hbq⟩
              · have hi := fun W => inB_below es[k].2 false (by simpa using g4) W
                have HR := Lib.hid (ply_no (es := es) (fun h => g4 (h.1 k hlt).2.2.2.2))
                clear g3 g4
                go_wp2_with fail
                refine wp_region_quiet_below (by kernel_rfl) (by kernel_rfl) ?_
                repeat (go_big_quiet_step (first | (go_at_call 54; exact Calls.regrown_of (hi _))))
                refine wpQuiet_nil ?_
                intro w4 hw4
                obtain ⟨⟨dq, osq⟩, rfl⟩ := hw4
                have hbq := btr hbel (below_regrown _ dq osq)
                generalize grow (redrawn _ dq) osq = w5 at hbq
                clear p0 p1 hi
                go_wp2
                go_ret
                exact ⟨ret_bool HR.out.symm, hbq⟩
          · have g1' : (6 : Int) < xs.length := by omega
            have HR := Lib.hid (ply_no (es := es) (fun h => g1 (by have h2 := (h.1 k hlt).2.1; rw [HX.out] at h2; exact h2)))
            go_wp2_with fail
            refine wp_region_quiet_below (by kernel_rfl) (by kernel_rfl) ?_
            repeat (go_big_quiet_step (fail))
            refine wpQuiet_nil ?_
            intro w4 hw4
            obtain ⟨⟨dq, osq⟩, rfl⟩ := hw4
            have hbq := btr hbel (below_regrown _ dq osq)
            generalize grow (redrawn _ dq) osq = w5 at hbq
            clear p0 p1
            go_wp2
            go_ret
            exact ⟨ret_bool HR.out.symm, hbq⟩
    · obtain rfl : k = es.length := by omega
      by_cases g : es.length ≤ 400
      · have HR := Lib.hid (ply_yes (es := es) ⟨fun j h => HA.out.1 j h h, fun j h => HA.out.2 j h h, g⟩)
        have g' : (es.length : Int) ≤ 400 := by omega
        go_wp2
        go_ret
        exact ⟨ret_bool HR.out.symm, hbel⟩
      · have HR := Lib.hid (ply_no (es := es) (fun h => g h.2.2))
        have g' : ¬ (es.length : Int) ≤ 400 := by omega
        go_wp2
        go_ret
        exact ⟨ret_bool HR.out.symm, hbel⟩
theorem ValidPoly_s (A : Option Addr) (c : Nat) (es : List Ent) (w : World) (hx : TrmsAt w A es) (hn : es.length ≤ 4194304) (hr : rowsIn es 4194304) :
    Calls Try.prog 26 #[.slice A es.length c] w fun e w' => e = .returned (.bool (plyB es)) ∧ Below w.heap.size w w' := by
  go_enter Try.func26, Try.ntmps26
  go_wp2_with fail
  refine (validPoly_s A c es w hx hn hr).mono ?_
  rintro e w1 ⟨rfl, hb⟩
  go_wp2
  go_ret
  exact ⟨rfl, hb⟩
end Go.Proofs.Ytffgonddephkkaa
