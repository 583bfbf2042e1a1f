/- HELPER, no statement of the seat: ValidPoly on the program's side. -/
import Derived.Test.YtffgonddephkkaaPlyI
namespace Go.Proofs.Ytffgonddephkkaa
open Go.RowKit Go.Sort
set_option linter.unusedSimpArgs false
set_option linter.unusedVariables false

theorem trmCompare_i (RA RB : Option Addr) (c d : Nat) (xs ys : List Int) (x y : Int) (w : World) (hx : IntsAt w RA xs) (hy : IntsAt w RB ys) (hn : xs.length ≤ 4194304) (hm : ys.length ≤ 4194304) :
    Calls Try.prog 88 #[.agg #[.int .i64 x, .slice RA xs.length c], .agg #[.int .i64 y, .slice RB ys.length d]] w fun e w' => e = .returned (.int .i64 (cmpL xs ys)) ∧ Below w.heap.size w w' := by
  have hb0 : Below w.heap.size w ((w.alloc (.cells #[.int .i64 x, .slice RA xs.length c] 103)).alloc (.cells #[.int .i64 y, .slice RB ys.length d] 103)) := bal (bal (Below.refl _ _) _) _
  go_enter Try.func88, Try.ntmps88
  go_wp2_with fail
  refine (compare_i _ _ _ _ _ _ _ (hx.below hb0) (hy.below hb0) (by omega) (by omega)).mono ?_
  rintro e w1 ⟨rfl, hb⟩
  have hB := btr hb0 hb
  go_wp2
  go_ret
  exact ⟨rfl, hB⟩

/-- A polynomial. -/
def PlyOk (es : List Ent) : Prop := (∀ j (h : j < es.length), TrmOk es[j]) ∧ (∀ j (h : j + 1 < es.length), lessB (es[j]'(by omega)).1 es[j + 1].1 = true) ∧ es.length ≤ 400
noncomputable def plyB (es : List Ent) : Bool := @decide (PlyOk es) (Classical.propDecidable _)
theorem ply_yes {es : List Ent} (h : PlyOk es) : plyB es = true := by simp [plyB, h]
theorem ply_no {es : List Ent} (h : ¬ PlyOk es) : plyB es = false := by simp [plyB, h]
def PlyTo (es : List Ent) (k : Nat) : Prop := (∀ j (h : j < es.length), j < k → TrmOk es[j]) ∧ (∀ j (h : j + 1 < es.length), j + 1 < k → lessB (es[j]'(by omega)).1 es[j + 1].1 = true)
theorem plyTo_first {es : List Ent} (h0 : 0 < es.length) (h : TrmOk es[0]) : PlyTo es 1 := ⟨fun j hj hk => by
  obtain rfl : j = 0 := by omega
  exact h, fun j hj hk => by omega⟩
theorem plyTo_step {es : List Ent} {m : Nat} (hm : m + 1 < es.length) (h : PlyTo es (m + 1)) (h1 : TrmOk es[m + 1]) (h2 : lessB (es[m]'(by omega)).1 es[m + 1].1 = true) : PlyTo es (m + 1 + 1) := ⟨fun j hj hk => by
  by_cases e : j = m + 1
  · subst e; exact h1
  · exact h.1 j hj (by omega), fun j hj hk => by
  by_cases e : j = m
  · subst e; exact h2
  · exact h.2 j hj (by omega)⟩

set_option maxHeartbeats 3200000 in
theorem polyValid_i (A : Option Addr) (c : Nat) (es : List Ent) (w : World) (hx : TrmsAt w A es) (hn : es.length ≤ 4194304) (hr : rowsIn es 4194304) :
    Calls Try.prog 60 #[.slice A es.length c] w fun e w' => e = .returned (.bool (plyB es)) ∧ Below w.heap.size w w' := by
  go_enter Try.func60, Try.ntmps60
  go_wp2
  go_loopw [3, 4, 7] (fun _ _ i wr => ∃ k : Nat, k ≤ es.length ∧ i = .int .i64 k ∧ PlyTo es k ∧ Below w.heap.size w wr) (fun _ _ i _ => es.length - (intOf i).toNat)
  case atStart => exact ⟨0, by omega, rfl, ⟨fun j h hk => by omega, fun j h hk => by omega⟩, Below.refl _ _⟩
  case round =>
    obtain ⟨k, hk, rfl, hall, hbel⟩ := hrel
    have HA := Lib.hid hall
    clear hall
    by_cases hlt : k < es.length
    · have hx' := hx
      obtain ⟨b, off, RA, rc, rfl, hbl, hc0, hc1, -, hrow⟩ := hx.get k hlt
      have q0 := (hbel.cell (p := ⟨b, off + k * 2, none⟩) hbl).trans hc0
      have q1 := (hbel.cell (p := ⟨b, off + k * 2 + 1, none⟩) hbl).trans hc1
      have hrl := hr.get hlt
      have hB1 : Below w.heap.size w (wr.alloc (.cells #[.int .i64 es[k].2, .slice RA es[k].1.length rc] 103)) := bal hbel _
      have z0 : (wr.alloc (.cells #[.int .i64 es[k].2, .slice RA es[k].1.length rc] 103)).cell? ⟨wr.heap.size, 0, none⟩ = some (.int .i64 es[k].2) := by simp
      have z1 : (wr.alloc (.cells #[.int .i64 es[k].2, .slice RA es[k].1.length rc] 103)).cell? ⟨wr.heap.size, 1, none⟩ = some (.slice RA es[k].1.length rc) := by simp
      have r0 := cgrow z0
      have r1 := cgrow z1
      have hcv := fun W' (hW : Below (wr.alloc (.cells #[.int .i64 es[k].2, .slice RA es[k].1.length rc] 103)).heap.size (wr.alloc (.cells #[.int .i64 es[k].2, .slice RA es[k].1.length rc] 103)) W') => trmValid_i RA rc es[k].1 es[k].2 W' ((hrow.below hB1).below hW) hrl
      clear hc0 hc1
      by_cases g1 : TrmOk es[k]
      · have hv := fun W' hW => (hcv W' hW).mono fun e w' ⟨he, hb⟩ => (⟨by rw [he]; exact ret_bool (trm_yes g1), hb⟩ : e = Ending.returned (.bool true) ∧ Below W'.heap.size W' w')
        clear hcv
        by_cases hk0 : k = 0
        · subst hk0
          simp only [Nat.zero_mul, Nat.add_zero] at q0 q1
          have HS := Lib.hid (plyTo_first hlt g1)
          clear g1
          go_wp2_with fail
          refine wp_region_quiet_below (by kernel_rfl) (by kernel_rfl) ?_
          repeat (go_big_quiet_step (first | (go_at_call 87; exact Calls.regrown_of (hv _ (below_regrown _ _ _)))))
          refine wpQuiet_nil ?_
          intro w4 hw4
          obtain ⟨⟨dq, osq⟩, rfl⟩ := hw4
          have hbq := btr hB1 (below_regrown _ dq osq)
          generalize grow (redrawn _ dq) osq = w5 at hbq
          clear r0 r1 z0 z1 q0 q1 hv
          go_wp2
          go_roundw
          case rel => exact ⟨1, by omega, by go_num, HS.out, hbq⟩
          case measure => simp [intOf]; omega
        · obtain ⟨m, rfl⟩ : ∃ m, k = m + 1 := ⟨k - 1, by omega⟩
          obtain ⟨b', off', RP, pc, hA', hbl', hd0, hd1, -, hrow'⟩ := hx'.get m (by omega)
          injection hA' with hA'
          injection hA' with h1 h2
          subst h1
          subst h2
          have hlm : m < es.length := by omega
          have q2 := cgrow ((hB1.cell (p := ⟨b, off + m * 2, none⟩) hbl).trans hd0)
          have q3 := cgrow ((hB1.cell (p := ⟨b, off + m * 2 + 1, none⟩) hbl).trans hd1)
          have hrlm := hr.get hlm
          have e1 : IntKind.i64.wrap ((m : Int) + 1 - 1) = m := by rw [IntKind.wrap_i64]; omega
          have e2 : IntKind.i64.wrap (m : Int) = m := by rw [IntKind.wrap_i64]; omega
          have hpos : (0 : Int) < (m : Int) + 1 := by omega
          have hml2 : (m : Int) < es.length := by omega
          have hcon := fun W' (hW : Below (wr.alloc (.cells #[.int .i64 es[m + 1].2, .slice RA es[m + 1].1.length rc] 103)).heap.size (wr.alloc (.cells #[.int .i64 es[m + 1].2, .slice RA es[m + 1].1.length rc] 103)) W') => trmCompare_i RP RA pc rc es[m].1 es[m + 1].1 es[m].2 es[m + 1].2 W' ((hrow'.below hB1).below hW) ((hrow.below hB1).below hW) hrlm hrl
          clear hd0 hd1
          by_cases hc : cmpL es[m].1 es[m + 1].1 < 0
          · have HS := Lib.hid (plyTo_step hlt HA.out g1 (by simpa [lessB] using hc))
            have hc' : ¬ (0 ≤ cmpL es[m].1 es[m + 1].1) := by omega
            clear g1
            go_wp2_with fail
            refine wp_region_quiet_below (by kernel_rfl) (by kernel_rfl) ?_
            repeat (go_big_quiet_step (first | (go_at_call 87; exact Calls.regrown_of (hv _ (below_regrown _ _ _))) | (go_at_call 88; exact Calls.regrown_of (hcon _ (below_regrown _ _ _)))))
            refine wpQuiet_nil ?_
            intro w4 hw4
            obtain ⟨⟨dq, osq⟩, rfl⟩ := hw4
            have hbq := btr hB1 (below_regrown _ dq osq)
            generalize grow (redrawn _ dq) osq = w5 at hbq
            clear r0 r1 z0 z1 q0 q1 q2 q3 hcon hv
            go_wp2
            go_roundw
            case rel => exact ⟨m + 1 + 1, by omega, by go_num, HS.out, hbq⟩
            case measure => simp [intOf]; omega
          · have HR := Lib.hid (ply_no (es := es) (fun h => hc (by have := h.2.1 m hlt; simpa [lessB] using this)))
            have hc' : 0 ≤ cmpL es[m].1 es[m + 1].1 := by omega
            clear hc g1
            go_wp2_with fail
            refine wp_region_quiet_below (by kernel_rfl) (by kernel_rfl) ?_
            repeat (go_big_quiet_step (first | (go_at_call 87; exact Calls.regrown_of (hv _ (below_regrown _ _ _))) | (go_at_call 88; exact Calls.regrown_of (hcon _ (below_regrown _ _ _)))))
            refine wpQuiet_nil ?_
            intro w4 hw4
            obtain ⟨⟨dq, osq⟩, rfl⟩ := hw4
            have hbq := btr hB1 (below_regrown _ dq osq)
            generalize grow (redrawn _ dq) osq = w5 at hbq
            clear r0 r1 z0 z1 q0 q1 q2 q3 hcon hv
            go_wp2
            go_ret
            exact ⟨ret_bool HR.out.symm, hbq⟩
      · have HR := Lib.hid (ply_no (es := es) (fun h => g1 (h.1 k hlt)))
        have hv := fun W' hW => (hcv W' hW).mono fun e w' ⟨he, hb⟩ => (⟨by rw [he]; exact ret_bool (trm_no g1), hb⟩ : e = Ending.returned (.bool false) ∧ Below W'.heap.size W' w')
        clear hcv g1
        go_wp2_with fail
        refine wp_region_quiet_below (by kernel_rfl) (by kernel_rfl) ?_
        repeat (go_big_quiet_step (first | (go_at_call 87; exact Calls.regrown_of (hv _ (below_regrown _ _ _)))))
        refine wpQuiet_nil ?_
        intro w4 hw4
        obtain ⟨⟨dq, osq⟩, rfl⟩ := hw4
        have hbq := btr hB1 (below_regrown _ dq osq)
        generalize grow (redrawn _ dq) osq = w5 at hbq
        clear r0 r1 z0 z1 q0 q1 hv
        go_wp2
        go_ret
        exact ⟨ret_bool HR.out.symm, hbq⟩
    · obtain rfl : k = es.length := by omega
      by_cases g : es.length ≤ 400
      · have HR := Lib.hid (ply_yes (es := es) ⟨fun j h => HA.out.1 j h h, fun j h => HA.out.2 j h h, g⟩)
        have g' : (es.length : Int) ≤ 400 := by omega
        go_wp2
        go_ret
        exact ⟨ret_bool HR.out.symm, hbel⟩
      · have HR := Lib.hid (ply_no (es := es) (fun h => g h.2.2))
        have g' : ¬ (es.length : Int) ≤ 400 := by omega
        go_wp2
        go_ret
        exact ⟨ret_bool HR.out.symm, hbel⟩
theorem ValidPoly_i (A : Option Addr) (c : Nat) (es : List Ent) (w : World) (hx : TrmsAt w A es) (hn : es.length ≤ 4194304) (hr : rowsIn es 4194304) :
    Calls Try.prog 28 #[.slice A es.length c] w fun e w' => e = .returned (.bool (plyB es)) ∧ Below w.heap.size w w' := by
  go_enter Try.func28, Try.ntmps28
  go_wp2_with fail
  refine (polyValid_i A c es w hx hn hr).mono ?_
  rintro e w1 ⟨rfl, hb⟩
  go_wp2
  go_ret
  exact ⟨rfl, hb⟩
end Go.Proofs.Ytffgonddephkkaa
