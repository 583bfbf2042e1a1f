/- HELPER, no statement of the seat: comparisons of rows, and how the world has grown behind them. -/
import Derived.Test.YtifjenleoagefaaGreatZbs
import Derived.Sort.Grow
import Derived.Sort.Row
import Derived.Deep.Draws
namespace Go.Proofs.YtifjenleoagefaaGreat
open Go.RowKit Go.Sort
set_option linter.unusedSimpArgs false
set_option linter.unusedVariables false

/-- Some draws on, some blocks laid. -/
def Grw (w w' : World) : Prop := ∃ q os', w' = grow (w.drewN q) os'
theorem Grw.refl (w : World) : Grw w w := ⟨0, #[], by rw [grow_empty]; rfl⟩
theorem Grw.alloc {w w' : World} (h : Grw w w') (o : Obj) : Grw w (w'.alloc o) := by
  obtain ⟨q, os', rfl⟩ := h
  exact ⟨q, os' ++ #[o], by rw [alloc_eq_grow, grow_grow]⟩
theorem Grw.drew {w w' : World} (h : Grw w w') : Grw w w'.drew := by
  obtain ⟨q, os', rfl⟩ := h
  exact ⟨q + 1, os', rfl⟩
theorem Grw.trans {a b c : World} (h : Grw a b) (k : Grw b c) : Grw a c := by
  obtain ⟨q, os', rfl⟩ := h
  obtain ⟨q2, os2, rfl⟩ := k
  exact ⟨q + q2, os' ++ os2, by rw [← grow_grow]; show grow (grow ((a.drewN q).drewN q2) os') os2 = _; rw [World.drewN_drewN]⟩
theorem Grw.below {w w' : World} (h : Grw w w') : RowKit.Below w.heap.size w w' := by
  obtain ⟨q, os', rfl⟩ := h
  exact ⟨rfl, rfl, rfl, by simp [grow, World.drewN], fun k hk => by simp [grow, World.drewN, Array.getElem?_append, hk]⟩

set_option maxHeartbeats 800000 in
theorem slicesCompare_same (A B : Option Addr) (c d : Nat) (xs ys : List Int) (w : World) (hx : IntsAt w A xs) (hy : IntsAt w B ys) (hn : xs.length * 8 ≤ 140737488351232) (hm : ys.length * 8 ≤ 140737488351232) :
    Calls Tryz.prog 70 #[.slice A xs.length c, .slice B ys.length d] w fun e w' => e = .returned (.int .i64 (cmpL xs ys)) ∧ w = w' := by
  go_enter Tryz.func70, Tryz.ntmps70
  go_wp2
  go_loopw [5, 6, 7, 8, 11] (fun _ _ _ _ i wr => ∃ k : Nat, k ≤ xs.length ∧ k ≤ ys.length ∧ i = .int .i64 k ∧ cmpL xs ys = cmpL (xs.drop k) (ys.drop k) ∧ w = wr) (fun _ _ _ _ i _ => xs.length - (intOf i).toNat)
  case atStart => exact ⟨0, by omega, by omega, rfl, rfl, rfl⟩
  case round =>
    obtain ⟨k, hk, hk2, rfl, hcmp, rfl⟩ := hrel
    have HT := Lib.hid hcmp
    clear hcmp
    by_cases hlt : k < xs.length
    · obtain ⟨b, off, rfl, hbl, hc⟩ := hx (by omega)
      have hck : w.cell? ⟨b, off + k, none⟩ = some (.int .i64 xs[k]) := by rw [hc k hlt]; simp [hlt]
      clear hc
      by_cases hlt2 : k < ys.length
      · obtain ⟨b2, off2, rfl, hbl2, hc2⟩ := hy (by omega)
        have hck2 : w.cell? ⟨b2, off2 + k, none⟩ = some (.int .i64 ys[k]) := by rw [hc2 k hlt2]; simp [hlt2]
        clear hc2
        have HS := Lib.hid (cmpL_step hlt hlt2)
        by_cases he : cmpI xs[k] ys[k] = 0
        · have hne : (cmpI xs[k] ys[k] != 0) = false := by simp [he]
          have HE := Lib.hid he
          clear he
          go_wp2_with (go_at_call 87; refine (cmpInt_any _ _ _).mono ?_; rintro e w1 ⟨rfl, rfl⟩)
          go_roundw
          case rel => exact ⟨k + 1, by omega, by omega, by go_num, by rw [HT.out, HS.out, if_pos HE.out], by trivial⟩
          case measure => simp [intOf]; omega
        · have hne : (cmpI xs[k] ys[k] != 0) = true := by simp [he]
          have HE := Lib.hid he
          clear he
          go_wp2_with (go_at_call 87; refine (cmpInt_any _ _ _).mono ?_; rintro e w1 ⟨rfl, rfl⟩)
          go_ret
          exact ⟨ret_int (by rw [HT.out, HS.out, if_neg HE.out]), rfl⟩
      · have HS := Lib.hid (cmpL_end1 hlt (by omega : ys.length ≤ k))
        have h2 : (ys.length : Int) ≤ k := by omega
        go_wp2
        go_ret
        exact ⟨ret_int (by rw [HT.out, HS.out]), rfl⟩
    · have HS := Lib.hid (cmpL_lt (by omega : xs.length ≤ k) hk2 hk)
      by_cases hl : xs.length < ys.length
      · have hl' : (xs.length : Int) < ys.length := by omega
        go_wp2
        go_ret
        exact ⟨ret_int (by rw [HT.out, HS.out, if_pos hl]), rfl⟩
      · have hl' : (ys.length : Int) ≤ xs.length := by omega
        go_wp2
        go_ret
        exact ⟨ret_int (by rw [HT.out, HS.out, if_neg hl]), rfl⟩

theorem valuesCompare_same (A B : Option Addr) (c d : Nat) (xs ys : List Int) (w : World) (hx : IntsAt w A xs) (hy : IntsAt w B ys) (hn : xs.length * 8 ≤ 140737488351232) (hm : ys.length * 8 ≤ 140737488351232) :
    Calls Tryz.prog 35 #[.slice A xs.length c, .slice B ys.length d] w fun e w' => e = .returned (.int .i64 (cmpL xs ys)) ∧ w = w' := by
  go_enter Tryz.func35, Tryz.ntmps35
  go_wp2_with (go_at_call 70; refine (slicesCompare_same _ _ _ _ _ _ _ hx hy hn hm).mono ?_; rintro e w1 ⟨rfl, rfl⟩)
  go_ret
  exact ⟨rfl, rfl⟩
theorem entCompare_grw (RA RB : Option Addr) (c d : Nat) (xs ys : List Int) (x y : Int) (w : World) (hx : IntsAt w RA xs) (hy : IntsAt w RB ys) (hn : xs.length ≤ 4194304) (hm : ys.length ≤ 4194304) :
    Calls Tryz.prog 131 #[.agg #[.slice RA xs.length c, .int .i64 x], .agg #[.slice RB ys.length d, .int .i64 y]] w fun e w' => e = .returned (.int .i64 (cmpL xs ys)) ∧ Grw w w' := by
  have hb0 : Grw w ((w.alloc (.cells #[.slice RA xs.length c, .int .i64 x] 33)).alloc (.cells #[.slice RB ys.length d, .int .i64 y] 33)) := ((Grw.refl _).alloc _).alloc _
  go_enter Tryz.func131, Tryz.ntmps131
  go_wp2_with fail
  refine (valuesCompare_same _ _ _ _ _ _ _ (hx.below hb0.below) (hy.below hb0.below) (by omega) (by omega)).mono ?_
  rintro e w1 ⟨rfl, rfl⟩
  go_wp2
  go_ret
  exact ⟨rfl, hb0⟩
end Go.Proofs.YtifjenleoagefaaGreat
