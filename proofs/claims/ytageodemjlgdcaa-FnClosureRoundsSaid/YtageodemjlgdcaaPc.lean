/- HELPER, no statement of the seat: contracts with the answer given, for laws on closures. -/
import Derived.Test.YtageodemjlgdcaaRt
import Derived.Test.YtageodemjlgdcaaMlk
import Derived.Test.YtageodemjlgdcaaEdg
import Derived.Test.YtageodemjlgdcaaPl
namespace Go.Proofs.Ytageodemjlgdcaa
open Go.RowKit Go.Sort
set_option linter.unusedSimpArgs false
set_option linter.unusedVariables false

theorem trF_trB (z : List Ent) : TrF z = TrB z := by
  cases h : edgB z
  · simp [TrF, TrB, h]
  · rw [TrF_rel h, TrB, h, Bool.true_and]
theorem edgZ {A : Option Addr} {c : Nat} {z : List Ent} {w : World} (r : Bool) (he : edgB z = r) (hx : EntsAt w A z) (hn : z.length ≤ 4194304) (hr : rowsIn z 4194304) :
    Calls Try.prog 17 #[.slice A z.length c] w fun e w' => e = .returned (.bool r) ∧ Below w.heap.size w w' := he ▸ ValidEdges_i A c z w hx hn hr
theorem trZ {A : Option Addr} {c : Nat} {z : List Ent} {w : World} (r : Bool) (he : TrB z = r) (hx : EntsAt w A z) (hn : z.length ≤ 4194304) (hr : rowsIn z 4194304) :
    Calls Try.prog 19 #[.slice A z.length c] w fun e w' => e = .returned (.bool r) ∧ Below w.heap.size w w' := he ▸ trF_trB z ▸ IsTransitive_i A c z w hx hn hr
theorem trZs {A : Option Addr} {c : Nat} {z : List Ent} {w : World} (r : Bool) (he : TrB z = r) (hx : EntsAt w A z) (hn : z.length ≤ 4194304) (hr : rowsIn z 4194304) :
    Calls Try.prog 21 #[.slice A z.length c] w fun e w' => e = .returned (.bool r) ∧ Below w.heap.size w w' := he ▸ trF_trB z ▸ IsTransitive_s A c z w hx hn hr
set_option maxHeartbeats 800000 in
theorem isSubset_b (A : Option Addr) (c : Nat) (a : List Ent) (B : Option Addr) (d : Nat) (b : List Ent) (w : World) (hx : EntsAt w A a) (hy : EntsAt w B b) (hn : a.length ≤ 4194304) (hr : rowsIn a 4194304) (hm : b.length ≤ 4194304) (hs : rowsIn b 4194304) :
    Calls Try.prog 20 #[.slice A a.length c, .slice B b.length d] w fun e w' => e = .returned (.bool (subE a b)) ∧ Below w.heap.size w w' := by
  have HX := Lib.hid hx
  clear hx
  go_enter Try.func20, Try.ntmps20
  go_wp2
  go_loopw [5] (fun i wr => ∃ k : Nat, k ≤ a.length ∧ i = .int .i64 k ∧ Hid (subE (a.take k) b = true) ∧ Below w.heap.size w wr) (fun i _ => a.length - (intOf i).toNat)
  case atStart => exact ⟨0, by omega, rfl, by simp [Hid, subE], Below.refl _ _⟩
  case round =>
    obtain ⟨k, hk, rfl, HS, hbel⟩ := hrel
    by_cases hlt : k < a.length
    · obtain ⟨b0, off, RA, rc, hAe, hbl, hc0, -, -, hrow⟩ := HX.out.get k hlt
      have q0 := (hbel.cell (p := ⟨b0, off + k * 2, none⟩) hbl).trans hc0
      subst hAe
      have hlt' : (k : Int) < a.length := by omega
      have hrl := hr.get hlt
      obtain ⟨x, hx⟩ : ∃ x, WeightF b a[k].1 = x := ⟨_, rfl⟩
      clear hc0
      by_cases h0 : x = 0
      · have hx0 : (x == 0) = true := by simpa using h0
        have HF : Hid (subE a b = false) := by
          rw [Hid, subE, List.all_eq_false]
          exact ⟨a[k], List.getElem_mem hlt, by rw [hx, h0]; decide⟩
        have HW := Lib.hid hx
        clear hx h0
        go_wp2_with fail
        refine (weightZ x HW.out (hy.below entR hbel) (hrow.below hbel) hm hs hrl).mono ?_
        rintro e w1 ⟨rfl, b1⟩
        have hb1 := btr hbel b1
        clear q0
        go_wp2
        go_ret
        exact ⟨ret_bool HF.out.symm, hb1⟩
      · have hx0 : (x == 0) = false := by simpa using h0
        have HN : Hid (subE (a.take (k + 1)) b = true) := by
          have h1 := HS.out
          rw [Hid, subE, List.take_succ_eq_append_getElem hlt, List.all_append, Bool.and_eq_true]
          exact ⟨h1, by rw [List.all_cons, List.all_nil, hx]; simpa using h0⟩
        have HW := Lib.hid hx
        clear hx h0 HS
        go_wp2_with fail
        refine (weightZ x HW.out (hy.below entR hbel) (hrow.below hbel) hm hs hrl).mono ?_
        rintro e w1 ⟨rfl, b1⟩
        have hb1 := btr hbel b1
        clear q0
        go_wp2
        go_roundw
        case rel => exact ⟨k + 1, by omega, by go_num, HN, hb1⟩
        case measure => simp [intOf]; omega
    · obtain rfl : k = a.length := by omega
      have HT : Hid (subE a b = true) := by have := HS.out; rw [List.take_length] at this; exact this
      clear HS
      go_wp2
      go_ret
      exact ⟨ret_bool HT.out.symm, hbel⟩
theorem subZ {A B : Option Addr} {c d : Nat} {a b : List Ent} {w : World} (r : Bool) (he : subE a b = r) (hx : EntsAt w A a) (hy : EntsAt w B b) (hn : a.length ≤ 4194304) (hr : rowsIn a 4194304) (hm : b.length ≤ 4194304) (hs : rowsIn b 4194304) :
    Calls Try.prog 20 #[.slice A a.length c, .slice B b.length d] w fun e w' => e = .returned (.bool r) ∧ Below w.heap.size w w' := he ▸ isSubset_b A c a B d b w hx hy hn hr hm hs
theorem subE_of {a b : List Ent} (h : ∀ e ∈ a, WeightF b e.1 ≠ 0) : subE a b = true := List.all_eq_true.2 (fun e he => by simpa using h e he)
end Go.Proofs.Ytageodemjlgdcaa
