/- HELPER, no statement of the seat: IsPositive of both sides. -/
import Derived.Test.YtffgonddephkkaaNodeC
namespace Go.Proofs.Ytffgonddephkkaa
open Go.RowKit Go.Sort
set_option linter.unusedSimpArgs false
set_option linter.unusedVariables false

/-! ### IsPositive -/
def posK (k : Int) : Bool := inB k 1 6 && decide (k ≠ 5)
def posB (ns : List Nd) : Bool := ns.all fun n => posK n.kind
def posTo (ns : List Nd) (k : Nat) : Prop := ∀ n ∈ ns.take k, posK n.kind = true
theorem posTo_step {ns : List Nd} {k : Nat} (h1 : k < ns.length) (h : posTo ns k) (e : posK ns[k].kind = true) : posTo ns (k + 1) := by
  unfold posTo
  rw [List.take_succ_eq_append_getElem h1]
  intro x hx
  rcases List.mem_append.1 hx with hx | hx
  · exact h x hx
  · simp at hx; subst hx; exact e
theorem pos_bad {ns : List Nd} {k : Nat} (h1 : k < ns.length) (e : posK ns[k].kind = false) : posB ns = false := by
  unfold posB
  rw [List.all_eq_false]
  exact ⟨ns[k], List.getElem_mem h1, by simp [e]⟩
theorem pos_end {ns : List Nd} (h : posTo ns ns.length) : posB ns = true := by
  unfold posTo at h
  rw [List.take_length] at h
  unfold posB
  rw [List.all_eq_true]
  exact h
set_option maxHeartbeats 1600000 in
theorem IsPositive_s (A : Option Addr) (c : Nat) (ns : List Nd) (w : World) (hx : NodesAt w A ns) (hn : ns.length ≤ 4194304) :
    Calls Try.prog 21 #[.slice A ns.length c] w fun e w' => e = .returned (.bool (posB ns)) ∧ Below w.heap.size w w' := by
  go_enter Try.func21, Try.ntmps21
  go_wp2
  go_loopw [3] (fun i wr => ∃ k : Nat, k ≤ ns.length ∧ i = .int .i64 k ∧ posTo ns k ∧ w = wr) (fun i _ => ns.length - (intOf i).toNat)
  case atStart => exact ⟨0, by omega, rfl, by simp [posTo], rfl⟩
  case round =>
    obtain ⟨k, hk, rfl, hall, rfl⟩ := hrel
    have HT := Lib.hid hall
    clear hall
    by_cases hlt : k < ns.length
    · obtain ⟨b, off, RA, rc, rfl, hbl, hc, -, hrow⟩ := hx.get k hlt
      have hck := hc 0 (by omega)
      simp [ndC] at hck
      clear hc
      by_cases he : inB ns[k].kind 1 6 = true
      · by_cases h5 : ns[k].kind = 5
        · have HF := Lib.hid (pos_bad hlt (by simp [posK, h5]))
          go_wp2_with (go_at_call 54; refine (inRange_any _ _ _ _).mono ?_; rintro e w1 ⟨rfl, rfl⟩)
          go_ret
          exact ⟨ret_bool HF.out.symm, Below.refl _ _⟩
        · have HE := Lib.hid (show posK ns[k].kind = true by simp [posK, he, h5])
          go_wp2_with (go_at_call 54; refine (inRange_any _ _ _ _).mono ?_; rintro e w1 ⟨rfl, rfl⟩)
          go_roundw
          case rel => exact ⟨k + 1, by omega, by go_num, posTo_step hlt HT.out HE.out, by trivial⟩
          case measure => simp [intOf]; omega
      · have he' : inB ns[k].kind 1 6 = false := by simpa using he
        have HF := Lib.hid (pos_bad hlt (by simp [posK, he']))
        clear he
        go_wp2_with (go_at_call 54; refine (inRange_any _ _ _ _).mono ?_; rintro e w1 ⟨rfl, rfl⟩)
        go_ret
        exact ⟨ret_bool HF.out.symm, Below.refl _ _⟩
    · obtain rfl : k = ns.length := by omega
      have HF := Lib.hid (pos_end HT.out)
      go_wp2
      go_ret
      exact ⟨ret_bool HF.out.symm, Below.refl _ _⟩
set_option maxHeartbeats 1600000 in
theorem IsPositive_i (A : Option Addr) (c : Nat) (ns : List Nd) (w : World) (hx : NodesAt w A ns) (hn : ns.length ≤ 4194304) :
    Calls Try.prog 23 #[.slice A ns.length c] w fun e w' => e = .returned (.bool (posB ns)) ∧ Below w.heap.size w w' := by
  go_enter Try.func23, Try.ntmps23
  go_wp2
  go_loopw [4, 7] (fun _ i wr => ∃ k : Nat, k ≤ ns.length ∧ i = .int .i64 k ∧ posTo ns k ∧ Below w.heap.size w wr) (fun _ i _ => ns.length - (intOf i).toNat)
  case atStart => exact ⟨0, by omega, rfl, by simp [posTo], Below.refl _ _⟩
  case round =>
    obtain ⟨k, hk, rfl, hall, hbel⟩ := hrel
    have HT := Lib.hid hall
    clear hall
    by_cases hlt : k < ns.length
    · obtain ⟨b, off, RA, rc, rfl, hbl, hc, -, hrow⟩ := hx.get k hlt
      simp only [ndC] at hc
      have q0 := (hbel.cell (p := ⟨b, off + k * 10, none⟩) hbl).trans (hc 0 (by omega))
      have q1 := (hbel.cell (p := ⟨b, off + k * 10 + 1, none⟩) hbl).trans (hc 1 (by omega))
      have q2 := (hbel.cell (p := ⟨b, off + k * 10 + 2, none⟩) hbl).trans (hc 2 (by omega))
      have q3 := (hbel.cell (p := ⟨b, off + k * 10 + 3, none⟩) hbl).trans (hc 3 (by omega))
      have q4 := (hbel.cell (p := ⟨b, off + k * 10 + 4, none⟩) hbl).trans (hc 4 (by omega))
      have q5 := (hbel.cell (p := ⟨b, off + k * 10 + 5, none⟩) hbl).trans (hc 5 (by omega))
      have q6 := (hbel.cell (p := ⟨b, off + k * 10 + 6, none⟩) hbl).trans (hc 6 (by omega))
      have q7 := (hbel.cell (p := ⟨b, off + k * 10 + 7, none⟩) hbl).trans (hc 7 (by omega))
      have q8 := (hbel.cell (p := ⟨b, off + k * 10 + 8, none⟩) hbl).trans (hc 8 (by omega))
      have q9 := (hbel.cell (p := ⟨b, off + k * 10 + 9, none⟩) hbl).trans (hc 9 (by omega))
      simp at q0 q1 q2 q3 q4 q5 q6 q7 q8 q9
      clear hc
      have hB1 := bal hbel (.cells (#[]) 97)
      by_cases hk1 : ns[k].kind = 1
      · have HE := Lib.hid (show posK ns[k].kind = true by simp [posK, inB, hk1])
        clear hB1
        go_wp2
        go_roundw
        case rel => exact ⟨k + 1, by omega, by go_num, posTo_step hlt HT.out HE.out, bal hbel _⟩
        case measure => simp [intOf]; omega
      · skip
        by_cases hk2 : ns[k].kind = 2
        · have HE := Lib.hid (show posK ns[k].kind = true by simp [posK, inB, hk2])
          clear hB1
          go_wp2
          go_roundw
          case rel => exact ⟨k + 1, by omega, by go_num, posTo_step hlt HT.out HE.out, bal hbel _⟩
          case measure => simp [intOf]; omega
        · skip
          by_cases hk3 : ns[k].kind = 3
          · have HE := Lib.hid (show posK ns[k].kind = true by simp [posK, inB, hk3])
            clear hB1
            go_wp2
            go_roundw
            case rel => exact ⟨k + 1, by omega, by go_num, posTo_step hlt HT.out HE.out, bal hbel _⟩
            case measure => simp [intOf]; omega
          · skip
            by_cases hk4 : ns[k].kind = 4
            · have HE := Lib.hid (show posK ns[k].kind = true by simp [posK, inB, hk4])
              clear hB1
              go_wp2
              go_roundw
              case rel => exact ⟨k + 1, by omega, by go_num, posTo_step hlt HT.out HE.out, bal hbel _⟩
              case measure => simp [intOf]; omega
            · skip
              by_cases hk6 : ns[k].kind = 6
              · have HE := Lib.hid (show posK ns[k].kind = true by simp [posK, inB, hk6])
                clear hB1
                go_wp2
                go_roundw
                case rel => exact ⟨k + 1, by omega, by go_num, posTo_step hlt HT.out HE.out, bal hbel _⟩
                case measure => simp [intOf]; omega
              · have HF := Lib.hid (pos_bad hlt (by simp [posK, inB]; omega))
                clear hB1
                go_wp2
                go_ret
                exact ⟨ret_bool HF.out.symm, bal hbel _⟩
    · obtain rfl : k = ns.length := by omega
      have HF := Lib.hid (pos_end HT.out)
      go_wp2
      go_ret
      exact ⟨ret_bool HF.out.symm, hbel⟩
end Go.Proofs.Ytffgonddephkkaa
