/- HELPER, no statement of the seat: marks on lists of times, asked. -/
import Derived.Test.YtffgonddephkkaaGreatTmK
namespace Go.Proofs.YtffgonddephkkaaGreat
open Go.RowKit Go.Sort
set_option linter.unusedSimpArgs false
set_option linter.unusedVariables false

theorem TmOwS.ofOwn {w0 w : World} {A : Option Addr} {c : Nat} {xs : List Tm} (h : TmOwn w w0.heap.size A c xs) : TmOwS w (news w0 w) A c xs :=
  ⟨fun k hk => hk.2, fun k hk => h.lt k hk, h.mono (Nat.zero_le _)⟩
theorem TmOwS.at_ {w : World} {S : Fp} {A : Option Addr} {c : Nat} {xs : List Tm} (h : TmOwS w S A c xs) : TimesAt w A xs := h.own.at_
theorem marksT_get (k : Int) (n j : Nat) (hj : j < n) : (marksT k n).getD j (0, 0) = (k + 2 * (j : Int), k + 2 * (j : Int) + 1) := by
  simp [marksT, hj]
theorem heldTimeS_any (A : Option Addr) (c n : Nat) (k : Int) (w : World) (hx : TimesAt w A (marksT k n)) (hn : n ≤ 4194304) (hk0 : 0 ≤ k) (hk1 : k ≤ 4611686018427387904) :
    Calls Tryz.prog 26 #[.slice A n c, .int .i64 k] w fun e w' => e = .returned (.int .i64 (k + 2 * (n : Int))) ∧ w' = w := by
  go_enter Tryz.func26, Tryz.ntmps26
  go_wp2
  go_loop [1, 5] (fun q i => ∃ j : Nat, j ≤ n ∧ i = .int .i64 j ∧ q = .int .i64 (k + 2 * (j : Int))) (fun _ i => n - (intOf i).toNat)
  case atStart => exact ⟨0, by omega, rfl, by simp⟩
  case round =>
    obtain ⟨j, hj, rfl, rfl⟩ := hrel
    by_cases hjl : j < n
    · obtain ⟨b, off, rfl, hbl, hc⟩ := hx (by rw [marksT_length]; omega)
      have h2 := hc j (by rw [marksT_length]; exact hjl)
      rw [marksT_get k n j hjl] at h2
      have q1 := h2.1
      have q2 := h2.2
      simp only at q1 q2
      have e1 : ((k + 2 * (j : Int)) != (k + 2 * (j : Int))) = false := by simp
      have e2 : ((k + 2 * (j : Int) + 1) != (k + 2 * (j : Int) + 1)) = false := by simp
      clear hc h2
      go_wp2
      go_round
      case rel => exact ⟨j + 1, by omega, by go_num, by go_num⟩
      case measure => simp [intOf]; omega
    · obtain rfl : j = n := by omega
      go_wp2
      go_ret
      exact ⟨rfl, rfl⟩
end Go.Proofs.YtffgonddephkkaaGreat
