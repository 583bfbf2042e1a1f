/- HELPER, no statement of the seat: the worker of a row. -/
import Derived.Test.YtjikdlldochhcabZba
namespace Go.Proofs.Ytjikdlldochhcab
open Go.RowKit
set_option linter.unusedSimpArgs false
set_option linter.unusedVariables false

def hsS (h x : Int) : Int := (31 * h + x + 9999) % 1000003
def hsL (l : List Int) : Int := l.foldl hsS 7
theorem hsS_bd (h x : Int) : 0 ≤ hsS h x ∧ hsS h x ≤ 1000002 := by unfold hsS; omega
theorem hsL_bd (l : List Int) : 0 ≤ hsL l ∧ hsL l ≤ 1000002 := by
  have : ∀ (l : List Int) (h : Int), 0 ≤ h ∧ h ≤ 1000002 → 0 ≤ l.foldl hsS h ∧ l.foldl hsS h ≤ 1000002 := by
    intro l
    induction l with
    | nil => intro h hh; exact hh
    | cons x l ih => intro h _; exact ih _ (hsS_bd h x)
  exact this l 7 (by omega)
theorem hsL_step {xs : List Int} {k : Nat} (h : k < xs.length) : hsL (xs.take (k + 1)) = hsS (hsL (xs.take k)) xs[k] := by
  rw [List.take_succ_eq_append_getElem h, hsL, List.foldl_append]
  rfl
def shB (xs : List Int) (k n : Int) : Bool := rowB xs && (inB k 0 (xs.length : Int) && inB n 1 8)
def shF (xs : List Int) (k n : Int) : Int := if shB xs k n = true then hsL (xs.take k.toNat) % n else -1
theorem isUpTo_g (n m : Int) (w : World) : Calls Try.prog 39 #[.int .i64 n, .int .i64 m] w fun e w' => e = .returned (.bool (inB n 0 m)) ∧ w = w' := by
  by_cases h0 : 0 ≤ n <;> by_cases h1 : n ≤ m
  all_goals
    go_enter Try.func39, Try.ntmps39
    go_wp2
    go_ret
    exact ⟨ret_bool (by simp [inB, *] <;> omega), rfl⟩
theorem workers_i (n : Int) (w : World) : Calls Try.prog 40 #[.int .i64 n] w fun e w' => e = .returned (.bool (inB n 1 8)) ∧ w = w' := by
  by_cases h0 : 1 ≤ n <;> by_cases h1 : n ≤ 8
  all_goals
    go_enter Try.func40, Try.ntmps40
    go_wp2
    go_ret
    exact ⟨ret_bool (by simp [inB, *] <;> omega), rfl⟩
theorem validWorkers_s (n : Int) (w : World) : Calls Try.prog 36 #[.int .i64 n] w fun e w' => e = .returned (.bool (inB n 1 8)) ∧ w = w' := by
  go_enter Try.func36, Try.ntmps36
  go_wp2_with fail
  refine (inRange_any _ _ _ _).mono ?_
  rintro e w' ⟨rfl, rfl⟩
  go_wp2
  go_ret
  exact ⟨rfl, rfl⟩
theorem rowB_get {xs : List Int} (h : rowB xs = true) {k : Nat} (hk : k < xs.length) : -9999 ≤ xs[k] ∧ xs[k] ≤ 9999 := by
  simp only [rowB, decide_eq_true_eq] at h
  exact h.2.2 _ (List.getElem_mem hk)
theorem inB_yes {n lo hi : Int} (h : inB n lo hi = true) : lo ≤ n ∧ n ≤ hi := by simpa [inB] using h
set_option maxHeartbeats 800000 in
theorem shardOf_s (A : Option Addr) (c : Nat) (xs : List Int) (m : Nat) (n : Int) (w : World) (hx : IntsAt w A xs) (hr : rowB xs = true) (hm : m ≤ xs.length) (hn0 : 1 ≤ n) (hn1 : n ≤ 8) :
    Calls Try.prog 37 #[.slice A xs.length c, .int .i64 (m : Nat), .int .i64 n] w fun e w' => e = .returned (.int .i64 (hsL (xs.take m) % n)) ∧ w = w' := by
  have hl6 : xs.length ≤ 6 := by simp only [rowB, decide_eq_true_eq] at hr; exact hr.2.1
  have HR := Lib.hid hr
  clear hr
  go_enter Try.func37, Try.ntmps37
  go_wp2
  go_loopw [7, 8] (fun h i wr => ∃ (k : Nat) (v : Int), k ≤ m ∧ i = .int .i64 (k : Nat) ∧ h = .int .i64 v ∧ hsL (xs.take k) = v ∧ 0 ≤ v ∧ v ≤ 1000002 ∧ w = wr) (fun _ i _ => m - (intOf i).toNat)
  case atStart => exact ⟨0, 7, by omega, rfl, rfl, rfl, by omega, by omega, rfl⟩
  case round =>
    obtain ⟨k, v, hk, rfl, rfl, hv, hv0, hv1, rfl⟩ := hrel
    by_cases hlt : k < m
    · have hkx : k < xs.length := by omega
      obtain ⟨b, off, rfl, hbl, hc⟩ := hx (by omega)
      have hck : w.cell? ⟨b, off + k, none⟩ = some (.int .i64 xs[k]) := by rw [hc k hkx]; simp [hkx]
      have hbd := rowB_get HR.out hkx
      have hst := hsL_step hkx
      rw [hv] at hst
      have HS := Lib.hid hst
      have hsb := hsS_bd v xs[k]
      clear hc hst hv
      obtain ⟨x, hx0⟩ : ∃ x, xs[k] = x := ⟨_, rfl⟩
      rw [hx0] at hck hbd HS hsb
      have hq : 0 ≤ v * 31 + x + 9999 := by omega
      have hq2 : v * 31 + x + 9999 ≤ 100000000 := by omega
      clear hx0
      go_wp2
      go_roundw
      case rel => exact ⟨k + 1, hsS v x, by omega, by go_num, congrArg (Value.int .i64) (by unfold hsS; omega), HS.out, hsb.1, hsb.2, by trivial⟩
      case measure => simp [intOf]; omega
    · obtain rfl : k = m := by omega
      have HV := Lib.hid hv
      clear hv
      go_wp2
      go_ret
      exact ⟨ret_int (by rw [HV.out]), rfl⟩
set_option maxHeartbeats 800000 in
theorem ShardOf_s (A : Option Addr) (c : Nat) (xs : List Int) (k n : Int) (w : World) (hx : IntsAt w A xs) (hn : xs.length * 8 ≤ 140737488351232) :
    Calls Try.prog 9 #[.slice A xs.length c, .int .i64 k, .int .i64 n] w fun e w' => e = .returned (.int .i64 (shF xs k n)) ∧ Below w.heap.size w w' := by
  have h1 := validRow_s A c xs w hx hn
  have h2 := fun W => inRange_any k 0 (xs.length : Int) W
  have h3 := fun W => validWorkers_s n W
  cases e1 : rowB xs
  · have HR : Hid (shF xs k n = -1) := by simp [Hid, shF, shB, e1]
    rw [e1] at h1
    clear e1
    go_enter Try.func9, Try.ntmps9
    go_wp2_with fail
    refine h1.mono ?_
    rintro e w1 ⟨rfl, b1⟩
    go_wp2
    go_ret
    exact ⟨ret_int HR.out.symm, b1⟩
  rw [e1] at h1
  cases e2 : inB k 0 (xs.length : Int)
  · have HR : Hid (shF xs k n = -1) := by simp [Hid, shF, shB, e2]
    rw [e2] at h2
    clear e1 e2
    go_enter Try.func9, Try.ntmps9
    go_wp2_with fail
    refine h1.mono ?_
    rintro e w1 ⟨rfl, b1⟩
    go_wp2_with fail
    refine (h2 _).mono ?_
    rintro e w2 ⟨rfl, rfl⟩
    go_wp2
    go_ret
    exact ⟨ret_int HR.out.symm, b1⟩
  rw [e2] at h2
  cases e3 : inB n 1 8
  · have HR : Hid (shF xs k n = -1) := by simp [Hid, shF, shB, e3]
    rw [e3] at h3
    clear e1 e2 e3
    go_enter Try.func9, Try.ntmps9
    go_wp2_with fail
    refine h1.mono ?_
    rintro e w1 ⟨rfl, b1⟩
    go_wp2_with fail
    refine (h2 _).mono ?_
    rintro e w2 ⟨rfl, rfl⟩
    go_wp2_with fail
    refine (h3 _).mono ?_
    rintro e w3 ⟨rfl, rfl⟩
    go_wp2
    go_ret
    exact ⟨ret_int HR.out.symm, b1⟩
  rw [e3] at h3
  have HR : Hid (shF xs k n = hsL (xs.take k.toNat) % n) := by simp [Hid, shF, shB, e1, e2, e3]
  have k0 := inB_yes e2
  have n0 := inB_yes e3
  obtain ⟨m, rfl⟩ : ∃ m : Nat, k = m := ⟨k.toNat, by omega⟩
  have hcon := fun W (h : IntsAt W A xs) => shardOf_s A c xs m n W h e1 (by omega) n0.1 n0.2
  clear e1 e2 e3
  go_enter Try.func9, Try.ntmps9
  go_wp2_with fail
  refine h1.mono ?_
  rintro e w1 ⟨rfl, b1⟩
  go_wp2_with fail
  refine (h2 _).mono ?_
  rintro e w2 ⟨rfl, rfl⟩
  go_wp2_with fail
  refine (h3 _).mono ?_
  rintro e w3 ⟨rfl, rfl⟩
  go_wp2_with fail
  refine (hcon _ (hx.below b1)).mono ?_
  rintro e w4 ⟨rfl, rfl⟩
  go_wp2
  go_ret
  exact ⟨ret_int (by rw [HR.out]; rfl), b1⟩
set_option maxHeartbeats 1600000 in
theorem ShardOf_i (A : Option Addr) (c : Nat) (xs : List Int) (k n : Int) (w : World) (hx : IntsAt w A xs) (hc : xs.length ≤ c) (hcm : c ≤ maxLen) (hn : xs.length * 8 ≤ 140737488351232) :
    Calls Try.prog 11 #[.slice A xs.length c, .int .i64 k, .int .i64 n] w fun e w' => e = .returned (.int .i64 (shF xs k n)) ∧ Below w.heap.size w w' := by
  have h1 := ValidRow_i A c xs w hx hn
  have h2 := fun W => isUpTo_g k (xs.length : Int) W
  have h3 := fun W => workers_i n W
  cases e1 : rowB xs
  · have HR : Hid (shF xs k n = -1) := by simp [Hid, shF, shB, e1]
    rw [e1] at h1
    clear e1
    go_enter Try.func11, Try.ntmps11
    go_wp2_with fail
    refine h1.mono ?_
    rintro e w1 ⟨rfl, b1⟩
    go_wp2
    go_ret
    exact ⟨ret_int HR.out.symm, b1⟩
  rw [e1] at h1
  cases e2 : inB k 0 (xs.length : Int)
  · have HR : Hid (shF xs k n = -1) := by simp [Hid, shF, shB, e2]
    rw [e2] at h2
    clear e1 e2
    go_enter Try.func11, Try.ntmps11
    go_wp2_with fail
    refine h1.mono ?_
    rintro e w1 ⟨rfl, b1⟩
    go_wp2_with fail
    refine (h2 _).mono ?_
    rintro e w2 ⟨rfl, rfl⟩
    go_wp2
    go_ret
    exact ⟨ret_int HR.out.symm, b1⟩
  rw [e2] at h2
  cases e3 : inB n 1 8
  · have HR : Hid (shF xs k n = -1) := by simp [Hid, shF, shB, e3]
    rw [e3] at h3
    clear e1 e2 e3
    go_enter Try.func11, Try.ntmps11
    go_wp2_with fail
    refine h1.mono ?_
    rintro e w1 ⟨rfl, b1⟩
    go_wp2_with fail
    refine (h2 _).mono ?_
    rintro e w2 ⟨rfl, rfl⟩
    go_wp2_with fail
    refine (h3 _).mono ?_
    rintro e w3 ⟨rfl, rfl⟩
    go_wp2
    go_ret
    exact ⟨ret_int HR.out.symm, b1⟩
  rw [e3] at h3
  have HR : Hid (shF xs k n = hsL (xs.take k.toNat) % n) := by simp [Hid, shF, shB, e1, e2, e3]
  have k0 := inB_yes e2
  have n0 := inB_yes e3
  have hl6 : 1 ≤ xs.length ∧ xs.length ≤ 6 := by have h := e1; simp only [rowB, decide_eq_true_eq] at h; exact ⟨h.1, h.2.1⟩
  obtain ⟨m, rfl⟩ : ∃ m : Nat, k = m := ⟨k.toNat, by omega⟩
  obtain ⟨n0, n1⟩ := n0
  obtain ⟨b, off, rfl, hbl, hcx⟩ := hx (by omega)
  have g0 : (0 : Int) ≤ m := by omega
  have g1 : (m : Int) ≤ c := by omega
  have g2 : (c : Int) ≤ 9223372036854775807 := by unfold maxLen at hcm; omega
  have HE := Lib.hid e1
  have HX := Lib.hid hcx
  clear e1 e2 e3 hcx
  go_enter Try.func11, Try.ntmps11
  go_wp2_with fail
  refine h1.mono ?_
  rintro e w1 ⟨rfl, b1⟩
  go_wp2_with fail
  refine (h2 _).mono ?_
  rintro e w2 ⟨rfl, rfl⟩
  go_wp2_with fail
  refine (h3 _).mono ?_
  rintro e w3 ⟨rfl, rfl⟩
  clear h1 h2 h3
  go_wp2
  go_loopw [7, 9, 29] (fun h _ i wr => ∃ (q : Nat) (v : Int), q ≤ m ∧ i = .int .i64 (q : Nat) ∧ h = .int .i64 v ∧ hsL (xs.take q) = v ∧ 0 ≤ v ∧ v ≤ 1000002 ∧ w1 = wr) (fun _ _ i _ => m - (intOf i).toNat)
  case atStart => exact ⟨0, 7, by omega, rfl, rfl, rfl, by omega, by omega, rfl⟩
  case round =>
    obtain ⟨q, v, hk, rfl, rfl, hv, hv0, hv1, rfl⟩ := hrel
    by_cases hlt : q < m
    · have hkx : q < xs.length := by omega
      have hck : w1.cell? ⟨b, off + q, none⟩ = some (.int .i64 xs[q]) := (b1.cell (p := ⟨b, off + q, none⟩) hbl).trans (by rw [HX.out q hkx]; simp [hkx])
      have hbd := rowB_get HE.out hkx
      have hst := hsL_step hkx
      rw [hv] at hst
      have HS := Lib.hid hst
      have hsb := hsS_bd v xs[q]
      clear hst hv
      obtain ⟨x, hx0⟩ : ∃ x, xs[q] = x := ⟨_, rfl⟩
      rw [hx0] at hck hbd HS hsb
      have hq : 0 ≤ 31 * v + x + 9999 := by omega
      have hq2 : 31 * v + x + 9999 ≤ 100000000 := by omega
      clear hx0
      go_wp2
      go_roundw
      case rel => exact ⟨q + 1, hsS v x, by omega, by go_num, rfl, HS.out, hsb.1, hsb.2, by trivial⟩
      case measure => simp [intOf]; omega
    · obtain rfl : q = m := by omega
      have HV := Lib.hid hv
      clear hv
      go_wp2
      go_ret
      exact ⟨ret_int (by rw [HR.out, ← HV.out]; rfl), b1⟩
end Go.Proofs.Ytjikdlldochhcab
