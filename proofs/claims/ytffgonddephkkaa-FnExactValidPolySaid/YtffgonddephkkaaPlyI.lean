/- HELPER, no statement of the seat: valid terms on the program's side. -/
import Derived.Test.YtffgonddephkkaaTrmA
import Derived.Test.YtffgonddephkkaaZbs
namespace Go.Proofs.Ytffgonddephkkaa
open Go.RowKit Go.Sort
set_option linter.unusedSimpArgs false
set_option linter.unusedVariables false

/-- Ascending, where equal ones may follow each other. -/
def Srt (xs : List Int) : Prop := ∀ j (h : j + 1 < xs.length), xs[j]'(by omega) ≤ xs[j + 1]
noncomputable def srtB (xs : List Int) : Bool := @decide (Srt xs) (Classical.propDecidable _)
theorem srt_yes {xs : List Int} (h : Srt xs) : srtB xs = true := by simp [srtB, h]
theorem srt_no {xs : List Int} {j : Nat} (h : j + 1 < xs.length) (hj : ¬ xs[j]'(by omega) ≤ xs[j + 1]) : srtB xs = false := by
  have : ¬ Srt xs := fun h' => hj (h' j h)
  simp [srtB, this]
def SrtFrom (xs : List Int) (k : Int) : Prop := ∀ j (h : j + 1 < xs.length), k ≤ j → xs[j]'(by omega) ≤ xs[j + 1]
theorem srtFrom_step {xs : List Int} {m : Nat} (hm : m + 1 < xs.length) (h : SrtFrom xs ((m : Int) + 1)) (he : xs[m]'(by omega) ≤ xs[m + 1]) : SrtFrom xs m := fun j hj hk => by
  by_cases e : j = m
  · subst e; exact he
  · exact h j hj (by omega)

theorem isNaN_w (x : Int) (w : World) : Calls Try.prog 126 #[.int .i64 x] w fun e w' => e = .returned (.bool false) ∧ w = w' := by
  have h : (x != x) = false := by simp
  go_enter Try.func126, Try.ntmps126
  go_wp2
  go_ret
  exact ⟨rfl, rfl⟩
theorem less_yes {x y : Int} (h : x < y) (w : World) : Calls Try.prog 121 #[.int .i64 x, .int .i64 y] w fun e w' => e = .returned (.bool true) ∧ Below w.heap.size w w' := by
  go_enter Try.func121, Try.ntmps121
  go_wp2_with (go_at_call 126; refine (isNaN_w _ _).mono ?_; rintro e w1 ⟨rfl, rfl⟩)
  go_ret
  exact ⟨ret_bool (by simp [h]), Below.refl _ _⟩
theorem less_no {x y : Int} (h : ¬ x < y) (w : World) : Calls Try.prog 121 #[.int .i64 x, .int .i64 y] w fun e w' => e = .returned (.bool false) ∧ Below w.heap.size w w' := by
  go_enter Try.func121, Try.ntmps121
  go_wp2_with (go_at_call 126; refine (isNaN_w _ _).mono ?_; rintro e w1 ⟨rfl, rfl⟩)
  go_ret
  exact ⟨ret_bool (by simp [h]), Below.refl _ _⟩

set_option maxHeartbeats 1600000 in
theorem isSorted_i (A : Option Addr) (c : Nat) (xs : List Int) (w : World) (hx : IntsAt w A xs) (hn : xs.length ≤ 4194304) :
    Calls Try.prog 110 #[.slice A xs.length c] w fun e w' => e = .returned (.bool (srtB xs)) ∧ Below w.heap.size w w' := by
  go_enter Try.func110, Try.ntmps110
  go_wp2
  go_loopw [3] (fun i wr => ∃ k : Int, -1 ≤ k ∧ k + 1 ≤ xs.length ∧ i = .int .i64 k ∧ SrtFrom xs k ∧ Below w.heap.size w wr) (fun i _ => (intOf i + 1).toNat)
  case atStart => exact ⟨xs.length - 1, by omega, by omega, by go_num, fun j h hk => by omega, Below.refl _ _⟩
  case round =>
    obtain ⟨k, h1, h2, rfl, hs, hbel⟩ := hrel
    have HS := Lib.hid hs
    clear hs
    by_cases hk : 0 < k
    · obtain ⟨m, rfl⟩ : ∃ m : Nat, k = (m : Int) + 1 := ⟨(k - 1).toNat, by omega⟩
      have hm : m + 1 < xs.length := by omega
      have hm0 : m < xs.length := by omega
      obtain ⟨b, off, rfl, hbl, hc⟩ := hx (by omega)
      have c0 : wr.cell? ⟨b, off + m, none⟩ = some (.int .i64 xs[m]) := (hbel.cell (p := ⟨b, off + m, none⟩) hbl).trans (by rw [hc m hm0]; simp [hm0])
      have c1 : wr.cell? ⟨b, off + (m + 1), none⟩ = some (.int .i64 xs[m + 1]) := (hbel.cell (p := ⟨b, off + (m + 1), none⟩) hbl).trans (by rw [hc (m + 1) hm]; simp [hm])
      have q0 := cgrow c0
      have q1 := cgrow c1
      have e1 : IntKind.i64.wrap ((m : Int) + 1 - 1) = m := by rw [IntKind.wrap_i64]; omega
      have e2 : IntKind.i64.wrap (m : Int) = m := by rw [IntKind.wrap_i64]; omega
      have hml : (m : Int) + 1 < xs.length := by omega
      have hml2 : (m : Int) < xs.length := by omega
      clear hc c0 c1 h2
      by_cases hle : xs[m] ≤ xs[m + 1]
      · have hc1 := fun W => less_no (show ¬ xs[m + 1] < xs[m] by omega) W
        have HT := Lib.hid (srtFrom_step hm HS.out hle)
        clear hle
        go_wp2_with fail
        refine wp_region_quiet_below (by kernel_rfl) (by kernel_rfl) ?_
        repeat (go_big_quiet_step (first | (go_at_call 121; exact Calls.regrown_of (hc1 _))))
        refine wpQuiet_nil ?_
        intro wq hwq
        obtain ⟨⟨dq, osq⟩, rfl⟩ := hwq
        have hbq := btr hbel (below_regrown wr dq osq)
        generalize grow (redrawn wr dq) osq = wz at hbq
        clear q0 q1 hc1
        go_wp2
        go_roundw
        case rel => exact ⟨m, by omega, by omega, by go_num, HT.out, hbq⟩
        case measure => simp [intOf]; omega
      · have hc1 := fun W => less_yes (show xs[m + 1] < xs[m] by omega) W
        have HT := Lib.hid (srt_no hm hle)
        clear hle
        go_wp2_with fail
        refine wp_region_quiet_below (by kernel_rfl) (by kernel_rfl) ?_
        repeat (go_big_quiet_step (first | (go_at_call 121; exact Calls.regrown_of (hc1 _))))
        refine wpQuiet_nil ?_
        intro wq hwq
        obtain ⟨⟨dq, osq⟩, rfl⟩ := hwq
        have hbq := btr hbel (below_regrown wr dq osq)
        generalize grow (redrawn wr dq) osq = wz at hbq
        clear q0 q1 hc1
        go_wp2
        go_ret
        exact ⟨ret_bool HT.out.symm, hbq⟩
    · have HT := Lib.hid (srt_yes (xs := xs) (fun j h => HS.out j h (by omega)))
      go_wp2
      go_ret
      exact ⟨ret_bool HT.out.symm, hbel⟩

theorem isUpTo_yes {n lim : Int} (h : inB n 0 lim = true) (w : World) : Calls Try.prog 109 #[.int .i64 n, .int .i64 lim] w fun e w' => e = .returned (.bool true) ∧ w = w' := by
  simp [inB] at h
  obtain ⟨h0, h1⟩ := h
  go_enter Try.func109, Try.ntmps109
  go_wp2
  go_ret
  exact ⟨ret_bool (by simp [*] <;> omega), rfl⟩
theorem isUpTo_no {n lim : Int} (h : inB n 0 lim = false) (w : World) : Calls Try.prog 109 #[.int .i64 n, .int .i64 lim] w fun e w' => e = .returned (.bool false) ∧ w = w' := by
  have h' : ¬ (0 ≤ n ∧ n ≤ lim) := fun ⟨a, b⟩ => by simp [inB, a, b] at h
  clear h
  by_cases h0 : 0 ≤ n <;> by_cases h1 : n ≤ lim
  · exact absurd ⟨h0, h1⟩ h'
  all_goals
    clear h'
    go_enter Try.func109, Try.ntmps109
    go_wp2
    go_ret
    exact ⟨ret_bool (by simp [*] <;> omega), rfl⟩
theorem isZero_yes (A : Option Addr) (n c : Nat) (x : Int) (h : x = 0) (w : World) : Calls Try.prog 111 #[.agg #[.int .i64 x, .slice A n c]] w fun e w' => e = .returned (.bool true) ∧ Below w.heap.size w w' := by
  have h0 : (x == 0) = true := by simp [h]
  clear h
  go_enter Try.func111, Try.ntmps111
  go_wp2
  go_ret
  exact ⟨ret_bool (by simp [h0]), bal (Below.refl _ _) _⟩
theorem isZero_no (A : Option Addr) (n c : Nat) (x : Int) (h : x ≠ 0) (w : World) : Calls Try.prog 111 #[.agg #[.int .i64 x, .slice A n c]] w fun e w' => e = .returned (.bool false) ∧ Below w.heap.size w w' := by
  have h0 : (x == 0) = false := by simp [h]
  clear h
  go_enter Try.func111, Try.ntmps111
  go_wp2
  go_ret
  exact ⟨ret_bool (by simp [h0]), bal (Below.refl _ _) _⟩

/-- A valid term. -/
def TrmOk (e : Ent) : Prop := (∀ v ∈ e.1, inB v 0 299 = true) ∧ e.1.length ≤ 6 ∧ Srt e.1 ∧ e.2 ≠ 0 ∧ wtB e.2 = true
noncomputable def trmB (e : Ent) : Bool := @decide (TrmOk e) (Classical.propDecidable _)
theorem trm_yes {e : Ent} (h : TrmOk e) : trmB e = true := by simp [trmB, h]
theorem trm_no {e : Ent} (h : ¬ TrmOk e) : trmB e = false := by simp [trmB, h]

set_option maxHeartbeats 3200000 in
theorem trmValid_i (A : Option Addr) (c : Nat) (xs : List Int) (x : Int) (w : World) (hx : IntsAt w A xs) (hn : xs.length ≤ 4194304) :
    Calls Try.prog 87 #[.agg #[.int .i64 x, .slice A xs.length c]] w fun e w' => e = .returned (.bool (trmB (xs, x))) ∧ Below w.heap.size w w' := by
  go_enter Try.func87, Try.ntmps87
  go_wp2
  go_loopw [4, 8] (fun _ i wr => ∃ k : Nat, k ≤ xs.length ∧ i = .int .i64 k ∧ (∀ v ∈ xs.take k, inB v 0 299 = true) ∧ Blk wr w.heap.size 103 #[.int .i64 x, .slice A xs.length c] ∧ Below w.heap.size w wr) (fun _ i _ => xs.length - (intOf i).toNat)
  case atStart => exact ⟨0, by omega, rfl, by simp, Blk.newAt rfl, bal (Below.refl _ _) _⟩
  case round =>
    obtain ⟨k, hk, rfl, hall, kB, hbel⟩ := hrel
    have HT := Lib.hid hall
    clear hall
    by_cases hlt : k < xs.length
    · obtain ⟨b, off, rfl, hbl, hc⟩ := hx (by omega)
      have c0 : wr.cell? ⟨b, off + k, none⟩ = some (.int .i64 xs[k]) := (hbel.cell (p := ⟨b, off + k, none⟩) hbl).trans (by rw [hc k hlt]; simp [hlt])
      clear hc
      by_cases he : inB xs[k] 0 299 = true
      · have HS := Lib.hid (show ∀ v ∈ xs.take (k + 1), inB v 0 299 = true by
          intro v hv
          rw [List.take_succ_eq_append_getElem hlt] at hv
          rcases List.mem_append.1 hv with hv | hv
          · exact HT.out v hv
          · simp at hv; subst hv; exact he)
        have hu := fun W => isUpTo_yes he W
        clear he
        go_wp2_with (go_at_call 109; refine (hu _).mono ?_; rintro e w1 ⟨rfl, rfl⟩)
        go_roundw
        case rel => exact ⟨k + 1, by omega, by go_num, HS.out, kB, hbel⟩
        case measure => simp [intOf]; omega
      · have he' : inB xs[k] 0 299 = false := by simpa using he
        have HS := Lib.hid (trm_no (e := (xs, x)) (fun h => he (h.1 _ (List.getElem_mem hlt))))
        have hu := fun W => isUpTo_no he' W
        clear he he'
        go_wp2_with (go_at_call 109; refine (hu _).mono ?_; rintro e w1 ⟨rfl, rfl⟩)
        go_ret
        exact ⟨ret_bool HS.out.symm, hbel⟩
    · obtain rfl : k = xs.length := by omega
      rw [List.take_length] at HT
      have p0 := kB.cell 0
      have p1 := kB.cell 1
      simp at p0 p1
      by_cases g1 : xs.length ≤ 6
      · by_cases g2 : Srt xs
        · have hS := (isSorted_i A c xs wr (hx.below hbel) hn)
          rw [srt_yes g2] at hS
          by_cases g3 : x = 0
          · have HF := Lib.hid (trm_no (e := (xs, x)) (fun h => h.2.2.2.1 g3))
            have hZ := fun W => isZero_yes A xs.length c x g3 W
            clear g2 g3 HT
            go_wp2_with fail
            refine hS.mono ?_
            rintro e w1 ⟨rfl, hb1⟩
            have r0 := (kB.below hb1).cell 0
            have r1 := (kB.below hb1).cell 1
            simp at r0 r1
            clear p0 p1 hS
            go_wp2_with fail
            refine (hZ _).mono ?_
            rintro e w2 ⟨rfl, hb2⟩
            go_wp2
            go_ret
            exact ⟨ret_bool HF.out.symm, btr hbel (btr hb1 hb2)⟩
          · have hZ := fun W => isZero_no A xs.length c x g3 W
            by_cases g4 : wtB x = true
            · have HF := Lib.hid (trm_yes (e := (xs, x)) ⟨HT.out, g1, g2, g3, g4⟩)
              have hW := fun W => isWithin_w x W
              rw [g4] at hW
              clear g2 g3 g4 HT
              go_wp2_with fail
              refine hS.mono ?_
              rintro e w1 ⟨rfl, hb1⟩
              have r0 := (kB.below hb1).cell 0
              have r1 := (kB.below hb1).cell 1
              simp at r0 r1
              clear p0 p1 hS
              go_wp2_with fail
              refine (hZ _).mono ?_
              rintro e w2 ⟨rfl, hb2⟩
              have s0 := (kB.below (btr hb1 hb2)).cell 0
              simp at s0
              clear r0 r1
              go_wp2_with fail
              refine (hW _).mono ?_
              rintro e w3 ⟨rfl, rfl⟩
              go_wp2
              go_ret
              exact ⟨ret_bool HF.out.symm, btr hbel (btr hb1 hb2)⟩
            · have g4' : wtB x = false := by simpa using g4
              have HF := Lib.hid (trm_no (e := (xs, x)) (fun h => g4 h.2.2.2.2))
              have hW := fun W => isWithin_w x W
              rw [g4'] at hW
              clear g2 g3 g4 g4' HT
              go_wp2_with fail
              refine hS.mono ?_
              rintro e w1 ⟨rfl, hb1⟩
              have r0 := (kB.below hb1).cell 0
              have r1 := (kB.below hb1).cell 1
              simp at r0 r1
              clear p0 p1 hS
              go_wp2_with fail
              refine (hZ _).mono ?_
              rintro e w2 ⟨rfl, hb2⟩
              have s0 := (kB.below (btr hb1 hb2)).cell 0
              simp at s0
              clear r0 r1
              go_wp2_with fail
              refine (hW _).mono ?_
              rintro e w3 ⟨rfl, rfl⟩
              go_wp2
              go_ret
              exact ⟨ret_bool HF.out.symm, btr hbel (btr hb1 hb2)⟩
        · have hS := (isSorted_i A c xs wr (hx.below hbel) hn)
          rw [show srtB xs = false by simp [srtB, g2]] at hS
          have HF := Lib.hid (trm_no (e := (xs, x)) (fun h => g2 h.2.2.1))
          clear g2 HT
          go_wp2_with fail
          refine hS.mono ?_
          rintro e w1 ⟨rfl, hb1⟩
          go_wp2
          go_ret
          exact ⟨ret_bool HF.out.symm, btr hbel hb1⟩
      · have HF := Lib.hid (trm_no (e := (xs, x)) (fun h => g1 h.2.1))
        have g1' : ¬ (xs.length : Int) ≤ 6 := by omega
        clear HT
        go_wp2
        go_ret
        exact ⟨ret_bool HF.out.symm, hbel⟩
end Go.Proofs.Ytffgonddephkkaa
