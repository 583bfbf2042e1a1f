/- HELPER, no statement of the seat: AdvanceTime of the model. -/
import Derived.Test.YtijjbhihlgglhabFrontE
namespace Go.Proofs.Ytijjbhihlgglhab
open Go.RowKit Go.Sort
set_option linter.unusedSimpArgs false
set_option linter.unusedVariables false

theorem advance_s0 (t : Tm) (A : Option Addr) (c : Nat) (w : World) :
    Calls Try.prog 58 #[.agg #[.int .i64 (t).1, .int .i64 (t).2], .slice A 0 c] w fun e w' => e = .returned (.agg #[.int .i64 (t).1, .int .i64 (t).2]) ∧ Below w.heap.size w w' := by
  go_enter Try.func58, Try.ntmps58
  go_wp2
  exact bodyPost_ret (v := .agg #[.int .i64 (t).1, .int .i64 (t).2]) (by simp [results, Try.results58, go_sem]) rfl ⟨rfl, (by repeat (first | exact Below.refl _ _ | refine bal ?_ _ | refine Below.drew ?_ | refine bset ?_ (by simp <;> omega) _))⟩
def advT (t : Tm) (xs : List Tm) : Tm := if 0 < xs.length then advN t xs (xs.length - 1) else t
theorem advance_any (t : Tm) (A : Option Addr) (c : Nat) (xs : List Tm) (w : World) (hx : TimesAt w A xs) (hn : xs.length ≤ 4194304) :
    Calls Try.prog 58 #[.agg #[.int .i64 (t).1, .int .i64 (t).2], .slice A xs.length c] w fun e w' => e = .returned (.agg #[.int .i64 (advT t xs).1, .int .i64 (advT t xs).2]) ∧ Below w.heap.size w w' := by
  by_cases hp : 0 < xs.length
  · rw [show advT t xs = advN t xs (xs.length - 1) by simp [advT, hp]]
    exact advance_s t A c xs w hx hn hp
  · rw [show advT t xs = t by simp [advT, hp], show xs.length = 0 by omega]
    exact advance_s0 t A c w
theorem atR_yes {t : Tm} {xs : List Tm} (hf : frB xs = true) (hv : vtB t.1 t.2 = true) : atR t xs = advT t xs := by
  unfold atR advT
  rw [hf, hv]
  simp
theorem atR_nf {t : Tm} {xs : List Tm} (hf : frB xs = false) : atR t xs = t := by simp [atR, hf]
theorem atR_nv {t : Tm} {xs : List Tm} (hv : vtB t.1 t.2 = false) : atR t xs = t := by simp [atR, hv]

set_option maxHeartbeats 1000000 in
theorem AdvanceTime_s (t : Tm) (A : Option Addr) (c : Nat) (xs : List Tm) (w : World) (hx : TimesAt w A xs) (hn : xs.length ≤ 4194304) :
    Calls Try.prog 33 #[.agg #[.int .i64 (t).1, .int .i64 (t).2], .slice A xs.length c] w fun e w' => e = .returned (.agg #[.int .i64 (atR t xs).1, .int .i64 (atR t xs).2]) ∧ Below w.heap.size w w' := by
  have hblk : Blk ((w.alloc (.cells #[.int .i64 (t).1, .int .i64 (t).2] 34)).alloc (.cells #[.int .i64 0, .int .i64 0] 34)) w.heap.size 34 #[.int .i64 (t).1, .int .i64 (t).2] := (Blk.newAt rfl).alloc _
  have hblk1 : Blk ((w.alloc (.cells #[.int .i64 (t).1, .int .i64 (t).2] 34)).alloc (.cells #[.int .i64 0, .int .i64 0] 34)) (w.heap.size + 1) 34 #[.int .i64 0, .int .i64 0] := Blk.newAt (by simp)
  have HK := Lib.hid hblk
  have HK1 := Lib.hid hblk1
  clear hblk hblk1
  have hb0 : Below w.heap.size w ((w.alloc (.cells #[.int .i64 (t).1, .int .i64 (t).2] 34)).alloc (.cells #[.int .i64 0, .int .i64 0] 34)) := bal (bal (Below.refl _ _) _) _
  by_cases hf : frB xs = true
  · by_cases hv : vtB t.1 t.2 = true
    · have HF := Lib.hid (atR_yes hf hv)
      go_enter Try.func33, Try.ntmps33
      go_wp2_with fail
      refine (validFrontier_s _ _ _ _ (hx.below hb0) hn).mono ?_
      rintro e w1 ⟨rfl, hb1⟩
      have k1 := HK.out.below hb1
      have q1 : w1.cell? ⟨w.heap.size, 0, none⟩ = some (.int .i64 t.1) := k1.cell 0
      have q2 : w1.cell? ⟨w.heap.size, 1, none⟩ = some (.int .i64 t.2) := k1.cell 1
      have B1 := btr hb0 hb1
      have R1 := Lib.hid (HK1.out.below hb1)
      have K1 := Lib.hid k1
      clear k1 hb1 HK HK1 hb0
      go_wp2_with fail
      refine (validTime_s _ _ _).mono ?_
      rintro e w2 ⟨rfl, hb2⟩
      have k2 := K1.out.below hb2
      have q3 : w2.cell? ⟨w.heap.size, 0, none⟩ = some (.int .i64 t.1) := k2.cell 0
      have q4 : w2.cell? ⟨w.heap.size, 1, none⟩ = some (.int .i64 t.2) := k2.cell 1
      have B2 := btr B1 hb2
      have R2 := Lib.hid (R1.out.below hb2)
      clear q1 q2 k2 hb2 R1 K1 B1
      go_wp2_with fail
      refine (advance_any _ _ _ _ _ (hx.below B2) hn).mono ?_
      rintro e w3 ⟨rfl, hb3⟩
      have r3 := R2.out.below hb3
      have c3 := r3.cell
      have f3 := r3.frozen
      have B3 := Lib.hid (btr B2 hb3)
      have R3 := Lib.hid r3
      clear q3 q4 R2 B2 hb3 r3
      go_wp2_with fail
      have r0 := (R3.out.set_ 0 (.int .i64 (advT t xs).1)).cell 0
      have r1 := ((R3.out.set_ 0 (.int .i64 (advT t xs).1)).set_ 1 (.int .i64 (advT t xs).2)).cell 1
      have r2 := ((R3.out.set_ 0 (.int .i64 (advT t xs).1)).set_ 1 (.int .i64 (advT t xs).2)).cell 0
      exact bodyPost_ret (v := .agg #[.int .i64 (advT t xs).1, .int .i64 (advT t xs).2]) (by simp [results, Try.results33, go_sem, r0, r1, r2]) rfl ⟨by rw [HF.out], bset (bset B3.out (by simp) _) (by simp) _⟩
    · have hv' : vtB t.1 t.2 = false := by simpa using hv
      have HF := Lib.hid (atR_nv (xs := xs) hv')
      clear hv
      go_enter Try.func33, Try.ntmps33
      go_wp2_with fail
      refine (validFrontier_s _ _ _ _ (hx.below hb0) hn).mono ?_
      rintro e w1 ⟨rfl, hb1⟩
      have k1 := HK.out.below hb1
      have q1 : w1.cell? ⟨w.heap.size, 0, none⟩ = some (.int .i64 t.1) := k1.cell 0
      have q2 : w1.cell? ⟨w.heap.size, 1, none⟩ = some (.int .i64 t.2) := k1.cell 1
      have B1 := btr hb0 hb1
      have R1 := Lib.hid (HK1.out.below hb1)
      have K1 := Lib.hid k1
      clear k1 hb1 HK HK1 hb0
      go_wp2_with fail
      refine (validTime_s _ _ _).mono ?_
      rintro e w2 ⟨rfl, hb2⟩
      have k2 := K1.out.below hb2
      have q3 : w2.cell? ⟨w.heap.size, 0, none⟩ = some (.int .i64 t.1) := k2.cell 0
      have q4 : w2.cell? ⟨w.heap.size, 1, none⟩ = some (.int .i64 t.2) := k2.cell 1
      have B2 := btr B1 hb2
      have r3 := R1.out.below hb2
      have c3 := r3.cell
      have f3 := r3.frozen
      have B3 := Lib.hid B2
      have R3 := Lib.hid r3
      clear q1 q2 k2 hb2 R1 K1 B1 B2 r3
      go_wp2_with fail
      have r0 := (R3.out.set_ 0 (.int .i64 t.1)).cell 0
      have r1 := ((R3.out.set_ 0 (.int .i64 t.1)).set_ 1 (.int .i64 t.2)).cell 1
      have r2 := ((R3.out.set_ 0 (.int .i64 t.1)).set_ 1 (.int .i64 t.2)).cell 0
      exact bodyPost_ret (v := .agg #[.int .i64 (t).1, .int .i64 (t).2]) (by simp [results, Try.results33, go_sem, r0, r1, r2]) rfl ⟨by rw [HF.out], bset (bset B3.out (by simp) _) (by simp) _⟩
  · have hf' : frB xs = false := by simpa using hf
    have HF := Lib.hid (atR_nf (t := t) hf')
    clear hf
    go_enter Try.func33, Try.ntmps33
    go_wp2_with fail
    refine (validFrontier_s _ _ _ _ (hx.below hb0) hn).mono ?_
    rintro e w1 ⟨rfl, hb1⟩
    have k1 := HK.out.below hb1
    have q1 : w1.cell? ⟨w.heap.size, 0, none⟩ = some (.int .i64 t.1) := k1.cell 0
    have q2 : w1.cell? ⟨w.heap.size, 1, none⟩ = some (.int .i64 t.2) := k1.cell 1
    have r3 := HK1.out.below hb1
    have c3 := r3.cell
    have f3 := r3.frozen
    have B3 := Lib.hid (btr hb0 hb1)
    have R3 := Lib.hid r3
    clear k1 hb1 HK HK1 hb0 r3
    go_wp2_with fail
    have r0 := (R3.out.set_ 0 (.int .i64 t.1)).cell 0
    have r1 := ((R3.out.set_ 0 (.int .i64 t.1)).set_ 1 (.int .i64 t.2)).cell 1
    have r2 := ((R3.out.set_ 0 (.int .i64 t.1)).set_ 1 (.int .i64 t.2)).cell 0
    exact bodyPost_ret (v := .agg #[.int .i64 (t).1, .int .i64 (t).2]) (by simp [results, Try.results33, go_sem, r0, r1, r2]) rfl ⟨by rw [HF.out], bset (bset B3.out (by simp) _) (by simp) _⟩
end Go.Proofs.Ytijjbhihlgglhab
