/- HELPER, no statement of the seat: marks of batches. -/
import Derived.Test.YtffgonddephkkaaGreatVwa
namespace Go.Proofs.YtffgonddephkkaaGreat
open Go.RowKit Go.Sort
set_option linter.unusedSimpArgs false
set_option linter.unusedVariables false

/-! ### Marks -/
set_option maxRecDepth 100000 in
set_option maxHeartbeats 1600000 in
theorem markBatch_x (S : Fp) (LA UA TA : Option Addr) (lc uc tc : Nat) (lo up : List Tm) (us : List Upd) (k : Int) (w : World) (hx : BatO w S [.slice LA lo.length lc, .slice UA up.length uc, .slice TA us.length tc] (lo, (up, us))) (n1 : lo.length ≤ 4194304) (n2 : up.length ≤ 4194304) (n3 : us.length ≤ 4194304) (r3 : rowsU us 4194304)
    (hk0 : 0 ≤ k) (hk1 : k + 16777216 + cntL cntU us ≤ 4611686018427387904) :
    Calls Tryz.prog 9 #[.agg #[.slice LA lo.length lc, .slice UA up.length uc, .slice TA us.length tc], .int .i64 k] w fun e w' => e = .returned (.int .i64 (k + cntV (lo, (up, us)))) ∧ BatO w' S [.slice LA lo.length lc, .slice UA up.length uc, .slice TA us.length tc] (mkV k (lo, (up, us))) ∧ GrownS w w' S := by
  obtain ⟨LA', lc', UA', uc', TA', tc', S1, S2, S3, e, t1, t2, t3, i1, i2, i3⟩ := hx.form
  simp only [List.cons.injEq, Value.slice.injEq, and_true, true_and] at e
  obtain ⟨⟨rfl, rfl⟩, ⟨rfl, rfl⟩, ⟨rfl, rfl⟩⟩ := e
  have hSl := batO.lt hx
  have hB0 : Below w.heap.size w (w.alloc (.cells #[.slice LA lo.length lc, .slice UA up.length uc, .slice TA us.length tc] 30)) := bal (Below.refl _ _) _
  have T1 := t1.below hB0
  have T2 := t2.below hB0
  have T3 := SlOw.below updO t3 hB0
  have HG0 : Hid (GrownS w (w.alloc (.cells #[.slice LA lo.length lc, .slice UA up.length uc, .slice TA us.length tc] 30)) S) := GrownS.ofBelow hB0
  have kA : Blk (w.alloc (.cells #[.slice LA lo.length lc, .slice UA up.length uc, .slice TA us.length tc] 30)) w.heap.size 30 #[.slice LA lo.length lc, .slice UA up.length uc, .slice TA us.length tc] := Blk.newAt rfl
  have hnew : ∀ q, S q → q ≠ w.heap.size := fun q hq e => by have := hSl q hq; omega
  have HL : Hid (∀ q, S q → q < w.heap.size) := hSl
  have HI := Lib.hid (And.intro i1 (And.intro i2 i3))
  have HC : Hid (k + 2 * (lo.length : Int) + 2 * (up.length : Int) + cntL cntU us = k + cntV (lo, (up, us))) := by simp only [Hid, cntV]; push_cast; omega
  clear hx t1 t2 t3 hSl
  go_enter Tryz.func9, Tryz.ntmps9
  go_wp2_with fail
  refine absI (fun W => W = w.alloc (.cells #[.slice LA lo.length lc, .slice UA up.length uc, .slice TA us.length tc] 30)) rfl ?_
  intro W0 hW0
  rw [← hW0] at T1 T2 T3 HG0 kA
  clear hW0 hB0
  refine (markTimeS_any S1 _ _ lo k W0 T1 n1 hk0 (by omega)).mono ?_
  rintro e w1 ⟨rfl, u1, g1⟩
  have T2' := T2.kept g1 (fun q h2 h1 => (i1 q h1).2.1 h2)
  have T3' : UpdsOw w1 S3 TA tc us := SlOw.loc updO T3 (fun q hq => g1.block q (SlOw.lt T3 q hq) (fun h => (i1 q h).2.2 hq))
  have kA1 : Blk w1 w.heap.size 30 #[.slice LA lo.length lc, .slice UA up.length uc, .slice TA us.length tc] := (g1.block _ kA.lt (fun h => hnew _ (i1 _ h).1 rfl)).trans kA
  have HG1 := Lib.hid (HG0.out.trans (g1.mono (fun q hq => (i1 q hq).1)))
  have a1 := kA1.cell 1
  simp at a1
  clear g1 T1 T2 T3 kA HG0
  go_wp2_with fail
  refine (markTimeS_any S2 _ _ up (k + 2 * (lo.length : Int)) w1 T2' n2 (by omega) (by omega)).mono ?_
  rintro e w2 ⟨rfl, u2, g2⟩
  have T3 : UpdsOw w2 S3 TA tc us := SlOw.loc updO T3' (fun q hq => g2.block q (SlOw.lt T3' q hq) (fun h => (i2 q h).2 hq))
  have V1 := u1.kept g2 (fun q h1 h2 => (i1 q h1).2.1 h2)
  have kA2 : Blk w2 w.heap.size 30 #[.slice LA lo.length lc, .slice UA up.length uc, .slice TA us.length tc] := (g2.block _ kA1.lt (fun h => hnew _ (i2 _ h).1 rfl)).trans kA1
  have HG2 := Lib.hid (HG1.out.trans (g2.mono (fun q hq => (i2 q hq).1)))
  have a2 := kA2.cell 2
  simp at a2
  clear g2 T2' T3' kA1 HG1 a1 u1
  go_wp2_with fail
  refine (markUpdateS_any S3 _ _ us (k + 2 * (lo.length : Int) + 2 * (up.length : Int)) w2 T3 n3 r3 (by omega) (by omega)).mono ?_
  rintro e w3 ⟨rfl, u3, g3⟩
  have W1 := V1.kept g3 (fun q h1 h3 => (i1 q h1).2.2 h3)
  have W2 := u2.kept g3 (fun q h2 h3 => (i2 q h2).2 h3)
  have HG3 := Lib.hid (HG2.out.trans (g3.mono (fun q hq => i3 q hq)))
  have hsl : ∀ q, S q → q < w3.heap.size := fun q hq => Nat.lt_of_lt_of_le (HL.out q hq) HG3.out.size
  have HO : Hid (BatO w3 S [.slice LA lo.length lc, .slice UA up.length uc, .slice TA us.length tc] (mkV k (lo, (up, us)))) := by
    have h0 := BatO.mk (lc := lc) (uc := uc) (tc := tc) (LA := LA) (UA := UA) (TA := TA) hsl W1 W2 u3 HI.out.1 HI.out.2.1 HI.out.2.2
    rw [marksT_length, marksT_length, mkL_length] at h0
    exact h0
  clear g3 T3 kA2 HG2 a2 W1 W2 V1 u2 u3 hsl
  go_wp2
  go_ret
  exact ⟨ret_int HC.out, HO.out, HG3.out⟩
set_option maxRecDepth 100000 in
set_option maxHeartbeats 1600000 in
theorem heldBatch_x (S : Fp) (LA UA TA : Option Addr) (lc uc tc : Nat) (lo up : List Tm) (us : List Upd) (k : Int) (w : World) (hx : BatO w S [.slice LA lo.length lc, .slice UA up.length uc, .slice TA us.length tc] (mkV k (lo, (up, us)))) (n1 : lo.length ≤ 4194304) (n2 : up.length ≤ 4194304) (n3 : us.length ≤ 4194304) (r3 : rowsU us 4194304)
    (hk0 : 0 ≤ k) (hk1 : k + 16777216 + cntL cntU us ≤ 4611686018427387904) :
    Calls Tryz.prog 10 #[.agg #[.slice LA lo.length lc, .slice UA up.length uc, .slice TA us.length tc], .int .i64 k] w fun e w' => e = .returned (.int .i64 (k + cntV (lo, (up, us)))) ∧ Below w.heap.size w w' := by
  obtain ⟨LA', lc', UA', uc', TA', tc', S1, S2, S3, e, t1, t2, t3, i1, i2, i3⟩ := hx.form
  simp only [List.cons.injEq, Value.slice.injEq, and_true, true_and] at e
  obtain ⟨⟨rfl, -, rfl⟩, ⟨rfl, -, rfl⟩, ⟨rfl, -, rfl⟩⟩ := e
  have hB0 : Below w.heap.size w (w.alloc (.cells #[.slice LA lo.length lc, .slice UA up.length uc, .slice TA us.length tc] 30)) := bal (Below.refl _ _) _
  have T1 : TimesAt _ LA (marksT k lo.length) := t1.at_.below hB0
  have T2 : TimesAt _ UA (marksT (k + 2 * (lo.length : Int)) up.length) := t2.at_.below hB0
  have T3 : UpdsAt _ TA (mkL cntU mkU (k + 2 * (lo.length : Int) + 2 * (up.length : Int)) us) := (SlOw.at_ updO t3).below updR hB0
  have HB : Hid (Below w.heap.size w (w.alloc (.cells #[.slice LA lo.length lc, .slice UA up.length uc, .slice TA us.length tc] 30))) := hB0
  have HC : Hid (k + 2 * (lo.length : Int) + 2 * (up.length : Int) + cntL cntU us = k + cntV (lo, (up, us))) := by simp only [Hid, cntV]; push_cast; omega
  have hh1 := heldTimeS_any LA lc lo.length k _ T1 n1 hk0 (by omega)
  have hh2 := heldTimeS_any UA uc up.length (k + 2 * (lo.length : Int)) _ T2 n2 (by omega) (by omega)
  have hh3 := heldUpdateS_any TA tc us (k + 2 * (lo.length : Int) + 2 * (up.length : Int)) _ T3 n3 r3 (by omega) (by omega)
  have n1' : ¬ (k + 2 * (lo.length : Int)) < 0 := by omega
  have n2' : ¬ (k + 2 * (lo.length : Int) + 2 * (up.length : Int)) < 0 := by omega
  have n3' : ¬ (k + 2 * (lo.length : Int) + 2 * (up.length : Int) + cntL cntU us) < 0 := by omega
  clear hx t1 t2 t3 hB0 T1 T2 T3 i1 i2 i3
  go_enter Tryz.func10, Tryz.ntmps10
  go_wp2_with fail
  refine hh1.mono ?_
  rintro e w1 ⟨rfl, rfl⟩
  go_wp2_with fail
  refine hh2.mono ?_
  rintro e w2 ⟨rfl, rfl⟩
  go_wp2_with fail
  refine hh3.mono ?_
  rintro e w3 ⟨rfl, rfl⟩
  clear hh1 hh2 hh3
  go_wp2
  go_ret
  exact ⟨ret_int HC.out, HB.out⟩
end Go.Proofs.YtffgonddephkkaaGreat
