/- HELPER, no statement of the seat: the generators of two times. -/
import Derived.Test.YtfndglpfhdphiaaDrawU
import Derived.Deep.RegionWith
namespace Go.Proofs.Ytfndglpfhdphiaa
open Go.RowKit
set_option linter.unusedSimpArgs false
set_option linter.unusedVariables false

/-- Two times, and nothing that was there has turned. -/
def TwoR (w : World) (e : Ending) (w' : World) : Prop :=
  ∃ x y u v : Int, e = .returned (.tuple #[.agg #[.int .i64 x, .int .i64 y], .agg #[.int .i64 u, .int .i64 v]]) ∧ Below w.heap.size w w'
set_option maxHeartbeats 2000000 in
theorem twoTimes_r (A : Option Addr) (n c : Nat) (w : World) (hb : BytesAt w w.heap.size A n) (hc : n ≤ c) (hn : n ≤ 1048576) :
    Calls Try.prog 43 #[.slice A n c] w (TwoR w) := by
  have h0 : BytesAt ((w.alloc (.cells #[.int .i64 0, .int .i64 0] 24)).alloc (.cells #[.int .i64 0, .int .i64 0] 24)) ((w.alloc (.cells #[.int .i64 0, .int .i64 0] 24)).alloc (.cells #[.int .i64 0, .int .i64 0] 24)).heap.size A n := fun hp => by
    obtain ⟨b, off, e, h1, h2⟩ := (hb.below (bal (bal (Below.refl _ _) (.cells #[.int .i64 0, .int .i64 0] 24)) (.cells #[.int .i64 0, .int .i64 0] 24)) (Nat.le_refl _)) hp
    exact ⟨b, off, e, by simp; omega, h2⟩
  have hk : Blk ((w.alloc (.cells #[.int .i64 0, .int .i64 0] 24)).alloc (.cells #[.int .i64 0, .int .i64 0] 24)) w.heap.size 24 #[.int .i64 0, .int .i64 0] := (Blk.newAt rfl).alloc _
  have hk1 : Blk ((w.alloc (.cells #[.int .i64 0, .int .i64 0] 24)).alloc (.cells #[.int .i64 0, .int .i64 0] 24)) (w.heap.size + 1) 24 #[.int .i64 0, .int .i64 0] := Blk.newAt (by simp)
  have hB0 : Below w.heap.size w ((w.alloc (.cells #[.int .i64 0, .int .i64 0] 24)).alloc (.cells #[.int .i64 0, .int .i64 0] 24)) := bal (bal (Below.refl _ _) _) _
  have H0 := Lib.hid (And.intro h0 (And.intro hk (And.intro hk1 hB0)))
  clear h0 hk hk1 hB0 hb
  go_enter Try.func43, Try.ntmps43
  go_wp2_with fail
  refine (newReader_r _ _ _ _ H0.out.1 hc hn).mono ?_
  rintro e w1 ⟨A1, m1, c1, rfl, r1, b1⟩
  have r1 : Rdr w1 (w.heap.size + 1 + 1) A1 m1 c1 0 := by simpa using r1
  have H1 := Lib.hid (And.intro r1 (And.intro (H0.out.2.1.below b1) (And.intro (H0.out.2.2.1.below b1) (btr H0.out.2.2.2 b1))))
  clear H0 b1 r1
  go_wp2_with fail
  refine (anyTime_r (w.heap.size + 1 + 1) _ _ _ _ _ H1.out.1 (by omega)).mono ?_
  rintro e w2 ⟨x, y, q, rfl, q0, q1, r2, g2⟩
  have s2 : w.heap.size + 1 + 1 < w2.heap.size := by have := H1.out.1.1.lt; have := g2.size; omega
  have H2 : Hid (Rdr (w2.alloc (.cells #[.int .i64 x, .int .i64 y] 24)) (w.heap.size + 1 + 1) A1 m1 c1 q ∧ Blk (w2.alloc (.cells #[.int .i64 x, .int .i64 y] 24)) w.heap.size 24 #[.int .i64 0, .int .i64 0] ∧ Blk (w2.alloc (.cells #[.int .i64 x, .int .i64 y] 24)) (w.heap.size + 1) 24 #[.int .i64 0, .int .i64 0] ∧ Blk (w2.alloc (.cells #[.int .i64 x, .int .i64 y] 24)) w2.heap.size 24 #[.int .i64 x, .int .i64 y] ∧ Below w.heap.size w (w2.alloc (.cells #[.int .i64 x, .int .i64 y] 24))) :=
    ⟨r2.alloc _, (H1.out.2.1.kept g2 (by omega)).alloc _, (H1.out.2.2.1.kept g2 (by omega)).alloc _, Blk.newAt rfl, bal (gbelow H1.out.2.2.2 g2 (by omega)) _⟩
  clear H1 r2 g2
  go_wp2_with fail
  have hne : w2.heap.size ≠ w.heap.size + 1 + 1 := by omega
  have L2 : w.heap.size + 1 + 1 < w2.heap.size := s2
  refine abs_world (fun wB => Rdr wB (w.heap.size + 1 + 1) A1 m1 c1 q ∧ Blk wB w.heap.size 24 #[.int .i64 0, .int .i64 0] ∧ Blk wB (w.heap.size + 1) 24 #[.int .i64 0, .int .i64 0] ∧ Blk wB w2.heap.size 24 #[.int .i64 x, .int .i64 y] ∧ Below w.heap.size w wB) H2.out (fun wB hh => ?_)
  clear H2
  have c5 := hh.2.2.2.1.cell
  have HH := Lib.hid hh
  clear hh
  go_region_with (go_at_call 65; refine (anyTime_r (w.heap.size + 1 + 1) A1 m1 c1 q wB.drew HH.out.1 (by omega)).mono ?_; rintro e w3 ⟨u, v, q3, rfl, _, _, r3, g3⟩; have hN : Blk w3 w2.heap.size 24 #[.int .i64 x, .int .i64 y] ∧ Blk w3 w.heap.size 24 #[.int .i64 0, .int .i64 0] ∧ Blk w3 (w.heap.size + 1) 24 #[.int .i64 0, .int .i64 0] ∧ Below w.heap.size w w3 := ⟨HH.out.2.2.2.1.drew.kept g3 hne, HH.out.2.1.drew.kept g3 (by omega), HH.out.2.2.1.drew.kept g3 (by omega), gbelow HH.out.2.2.2.2.drew g3 (by omega)⟩; have c6 := hN.1.cell; have c7 := hN.2.1.cell; have f7 := hN.2.1.frozen; have c8 := hN.2.2.1.cell; have f8 := hN.2.2.1.frozen; have HN := Lib.hid hN; clear hN r3 g3)
  all_goals
    have g0 := (((HN.out.2.1.set_ 0 (.int .i64 x)).set_ 1 (.int .i64 y)).far (p := ⟨w.heap.size + 1, 0, none⟩) (by simp) (.int .i64 u)).far (p := ⟨w.heap.size + 1, 1, none⟩) (by simp) (.int .i64 v)
    have g1 := (((HN.out.2.2.1.far (p := ⟨w.heap.size, 0, none⟩) (by simp) (.int .i64 x)).far (p := ⟨w.heap.size, 1, none⟩) (by simp) (.int .i64 y)).set_ 0 (.int .i64 u)).set_ 1 (.int .i64 v)
    have gB := bset (bset (bset (bset HN.out.2.2.2 (p := ⟨w.heap.size, 0, none⟩) (by simp) (.int .i64 x)) (p := ⟨w.heap.size, 1, none⟩) (by simp) (.int .i64 y)) (p := ⟨w.heap.size + 1, 0, none⟩) (by simp) (.int .i64 u)) (p := ⟨w.heap.size + 1, 1, none⟩) (by simp) (.int .i64 v)
    generalize (((w3.setCell ⟨w.heap.size, 0, none⟩ (.int .i64 x)).setCell ⟨w.heap.size, 1, none⟩ (.int .i64 y)).setCell ⟨w.heap.size + 1, 0, none⟩ (.int .i64 u)).setCell ⟨w.heap.size + 1, 1, none⟩ (.int .i64 v) = W4 at g0 g1 gB ⊢
    clear c7 f7 c8 f8 HN
    have d00 : W4.cell? ⟨w.heap.size, 0, none⟩ = some (.int .i64 x) := g0.cell 0
    have d01 : W4.cell? ⟨w.heap.size, 1, none⟩ = some (.int .i64 y) := g0.cell 1
    have d10 : W4.cell? ⟨w.heap.size + 1, 0, none⟩ = some (.int .i64 u) := g1.cell 0
    have d11 : W4.cell? ⟨w.heap.size + 1, 1, none⟩ = some (.int .i64 v) := g1.cell 1
    clear g0 g1
    go_wp2
    exact bodyPost_ret (v := .tuple #[.agg #[.int .i64 x, .int .i64 y], .agg #[.int .i64 u, .int .i64 v]]) (by simp [results, Try.results43, go_sem, d00, d01, d10, d11]) rfl ⟨x, y, u, v, rfl, gB⟩

set_option maxHeartbeats 1000000 in
theorem DrawTimeLessEqual_r (A : Option Addr) (n c : Nat) (w : World) (hb : BytesAt w w.heap.size A n) (hc : n ≤ c) (hn : n ≤ 1048576) :
    Calls Try.prog 15 #[.slice A n c] w (TwoR w) := by
  have h0 : BytesAt ((w.alloc (.cells #[.int .i64 0, .int .i64 0] 24)).alloc (.cells #[.int .i64 0, .int .i64 0] 24)) ((w.alloc (.cells #[.int .i64 0, .int .i64 0] 24)).alloc (.cells #[.int .i64 0, .int .i64 0] 24)).heap.size A n := fun hp => by
    obtain ⟨b, off, e, h1, h2⟩ := (hb.below (bal (bal (Below.refl _ _) (.cells #[.int .i64 0, .int .i64 0] 24)) (.cells #[.int .i64 0, .int .i64 0] 24)) (Nat.le_refl _)) hp
    exact ⟨b, off, e, by simp; omega, h2⟩
  have hk : Blk ((w.alloc (.cells #[.int .i64 0, .int .i64 0] 24)).alloc (.cells #[.int .i64 0, .int .i64 0] 24)) w.heap.size 24 #[.int .i64 0, .int .i64 0] := (Blk.newAt rfl).alloc _
  have hk1 : Blk ((w.alloc (.cells #[.int .i64 0, .int .i64 0] 24)).alloc (.cells #[.int .i64 0, .int .i64 0] 24)) (w.heap.size + 1) 24 #[.int .i64 0, .int .i64 0] := Blk.newAt (by simp)
  have hB0 : Below w.heap.size w ((w.alloc (.cells #[.int .i64 0, .int .i64 0] 24)).alloc (.cells #[.int .i64 0, .int .i64 0] 24)) := bal (bal (Below.refl _ _) _) _
  have H0 := Lib.hid (And.intro h0 (And.intro hk (And.intro hk1 hB0)))
  clear h0 hk hk1 hB0 hb
  go_enter Try.func15, Try.ntmps15
  go_wp2_with fail
  refine (twoTimes_r _ _ _ _ H0.out.1 hc hn).mono ?_
  rintro e w3 ⟨x, y, u, v, rfl, b3⟩
  have HN : Hid (True ∧ Blk w3 w.heap.size 24 #[.int .i64 0, .int .i64 0] ∧ Blk w3 (w.heap.size + 1) 24 #[.int .i64 0, .int .i64 0] ∧ Below w.heap.size w w3) := ⟨trivial, H0.out.2.1.below b3, H0.out.2.2.1.below b3, btr H0.out.2.2.2 b3⟩
  have c7 := HN.out.2.1.cell
  have f7 := HN.out.2.1.frozen
  have c8 := HN.out.2.2.1.cell
  have f8 := HN.out.2.2.1.frozen
  clear H0 b3
  go_wp2_with fail
  have g0 := (((HN.out.2.1.set_ 0 (.int .i64 x)).set_ 1 (.int .i64 y)).far (p := ⟨w.heap.size + 1, 0, none⟩) (by simp) (.int .i64 u)).far (p := ⟨w.heap.size + 1, 1, none⟩) (by simp) (.int .i64 v)
  have g1 := (((HN.out.2.2.1.far (p := ⟨w.heap.size, 0, none⟩) (by simp) (.int .i64 x)).far (p := ⟨w.heap.size, 1, none⟩) (by simp) (.int .i64 y)).set_ 0 (.int .i64 u)).set_ 1 (.int .i64 v)
  have gB := bset (bset (bset (bset HN.out.2.2.2 (p := ⟨w.heap.size, 0, none⟩) (by simp) (.int .i64 x)) (p := ⟨w.heap.size, 1, none⟩) (by simp) (.int .i64 y)) (p := ⟨w.heap.size + 1, 0, none⟩) (by simp) (.int .i64 u)) (p := ⟨w.heap.size + 1, 1, none⟩) (by simp) (.int .i64 v)
  generalize (((w3.setCell ⟨w.heap.size, 0, none⟩ (.int .i64 x)).setCell ⟨w.heap.size, 1, none⟩ (.int .i64 y)).setCell ⟨w.heap.size + 1, 0, none⟩ (.int .i64 u)).setCell ⟨w.heap.size + 1, 1, none⟩ (.int .i64 v) = W4 at g0 g1 gB ⊢
  clear c7 f7 c8 f8 HN
  have d00 : W4.cell? ⟨w.heap.size, 0, none⟩ = some (.int .i64 x) := g0.cell 0
  have d01 : W4.cell? ⟨w.heap.size, 1, none⟩ = some (.int .i64 y) := g0.cell 1
  have d10 : W4.cell? ⟨w.heap.size + 1, 0, none⟩ = some (.int .i64 u) := g1.cell 0
  have d11 : W4.cell? ⟨w.heap.size + 1, 1, none⟩ = some (.int .i64 v) := g1.cell 1
  clear g0 g1
  exact bodyPost_ret (v := .tuple #[.agg #[.int .i64 x, .int .i64 y], .agg #[.int .i64 u, .int .i64 v]]) (by simp [results, Try.results15, go_sem, d00, d01, d10, d11]) rfl ⟨x, y, u, v, rfl, gB⟩

set_option maxHeartbeats 1000000 in
theorem DrawTimeJoin_r (A : Option Addr) (n c : Nat) (w : World) (hb : BytesAt w w.heap.size A n) (hc : n ≤ c) (hn : n ≤ 1048576) :
    Calls Try.prog 19 #[.slice A n c] w (TwoR w) := by
  have h0 : BytesAt ((w.alloc (.cells #[.int .i64 0, .int .i64 0] 24)).alloc (.cells #[.int .i64 0, .int .i64 0] 24)) ((w.alloc (.cells #[.int .i64 0, .int .i64 0] 24)).alloc (.cells #[.int .i64 0, .int .i64 0] 24)).heap.size A n := fun hp => by
    obtain ⟨b, off, e, h1, h2⟩ := (hb.below (bal (bal (Below.refl _ _) (.cells #[.int .i64 0, .int .i64 0] 24)) (.cells #[.int .i64 0, .int .i64 0] 24)) (Nat.le_refl _)) hp
    exact ⟨b, off, e, by simp; omega, h2⟩
  have hk : Blk ((w.alloc (.cells #[.int .i64 0, .int .i64 0] 24)).alloc (.cells #[.int .i64 0, .int .i64 0] 24)) w.heap.size 24 #[.int .i64 0, .int .i64 0] := (Blk.newAt rfl).alloc _
  have hk1 : Blk ((w.alloc (.cells #[.int .i64 0, .int .i64 0] 24)).alloc (.cells #[.int .i64 0, .int .i64 0] 24)) (w.heap.size + 1) 24 #[.int .i64 0, .int .i64 0] := Blk.newAt (by simp)
  have hB0 : Below w.heap.size w ((w.alloc (.cells #[.int .i64 0, .int .i64 0] 24)).alloc (.cells #[.int .i64 0, .int .i64 0] 24)) := bal (bal (Below.refl _ _) _) _
  have H0 := Lib.hid (And.intro h0 (And.intro hk (And.intro hk1 hB0)))
  clear h0 hk hk1 hB0 hb
  go_enter Try.func19, Try.ntmps19
  go_wp2_with fail
  refine (twoTimes_r _ _ _ _ H0.out.1 hc hn).mono ?_
  rintro e w3 ⟨x, y, u, v, rfl, b3⟩
  have HN : Hid (True ∧ Blk w3 w.heap.size 24 #[.int .i64 0, .int .i64 0] ∧ Blk w3 (w.heap.size + 1) 24 #[.int .i64 0, .int .i64 0] ∧ Below w.heap.size w w3) := ⟨trivial, H0.out.2.1.below b3, H0.out.2.2.1.below b3, btr H0.out.2.2.2 b3⟩
  have c7 := HN.out.2.1.cell
  have f7 := HN.out.2.1.frozen
  have c8 := HN.out.2.2.1.cell
  have f8 := HN.out.2.2.1.frozen
  clear H0 b3
  go_wp2_with fail
  have g0 := (((HN.out.2.1.set_ 0 (.int .i64 x)).set_ 1 (.int .i64 y)).far (p := ⟨w.heap.size + 1, 0, none⟩) (by simp) (.int .i64 u)).far (p := ⟨w.heap.size + 1, 1, none⟩) (by simp) (.int .i64 v)
  have g1 := (((HN.out.2.2.1.far (p := ⟨w.heap.size, 0, none⟩) (by simp) (.int .i64 x)).far (p := ⟨w.heap.size, 1, none⟩) (by simp) (.int .i64 y)).set_ 0 (.int .i64 u)).set_ 1 (.int .i64 v)
  have gB := bset (bset (bset (bset HN.out.2.2.2 (p := ⟨w.heap.size, 0, none⟩) (by simp) (.int .i64 x)) (p := ⟨w.heap.size, 1, none⟩) (by simp) (.int .i64 y)) (p := ⟨w.heap.size + 1, 0, none⟩) (by simp) (.int .i64 u)) (p := ⟨w.heap.size + 1, 1, none⟩) (by simp) (.int .i64 v)
  generalize (((w3.setCell ⟨w.heap.size, 0, none⟩ (.int .i64 x)).setCell ⟨w.heap.size, 1, none⟩ (.int .i64 y)).setCell ⟨w.heap.size + 1, 0, none⟩ (.int .i64 u)).setCell ⟨w.heap.size + 1, 1, none⟩ (.int .i64 v) = W4 at g0 g1 gB ⊢
  clear c7 f7 c8 f8 HN
  have d00 : W4.cell? ⟨w.heap.size, 0, none⟩ = some (.int .i64 x) := g0.cell 0
  have d01 : W4.cell? ⟨w.heap.size, 1, none⟩ = some (.int .i64 y) := g0.cell 1
  have d10 : W4.cell? ⟨w.heap.size + 1, 0, none⟩ = some (.int .i64 u) := g1.cell 0
  have d11 : W4.cell? ⟨w.heap.size + 1, 1, none⟩ = some (.int .i64 v) := g1.cell 1
  clear g0 g1
  exact bodyPost_ret (v := .tuple #[.agg #[.int .i64 x, .int .i64 y], .agg #[.int .i64 u, .int .i64 v]]) (by simp [results, Try.results19, go_sem, d00, d01, d10, d11]) rfl ⟨x, y, u, v, rfl, gB⟩

set_option maxHeartbeats 1000000 in
theorem DrawTimeMeet_r (A : Option Addr) (n c : Nat) (w : World) (hb : BytesAt w w.heap.size A n) (hc : n ≤ c) (hn : n ≤ 1048576) :
    Calls Try.prog 24 #[.slice A n c] w (TwoR w) := by
  have h0 : BytesAt ((w.alloc (.cells #[.int .i64 0, .int .i64 0] 24)).alloc (.cells #[.int .i64 0, .int .i64 0] 24)) ((w.alloc (.cells #[.int .i64 0, .int .i64 0] 24)).alloc (.cells #[.int .i64 0, .int .i64 0] 24)).heap.size A n := fun hp => by
    obtain ⟨b, off, e, h1, h2⟩ := (hb.below (bal (bal (Below.refl _ _) (.cells #[.int .i64 0, .int .i64 0] 24)) (.cells #[.int .i64 0, .int .i64 0] 24)) (Nat.le_refl _)) hp
    exact ⟨b, off, e, by simp; omega, h2⟩
  have hk : Blk ((w.alloc (.cells #[.int .i64 0, .int .i64 0] 24)).alloc (.cells #[.int .i64 0, .int .i64 0] 24)) w.heap.size 24 #[.int .i64 0, .int .i64 0] := (Blk.newAt rfl).alloc _
  have hk1 : Blk ((w.alloc (.cells #[.int .i64 0, .int .i64 0] 24)).alloc (.cells #[.int .i64 0, .int .i64 0] 24)) (w.heap.size + 1) 24 #[.int .i64 0, .int .i64 0] := Blk.newAt (by simp)
  have hB0 : Below w.heap.size w ((w.alloc (.cells #[.int .i64 0, .int .i64 0] 24)).alloc (.cells #[.int .i64 0, .int .i64 0] 24)) := bal (bal (Below.refl _ _) _) _
  have H0 := Lib.hid (And.intro h0 (And.intro hk (And.intro hk1 hB0)))
  clear h0 hk hk1 hB0 hb
  go_enter Try.func24, Try.ntmps24
  go_wp2_with fail
  refine (twoTimes_r _ _ _ _ H0.out.1 hc hn).mono ?_
  rintro e w3 ⟨x, y, u, v, rfl, b3⟩
  have HN : Hid (True ∧ Blk w3 w.heap.size 24 #[.int .i64 0, .int .i64 0] ∧ Blk w3 (w.heap.size + 1) 24 #[.int .i64 0, .int .i64 0] ∧ Below w.heap.size w w3) := ⟨trivial, H0.out.2.1.below b3, H0.out.2.2.1.below b3, btr H0.out.2.2.2 b3⟩
  have c7 := HN.out.2.1.cell
  have f7 := HN.out.2.1.frozen
  have c8 := HN.out.2.2.1.cell
  have f8 := HN.out.2.2.1.frozen
  clear H0 b3
  go_wp2_with fail
  have g0 := (((HN.out.2.1.set_ 0 (.int .i64 x)).set_ 1 (.int .i64 y)).far (p := ⟨w.heap.size + 1, 0, none⟩) (by simp) (.int .i64 u)).far (p := ⟨w.heap.size + 1, 1, none⟩) (by simp) (.int .i64 v)
  have g1 := (((HN.out.2.2.1.far (p := ⟨w.heap.size, 0, none⟩) (by simp) (.int .i64 x)).far (p := ⟨w.heap.size, 1, none⟩) (by simp) (.int .i64 y)).set_ 0 (.int .i64 u)).set_ 1 (.int .i64 v)
  have gB := bset (bset (bset (bset HN.out.2.2.2 (p := ⟨w.heap.size, 0, none⟩) (by simp) (.int .i64 x)) (p := ⟨w.heap.size, 1, none⟩) (by simp) (.int .i64 y)) (p := ⟨w.heap.size + 1, 0, none⟩) (by simp) (.int .i64 u)) (p := ⟨w.heap.size + 1, 1, none⟩) (by simp) (.int .i64 v)
  generalize (((w3.setCell ⟨w.heap.size, 0, none⟩ (.int .i64 x)).setCell ⟨w.heap.size, 1, none⟩ (.int .i64 y)).setCell ⟨w.heap.size + 1, 0, none⟩ (.int .i64 u)).setCell ⟨w.heap.size + 1, 1, none⟩ (.int .i64 v) = W4 at g0 g1 gB ⊢
  clear c7 f7 c8 f8 HN
  have d00 : W4.cell? ⟨w.heap.size, 0, none⟩ = some (.int .i64 x) := g0.cell 0
  have d01 : W4.cell? ⟨w.heap.size, 1, none⟩ = some (.int .i64 y) := g0.cell 1
  have d10 : W4.cell? ⟨w.heap.size + 1, 0, none⟩ = some (.int .i64 u) := g1.cell 0
  have d11 : W4.cell? ⟨w.heap.size + 1, 1, none⟩ = some (.int .i64 v) := g1.cell 1
  clear g0 g1
  exact bodyPost_ret (v := .tuple #[.agg #[.int .i64 x, .int .i64 y], .agg #[.int .i64 u, .int .i64 v]]) (by simp [results, Try.results24, go_sem, d00, d01, d10, d11]) rfl ⟨x, y, u, v, rfl, gB⟩
end Go.Proofs.Ytfndglpfhdphiaa
