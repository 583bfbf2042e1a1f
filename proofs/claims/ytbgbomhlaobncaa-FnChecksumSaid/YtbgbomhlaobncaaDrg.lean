/- HELPER, no statement of the seat: several texts in one file. -/
import Derived.Test.YtbgbomhlaobncaaRows
import Derived.Test.YtbgbomhlaobncaaZba
import Derived.WalkKit
import Derived.ProofKit
import Derived.OpenShut
import Derived.WalkLawsBesides
import Derived.OwnWalk
import Derived.LoopTactic
import Derived.Deep.QuietTactic
import Derived.BigQuiet
import Derived.Below
import Derived.IntWalk
import Derived.Lib.Hide
import Derived.Outline
import Derived.Laws.BitsAllLaws
import Derived.Test.YtbgbomhlaobncaaTimeBase
import Derived.Maps.AppendAt
import Derived.Carry
import Derived.ChangeOld
import Derived.Lib.SmallJoins
/- HELPER, no statement of the seat: the reader of the generators: whatever the code, it gives numbers in range. -/
namespace Go.Proofs.Ytbgbomhlaobncaa
open Go.RowKit
set_option linter.unusedSimpArgs false
set_option linter.unusedVariables false

/-- Bytes at A, in blocks below g. -/
def BytesAt (w : World) (g : Nat) (A : Option Addr) (n : Nat) : Prop :=
  0 < n → ∃ b off, A = some ⟨b, off, none⟩ ∧ b < g ∧ ∀ j, j < n → ∃ z : Int, 0 ≤ z ∧ z ≤ 255 ∧ w.cell? ⟨b, off + j, none⟩ = some (.int .u8 z)
/-- Block g is a reader of n bytes that has been asked p times. -/
def Rdr (w : World) (g : Nat) (A : Option Addr) (n c : Nat) (p : Int) : Prop := Blk w g 36 #[.slice A n c, .int .i64 p] ∧ BytesAt w g A n ∧ n ≤ 2000 ∧ 0 ≤ p ∧ p ≤ 1000000000
theorem BytesAt.kept {w w' : World} {g : Nat} {A : Option Addr} {n : Nat} {row : Option Nat} (h : BytesAt w g A n) (hg : w.grownBy w' row) (hr : ∀ k, row = some k → g ≤ k) (hlt : g ≤ w.heap.size) : BytesAt w' g A n := fun hn => by
  obtain ⟨b, off, e, hb, hc⟩ := h hn
  refine ⟨b, off, e, hb, fun j hj => ?_⟩
  obtain ⟨z, h0, h1, h2⟩ := hc j hj
  exact ⟨z, h0, h1, (World.cell?_of_block (a := ⟨b, off + j, none⟩) (hg.block b (by omega) (fun e => by have := hr _ e.symm; omega))).trans h2⟩

def PickPost (w : World) (g : Nat) (A : Option Addr) (n c : Nat) (p m : Int) (e : Ending) (w' : World) : Prop :=
  ∃ q : Int, e = .returned (.int .i64 q) ∧ 0 ≤ q ∧ (0 < m → q < m) ∧ Blk w' g 36 #[.slice A n c, .int .i64 (p + 1)] ∧ w.grownBy w' (some g)

theorem xor_nonneg (a : Int) (h0 : 0 ≤ a) (h1 : a ≤ 1099511627776) : 0 ≤ bits .xor .i64 a (a / 64) ∧ bits .xor .i64 a (a / 64) ≤ 4611686018427387904 := by
  obtain ⟨A, rfl⟩ := Int.eq_ofNat_of_zero_le h0
  have d : ((A : Int) / 64) = ((A / 64 : Nat) : Int) := by omega
  rw [d]
  have hA : A < 2 ^ 41 := by omega
  have hx : A ^^^ (A / 64) < 2 ^ 41 := Nat.xor_lt_two_pow hA (by omega)
  have e1 : (BitVec.ofInt 64 (A : Int)).toNat = A := by rw [BitVec.ofInt_natCast, BitVec.toNat_ofNat]; exact Nat.mod_eq_of_lt (by omega)
  have e2 : (BitVec.ofInt 64 ((A / 64 : Nat) : Int)).toNat = A / 64 := by rw [BitVec.ofInt_natCast, BitVec.toNat_ofNat]; exact Nat.mod_eq_of_lt (by omega)
  have e3 : bits .xor .i64 (A : Int) ((A / 64 : Nat) : Int) = ((A ^^^ (A / 64) : Nat) : Int) := by
    show IntKind.i64.wrap ((BitVec.ofInt 64 (A : Int) ^^^ BitVec.ofInt 64 ((A / 64 : Nat) : Int)).toNat : Int) = _
    rw [BitVec.toNat_xor, e1, e2, IntKind.wrap_i64]
    omega
  rw [e3]
  omega

set_option maxHeartbeats 1600000 in
theorem pick_any (g : Nat) (A : Option Addr) (n c : Nat) (p m : Int) (w : World) (hr : Rdr w g A n c p) (hm : m ≤ 1000000000) :
    Calls Try.prog 12 #[.pointer (some ⟨g, 0, none⟩), .int .i64 m] w (PickPost w g A n c p m) := by
  obtain ⟨hblk, hby, hn, hp0, hp1⟩ := hr
  have c0 : w.cell? ⟨g, 0, none⟩ = some (.slice A n c) := by rw [hblk.cell]; rfl
  have c1 : w.cell? ⟨g, 1, none⟩ = some (.int .i64 p) := by rw [hblk.cell]; rfl
  have f1 := hblk.frozen 1
  have hs := hblk.set_ 1 (.int .i64 (p + 1))
  have HS : Hid (Blk (w.setCell ⟨g, 1, none⟩ (.int .i64 (p + 1))) g 36 #[.slice A n c, .int .i64 (p + 1)]) := hs
  have HG : Hid (w.grownBy (w.setCell ⟨g, 1, none⟩ (.int .i64 (p + 1))) (some g)) := ⟨rfl, rfl, rfl, by simp [World.setCell], fun k _ hk => Below.heap_setCell _ _ _ _ (fun e => hk (by rw [e]))⟩
  clear hs hblk
  by_cases h1 : m < 1
  · go_enter Try.func12, Try.ntmps12
    go_wp2
    go_ret
    exact ⟨0, rfl, by omega, fun h => by omega, HS.out, HG.out⟩
  have h1' : 1 ≤ m := by omega
  clear h1
  by_cases h2 : n = 0
  · subst h2
    go_enter Try.func12, Try.ntmps12
    go_wp2
    go_ret
    exact ⟨0, rfl, by omega, fun h => by omega, HS.out, HG.out⟩
  have hne : ((n : Int) == 0) = false := by simp; omega
  obtain ⟨b, off, rfl, hb, hc⟩ := hby (by omega)
  have hbg : b ≠ g := by omega
  by_cases h3 : p < n
  · obtain ⟨P, rfl⟩ := Int.eq_ofNat_of_zero_le hp0
    obtain ⟨z, hz0, hz1, hz⟩ := hc P (by omega)
    have hz' : (w.setCell ⟨g, 1, none⟩ (.int .i64 ((P : Int) + 1))).cell? ⟨b, off + P, none⟩ = some (.int .u8 z) := (World.cell?_setCell_other _ _ _ _ (by intro e; injection e with e; exact hbg e.symm)).trans hz
    have hmod : z % m < m := Int.emod_lt_of_pos _ (by omega)
    have hmod0 : 0 ≤ z % m := Int.emod_nonneg _ (by omega)
    clear hc hby h2
    go_enter Try.func12, Try.ntmps12
    go_wp2
    go_ret
    exact ⟨z % m, rfl, hmod0, fun _ => hmod, HS.out, HG.out⟩
  · obtain ⟨P, rfl⟩ := Int.eq_ofNat_of_zero_le hp0
    have h3' : (n : Int) ≤ P := by omega
    have hn0 : 0 < n := by omega
    have hn1 : (1 : Int) ≤ n := by omega
    have hnz : ¬ (n : Int) = 0 := by omega
    have hnz' : ¬ n = 0 := by omega
    have i0 : 0 ≤ (P : Int) % n := Int.emod_nonneg _ (by omega)
    have i1 : (P : Int) % n < n := Int.emod_lt_of_pos _ (by omega)
    have j0 : 0 ≤ ((P : Int) * 7 + 3) % n := Int.emod_nonneg _ (by omega)
    have j1 : ((P : Int) * 7 + 3) % n < n := Int.emod_lt_of_pos _ (by omega)
    have d0 : 0 ≤ (P : Int) / n := Int.ediv_nonneg (by omega) (by omega)
    have d1 : (P : Int) / n ≤ 1000000000 := Int.le_trans (Int.ediv_le_self _ (by omega)) hp1
    obtain ⟨z1, za0, za1, hz1⟩ := hc ((P : Int) % n).toNat (by omega)
    obtain ⟨z2, zb0, zb1, hz2⟩ := hc (((P : Int) * 7 + 3) % n).toNat (by omega)
    have hz1' : (w.setCell ⟨g, 1, none⟩ (.int .i64 ((P : Int) + 1))).cell? ⟨b, off + ((P : Int) % n).toNat, none⟩ = some (.int .u8 z1) := (World.cell?_setCell_other _ _ _ _ (by intro e; injection e with e; exact hbg e.symm)).trans hz1
    have hz2' : (w.setCell ⟨g, 1, none⟩ (.int .i64 ((P : Int) + 1))).cell? ⟨b, off + (((P : Int) * 7 + 3) % n).toNat, none⟩ = some (.int .u8 z2) := (World.cell?_setCell_other _ _ _ _ (by intro e; injection e with e; exact hbg e.symm)).trans hz2
    have hxx := xor_nonneg (z1 * 131 + z2 * 1117 + P * 29 + P / n * 53) (by omega) (by omega)
    have hx0 := hxx.1
    have hmod : bits .xor .i64 (z1 * 131 + z2 * 1117 + P * 29 + P / n * 53) ((z1 * 131 + z2 * 1117 + P * 29 + P / n * 53) / 64) % m < m := Int.emod_lt_of_pos _ (by omega)
    have hmod0 : 0 ≤ bits .xor .i64 (z1 * 131 + z2 * 1117 + P * 29 + P / n * 53) ((z1 * 131 + z2 * 1117 + P * 29 + P / n * 53) / 64) % m := Int.emod_nonneg _ (by omega)
    have e1 : (P : Int).tmod n = (P : Int) % n := Int.tmod_eq_emod_of_nonneg (by omega)
    have e2 : IntKind.i64.wrap (z1 * 131) = z1 * 131 := IntWalk.i64_in _ (by omega)
    have e3 : IntKind.i64.wrap ((P : Int) * 7) = (P : Int) * 7 := IntWalk.i64_in _ (by omega)
    have e4 : IntKind.i64.wrap ((P : Int) * 7 + 3) = (P : Int) * 7 + 3 := IntWalk.i64_in _ (by omega)
    have e5 : ((P : Int) * 7 + 3).tmod n = ((P : Int) * 7 + 3) % n := Int.tmod_eq_emod_of_nonneg (by omega)
    have e6 : IntKind.i64.wrap (z2 * 1117) = z2 * 1117 := IntWalk.i64_in _ (by omega)
    have e7 : IntKind.i64.wrap (z1 * 131 + z2 * 1117) = z1 * 131 + z2 * 1117 := IntWalk.i64_in _ (by omega)
    have e8 : IntKind.i64.wrap ((P : Int) * 29) = (P : Int) * 29 := IntWalk.i64_in _ (by omega)
    have e9 : IntKind.i64.wrap (z1 * 131 + z2 * 1117 + (P : Int) * 29) = z1 * 131 + z2 * 1117 + (P : Int) * 29 := IntWalk.i64_in _ (by omega)
    have e10 : (P : Int).tdiv n = (P : Int) / n := Int.tdiv_eq_ediv_of_nonneg (by omega)
    have e15 : IntKind.i64.wrap ((P : Int) / n) = (P : Int) / n := IntWalk.i64_in _ (by omega)
    have e11 : IntKind.i64.wrap ((P : Int) / n * 53) = (P : Int) / n * 53 := IntWalk.i64_in _ (by omega)
    have e12 : IntKind.i64.wrap (z1 * 131 + z2 * 1117 + (P : Int) * 29 + (P : Int) / n * 53) = z1 * 131 + z2 * 1117 + (P : Int) * 29 + (P : Int) / n * 53 := IntWalk.i64_in _ (by omega)
    have e13 : IntKind.i64.wrap z1 = z1 := IntWalk.i64_in _ (by omega)
    have e14 : IntKind.i64.wrap z2 = z2 := IntWalk.i64_in _ (by omega)
    clear hc hby h2 h3 hz1 hz2
    have HM := Lib.hid hmod
    have HM0 := Lib.hid hmod0
    clear hmod hmod0 hxx
    go_enter Try.func12, Try.ntmps12
    go_wp2_with fail
    go_quiet (fail)
    clear e1 e2 e3 e4 e5 e6 e7 e8 e9 e10 e11 e12 e13 e14 e15
    go_wp2
    go_ret
    exact ⟨_, rfl, HM0.out, fun _ => HM.out, HS.out, ⟨HG.out.os, HG.out.tape, HG.out.output, HG.out.size, HG.out.block⟩⟩
end Go.Proofs.Ytbgbomhlaobncaa

/- HELPER, no statement of the seat: the generators of times: whatever the code, they give times. -/
namespace Go.Proofs.Ytbgbomhlaobncaa
open Go.RowKit
set_option linter.unusedSimpArgs false
set_option linter.unusedVariables false

section
variable {w w' : World} {g n c : Nat} {A : Option Addr} {p : Int}
theorem BytesAt.below (h : BytesAt w g A n) (hb : Below w.heap.size w w') (hlt : g ≤ w.heap.size) : BytesAt w' g A n := fun hn => by
  obtain ⟨b, off, e, hb', hc⟩ := h hn
  refine ⟨b, off, e, hb', fun j hj => ?_⟩
  obtain ⟨z, h0, h1, h2⟩ := hc j hj
  exact ⟨z, h0, h1, (hb.cell (p := ⟨b, off + j, none⟩) (Nat.lt_of_lt_of_le hb' hlt)).trans h2⟩
theorem BytesAt.far (h : BytesAt w g A n) {q : Addr} (hq : g ≤ q.block) (u : Value) : BytesAt (w.setCell q u) g A n := fun hn => by
  obtain ⟨b, off, e, hb', hc⟩ := h hn
  refine ⟨b, off, e, hb', fun j hj => ?_⟩
  obtain ⟨z, h0, h1, h2⟩ := hc j hj
  exact ⟨z, h0, h1, (World.cell?_of_block (a := ⟨b, off + j, none⟩) (Below.heap_setCell w q u b (by omega))).trans h2⟩
theorem Rdr.below (h : Rdr w g A n c p) (hb : Below w.heap.size w w') : Rdr w' g A n c p :=
  ⟨h.1.below hb, h.2.1.below hb (Nat.le_of_lt h.1.lt), h.2.2⟩
theorem Rdr.alloc (h : Rdr w g A n c p) (o : Obj) : Rdr (w.alloc o) g A n c p := h.below (bal (Below.refl _ _) o)
theorem Rdr.far (h : Rdr w g A n c p) {q : Addr} (hq : g < q.block) (u : Value) : Rdr (w.setCell q u) g A n c p :=
  ⟨h.1.far (by omega) u, h.2.1.far (by omega) u, h.2.2⟩
theorem gbel {r : Option Nat} (h : Below w.heap.size w w') : w.grownBy w' r := ⟨h.os, h.tape, h.output, h.size, fun k hk _ => h.block k hk⟩
theorem gal {r : Option Nat} (h : w.grownBy w' r) (o : Obj) : w.grownBy (w'.alloc o) r := h.trans (World.grownBy_alloc _ _ _)
theorem gset {r : Option Nat} (h : w.grownBy w' r) {q : Addr} (hq : w.heap.size ≤ q.block) (u : Value) : w.grownBy (w'.setCell q u) r :=
  ⟨h.os, h.tape, h.output, by simpa [World.setCell] using h.size, fun k hk hn => (Below.heap_setCell w' q u k (by omega)).trans (h.block k hk hn)⟩
theorem Blk.kept {b : Nat} {t : TypeId} {cs : Array Value} (h : Blk w b t cs) (hg : w.grownBy w' (some g)) (hne : b ≠ g) : Blk w' b t cs :=
  (hg.block b h.lt (fun e => hne (by injection e))).trans h
theorem gbelow {r : Nat} (hB : Below w.heap.size w w') {w2 : World} (h : w'.grownBy w2 (some r)) (hr : w.heap.size ≤ r) : Below w.heap.size w w2 :=
  ⟨h.os.trans hB.os, h.tape.trans hB.tape, h.output.trans hB.output, Nat.le_trans hB.size h.size, fun k hk => (h.block k (Nat.lt_of_lt_of_le hk hB.size) (fun e => by injection e with e; omega)).trans (hB.block k hk)⟩
end

def PickR (w : World) (g : Nat) (A : Option Addr) (n c : Nat) (p m : Int) (e : Ending) (w' : World) : Prop :=
  ∃ q : Int, e = .returned (.int .i64 q) ∧ 0 ≤ q ∧ (0 < m → q < m) ∧ Rdr w' g A n c (p + 1) ∧ w.grownBy w' (some g)
theorem pick_r (g : Nat) (A : Option Addr) (n c : Nat) (p m : Int) (w : World) (hr : Rdr w g A n c p) (hp : p + 1 ≤ 1000000000) (hm : m ≤ 1000000000) :
    Calls Try.prog 12 #[.pointer (some ⟨g, 0, none⟩), .int .i64 m] w (PickR w g A n c p m) :=
  (pick_any g A n c p m w hr hm).mono fun _ _ ⟨q, he, h0, h1, hb, hg⟩ => ⟨q, he, h0, h1, ⟨hb, hr.2.1.kept hg (fun k e => by injection e with e; omega) (Nat.le_of_lt hr.1.lt), hr.2.2.1, by have := hr.2.2.2.1; omega, hp⟩, hg⟩

def TimeR (w : World) (g : Nat) (A : Option Addr) (n c : Nat) (p k : Int) (e : Ending) (w' : World) : Prop :=
  ∃ x y q : Int, e = .returned (.agg #[.int .i64 x, .int .i64 y]) ∧ p ≤ q ∧ q ≤ p + k ∧ Rdr w' g A n c q ∧ w.grownBy w' (some g)

end Go.Proofs.Ytbgbomhlaobncaa

/- HELPER, no statement of the seat: the reader made, and the generators of two times. -/
namespace Go.Proofs.Ytbgbomhlaobncaa
open Go.RowKit
set_option linter.unusedSimpArgs false
set_option linter.unusedVariables false

/-- A new reader. -/
def ReaderR (w : World) (g : Nat) (e : Ending) (w' : World) : Prop :=
  ∃ (A : Option Addr) (m c : Nat), e = .returned (.pointer (some ⟨g, 0, none⟩)) ∧ Rdr w' g A m c 0 ∧ Below w.heap.size w w'
set_option maxHeartbeats 800000 in
theorem newReader_r (A : Option Addr) (n c : Nat) (w : World) (hb : BytesAt w w.heap.size A n) (hc : n ≤ c) (hn : n ≤ 1048576) :
    Calls Try.prog 7 #[.slice A n c] w (ReaderR w w.heap.size) := by
  by_cases h : 2000 < n
  · have h' : (2000 : Int) < n := by omega
    have h2 : (2000 : Int) ≤ c := by omega
    have h3 : 2000 ≤ c := by omega
    obtain ⟨b, off, rfl, hlt, hcell⟩ := hb (by omega)
    have HC := Lib.hid hcell
    clear hcell hb
    have K : Blk (w.alloc (.cells #[.slice (some ⟨b, off, none⟩) 2000 c, .int .i64 0] 36)) w.heap.size 36 #[.slice (some ⟨b, off, none⟩) 2000 c, .int .i64 0] := Blk.newAt rfl
    have HK := Lib.hid K
    clear K
    go_enter Try.func7, Try.ntmps7
    go_wp2
    go_ret
    exact ⟨_, 2000, c, rfl, ⟨HK.out, (show BytesAt w w.heap.size (some ⟨b, off, none⟩) 2000 from fun _ => ⟨b, off, rfl, hlt, fun j hj => HC.out j (by omega)⟩).below (bal (Below.refl _ _) _) (Nat.le_refl _), by omega, by omega, by omega⟩, bal (Below.refl _ _) _⟩
  · have h' : (n : Int) ≤ 2000 := by omega
    have K : Blk (w.alloc (.cells #[.slice A n c, .int .i64 0] 36)) w.heap.size 36 #[.slice A n c, .int .i64 0] := Blk.newAt rfl
    have HK := Lib.hid K
    have HB := Lib.hid hb
    clear K hb
    go_enter Try.func7, Try.ntmps7
    go_wp2
    go_ret
    exact ⟨_, n, c, rfl, ⟨HK.out, HB.out.below (bal (Below.refl _ _) _) (Nat.le_refl _), by omega, by omega, by omega⟩, bal (Below.refl _ _) _⟩

def OneR (w : World) (g : Nat) (A : Option Addr) (n c : Nat) (p : Int) (e : Ending) (w' : World) : Prop := ∃ q : Int, e = .returned (.int .i64 q) ∧ Rdr w' g A n c (p + 1) ∧ w.grownBy w' (some g)
end Go.Proofs.Ytbgbomhlaobncaa

/- HELPER, no statement of the seat: a code that came in. -/
namespace Go.Proofs.Ytbgbomhlaobncaa
open Go.ChangeShapes Go.WideShapes Go.ChangeAt Go.RowKit
set_option linter.unusedVariables false
set_option linter.unusedSimpArgs false

section
variable {H : Type} {enc : TypeId × Value → H} {P : Program} {W : World}
theorem wf_u8_of {n : Int} (h : (Lit.int .u8 n).wf = true) : 0 ≤ n ∧ n ≤ 255 := by
  have h' : IntKind.min .u8 ≤ n ∧ n ≤ IntKind.max .u8 := by simpa [Lit.wf] using h
  have e1 : IntKind.min .u8 = 0 := by decide
  have e2 : IntKind.max .u8 = 255 := by decide
  rw [e1, e2] at h'
  exact h'
theorem bytes_of {t e : TypeId} {a : Option Addr} {len cap : Nat} {d : DataW H} {p : List MemPlace} (ht : P.underlying t = some (.slice e)) (he : P.underlying e = some (.int .u8)) (hc : P.cellsOf e = 1)
    (h : DataW.Trod enc P W 0 (fun _ => true) true t (.slice a len cap) d p) : len ≤ cap ∧ len ≤ maxLen ∧ BytesAt W W.heap.size a len := by
  obtain ⟨fuel, hf⟩ := h
  rcases open_ints ht he hc hf with ⟨hcs, _⟩ | ⟨x, l, c, zs, hcs, _, hl, hm, hz, _, hcell, hwz⟩
  · simp [Value.cells] at hcs
    obtain ⟨rfl, rfl, rfl⟩ := hcs
    exact ⟨Nat.le_refl _, by simp, fun h => absurd h (by simp)⟩
  · simp [Value.cells] at hcs
    obtain ⟨rfl, rfl, rfl⟩ := hcs
    have hz' : zs.length = cap := by simpa using hz
    refine ⟨hl, by omega, fun hn => ?_⟩
    have hpos : 0 < zs.length := by omega
    obtain ⟨b, off, spot⟩ := x
    have h0 := hcell 0 hpos
    have hspot : spot = none := by simpa [Addr.add] using World.cell?_spot h0
    subst hspot
    have h0' : W.cell? ⟨b, off, none⟩ = some (.int .u8 (zs.getD 0 0)) := by simpa [Addr.add] using h0
    refine ⟨b, off, rfl, block_lt_of_cell h0', fun j hj => ?_⟩
    have hj' : j < zs.length := by omega
    have hw := wf_u8_of (hwz (zs.getD j 0) (by simp [List.getD, hj']))
    have := hcell j hj'
    refine ⟨zs.getD j 0, hw.1, hw.2, ?_⟩
    rw [← this]
    by_cases hj0 : j = 0
    · subst hj0; simp [Addr.add]
    · simp [Addr.add, hj0]
end
end Go.Proofs.Ytbgbomhlaobncaa
