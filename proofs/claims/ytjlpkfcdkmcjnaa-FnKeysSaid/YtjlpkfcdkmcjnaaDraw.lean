/- HELPER, no statement of the seat: the reader of the generators: whatever the code, it gives numbers in range. -/
import Derived.Test.YtjlpkfcdkmcjnaaRows
import Derived.Test.YtjlpkfcdkmcjnaaRegion
import Derived.WalkKit
import Derived.ProofKit
import Derived.OpenShut
import Derived.WalkLawsBesides
import Derived.OwnWalk
import Derived.LoopTactic
import Derived.Deep.QuietTactic
import Derived.BigQuiet
import Derived.Below
import Derived.IntWalk
import Derived.Lib.Hide
import Derived.Outline
import Derived.Laws.BitsAllLaws
namespace Go.Proofs.Ytjlpkfcdkmcjnaa
open Go.RowKit
set_option linter.unusedSimpArgs false
set_option linter.unusedVariables false

/-- Bytes at A, in blocks below g. -/
def BytesAt (w : World) (g : Nat) (A : Option Addr) (n : Nat) : Prop :=
  0 < n → ∃ b off, A = some ⟨b, off, none⟩ ∧ b < g ∧ ∀ j, j < n → ∃ z : Int, 0 ≤ z ∧ z ≤ 255 ∧ w.cell? ⟨b, off + j, none⟩ = some (.int .u8 z)
/-- Block g is a reader of n bytes that has been asked p times. -/
def Rdr (w : World) (g : Nat) (A : Option Addr) (n c : Nat) (p : Int) : Prop := Blk w g 117 #[.slice A n c, .int .i64 p] ∧ BytesAt w g A n ∧ n ≤ 2000 ∧ 0 ≤ p ∧ p ≤ 1000000000
theorem BytesAt.kept {w w' : World} {g : Nat} {A : Option Addr} {n : Nat} {row : Option Nat} (h : BytesAt w g A n) (hg : w.grownBy w' row) (hr : ∀ k, row = some k → g ≤ k) (hlt : g ≤ w.heap.size) : BytesAt w' g A n := fun hn => by
  obtain ⟨b, off, e, hb, hc⟩ := h hn
  refine ⟨b, off, e, hb, fun j hj => ?_⟩
  obtain ⟨z, h0, h1, h2⟩ := hc j hj
  exact ⟨z, h0, h1, (World.cell?_of_block (a := ⟨b, off + j, none⟩) (hg.block b (by omega) (fun e => by have := hr _ e.symm; omega))).trans h2⟩

def PickPost (w : World) (g : Nat) (A : Option Addr) (n c : Nat) (p m : Int) (e : Ending) (w' : World) : Prop :=
  ∃ q : Int, e = .returned (.int .i64 q) ∧ 0 ≤ q ∧ (0 < m → q < m) ∧ Blk w' g 117 #[.slice A n c, .int .i64 (p + 1)] ∧ w.grownBy w' (some g)

theorem xor_nonneg (a : Int) (h0 : 0 ≤ a) (h1 : a ≤ 1099511627776) : 0 ≤ bits .xor .i64 a (a / 64) ∧ bits .xor .i64 a (a / 64) ≤ 4611686018427387904 := by
  obtain ⟨A, rfl⟩ := Int.eq_ofNat_of_zero_le h0
  have d : ((A : Int) / 64) = ((A / 64 : Nat) : Int) := by omega
  rw [d]
  have hA : A < 2 ^ 41 := by omega
  have hx : A ^^^ (A / 64) < 2 ^ 41 := Nat.xor_lt_two_pow hA (by omega)
  have e1 : (BitVec.ofInt 64 (A : Int)).toNat = A := by rw [BitVec.ofInt_natCast, BitVec.toNat_ofNat]; exact Nat.mod_eq_of_lt (by omega)
  have e2 : (BitVec.ofInt 64 ((A / 64 : Nat) : Int)).toNat = A / 64 := by rw [BitVec.ofInt_natCast, BitVec.toNat_ofNat]; exact Nat.mod_eq_of_lt (by omega)
  have e3 : bits .xor .i64 (A : Int) ((A / 64 : Nat) : Int) = ((A ^^^ (A / 64) : Nat) : Int) := by
    show IntKind.i64.wrap ((BitVec.ofInt 64 (A : Int) ^^^ BitVec.ofInt 64 ((A / 64 : Nat) : Int)).toNat : Int) = _
    rw [BitVec.toNat_xor, e1, e2, IntKind.wrap_i64]
    omega
  rw [e3]
  omega

set_option maxHeartbeats 1600000 in
theorem pick_any (g : Nat) (A : Option Addr) (n c : Nat) (p m : Int) (w : World) (hr : Rdr w g A n c p) (hm : m ≤ 1000000000) :
    Calls Try.prog 59 #[.pointer (some ⟨g, 0, none⟩), .int .i64 m] w (PickPost w g A n c p m) := by
  obtain ⟨hblk, hby, hn, hp0, hp1⟩ := hr
  have c0 : w.cell? ⟨g, 0, none⟩ = some (.slice A n c) := by rw [hblk.cell]; rfl
  have c1 : w.cell? ⟨g, 1, none⟩ = some (.int .i64 p) := by rw [hblk.cell]; rfl
  have f1 := hblk.frozen 1
  have hs := hblk.set_ 1 (.int .i64 (p + 1))
  have HS : Hid (Blk (w.setCell ⟨g, 1, none⟩ (.int .i64 (p + 1))) g 117 #[.slice A n c, .int .i64 (p + 1)]) := hs
  have HG : Hid (w.grownBy (w.setCell ⟨g, 1, none⟩ (.int .i64 (p + 1))) (some g)) := ⟨rfl, rfl, rfl, by simp [World.setCell], fun k _ hk => Below.heap_setCell _ _ _ _ (fun e => hk (by rw [e]))⟩
  clear hs hblk
  by_cases h1 : m < 1
  · go_enter Try.func59, Try.ntmps59
    go_wp2
    go_ret
    exact ⟨0, rfl, by omega, fun h => by omega, HS.out, HG.out⟩
  have h1' : 1 ≤ m := by omega
  clear h1
  by_cases h2 : n = 0
  · subst h2
    go_enter Try.func59, Try.ntmps59
    go_wp2
    go_ret
    exact ⟨0, rfl, by omega, fun h => by omega, HS.out, HG.out⟩
  have hne : ((n : Int) == 0) = false := by simp; omega
  obtain ⟨b, off, rfl, hb, hc⟩ := hby (by omega)
  have hbg : b ≠ g := by omega
  by_cases h3 : p < n
  · obtain ⟨P, rfl⟩ := Int.eq_ofNat_of_zero_le hp0
    obtain ⟨z, hz0, hz1, hz⟩ := hc P (by omega)
    have hz' : (w.setCell ⟨g, 1, none⟩ (.int .i64 ((P : Int) + 1))).cell? ⟨b, off + P, none⟩ = some (.int .u8 z) := (World.cell?_setCell_other _ _ _ _ (by intro e; injection e with e; exact hbg e.symm)).trans hz
    have hmod : z % m < m := Int.emod_lt_of_pos _ (by omega)
    have hmod0 : 0 ≤ z % m := Int.emod_nonneg _ (by omega)
    clear hc hby h2
    go_enter Try.func59, Try.ntmps59
    go_wp2
    go_ret
    exact ⟨z % m, rfl, hmod0, fun _ => hmod, HS.out, HG.out⟩
  · obtain ⟨P, rfl⟩ := Int.eq_ofNat_of_zero_le hp0
    have h3' : (n : Int) ≤ P := by omega
    have hn0 : 0 < n := by omega
    have hn1 : (1 : Int) ≤ n := by omega
    have hnz : ¬ (n : Int) = 0 := by omega
    have hnz' : ¬ n = 0 := by omega
    have i0 : 0 ≤ (P : Int) % n := Int.emod_nonneg _ (by omega)
    have i1 : (P : Int) % n < n := Int.emod_lt_of_pos _ (by omega)
    have j0 : 0 ≤ ((P : Int) * 7 + 3) % n := Int.emod_nonneg _ (by omega)
    have j1 : ((P : Int) * 7 + 3) % n < n := Int.emod_lt_of_pos _ (by omega)
    have d0 : 0 ≤ (P : Int) / n := Int.ediv_nonneg (by omega) (by omega)
    have d1 : (P : Int) / n ≤ 1000000000 := Int.le_trans (Int.ediv_le_self _ (by omega)) hp1
    obtain ⟨z1, za0, za1, hz1⟩ := hc ((P : Int) % n).toNat (by omega)
    obtain ⟨z2, zb0, zb1, hz2⟩ := hc (((P : Int) * 7 + 3) % n).toNat (by omega)
    have hz1' : (w.setCell ⟨g, 1, none⟩ (.int .i64 ((P : Int) + 1))).cell? ⟨b, off + ((P : Int) % n).toNat, none⟩ = some (.int .u8 z1) := (World.cell?_setCell_other _ _ _ _ (by intro e; injection e with e; exact hbg e.symm)).trans hz1
    have hz2' : (w.setCell ⟨g, 1, none⟩ (.int .i64 ((P : Int) + 1))).cell? ⟨b, off + (((P : Int) * 7 + 3) % n).toNat, none⟩ = some (.int .u8 z2) := (World.cell?_setCell_other _ _ _ _ (by intro e; injection e with e; exact hbg e.symm)).trans hz2
    have hxx := xor_nonneg (z1 * 131 + z2 * 1117 + P * 29 + P / n * 53) (by omega) (by omega)
    have hx0 := hxx.1
    have hmod : bits .xor .i64 (z1 * 131 + z2 * 1117 + P * 29 + P / n * 53) ((z1 * 131 + z2 * 1117 + P * 29 + P / n * 53) / 64) % m < m := Int.emod_lt_of_pos _ (by omega)
    have hmod0 : 0 ≤ bits .xor .i64 (z1 * 131 + z2 * 1117 + P * 29 + P / n * 53) ((z1 * 131 + z2 * 1117 + P * 29 + P / n * 53) / 64) % m := Int.emod_nonneg _ (by omega)
    have e1 : (P : Int).tmod n = (P : Int) % n := Int.tmod_eq_emod_of_nonneg (by omega)
    have e2 : IntKind.i64.wrap (z1 * 131) = z1 * 131 := IntWalk.i64_in _ (by omega)
    have e3 : IntKind.i64.wrap ((P : Int) * 7) = (P : Int) * 7 := IntWalk.i64_in _ (by omega)
    have e4 : IntKind.i64.wrap ((P : Int) * 7 + 3) = (P : Int) * 7 + 3 := IntWalk.i64_in _ (by omega)
    have e5 : ((P : Int) * 7 + 3).tmod n = ((P : Int) * 7 + 3) % n := Int.tmod_eq_emod_of_nonneg (by omega)
    have e6 : IntKind.i64.wrap (z2 * 1117) = z2 * 1117 := IntWalk.i64_in _ (by omega)
    have e7 : IntKind.i64.wrap (z1 * 131 + z2 * 1117) = z1 * 131 + z2 * 1117 := IntWalk.i64_in _ (by omega)
    have e8 : IntKind.i64.wrap ((P : Int) * 29) = (P : Int) * 29 := IntWalk.i64_in _ (by omega)
    have e9 : IntKind.i64.wrap (z1 * 131 + z2 * 1117 + (P : Int) * 29) = z1 * 131 + z2 * 1117 + (P : Int) * 29 := IntWalk.i64_in _ (by omega)
    have e10 : (P : Int).tdiv n = (P : Int) / n := Int.tdiv_eq_ediv_of_nonneg (by omega)
    have e15 : IntKind.i64.wrap ((P : Int) / n) = (P : Int) / n := IntWalk.i64_in _ (by omega)
    have e11 : IntKind.i64.wrap ((P : Int) / n * 53) = (P : Int) / n * 53 := IntWalk.i64_in _ (by omega)
    have e12 : IntKind.i64.wrap (z1 * 131 + z2 * 1117 + (P : Int) * 29 + (P : Int) / n * 53) = z1 * 131 + z2 * 1117 + (P : Int) * 29 + (P : Int) / n * 53 := IntWalk.i64_in _ (by omega)
    have e13 : IntKind.i64.wrap z1 = z1 := IntWalk.i64_in _ (by omega)
    have e14 : IntKind.i64.wrap z2 = z2 := IntWalk.i64_in _ (by omega)
    clear hc hby h2 h3 hz1 hz2
    have HM := Lib.hid hmod
    have HM0 := Lib.hid hmod0
    clear hmod hmod0 hxx
    go_enter Try.func59, Try.ntmps59
    go_wp2_with fail
    go_quiet (fail)
    clear e1 e2 e3 e4 e5 e6 e7 e8 e9 e10 e11 e12 e13 e14 e15
    go_wp2
    go_ret
    exact ⟨_, rfl, HM0.out, fun _ => HM.out, HS.out, ⟨HG.out.os, HG.out.tape, HG.out.output, HG.out.size, HG.out.block⟩⟩
end Go.Proofs.Ytjlpkfcdkmcjnaa
