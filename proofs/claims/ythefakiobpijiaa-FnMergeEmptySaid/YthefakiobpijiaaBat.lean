/- HELPER, no statement of the seat: batches as data: a batch in memory; the laws' measure, copy, comparison and marks of a batch. -/
import Derived.Test.YthefakiobpijiaaTmK
import Derived.Test.YthefakiobpijiaaUph
import Derived.Test.YthefakiobpijiaaUpdM
namespace Go.Proofs.Ythefakiobpijiaa
open Go.RowKit Go.Sort
set_option linter.unusedSimpArgs false
set_option linter.unusedVariables false

/-! ### Lists of times as data -/
def TmlR : Rd (List Tm) := fun w cs xs => ∃ A c, cs = [.slice A xs.length c] ∧ xs.length ≤ maxLen ∧ TimesAt w A xs
def TmlO : Ow (List Tm) := fun w S cs xs => ∃ A c, cs = [.slice A xs.length c] ∧ TmOwS w S A c xs
theorem tmlR : ROk TmlR 1 := ⟨fun ⟨_, _, e, _⟩ => by rw [e]; rfl, fun ⟨A, c, e, l, h⟩ hb => ⟨A, c, e, l, h.below hb⟩⟩
theorem tmlO : OOk TmlO TmlR 1 where
  len := fun ⟨_, _, e, _⟩ => by rw [e]; rfl
  lt := fun ⟨_, _, _, h⟩ => h.lt
  loc := fun ⟨A, c, e, h⟩ q => ⟨A, c, e, h.loc q⟩
  mono := fun ⟨A, c, e, h⟩ s l => ⟨A, c, e, l, fun k hk => s k (h.top k hk), h.own⟩
  rd := fun ⟨A, c, e, h⟩ => ⟨A, c, e, by have := h.own.cap; omega, h.own.at_⟩
  one := fun ⟨A, c, e, h⟩ u hu => by rw [e] at hu; simp at hu; rw [hu]; rfl
theorem times_sl {w : World} {A : Option Addr} {xs : List Tm} (h : SlAt (PairR IntR IntR) 2 w A xs) : TimesAt w A xs := fun hn => by
  obtain ⟨b, off, e, hlt, hc⟩ := h hn
  refine ⟨b, off, e, hlt, fun j hj => ?_⟩
  obtain ⟨cs, hl, hcell, c1, c2, rfl, h1, h2⟩ := hc j hj
  have h1' : c1 = [.int .i64 xs[j].1] := h1
  have h2' : c2 = [.int .i64 xs[j].2] := h2
  subst h1'
  subst h2'
  have a0 := hcell 0 (by omega)
  have a1 := hcell 1 (by omega)
  rw [show xs.getD j (0, 0) = xs[j] by simp [hj]]
  simp at a0 a1
  exact ⟨a0, a1⟩
/-! ### A batch: its two frontiers and its updates -/
abbrev Bt := List Tm × (List Tm × List Upd)
def BatR : Rd Bt := PairR TmlR (PairR TmlR (SlR UpdR 4))
def BatO : Ow Bt := PairO TmlO (PairO TmlO (SlO UpdO 4 119))
theorem batR : ROk BatR 3 := pairR tmlR (pairR tmlR (slR updR))
theorem batO : OOk BatO BatR 3 := pairO tmlO (pairO tmlO (slO updO))
theorem BatR.form {w : World} {cs : List Value} {b : Bt} (h : BatR w cs b) : ∃ LA lc UA uc TA tc, cs = [.slice LA b.1.length lc, .slice UA b.2.1.length uc, .slice TA b.2.2.length tc] ∧ b.1.length ≤ maxLen ∧ b.2.1.length ≤ maxLen ∧ b.2.2.length ≤ maxLen ∧ TimesAt w LA b.1 ∧ TimesAt w UA b.2.1 ∧ UpdsAt w TA b.2.2 := by
  obtain ⟨c1, c4, rfl, ⟨LA, lc, rfl, l1, h1⟩, c2, c3, rfl, ⟨UA, uc, rfl, l2, h2⟩, ⟨TA, tc, rfl, l3, h3⟩⟩ := h
  exact ⟨LA, lc, UA, uc, TA, tc, rfl, l1, l2, l3, h1, h2, h3⟩
theorem BatO.mk {w : World} {S S1 S2 S3 : Fp} {LA UA TA : Option Addr} {lc uc tc : Nat} {lo up : List Tm} {us : List Upd} (hl : ∀ q, S q → q < w.heap.size) (h1 : TmOwS w S1 LA lc lo) (h2 : TmOwS w S2 UA uc up) (h3 : UpdsOw w S3 TA tc us)
    (i1 : ∀ q, S1 q → S q ∧ ¬ S2 q ∧ ¬ S3 q) (i2 : ∀ q, S2 q → S q ∧ ¬ S3 q) (i3 : ∀ q, S3 q → S q) : BatO w S [.slice LA lo.length lc, .slice UA up.length uc, .slice TA us.length tc] (lo, (up, us)) :=
  ⟨hl, [.slice LA lo.length lc], [.slice UA up.length uc, .slice TA us.length tc], S1, (fun q => S2 q ∨ S3 q), rfl, fun q hq => (i1 q hq).1, fun q hq => hq.elim (fun h => (i2 q h).1) (i3 q), fun q hq h => h.elim (i1 q hq).2.1 (i1 q hq).2.2, ⟨LA, lc, rfl, h1⟩,
    fun q hq => hq.elim (h2.lt q) (h3.lt q), [.slice UA up.length uc], [.slice TA us.length tc], S2, S3, rfl, fun q hq => .inl hq, fun q hq => .inr hq, fun q hq => (i2 q hq).2, ⟨UA, uc, rfl, h2⟩, ⟨TA, tc, rfl, h3⟩⟩
theorem BatO.form {w : World} {S : Fp} {cs : List Value} {b : Bt} (h : BatO w S cs b) : ∃ LA lc UA uc TA tc S1 S2 S3, cs = [.slice LA b.1.length lc, .slice UA b.2.1.length uc, .slice TA b.2.2.length tc] ∧ TmOwS w S1 LA lc b.1 ∧ TmOwS w S2 UA uc b.2.1 ∧ UpdsOw w S3 TA tc b.2.2 ∧
    (∀ q, S1 q → S q ∧ ¬ S2 q ∧ ¬ S3 q) ∧ (∀ q, S2 q → S q ∧ ¬ S3 q) ∧ (∀ q, S3 q → S q) := by
  obtain ⟨hl, c1, c4, S1, S4, rfl, i1, i4, d1, ⟨LA, lc, rfl, h1⟩, hl4, c2, c3, S2, S3, rfl, i2, i3, d2, ⟨UA, uc, rfl, h2⟩, ⟨TA, tc, rfl, h3⟩⟩ := h
  exact ⟨LA, lc, UA, uc, TA, tc, S1, S2, S3, rfl, h1, h2, h3, fun q hq => ⟨i1 q hq, fun h => d1 q hq (i2 q h), fun h => d1 q hq (i3 q h)⟩, fun q hq => ⟨i4 q (i2 q hq), d2 q hq⟩, fun q hq => i4 q (i3 q hq)⟩
/-- A batch by value. -/
def BatV (w : World) (v : Value) (b : Bt) : Prop := ∃ cs, v = .agg cs.toArray ∧ BatR w cs b
section
variable {H : Type} {enc : TypeId × Value → H} {W : World}
theorem opens_tms : Opens enc Try.prog W 113 TmlR 1 :=
  ⟨(by kernel_rfl), fun n cs x hl h => by
    obtain ⟨v, A, c, e, l, hs⟩ := (opens_slice Try.underlying113 (by kernel_rfl) (by decide) opens_timeU).2 n cs x hl h
    exact ⟨v, A, c, e, l, times_sl hs⟩⟩
theorem opens_ups : Opens enc Try.prog W 34 (SlR UpdR 4) 1 := opens_slice Try.underlying34 (by kernel_rfl) (by decide) opens_update
end
def batSz (b : Bt) : Int := (b.1.length : Int) + b.2.1.length + updSz b.2.2
theorem batSz_nn (b : Bt) : 0 ≤ batSz b := by have := updSz_nn b.2.2; unfold batSz; omega
/-! ### The measure -/
/-! ### The comparison -/
set_option maxHeartbeats 1600000 in
theorem eqBatch_yes (LA UA TA LB UB TB : Option Addr) (lc uc tc ld ud td : Nat) (lo up : List Tm) (us : List Upd) (w : World) (h1 : TimesAt w LA lo) (h2 : TimesAt w UA up) (h3 : UpdsAt w TA us) (k1 : TimesAt w LB lo) (k2 : TimesAt w UB up) (k3 : UpdsAt w TB us)
    (n1 : lo.length ≤ 4194304) (n2 : up.length ≤ 4194304) (n3 : us.length ≤ 4194304) (r3 : rowsU us 4194304) :
    Calls Try.prog 88 #[.agg #[.slice LA lo.length lc, .slice UA up.length uc, .slice TA us.length tc], .agg #[.slice LB lo.length ld, .slice UB up.length ud, .slice TB us.length td]] w fun e w' => e = .returned (.bool true) ∧ Below w.heap.size w w' := by
  have t1 : decide (lo = lo) = true := decide_eq_true rfl
  have t2 : decide (up = up) = true := decide_eq_true rfl
  have t3 : decide (us = us) = true := decide_eq_true rfl
  have c1 := fun W (a : TimesAt W LA lo) (b : TimesAt W LB lo) => eqTimeS_any LA LB lc ld lo lo W a b n1 n1
  have c2 := fun W (a : TimesAt W UA up) (b : TimesAt W UB up) => eqTimeS_any UA UB uc ud up up W a b n2 n2
  have c3 := fun W (a : UpdsAt W TA us) (b : UpdsAt W TB us) => eqUpdateS_any TA TB tc td us us W a b n3 n3 r3 r3
  rw [t1] at c1
  rw [t2] at c2
  rw [t3] at c3
  clear t1 t2 t3
  have hB0 : Hid (Below w.heap.size w ((w.alloc (.cells #[.slice LA lo.length lc, .slice UA up.length uc, .slice TA us.length tc] 26)).alloc (.cells #[.slice LB lo.length ld, .slice UB up.length ud, .slice TB us.length td] 26))) := bal (bal (Below.refl _ _) _) _
  go_enter Try.func88, Try.ntmps88
  go_wp2_with fail
  refine absI (fun W => Below w.heap.size w W ∧ Blk W w.heap.size 26 #[.slice LA lo.length lc, .slice UA up.length uc, .slice TA us.length tc] ∧ Blk W (w.heap.size + 1) 26 #[.slice LB lo.length ld, .slice UB up.length ud, .slice TB us.length td])
    ⟨hB0.out, (Blk.newAt rfl).alloc _, Blk.newAt (by simp)⟩ ?_
  rintro W0 ⟨B0, kA, kB⟩
  refine (c1 W0 (h1.below B0) (k1.below B0)).mono ?_
  rintro e w1 ⟨rfl, b1⟩
  have B1 := btr B0 b1
  have kA1 := kA.below b1
  have kB1 := kB.below b1
  have a1 := kA1.cell 1
  have a2 := kB1.cell 1
  simp at a1 a2
  clear c1 B0 kA kB b1
  go_wp2_with fail
  refine (c2 w1 (h2.below B1) (k2.below B1)).mono ?_
  rintro e w2 ⟨rfl, b2⟩
  have B2 := btr B1 b2
  have a3 := (kA1.below b2).cell 2
  have a4 := (kB1.below b2).cell 2
  simp at a3 a4
  clear c2 B1 kA1 kB1 b2 a1 a2
  go_wp2_with fail
  refine (c3 w2 (h3.below updR B2) (k3.below updR B2)).mono ?_
  rintro e w3 ⟨rfl, b3⟩
  have HB := Lib.hid (btr B2 b3)
  clear c3 B2 b3 a3 a4
  go_wp2
  go_ret
  exact ⟨rfl, HB.out⟩
/-! ### The copy -/
/-! ### Marks -/
end Go.Proofs.Ythefakiobpijiaa
