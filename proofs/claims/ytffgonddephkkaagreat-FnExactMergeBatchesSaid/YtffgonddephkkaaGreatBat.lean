/- HELPER, no statement of the seat: batches as data: a batch in memory; the laws' measure, copy, comparison and marks of a batch. -/
import Derived.Test.YtffgonddephkkaaGreatTmK
import Derived.Test.YtffgonddephkkaaGreatUph
import Derived.Test.YtffgonddephkkaaGreatUpdM
namespace Go.Proofs.YtffgonddephkkaaGreat
open Go.RowKit Go.Sort
set_option linter.unusedSimpArgs false
set_option linter.unusedVariables false

/-! ### Lists of times as data -/
def TmlR : Rd (List Tm) := fun w cs xs => ∃ A c, cs = [.slice A xs.length c] ∧ xs.length ≤ maxLen ∧ TimesAt w A xs
def TmlO : Ow (List Tm) := fun w S cs xs => ∃ A c, cs = [.slice A xs.length c] ∧ TmOwS w S A c xs
theorem tmlR : ROk TmlR 1 := ⟨fun ⟨_, _, e, _⟩ => by rw [e]; rfl, fun ⟨A, c, e, l, h⟩ hb => ⟨A, c, e, l, h.below hb⟩⟩
theorem tmlO : OOk TmlO TmlR 1 where
  len := fun ⟨_, _, e, _⟩ => by rw [e]; rfl
  lt := fun ⟨_, _, _, h⟩ => h.lt
  loc := fun ⟨A, c, e, h⟩ q => ⟨A, c, e, h.loc q⟩
  mono := fun ⟨A, c, e, h⟩ s l => ⟨A, c, e, l, fun k hk => s k (h.top k hk), h.own⟩
  rd := fun ⟨A, c, e, h⟩ => ⟨A, c, e, by have := h.own.cap; omega, h.own.at_⟩
  one := fun ⟨A, c, e, h⟩ u hu => by rw [e] at hu; simp at hu; rw [hu]; rfl
theorem times_sl {w : World} {A : Option Addr} {xs : List Tm} (h : SlAt (PairR IntR IntR) 2 w A xs) : TimesAt w A xs := fun hn => by
  obtain ⟨b, off, e, hlt, hc⟩ := h hn
  refine ⟨b, off, e, hlt, fun j hj => ?_⟩
  obtain ⟨cs, hl, hcell, c1, c2, rfl, h1, h2⟩ := hc j hj
  have h1' : c1 = [.int .i64 xs[j].1] := h1
  have h2' : c2 = [.int .i64 xs[j].2] := h2
  subst h1'
  subst h2'
  have a0 := hcell 0 (by omega)
  have a1 := hcell 1 (by omega)
  rw [show xs.getD j (0, 0) = xs[j] by simp [hj]]
  simp at a0 a1
  exact ⟨a0, a1⟩
/-! ### A batch: its two frontiers and its updates -/
abbrev Bt := List Tm × (List Tm × List Upd)
def BatR : Rd Bt := PairR TmlR (PairR TmlR (SlR UpdR 4))
def BatO : Ow Bt := PairO TmlO (PairO TmlO (SlO UpdO 4 66))
theorem batR : ROk BatR 3 := pairR tmlR (pairR tmlR (slR updR))
theorem batO : OOk BatO BatR 3 := pairO tmlO (pairO tmlO (slO updO))
theorem BatR.form {w : World} {cs : List Value} {b : Bt} (h : BatR w cs b) : ∃ LA lc UA uc TA tc, cs = [.slice LA b.1.length lc, .slice UA b.2.1.length uc, .slice TA b.2.2.length tc] ∧ b.1.length ≤ maxLen ∧ b.2.1.length ≤ maxLen ∧ b.2.2.length ≤ maxLen ∧ TimesAt w LA b.1 ∧ TimesAt w UA b.2.1 ∧ UpdsAt w TA b.2.2 := by
  obtain ⟨c1, c4, rfl, ⟨LA, lc, rfl, l1, h1⟩, c2, c3, rfl, ⟨UA, uc, rfl, l2, h2⟩, ⟨TA, tc, rfl, l3, h3⟩⟩ := h
  exact ⟨LA, lc, UA, uc, TA, tc, rfl, l1, l2, l3, h1, h2, h3⟩
theorem BatO.mk {w : World} {S S1 S2 S3 : Fp} {LA UA TA : Option Addr} {lc uc tc : Nat} {lo up : List Tm} {us : List Upd} (hl : ∀ q, S q → q < w.heap.size) (h1 : TmOwS w S1 LA lc lo) (h2 : TmOwS w S2 UA uc up) (h3 : UpdsOw w S3 TA tc us)
    (i1 : ∀ q, S1 q → S q ∧ ¬ S2 q ∧ ¬ S3 q) (i2 : ∀ q, S2 q → S q ∧ ¬ S3 q) (i3 : ∀ q, S3 q → S q) : BatO w S [.slice LA lo.length lc, .slice UA up.length uc, .slice TA us.length tc] (lo, (up, us)) :=
  ⟨hl, [.slice LA lo.length lc], [.slice UA up.length uc, .slice TA us.length tc], S1, (fun q => S2 q ∨ S3 q), rfl, fun q hq => (i1 q hq).1, fun q hq => hq.elim (fun h => (i2 q h).1) (i3 q), fun q hq h => h.elim (i1 q hq).2.1 (i1 q hq).2.2, ⟨LA, lc, rfl, h1⟩,
    fun q hq => hq.elim (h2.lt q) (h3.lt q), [.slice UA up.length uc], [.slice TA us.length tc], S2, S3, rfl, fun q hq => .inl hq, fun q hq => .inr hq, fun q hq => (i2 q hq).2, ⟨UA, uc, rfl, h2⟩, ⟨TA, tc, rfl, h3⟩⟩
theorem BatO.form {w : World} {S : Fp} {cs : List Value} {b : Bt} (h : BatO w S cs b) : ∃ LA lc UA uc TA tc S1 S2 S3, cs = [.slice LA b.1.length lc, .slice UA b.2.1.length uc, .slice TA b.2.2.length tc] ∧ TmOwS w S1 LA lc b.1 ∧ TmOwS w S2 UA uc b.2.1 ∧ UpdsOw w S3 TA tc b.2.2 ∧
    (∀ q, S1 q → S q ∧ ¬ S2 q ∧ ¬ S3 q) ∧ (∀ q, S2 q → S q ∧ ¬ S3 q) ∧ (∀ q, S3 q → S q) := by
  obtain ⟨hl, c1, c4, S1, S4, rfl, i1, i4, d1, ⟨LA, lc, rfl, h1⟩, hl4, c2, c3, S2, S3, rfl, i2, i3, d2, ⟨UA, uc, rfl, h2⟩, ⟨TA, tc, rfl, h3⟩⟩ := h
  exact ⟨LA, lc, UA, uc, TA, tc, S1, S2, S3, rfl, h1, h2, h3, fun q hq => ⟨i1 q hq, fun h => d1 q hq (i2 q h), fun h => d1 q hq (i3 q h)⟩, fun q hq => ⟨i4 q (i2 q hq), d2 q hq⟩, fun q hq => i4 q (i3 q hq)⟩
/-- A batch by value. -/
def BatV (w : World) (v : Value) (b : Bt) : Prop := ∃ cs, v = .agg cs.toArray ∧ BatR w cs b
section
variable {H : Type} {enc : TypeId × Value → H} {W : World}
theorem opens_tms : Opens enc Tryz.prog W 22 TmlR 1 :=
  ⟨(by kernel_rfl), fun n cs x hl h => by
    obtain ⟨v, A, c, e, l, hs⟩ := (opens_slice Tryz.underlying22 (by kernel_rfl) (by decide) opens_timeU).2 n cs x hl h
    exact ⟨v, A, c, e, l, times_sl hs⟩⟩
theorem opens_ups : Opens enc Tryz.prog W 23 (SlR UpdR 4) 1 := opens_slice Tryz.underlying23 (by kernel_rfl) (by decide) opens_update
theorem opens_batch : Opens enc Tryz.prog W 25 BatR 3 := opens_struct3 Tryz.underlying25 (by kernel_rfl) rfl rfl rfl opens_tms opens_tms opens_ups
end
def batSz (b : Bt) : Int := (b.1.length : Int) + b.2.1.length + updSz b.2.2
theorem batSz_nn (b : Bt) : 0 ≤ batSz b := by have := updSz_nn b.2.2; unfold batSz; omega
/-! ### The measure -/
set_option maxHeartbeats 1600000 in
theorem szBatch_yes (LA UA TA : Option Addr) (lc uc tc : Nat) (lo up : List Tm) (us : List Upd) (left : Int) (w : World) (h3 : UpdsAt w TA us) (m1 : lo.length ≤ maxLen) (m2 : up.length ≤ maxLen) (m3 : us.length ≤ maxLen) (h0 : 0 ≤ left) (h1 : left ≤ 1048576) (h : batSz (lo, (up, us)) ≤ left) :
    Calls Tryz.prog 4 #[.agg #[.slice LA lo.length lc, .slice UA up.length uc, .slice TA us.length tc], .int .i64 left] w fun e w' => e = .returned (.int .i64 (left - batSz (lo, (up, us)))) ∧ Below w.heap.size w w' := by
  have hu := updSz_nn us
  have HS : Hid (left - batSz (lo, (up, us)) = left - lo.length - up.length - updSz us) := by simp only [Hid, batSz]; omega
  have hle : (lo.length : Int) + up.length + updSz us ≤ left := h
  clear h
  have hsz := fun W (hx : UpdsAt W TA us) => szUpdateS_yes TA tc us (left - lo.length - up.length) W hx (by omega) (by omega) m3 (by omega)
  go_enter Tryz.func4, Tryz.ntmps4
  go_wp2_with fail
  refine (szTimeS_yes _ _ lo.length _ _ h0 h1 m1 (by omega)).mono ?_
  rintro e w1 ⟨rfl, rfl⟩
  have n1 : ¬ left - (lo.length : Int) < 0 := by omega
  go_wp2_with fail
  refine (szTimeS_yes _ _ up.length _ _ (by omega) (by omega) m2 (by omega)).mono ?_
  rintro e w2 ⟨rfl, rfl⟩
  have n2 : ¬ left - (lo.length : Int) - (up.length : Int) < 0 := by omega
  have hB0 : Below w.heap.size w (w.alloc (.cells #[.slice LA lo.length lc, .slice UA up.length uc, .slice TA us.length tc] 25)) := bal (Below.refl _ _) _
  go_wp2_with fail
  refine (hsz _ (h3.below updR hB0)).mono ?_
  rintro e w3 ⟨rfl, b3⟩
  have n3 : ¬ left - (lo.length : Int) - (up.length : Int) - updSz us < 0 := by omega
  have HB := Lib.hid (btr hB0 b3)
  clear b3 hsz
  go_wp2
  go_ret
  exact ⟨ret_int (by rw [HS.out]), HB.out⟩
set_option maxHeartbeats 1600000 in
theorem szBatch_no (LA UA TA : Option Addr) (lc uc tc : Nat) (lo up : List Tm) (us : List Upd) (left : Int) (w : World) (h3 : UpdsAt w TA us) (m1 : lo.length ≤ maxLen) (m2 : up.length ≤ maxLen) (m3 : us.length ≤ maxLen) (h0 : 0 ≤ left) (h1 : left ≤ 1048576) (h : left < batSz (lo, (up, us))) :
    Calls Tryz.prog 4 #[.agg #[.slice LA lo.length lc, .slice UA up.length uc, .slice TA us.length tc], .int .i64 left] w fun e w' => e = .returned (.int .i64 (-1)) ∧ Below w.heap.size w w' := by
  have hu := updSz_nn us
  have hle : left < (lo.length : Int) + up.length + updSz us := h
  clear h
  by_cases c1 : left < (lo.length : Int)
  · go_enter Tryz.func4, Tryz.ntmps4
    go_wp2_with fail
    refine (szTimeS_no _ _ lo.length _ _ h0 h1 m1 c1).mono ?_
    rintro e w1 ⟨rfl, rfl⟩
    have HB : Hid (Below w.heap.size w (w.alloc (.cells #[.slice LA lo.length lc, .slice UA up.length uc, .slice TA us.length tc] 25))) := bal (Below.refl _ _) _
    go_wp2
    go_ret
    exact ⟨rfl, HB.out⟩
  by_cases c2 : left - (lo.length : Int) < (up.length : Int)
  · go_enter Tryz.func4, Tryz.ntmps4
    go_wp2_with fail
    refine (szTimeS_yes _ _ lo.length _ _ h0 h1 m1 (by omega)).mono ?_
    rintro e w1 ⟨rfl, rfl⟩
    have n1 : ¬ left - (lo.length : Int) < 0 := by omega
    go_wp2_with fail
    refine (szTimeS_no _ _ up.length _ _ (by omega) (by omega) m2 c2).mono ?_
    rintro e w2 ⟨rfl, rfl⟩
    have HB : Hid (Below w.heap.size w (w.alloc (.cells #[.slice LA lo.length lc, .slice UA up.length uc, .slice TA us.length tc] 25))) := bal (Below.refl _ _) _
    go_wp2
    go_ret
    exact ⟨rfl, HB.out⟩
  have hsz := fun W (hx : UpdsAt W TA us) => szUpdateS_no TA tc us (left - lo.length - up.length) W hx (by omega) (by omega) m3 (by omega)
  go_enter Tryz.func4, Tryz.ntmps4
  go_wp2_with fail
  refine (szTimeS_yes _ _ lo.length _ _ h0 h1 m1 (by omega)).mono ?_
  rintro e w1 ⟨rfl, rfl⟩
  have n1 : ¬ left - (lo.length : Int) < 0 := by omega
  go_wp2_with fail
  refine (szTimeS_yes _ _ up.length _ _ (by omega) (by omega) m2 (by omega)).mono ?_
  rintro e w2 ⟨rfl, rfl⟩
  have n2 : ¬ left - (lo.length : Int) - (up.length : Int) < 0 := by omega
  have hB0 : Below w.heap.size w (w.alloc (.cells #[.slice LA lo.length lc, .slice UA up.length uc, .slice TA us.length tc] 25)) := bal (Below.refl _ _) _
  go_wp2_with fail
  refine (hsz _ (h3.below updR hB0)).mono ?_
  rintro e w3 ⟨rfl, b3⟩
  have HB := Lib.hid (btr hB0 b3)
  clear b3 hsz
  go_wp2
  go_ret
  exact ⟨rfl, HB.out⟩
/-! ### The comparison -/
set_option maxHeartbeats 1600000 in
theorem eqBatch_yes (LA UA TA LB UB TB : Option Addr) (lc uc tc ld ud td : Nat) (lo up : List Tm) (us : List Upd) (w : World) (h1 : TimesAt w LA lo) (h2 : TimesAt w UA up) (h3 : UpdsAt w TA us) (k1 : TimesAt w LB lo) (k2 : TimesAt w UB up) (k3 : UpdsAt w TB us)
    (n1 : lo.length ≤ 4194304) (n2 : up.length ≤ 4194304) (n3 : us.length ≤ 4194304) (r3 : rowsU us 4194304) :
    Calls Tryz.prog 8 #[.agg #[.slice LA lo.length lc, .slice UA up.length uc, .slice TA us.length tc], .agg #[.slice LB lo.length ld, .slice UB up.length ud, .slice TB us.length td]] w fun e w' => e = .returned (.bool true) ∧ Below w.heap.size w w' := by
  have t1 : decide (lo = lo) = true := decide_eq_true rfl
  have t2 : decide (up = up) = true := decide_eq_true rfl
  have t3 : decide (us = us) = true := decide_eq_true rfl
  have c1 := fun W (a : TimesAt W LA lo) (b : TimesAt W LB lo) => eqTimeS_any LA LB lc ld lo lo W a b n1 n1
  have c2 := fun W (a : TimesAt W UA up) (b : TimesAt W UB up) => eqTimeS_any UA UB uc ud up up W a b n2 n2
  have c3 := fun W (a : UpdsAt W TA us) (b : UpdsAt W TB us) => eqUpdateS_any TA TB tc td us us W a b n3 n3 r3 r3
  rw [t1] at c1
  rw [t2] at c2
  rw [t3] at c3
  clear t1 t2 t3
  have hB0 : Hid (Below w.heap.size w ((w.alloc (.cells #[.slice LA lo.length lc, .slice UA up.length uc, .slice TA us.length tc] 30)).alloc (.cells #[.slice LB lo.length ld, .slice UB up.length ud, .slice TB us.length td] 30))) := bal (bal (Below.refl _ _) _) _
  go_enter Tryz.func8, Tryz.ntmps8
  go_wp2_with fail
  refine absI (fun W => Below w.heap.size w W ∧ Blk W w.heap.size 30 #[.slice LA lo.length lc, .slice UA up.length uc, .slice TA us.length tc] ∧ Blk W (w.heap.size + 1) 30 #[.slice LB lo.length ld, .slice UB up.length ud, .slice TB us.length td])
    ⟨hB0.out, (Blk.newAt rfl).alloc _, Blk.newAt (by simp)⟩ ?_
  rintro W0 ⟨B0, kA, kB⟩
  refine (c1 W0 (h1.below B0) (k1.below B0)).mono ?_
  rintro e w1 ⟨rfl, b1⟩
  have B1 := btr B0 b1
  have kA1 := kA.below b1
  have kB1 := kB.below b1
  have a1 := kA1.cell 1
  have a2 := kB1.cell 1
  simp at a1 a2
  clear c1 B0 kA kB b1
  go_wp2_with fail
  refine (c2 w1 (h2.below B1) (k2.below B1)).mono ?_
  rintro e w2 ⟨rfl, b2⟩
  have B2 := btr B1 b2
  have a3 := (kA1.below b2).cell 2
  have a4 := (kB1.below b2).cell 2
  simp at a3 a4
  clear c2 B1 kA1 kB1 b2 a1 a2
  go_wp2_with fail
  refine (c3 w2 (h3.below updR B2) (k3.below updR B2)).mono ?_
  rintro e w3 ⟨rfl, b3⟩
  have HB := Lib.hid (btr B2 b3)
  clear c3 B2 b3 a3 a4
  go_wp2
  go_ret
  exact ⟨rfl, HB.out⟩
/-! ### The copy -/
set_option maxRecDepth 100000 in
set_option maxHeartbeats 1600000 in
theorem toBatch_any (LA UA TA : Option Addr) (lc uc tc : Nat) (lo up : List Tm) (us : List Upd) (w : World) (h1 : TimesAt w LA lo) (h2 : TimesAt w UA up) (h3 : UpdsAt w TA us) (n1 : lo.length ≤ 4194304) (n2 : up.length ≤ 4194304) (n3 : us.length ≤ 2097152) (r3 : rowsU us 4194304) :
    Calls Tryz.prog 6 #[.agg #[.slice LA lo.length lc, .slice UA up.length uc, .slice TA us.length tc]] w fun e w' => ∃ L1 U1 T1, e = .returned (.agg #[.slice L1 lo.length lo.length, .slice U1 up.length up.length, .slice T1 us.length us.length]) ∧ BatO w' (news w w') [.slice L1 lo.length lo.length, .slice U1 up.length up.length, .slice T1 us.length us.length] (lo, (up, us)) ∧ Below w.heap.size w w' := by
  have c1 := fun W (a : TimesAt W LA lo) => toTimeS_any LA lc lo W a n1
  have c2 := fun W (a : TimesAt W UA up) => toTimeS_any UA uc up W a n2
  have c3 := fun W (a : UpdsAt W TA us) => toUpdateS_any TA tc us W a n3 r3
  have hB0 : Hid (Below w.heap.size w (((w.alloc (.cells #[.slice LA lo.length lc, .slice UA up.length uc, .slice TA us.length tc] 25)).alloc (.cells #[.slice none 0 0, .slice none 0 0, .slice none 0 0] 30)).alloc (.cells #[.slice none 0 0, .slice none 0 0, .slice none 0 0] 30))) := bal (bal (bal (Below.refl _ _) _) _) _
  go_enter Tryz.func6, Tryz.ntmps6
  go_wp2_with fail
  refine absI (fun W => Below w.heap.size w W ∧ w.heap.size + 3 ≤ W.heap.size ∧ Blk W w.heap.size 25 #[.slice LA lo.length lc, .slice UA up.length uc, .slice TA us.length tc] ∧ Blk W (w.heap.size + 1) 30 #[.slice none 0 0, .slice none 0 0, .slice none 0 0] ∧ Blk W (w.heap.size + 2) 30 #[.slice none 0 0, .slice none 0 0, .slice none 0 0])
    ⟨hB0.out, by simp, ((Blk.newAt rfl).alloc _).alloc _, (Blk.newAt (by simp)).alloc _, Blk.newAt (by simp)⟩ ?_
  rintro W0 ⟨B0, hs0, kA, kR, kX⟩
  clear hB0
  refine (c1 W0 (h1.below B0)).mono ?_
  rintro e w1 ⟨rfl, d1, b1⟩
  have hs1 := b1.size
  have B1 := btr B0 b1
  have x0 := (kX.below b1).cell 0
  have x1 := (kX.below b1).frozen 0
  simp at x0
  have H1 : Hid (Below w.heap.size w w1 ∧ W0.heap.size < w1.heap.size ∧ Blk w1 w.heap.size 25 #[.slice LA lo.length lc, .slice UA up.length uc, .slice TA us.length tc] ∧ Blk w1 (w.heap.size + 1) 30 #[.slice none 0 0, .slice none 0 0, .slice none 0 0] ∧ Blk w1 (w.heap.size + 2) 30 #[.slice none 0 0, .slice none 0 0, .slice none 0 0] ∧ Blk w1 W0.heap.size 64 (timeC lo)) :=
    ⟨B1, d1.lt, kA.below b1, kR.below b1, kX.below b1, d1⟩
  have a1 := (kA.below b1).cell 1
  simp at a1
  have q1 : ∀ v, (w1.setCell ⟨w.heap.size + 2, 0, none⟩ v).cell? ⟨w.heap.size, 1, none⟩ = some (.slice UA up.length uc) := fun v => ((kA.below b1).far (p := ⟨w.heap.size + 2, 0, none⟩) (by simp) v).cell 1
  clear c1 kA kR kX d1 b1 B0 B1
  go_wp2_with fail
  refine absI (fun W => Below w.heap.size w W ∧ w1.heap.size ≤ W.heap.size ∧ Blk W w.heap.size 25 #[.slice LA lo.length lc, .slice UA up.length uc, .slice TA us.length tc] ∧ Blk W (w.heap.size + 1) 30 #[.slice none 0 0, .slice none 0 0, .slice none 0 0] ∧ Blk W (w.heap.size + 2) 30 #[.slice (some ⟨W0.heap.size, 0, none⟩) lo.length lo.length, .slice none 0 0, .slice none 0 0] ∧ Blk W W0.heap.size 64 (timeC lo))
    ⟨bset (p := ⟨w.heap.size + 2, 0, none⟩) H1.out.1 (by simp) _, by simp [World.setCell], H1.out.2.2.1.far (p := ⟨w.heap.size + 2, 0, none⟩) (by simp) _, H1.out.2.2.2.1.far (p := ⟨w.heap.size + 2, 0, none⟩) (by simp) _, H1.out.2.2.2.2.1.set_ 0 _, H1.out.2.2.2.2.2.far (p := ⟨w.heap.size + 2, 0, none⟩) (by simp; omega) _⟩ ?_
  rintro W1 ⟨B1, hz1, kA, kR, kX, d1⟩
  have hlt1 := H1.out.2.1
  clear H1 x0 x1 a1 q1
  refine (c2 W1 (h2.below B1)).mono ?_
  rintro e w2 ⟨rfl, d2, b2⟩
  have hs2 := b2.size
  have B2 := btr B1 b2
  have x0 := (kX.below b2).cell 1
  have x1 := (kX.below b2).frozen 1
  simp at x0
  have H2 : Hid (Below w.heap.size w w2 ∧ W1.heap.size < w2.heap.size ∧ Blk w2 w.heap.size 25 #[.slice LA lo.length lc, .slice UA up.length uc, .slice TA us.length tc] ∧ Blk w2 (w.heap.size + 1) 30 #[.slice none 0 0, .slice none 0 0, .slice none 0 0] ∧ Blk w2 (w.heap.size + 2) 30 #[.slice (some ⟨W0.heap.size, 0, none⟩) lo.length lo.length, .slice none 0 0, .slice none 0 0] ∧ Blk w2 W0.heap.size 64 (timeC lo) ∧ Blk w2 W1.heap.size 64 (timeC up)) :=
    ⟨B2, d2.lt, kA.below b2, kR.below b2, kX.below b2, d1.below b2, d2⟩
  have q1 : ∀ v, (w2.setCell ⟨w.heap.size + 2, 1, none⟩ v).cell? ⟨w.heap.size, 2, none⟩ = some (.slice TA us.length tc) := fun v => ((kA.below b2).far (p := ⟨w.heap.size + 2, 1, none⟩) (by simp) v).cell 2
  clear c2 kA kR kX d1 d2 b2 B1 B2
  go_wp2_with fail
  refine absI (fun W => Below w.heap.size w W ∧ w2.heap.size ≤ W.heap.size ∧ Blk W (w.heap.size + 1) 30 #[.slice none 0 0, .slice none 0 0, .slice none 0 0] ∧ Blk W (w.heap.size + 2) 30 #[.slice (some ⟨W0.heap.size, 0, none⟩) lo.length lo.length, .slice (some ⟨W1.heap.size, 0, none⟩) up.length up.length, .slice none 0 0] ∧ Blk W W0.heap.size 64 (timeC lo) ∧ Blk W W1.heap.size 64 (timeC up))
    ⟨bset (p := ⟨w.heap.size + 2, 1, none⟩) H2.out.1 (by simp) _, by simp [World.setCell], H2.out.2.2.2.1.far (p := ⟨w.heap.size + 2, 1, none⟩) (by simp) _, H2.out.2.2.2.2.1.set_ 1 _, H2.out.2.2.2.2.2.1.far (p := ⟨w.heap.size + 2, 1, none⟩) (by simp; omega) _, H2.out.2.2.2.2.2.2.far (p := ⟨w.heap.size + 2, 1, none⟩) (by simp; omega) _⟩ ?_
  rintro W2 ⟨B2, hz2, kR, kX, d1, d2⟩
  have hlt2 := H2.out.2.1
  clear H2 x0 x1 q1
  refine (c3 W2 (h3.below updR B2)).mono ?_
  rintro e w3 ⟨rfl, d3, b3⟩
  have hs3 := b3.size
  have B3 := btr B2 b3
  have kX3 := kX.below b3
  have kR3 := kR.below b3
  have x0 := kX3.cell 2
  have x1 := kX3.frozen 2
  simp at x0
  have y0 := (kX3.set_ 2 (.slice (some ⟨W2.heap.size, 0, none⟩) us.length us.length)).cell 0
  have y1 := (kX3.set_ 2 (.slice (some ⟨W2.heap.size, 0, none⟩) us.length us.length)).cell 1
  have y2 := (kX3.set_ 2 (.slice (some ⟨W2.heap.size, 0, none⟩) us.length us.length)).cell 2
  simp at y0 y1 y2
  have kR4 := kR3.far (p := ⟨w.heap.size + 2, 2, none⟩) (by simp) (.slice (some ⟨W2.heap.size, 0, none⟩) us.length us.length)
  have g0 := kR4.cell 0
  have g1 := kR4.cell 1
  have g2 := kR4.cell 2
  have f0 := kR4.frozen 0
  have f1 := kR4.frozen 1
  have f2 := kR4.frozen 2
  simp at g0 g1 g2
  have kR5 := ((kR4.set_ 0 (.slice (some ⟨W0.heap.size, 0, none⟩) lo.length lo.length)).set_ 1 (.slice (some ⟨W1.heap.size, 0, none⟩) up.length up.length)).set_ 2 (.slice (some ⟨W2.heap.size, 0, none⟩) us.length us.length)
  have r0 := kR5.cell 0
  have r1 := kR5.cell 1
  have r2 := kR5.cell 2
  simp at r0 r1 r2
  have HR0 := Lib.hid r0
  have HR1 := Lib.hid r1
  have HR2 := Lib.hid r2
  have HD : Hid (TmOwS w3 (fun q => q = W0.heap.size) (some ⟨W0.heap.size, 0, none⟩) lo.length lo ∧ TmOwS w3 (fun q => q = W1.heap.size) (some ⟨W1.heap.size, 0, none⟩) up.length up ∧ UpdsOw w3 (news W2 w3) (some ⟨W2.heap.size, 0, none⟩) us.length us ∧ Below w.heap.size w w3) :=
    ⟨⟨fun q hq => by omega, fun q hq => by simp [blk] at hq; exact hq.symm, TmOwn.ofBlk (d1.below b3) (Nat.zero_le _) (by unfold maxLen; omega)⟩, ⟨fun q hq => by omega, fun q hq => by simp [blk] at hq; exact hq.symm, TmOwn.ofBlk (d2.below b3) (Nat.zero_le _) (by unfold maxLen; omega)⟩, d3, B3⟩
  clear c3 kX kR d1 d2 d3 b3 B2 B3 kX3 kR3 kR4 kR5 r0 r1 r2
  go_wp2
  refine bodyPost_ret (v := .agg #[.slice (some ⟨W0.heap.size, 0, none⟩) lo.length lo.length, .slice (some ⟨W1.heap.size, 0, none⟩) up.length up.length, .slice (some ⟨W2.heap.size, 0, none⟩) us.length us.length]) (by simp [results, Tryz.results6, go_sem, HR0.out, HR1.out, HR2.out]) rfl ⟨_, _, _, rfl, ?_, bset (bset (bset (bset HD.out.2.2.2 (by simp <;> omega) _) (by simp <;> omega) _) (by simp <;> omega) _) (by simp <;> omega) _⟩
  have far : ∀ q, w.heap.size + 3 ≤ q → ((((w3.setCell ⟨w.heap.size + 2, 2, none⟩ (.slice (some ⟨W2.heap.size, 0, none⟩) us.length us.length)).setCell ⟨w.heap.size + 1, 0, none⟩ (.slice (some ⟨W0.heap.size, 0, none⟩) lo.length lo.length)).setCell ⟨w.heap.size + 1, 1, none⟩ (.slice (some ⟨W1.heap.size, 0, none⟩) up.length up.length)).setCell ⟨w.heap.size + 1, 2, none⟩ (.slice (some ⟨W2.heap.size, 0, none⟩) us.length us.length)).heap[q]? = w3.heap[q]? := fun q hq =>
    (Below.heap_setCell _ _ _ _ (by simp; omega)).trans ((Below.heap_setCell _ _ _ _ (by simp; omega)).trans ((Below.heap_setCell _ _ _ _ (by simp; omega)).trans (Below.heap_setCell _ _ _ _ (by simp; omega))))
  refine BatO.mk (fun q hq => hq.2) (HD.out.1.loc (fun q hq => far q (by omega))) (HD.out.2.1.loc (fun q hq => far q (by omega))) (SlOw.loc updO HD.out.2.2.1 (fun q hq => far q (by have := hq.1; omega))) (fun q hq => ⟨⟨by omega, by simp [World.setCell]; omega⟩, by omega, fun h => by have := h.1; omega⟩) (fun q hq => ⟨⟨by omega, by simp [World.setCell]; omega⟩, fun h => by have := h.1; omega⟩) (fun q hq => ⟨by have := hq.1; omega, by have := hq.2; simp [World.setCell]; omega⟩)
/-! ### Marks -/
set_option maxRecDepth 100000 in
set_option maxHeartbeats 1600000 in
theorem markBatch_any (S : Fp) (LA UA TA : Option Addr) (lc uc tc : Nat) (lo up : List Tm) (us : List Upd) (k : Int) (w : World) (hx : BatO w S [.slice LA lo.length lc, .slice UA up.length uc, .slice TA us.length tc] (lo, (up, us))) (n1 : lo.length ≤ 4194304) (n2 : up.length ≤ 4194304) (n3 : us.length ≤ 4194304) (r3 : rowsU us 4194304)
    (hk0 : 0 ≤ k) (hk1 : k + 16777216 + cntL cntU us ≤ 4611686018427387904) :
    Calls Tryz.prog 9 #[.agg #[.slice LA lo.length lc, .slice UA up.length uc, .slice TA us.length tc], .int .i64 k] w fun e w' => (∃ k', e = .returned (.int .i64 k') ∧ k ≤ k' ∧ k' ≤ k + 16777216 + cntL cntU us) ∧ GrownS w w' S := by
  obtain ⟨LA', lc', UA', uc', TA', tc', S1, S2, S3, e, t1, t2, t3, i1, i2, i3⟩ := hx.form
  simp only [List.cons.injEq, Value.slice.injEq, and_true, true_and] at e
  obtain ⟨⟨rfl, rfl⟩, ⟨rfl, rfl⟩, ⟨rfl, rfl⟩⟩ := e
  have hSl := batO.lt hx
  have hB0 : Below w.heap.size w (w.alloc (.cells #[.slice LA lo.length lc, .slice UA up.length uc, .slice TA us.length tc] 30)) := bal (Below.refl _ _) _
  have T1 := t1.below hB0
  have T2 := t2.below hB0
  have T3 := SlOw.below updO t3 hB0
  have HG0 : Hid (GrownS w (w.alloc (.cells #[.slice LA lo.length lc, .slice UA up.length uc, .slice TA us.length tc] 30)) S) := GrownS.ofBelow hB0
  have kA : Blk (w.alloc (.cells #[.slice LA lo.length lc, .slice UA up.length uc, .slice TA us.length tc] 30)) w.heap.size 30 #[.slice LA lo.length lc, .slice UA up.length uc, .slice TA us.length tc] := Blk.newAt rfl
  have hnew : ∀ q, S q → q ≠ w.heap.size := fun q hq e => by have := hSl q hq; omega
  clear hx t1 t2 t3
  go_enter Tryz.func9, Tryz.ntmps9
  go_wp2_with fail
  refine absI (fun W => W = w.alloc (.cells #[.slice LA lo.length lc, .slice UA up.length uc, .slice TA us.length tc] 30)) rfl ?_
  intro W0 hW0
  rw [← hW0] at T1 T2 T3 HG0 kA
  clear hW0 hB0
  refine (markTimeS_any S1 _ _ lo k W0 T1 n1 hk0 (by omega)).mono ?_
  rintro e w1 ⟨rfl, -, g1⟩
  have T2' := T2.kept g1 (fun q h2 h1 => (i1 q h1).2.1 h2)
  have T3' : UpdsOw w1 S3 TA tc us := SlOw.loc updO T3 (fun q hq => g1.block q (SlOw.lt T3 q hq) (fun h => (i1 q h).2.2 hq))
  have kA1 : Blk w1 w.heap.size 30 #[.slice LA lo.length lc, .slice UA up.length uc, .slice TA us.length tc] := (g1.block _ kA.lt (fun h => hnew _ (i1 _ h).1 rfl)).trans kA
  have HG1 := Lib.hid (HG0.out.trans (g1.mono (fun q hq => (i1 q hq).1)))
  have a1 := kA1.cell 1
  simp at a1
  clear g1 T1 T2 T3 kA HG0
  go_wp2_with fail
  refine (markTimeS_any S2 _ _ up (k + 2 * (lo.length : Int)) w1 T2' n2 (by omega) (by omega)).mono ?_
  rintro e w2 ⟨rfl, -, g2⟩
  have T3 : UpdsOw w2 S3 TA tc us := SlOw.loc updO T3' (fun q hq => g2.block q (SlOw.lt T3' q hq) (fun h => (i2 q h).2 hq))
  have kA2 : Blk w2 w.heap.size 30 #[.slice LA lo.length lc, .slice UA up.length uc, .slice TA us.length tc] := (g2.block _ kA1.lt (fun h => hnew _ (i2 _ h).1 rfl)).trans kA1
  have HG2 := Lib.hid (HG1.out.trans (g2.mono (fun q hq => (i2 q hq).1)))
  have a2 := kA2.cell 2
  simp at a2
  clear g2 T2' T3' kA1 HG1 a1
  go_wp2_with fail
  refine (markUpdateS_any S3 _ _ us (k + 2 * (lo.length : Int) + 2 * (up.length : Int)) w2 T3 n3 r3 (by omega) (by omega)).mono ?_
  rintro e w3 ⟨rfl, -, g3⟩
  have HG3 := Lib.hid (HG2.out.trans (g3.mono (fun q hq => i3 q hq)))
  clear g3 T3 kA2 HG2 a2
  go_wp2
  go_ret
  exact ⟨⟨_, rfl, by omega, by omega⟩, HG3.out⟩
end Go.Proofs.YtffgonddephkkaaGreat
