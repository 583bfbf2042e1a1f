/- HELPER, no statement of the seat: several texts in one file. -/
import Derived.Test.YthefakiobpijiaaBtc
import Derived.Test.YthefakiobpijiaaVwa
import Derived.Test.YthefakiobpijiaaRgq
import Derived.Test.YthefakiobpijiaaBtd
/- HELPER, no statement of the seat: batches as facts of a drawn region; a batch that is stored into a new box. -/
namespace Go.Proofs.Ythefakiobpijiaa
open Go.RowKit
set_option linter.unusedSimpArgs false
set_option linter.unusedVariables false

/-- A copy: its capacities are its lengths. -/
def BatC (lo up : List Tm) (us : List Upd) (v : Value) (w : World) : Prop := ∃ LA UA TA, v = .agg #[.slice LA lo.length lo.length, .slice UA up.length up.length, .slice TA us.length us.length] ∧ TimesAt w LA lo ∧ TimesAt w UA up ∧ UpdsAt w TA us
theorem stable_batC (lo up : List Tm) (us : List Upd) : Stable (BatC lo up us) := fun _ _ _ hb ⟨LA, UA, TA, e, h1, h2, h3⟩ => ⟨LA, UA, TA, e, h1.below hb, h2.below hb, h3.below updR hb⟩
theorem batC_of {w : World} {S : Fp} {LA UA TA : Option Addr} {lo up : List Tm} {us : List Upd} (h : BatO w S [.slice LA lo.length lo.length, .slice UA up.length up.length, .slice TA us.length us.length] (lo, (up, us))) : BatC lo up us (.agg #[.slice LA lo.length lo.length, .slice UA up.length up.length, .slice TA us.length us.length]) w :=
  ⟨LA, UA, TA, rfl, batO_rd h⟩
/-- A batch and a flag. -/
def BatP (ok : Bool) (lo up : List Tm) (us : List Upd) (v : Value) (w : World) : Prop := ∃ LA lc UA uc TA tc, v = .tuple #[.agg #[.slice LA lo.length lc, .slice UA up.length uc, .slice TA us.length tc], .bool ok] ∧ TimesAt w LA lo ∧ TimesAt w UA up ∧ UpdsAt w TA us
theorem stable_batP (ok : Bool) (lo up : List Tm) (us : List Upd) : Stable (BatP ok lo up us) := fun _ _ _ hb ⟨LA, lc, UA, uc, TA, tc, e, h1, h2, h3⟩ => ⟨LA, lc, UA, uc, TA, tc, e, h1.below hb, h2.below hb, h3.below updR hb⟩
section
variable {w w' : World} {g : Nat} {t : TypeId} {cs : Array Value} (kG : Blk w g t cs) (hc : NoInt cs) (hg : GrownS w w' (fun k => k = g))
include kG hc hg
theorem TimesAt.box {A : Option Addr} {xs : List Tm} (h : TimesAt w A xs) : TimesAt w' A xs := fun hn => by
  obtain ⟨b, off, e, hlt, hcell⟩ := h hn
  have hne : b ≠ g := fun e' => by
    subst e'
    have h0 := (hcell 0 hn).1
    rw [kG.cell] at h0
    exact hc _ _ h0
  exact ⟨b, off, e, Nat.lt_of_lt_of_le hlt hg.size, fun j hj => ⟨(cell_heapB (hg.block b hlt hne)).trans (hcell j hj).1, (cell_heapB (hg.block b hlt hne)).trans (hcell j hj).2⟩⟩
end
/-- A batch, stored into a box that was made for it. -/
theorem box_batch {w w9 : World} {g : Nat} {t : TypeId} {L U T : Option Addr} {d1 d2 d3 : Nat} {lo up : List Tm} {us : List Upd} (kG : Blk w9 g t #[.slice none 0 0, .slice none 0 0, .slice none 0 0]) (hg : w.heap.size ≤ g) (b : Below w.heap.size w w9) (z1 : TimesAt w9 L lo) (z2 : TimesAt w9 U up) (z3 : UpdsAt w9 T us) :
    Blk (((w9.setCell ⟨g, 0, none⟩ (.slice L lo.length d1)).setCell ⟨g, 1, none⟩ (.slice U up.length d2)).setCell ⟨g, 2, none⟩ (.slice T us.length d3)) g t #[.slice L lo.length d1, .slice U up.length d2, .slice T us.length d3] ∧
    TimesAt (((w9.setCell ⟨g, 0, none⟩ (.slice L lo.length d1)).setCell ⟨g, 1, none⟩ (.slice U up.length d2)).setCell ⟨g, 2, none⟩ (.slice T us.length d3)) L lo ∧
    TimesAt (((w9.setCell ⟨g, 0, none⟩ (.slice L lo.length d1)).setCell ⟨g, 1, none⟩ (.slice U up.length d2)).setCell ⟨g, 2, none⟩ (.slice T us.length d3)) U up ∧
    UpdsAt (((w9.setCell ⟨g, 0, none⟩ (.slice L lo.length d1)).setCell ⟨g, 1, none⟩ (.slice U up.length d2)).setCell ⟨g, 2, none⟩ (.slice T us.length d3)) T us ∧
    Below w.heap.size w (((w9.setCell ⟨g, 0, none⟩ (.slice L lo.length d1)).setCell ⟨g, 1, none⟩ (.slice U up.length d2)).setCell ⟨g, 2, none⟩ (.slice T us.length d3)) := by
  have hgs := (((GrownS.refl w9 (fun k => k = g)).set_ (p := ⟨g, 0, none⟩) rfl (.slice L lo.length d1)).set_ (p := ⟨g, 1, none⟩) rfl (.slice U up.length d2)).set_ (p := ⟨g, 2, none⟩) rfl (.slice T us.length d3)
  refine ⟨?_, z1.box kG noInt3 hgs, z2.box kG noInt3 hgs, z3.box kG noInt3 hgs, bset (bset (bset b hg _) hg _) hg _⟩
  have := ((kG.set_ 0 (.slice L lo.length d1)).set_ 1 (.slice U up.length d2)).set_ 2 (.slice T us.length d3)
  simpa using this
end Go.Proofs.Ythefakiobpijiaa

/- HELPER, no statement of the seat: the generator of the arguments of MergeBatches. -/
namespace Go.Proofs.Ythefakiobpijiaa
open Go.RowKit Go.Sort
set_option linter.unusedSimpArgs false
set_option linter.unusedVariables false

/-- A batch that owns blocks above g. -/
def MbO (g : Nat) (w : World) (b : Bt) (v : Value) : Prop := ∃ L lc U uc T tc, v = .agg #[.slice L b.1.length lc, .slice U b.2.1.length uc, .slice T b.2.2.length tc] ∧ BatO w (fun k => g < k ∧ k < w.heap.size) [.slice L b.1.length lc, .slice U b.2.1.length uc, .slice T b.2.2.length tc] b
section
variable {g g' : Nat} {w w' w0 : World} {b : Bt} {v : Value} {cs : List Value}
theorem bo_grown (h : BatO w (fun k => g < k ∧ k < w.heap.size) cs b) (hg : w.grownBy w' (some g)) : BatO w' (fun k => g < k ∧ k < w'.heap.size) cs b :=
  batO.mono (batO.loc h (fun k hk => hg.block k hk.2 (fun e => by injection e with e; have := hk.1; omega))) (fun k hk => ⟨hk.1, by have := hk.2; have := hg.size; omega⟩) (fun k hk => hk.2)
theorem bo_below (h : BatO w (fun k => g < k ∧ k < w.heap.size) cs b) (hg : Below w.heap.size w w') : BatO w' (fun k => g < k ∧ k < w'.heap.size) cs b :=
  batO.mono (batO.loc h (fun k hk => hg.block k hk.2)) (fun k hk => ⟨hk.1, by have := hk.2; have := hg.size; omega⟩) (fun k hk => hk.2)
theorem bo_set (h : BatO w (fun k => g < k ∧ k < w.heap.size) cs b) {p : Addr} (hp : p.block ≤ g) (u : Value) : BatO (w.setCell p u) (fun k => g < k ∧ k < (w.setCell p u).heap.size) cs b :=
  batO.mono (batO.loc h (fun k hk => Below.heap_setCell _ _ _ _ (by have := hk.1; omega))) (fun k hk => ⟨hk.1, by have := hk.2; simpa [World.setCell] using this⟩) (fun k hk => hk.2)
theorem MbO.grown (h : MbO g w b v) (hg : w.grownBy w' (some g)) : MbO g w' b v := by
  obtain ⟨L, lc, U, uc, T, tc, e, h⟩ := h
  exact ⟨L, lc, U, uc, T, tc, e, bo_grown h hg⟩
theorem BatN.news (h : BatN w0 b v w) (hg : g < w0.heap.size) : MbO g w b v := by
  obtain ⟨L, lc, U, uc, T, tc, e, h⟩ := h
  exact ⟨L, lc, U, uc, T, tc, e, batO.mono h (fun k hk => ⟨by have := hk.1; omega, hk.2⟩) (fun k hk => hk.2)⟩
end
def BatI (b : Bt) (lo hi : Nat) (v : Value) (w : World) : Prop := ∃ L lc U uc T tc, v = .agg #[.slice L b.1.length lc, .slice U b.2.1.length uc, .slice T b.2.2.length tc] ∧ BatO w (fun k => lo ≤ k ∧ k < hi) [.slice L b.1.length lc, .slice U b.2.1.length uc, .slice T b.2.2.length tc] b
theorem stable_batI (b : Bt) : Rgo.Stable (BatI b) := fun _ _ _ _ _ hb ⟨L, lc, U, uc, T, tc, e, h⟩ => ⟨L, lc, U, uc, T, tc, e, batO.below h hb⟩
def BoxI (lo hi : Nat) (v : Value) (w : World) : Prop := ∃ g, v = .pointer (some ⟨g, 0, none⟩) ∧ Blk w g 26 #[.slice none 0 0, .slice none 0 0, .slice none 0 0] ∧ lo ≤ g ∧ g < hi
theorem stable_boxI : Rgo.Stable BoxI := fun _ _ _ _ _ hb ⟨g, e, h, h1, h2⟩ => ⟨g, e, h.below hb, h1, h2⟩
/-- A batch that is stored into a box made in the same region. -/
theorem boxI_fin {w0 w : World} {g r l h : Nat} {b : Bt} {u0 u1 u2 : Value} {cs : List Value} (k : Blk w g 26 #[.slice none 0 0, .slice none 0 0, .slice none 0 0]) (hb : Below w0.heap.size w0 w) (hg : w0.heap.size ≤ g) (hr : r < w0.heap.size) (hl : w0.heap.size ≤ l) (hn : ∀ q, l ≤ q ∧ q < h → q ≠ g)
    (ho : BatO w (fun k => l ≤ k ∧ k < h) cs b) (W : World) (hW : W = ((w.setCell ⟨g, 0, none⟩ u0).setCell ⟨g, 1, none⟩ u1).setCell ⟨g, 2, none⟩ u2) :
    Below w0.heap.size w0 W ∧ Blk W g 26 #[u0, u1, u2] ∧ BatO W (fun k => r < k ∧ k < W.heap.size) cs b := by
  subst hW
  have hs : (((w.setCell ⟨g, 0, none⟩ u0).setCell ⟨g, 1, none⟩ u1).setCell ⟨g, 2, none⟩ u2).heap.size = w.heap.size := by simp [World.setCell]
  refine ⟨bset (bset (bset hb hg _) hg _) hg _, by simpa using ((k.set_ 0 u0).set_ 1 u1).set_ 2 u2, batO.mono (batO.loc ho (fun q hq => ((Below.heap_setCell _ _ _ _ (hn q hq)).trans ((Below.heap_setCell _ _ _ _ (hn q hq)).trans (Below.heap_setCell _ _ _ _ (hn q hq)))))) (fun q hq => ⟨by have := hq.1; omega, ?_⟩) (fun q hq => hq.2)⟩
  rw [hs]
  exact batO.lt ho q hq
def AnyG (g : Nat) (v : Value) (w : World) : Prop := ∃ b : Bt, btB 1 b ∧ MbO g w b v
theorem AnyG.grown {g : Nat} {w w' : World} {v : Value} (h : AnyG g v w) (hg : w.grownBy w' (some g)) : AnyG g v w' := by
  obtain ⟨b, h1, h2⟩ := h
  exact ⟨b, h1, h2.grown hg⟩
/-- What is kept in a drawn region in which whole batches are drawn. -/
def RJ (w0 : World) (g : Nat) (A : Option Addr) (n c : Nat) (P0 : Int) (f : Nat) (w : World) : Prop := w0.grownBy w (some g) ∧ ∃ q, Rdr w g A n c q ∧ q + 5000 * (f : Int) ≤ P0
theorem RJ.below {w0 : World} {g : Nat} {A : Option Addr} {n c : Nat} {P0 : Int} : ∀ f w w', Below w.heap.size w w' → RJ w0 g A n c P0 (f + 1) w → RJ w0 g A n c P0 f w' := fun f w w' hb ⟨h, q, hr, h2⟩ => ⟨h.trans (gbel hb), q, hr.below hb, by omega⟩
theorem RJ.start {w0 : World} {g : Nat} {A : Option Addr} {n c : Nat} {p : Int} {k : Nat} (hr : Rdr w0 g A n c p) : RJ w0 g A n c (p + 5000 * (k : Int)) k w0.drew := ⟨⟨rfl, rfl, rfl, Nat.le_refl _, fun _ _ _ => rfl⟩, p, hr, by omega⟩
theorem RJ.op {P : Program} {ops : Array Oper} {w0 : World} {g : Nat} {A : Option Addr} {n c : Nat} {P0 : Int} {f : Nat} {o : Oper} {a : Act} {d : Value → World → Prop} {w : World} (hi : RJ w0 g A n c P0 (f + 1) w)
    (h : ∀ q, Rdr w g A n c q → q + 5000 * (f : Int) + 5000 ≤ P0 → w0.grownBy w (some g) → Rgn.WfOp P ops (Rgn.RR g) (RJ w0 g A n c P0) f o a d w) : Rgn.WfOp P ops (Rgn.RR g) (RJ w0 g A n c P0) f o a d w := by
  obtain ⟨h1, q, hr, h2⟩ := hi
  exact h q hr (by omega) h1
def MbA (w : World) (b : Bt) (v : Value) : Prop := ∃ L lc U uc T tc, v = .agg #[.slice L b.1.length lc, .slice U b.2.1.length uc, .slice T b.2.2.length tc] ∧ TimesAt w L b.1 ∧ TimesAt w U b.2.1 ∧ UpdsAt w T b.2.2 ∧ b.2.2.length ≤ tc
theorem batO_rdC {w : World} {S : Fp} {LA UA TA : Option Addr} {lc uc tc : Nat} {lo up : List Tm} {us : List Upd} (h : BatO w S [.slice LA lo.length lc, .slice UA up.length uc, .slice TA us.length tc] (lo, (up, us))) : us.length ≤ tc := by
  obtain ⟨LA', lc', UA', uc', TA', tc', S1, S2, S3, e, t1, t2, ⟨css, Fp0, t3⟩, i1, i2, i3⟩ := h.form
  simp only [List.cons.injEq, Value.slice.injEq, and_true, true_and] at e
  obtain ⟨⟨rfl, rfl⟩, ⟨rfl, rfl⟩, ⟨rfl, rfl⟩⟩ := e
  rcases t3.form with ⟨_, rfl, hn⟩ | ⟨g0, _, _, _, h1, h2⟩
  · subst hn; simp
  · exact h1
def DmbD (w : World) (e : Ending) (w' : World) : Prop := ∃ (a b : Bt) (va vb : Value), e = .returned (.tuple #[va, vb]) ∧ MbA w' a va ∧ MbA w' b vb ∧ btB 1 a ∧ btB 1 b ∧ Below w.heap.size w w'
theorem btB.up {b : Bt} (h : btB 0 b) : btB 1 b := ⟨by have := h.1; omega, by have := h.2.1; omega, by have := h.2.2.1; omega, h.2.2.2⟩
theorem dmb_drew {w W : World} {e : Ending} {g1 g2 : Nat} {t : TypeId} {x y : Array Value} (h : DmbD w e W ∧ Blk W g1 t x ∧ Blk W g2 t y) : DmbD w e W.drew ∧ Blk W.drew g1 t x ∧ Blk W.drew g2 t y := by
  obtain ⟨⟨a, b, va, vb, he, ⟨L, lc, U, uc, T, tc, e1, x1, x2, x3, x4⟩, ⟨L', lc', U', uc', T', tc', e2, y1, y2, y3, y4⟩, ta, tb, hB⟩, h1, h2⟩ := h
  have hd : Below W.heap.size W W.drew := (Below.refl _ _).drew
  exact ⟨⟨a, b, va, vb, he, ⟨L, lc, U, uc, T, tc, e1, x1.below hd, x2.below hd, x3.below updR hd, x4⟩, ⟨L', lc', U', uc', T', tc', e2, y1.below hd, y2.below hd, y3.below updR hd, y4⟩, ta, tb, btr hB hd⟩, h1.below hd, h2.below hd⟩
theorem absDm {P : Program} {f : FuncId} {args : Array Value} {w : World} {Q : Ending → World → Prop} (R : World → Prop) (h : R w) (k : ∀ W, R W → Calls P f args W Q) : Calls P f args w Q := k w h
theorem dmb_fin {w W : World} {L U T L' U' T' : Option Addr} {lc uc tc lc' uc' tc' : Nat} {lo up lo' up' : List Tm} {us us' : List Upd} (k0 : Blk W w.heap.size 26 #[.slice none 0 0, .slice none 0 0, .slice none 0 0]) (k1 : Blk W (w.heap.size + 1) 26 #[.slice none 0 0, .slice none 0 0, .slice none 0 0]) (hB : Below w.heap.size w W)
    (ha : BatO W (fun k => w.heap.size + 2 < k ∧ k < W.heap.size) [.slice L lo.length lc, .slice U up.length uc, .slice T us.length tc] (lo, (up, us))) (hb : BatO W (fun k => w.heap.size + 2 < k ∧ k < W.heap.size) [.slice L' lo'.length lc', .slice U' up'.length uc', .slice T' us'.length tc'] (lo', (up', us')))
    (ta : btB 1 (lo, (up, us))) (tb : btB 1 (lo', (up', us'))) (W' : World) (hW : W' = (((((W.setCell ⟨w.heap.size, 0, none⟩ (.slice L lo.length lc)).setCell ⟨w.heap.size, 1, none⟩ (.slice U up.length uc)).setCell ⟨w.heap.size, 2, none⟩ (.slice T us.length tc)).setCell ⟨w.heap.size + 1, 0, none⟩ (.slice L' lo'.length lc')).setCell ⟨w.heap.size + 1, 1, none⟩ (.slice U' up'.length uc')).setCell ⟨w.heap.size + 1, 2, none⟩ (.slice T' us'.length tc')) :
    DmbD w (.returned (.tuple #[.agg #[.slice L lo.length lc, .slice U up.length uc, .slice T us.length tc], .agg #[.slice L' lo'.length lc', .slice U' up'.length uc', .slice T' us'.length tc']])) W' ∧
    Blk W' w.heap.size 26 #[.slice L lo.length lc, .slice U up.length uc, .slice T us.length tc] ∧ Blk W' (w.heap.size + 1) 26 #[.slice L' lo'.length lc', .slice U' up'.length uc', .slice T' us'.length tc'] := by
  subst hW
  have st := fun {cs b} (h : BatO W (fun k => w.heap.size + 2 < k ∧ k < W.heap.size) cs b) => bo_set (bo_set (bo_set (bo_set (bo_set (bo_set h (p := ⟨w.heap.size, 0, none⟩) (by simp) (.slice L lo.length lc)) (p := ⟨w.heap.size, 1, none⟩) (by simp) (.slice U up.length uc)) (p := ⟨w.heap.size, 2, none⟩) (by simp) (.slice T us.length tc)) (p := ⟨w.heap.size + 1, 0, none⟩) (by simp) (.slice L' lo'.length lc')) (p := ⟨w.heap.size + 1, 1, none⟩) (by simp) (.slice U' up'.length uc')) (p := ⟨w.heap.size + 1, 2, none⟩) (by simp) (.slice T' us'.length tc')
  have sa := st ha
  have sb := st hb
  obtain ⟨a1, a2, a3⟩ := batO_rd sa
  obtain ⟨b1, b2, b3⟩ := batO_rd sb
  refine ⟨⟨_, _, _, _, rfl, ⟨L, lc, U, uc, T, tc, rfl, a1, a2, a3, batO_rdC ha⟩, ⟨L', lc', U', uc', T', tc', rfl, b1, b2, b3, batO_rdC hb⟩, ta, tb, bset (bset (bset (bset (bset (bset hB (by simp) _) (by simp) _) (by simp) _) (by simp) _) (by simp) _) (by simp) _⟩, ?_, ?_⟩
  · have := ((((((k0.set_ 0 (.slice L lo.length lc)).set_ 1 (.slice U up.length uc)).set_ 2 (.slice T us.length tc)).far (p := ⟨w.heap.size + 1, 0, none⟩) (by simp) (.slice L' lo'.length lc')).far (p := ⟨w.heap.size + 1, 1, none⟩) (by simp) (.slice U' up'.length uc')).far (p := ⟨w.heap.size + 1, 2, none⟩) (by simp) (.slice T' us'.length tc'))
    simpa using this
  · have := ((((((k1.far (p := ⟨w.heap.size, 0, none⟩) (by simp) (.slice L lo.length lc)).far (p := ⟨w.heap.size, 1, none⟩) (by simp) (.slice U up.length uc)).far (p := ⟨w.heap.size, 2, none⟩) (by simp) (.slice T us.length tc)).set_ 0 (.slice L' lo'.length lc')).set_ 1 (.slice U' up'.length uc')).set_ 2 (.slice T' us'.length tc'))
    simpa using this
set_option maxRecDepth 100000 in
set_option maxHeartbeats 6400000 in
theorem DrawMergeBatches_r (A : Option Addr) (n c : Nat) (w : World) (hb : BytesAt w w.heap.size A n) (hc : n ≤ c) (hn : n ≤ 1048576) :
    Calls Try.prog 12 #[.slice A n c] w (DmbD w) := by
  have hB0 : Below w.heap.size w ((w.alloc (.cells #[.slice none 0 0, .slice none 0 0, .slice none 0 0] 26)).alloc (.cells #[.slice none 0 0, .slice none 0 0, .slice none 0 0] 26)) := bal (bal (Below.refl _ _) _) _
  have h0 : BytesAt ((w.alloc (.cells #[.slice none 0 0, .slice none 0 0, .slice none 0 0] 26)).alloc (.cells #[.slice none 0 0, .slice none 0 0, .slice none 0 0] 26)) ((w.alloc (.cells #[.slice none 0 0, .slice none 0 0, .slice none 0 0] 26)).alloc (.cells #[.slice none 0 0, .slice none 0 0, .slice none 0 0] 26)).heap.size A n := fun hp => by
    obtain ⟨b, off, e, h1, h2⟩ := (hb.below hB0 (Nat.le_refl _)) hp
    exact ⟨b, off, e, by simp; omega, h2⟩
  have hk : Blk ((w.alloc (.cells #[.slice none 0 0, .slice none 0 0, .slice none 0 0] 26)).alloc (.cells #[.slice none 0 0, .slice none 0 0, .slice none 0 0] 26)) w.heap.size 26 #[.slice none 0 0, .slice none 0 0, .slice none 0 0] := (Blk.newAt rfl).alloc _
  have hk' : Blk ((w.alloc (.cells #[.slice none 0 0, .slice none 0 0, .slice none 0 0] 26)).alloc (.cells #[.slice none 0 0, .slice none 0 0, .slice none 0 0] 26)) (w.heap.size + 1) 26 #[.slice none 0 0, .slice none 0 0, .slice none 0 0] := Blk.newAt (by simp)
  have H0 := Lib.hid (And.intro h0 (And.intro hk (And.intro hk' hB0)))
  clear h0 hk hk' hB0 hb
  go_enter Try.func12, Try.ntmps12
  go_wp2_with fail
  refine (newReader_r _ _ _ _ H0.out.1 hc hn).mono ?_
  rintro e w1 ⟨A1, m1, c1, rfl, r1, b1⟩
  have r1 : Rdr w1 (w.heap.size + 2) A1 m1 c1 0 := by simpa using r1
  have hs1 : w.heap.size + 2 < w1.heap.size := r1.1.lt
  have H1 := Lib.hid (And.intro (H0.out.2.1.below b1) (And.intro (H0.out.2.2.1.below b1) (btr H0.out.2.2.2 b1)))
  have hcon := chain_r (w.heap.size + 2) A1 m1 c1 0 3 w1 r1 (by omega) (by omega) (by omega)
  rw [show ((3 : Nat) : Int) = 3 from rfl] at hcon
  clear H0 b1 r1
  go_wp2_with fail
  refine hcon.mono ?_
  clear hcon
  rintro e w2 ⟨fs, AF, cf, q2, rfl, hof, hfl, hfb, hAF, hq1, hq2, r2, g2⟩
  have hs2 := g2.size
  have HF := Lib.hid (And.intro hof (And.intro hfb g2))
  have HFL := Lib.hid hfl
  clear hof hfb g2 hfl
  go_wp2_with fail
  refine (pick_r _ _ _ _ _ _ _ r2 (by omega) (by omega)).mono ?_
  rintro e w3 ⟨j0, rfl, a0, a1, r3, g3⟩
  have ha1 := a1 (by omega)
  obtain ⟨z, rfl⟩ := Int.eq_ofNat_of_zero_le a0
  have hcon := randomUpdates_r (w.heap.size + 2) A1 m1 c1 _ (1 + z) 9 w3 r3 (by omega) (by omega) (by omega)
  rw [show ((1 + z : Nat) : Int) = 1 + (z : Int) by omega] at hcon
  have hs3 := g3.size
  have G3 := Lib.hid g3
  clear a1 r2 r3 g3
  go_wp2_with fail
  refine hcon.mono ?_
  clear hcon
  rintro e w4 ⟨z0, A2, c2, q4, rfl, ho2, hl2, hr2, hw2, hq3, hq4, r4, g4⟩
  have hat2 : UpdsAt w4 A2 z0 := SlOw.at_ updO ho2
  have hcl := consL_le z0
  have hcr := drT_row (nz (NormLU z0))
  have hcon := consolidate_w A2 c2 z0 w4 hat2 (by omega) (fun e he => by have := hr2 e he; omega) (hw2.mono (by omega))
  have H4 := Lib.hid (And.intro (G3.out.trans g4) r4)
  have hs4 := g4.size
  clear ho2 hat2 hr2 hw2 g4 r4 G3
  go_wp2_with fail
  refine hcon.mono ?_
  clear hcon
  generalize chkT (nz (NormLU z0)) = tr at *
  rintro e w5 ⟨AT, ct, rfl, ho5, b5⟩
  have g25 : w2.grownBy w5 (some (w.heap.size + 2)) := gB H4.out.1 b5
  have r5 := H4.out.2.below b5
  have hs5 := b5.size
  have hul : tr.length ≤ 9 := by omega
  have HRU : Hid (rowsU tr 4194304) := fun e he => by have := hcr e he; omega
  have HRR := Lib.hid hcr
  have HO5 := Lib.hid ho5
  clear ho5 b5 H4 hcr
  go_wp2_with fail
  refine (pick_r _ _ _ _ _ _ _ r5 (by omega) (by omega)).mono ?_
  rintro e w6 ⟨kI, rfl, d0, d1, r6, g6⟩
  have hd1 := d1 (by omega)
  obtain ⟨k, rfl⟩ := Int.eq_ofNat_of_zero_le d0
  obtain ⟨q6, hq6⟩ : ∃ q6, q6 = q4 + 1 := ⟨_, rfl⟩
  rw [← hq6] at r6
  have hqb : q6 ≤ 1000 := by omega
  have g26 := g25.trans g6
  have g16 := HF.out.2.2.trans g26
  have hs6 := g6.size
  have hU : UpdsAt w6 AT tr := UpdsOw.at_ (HO5.out.loc updO (fun q hq => g6.block q hq.2 (fun e => by injection e with e; have := hq.1; omega)))
  have hF6 : SlAt TmlR 1 w6 AF fs := SlOw.at_ tmlO (HF.out.1.loc tmlO (fun q hq => g26.block q hq.2 (fun e => by injection e with e; have := hq.1; omega)))
  obtain ⟨j, HJ⟩ : ∃ j : Nat, Hid ((j : Int) = (k : Int) + 1) := ⟨k + 1, by simp [Hid]⟩
  obtain ⟨i, HI⟩ : ∃ i : Nat, Hid ((i : Int) = (k : Int) + 2) := ⟨k + 2, by simp [Hid]⟩
  have hk4 : k < fs.length := by have := HFL.out; omega
  have hj4 : j < fs.length := by have := HFL.out; have := HJ.out; omega
  have hi4 : i < fs.length := by have := HFL.out; have := HI.out; omega
  have hkI : (k : Int) < fs.length := by omega
  have hjI : (j : Int) < fs.length := by omega
  have hiI : (i : Int) < fs.length := by omega
  have hfk := HF.out.2.1 _ (List.getElem_mem hk4)
  have hfj := HF.out.2.1 _ (List.getElem_mem hj4)
  have hfi := HF.out.2.1 _ (List.getElem_mem hi4)
  obtain ⟨b, off, L_k, l_k, rfl, hbl, c_k, hL_k⟩ := FsAt.get hF6 k hk4
  obtain ⟨b', off', L_j, l_j, e0, hbl', c_j, hL_j⟩ := FsAt.get hF6 j hj4
  injection e0 with e0
  injection e0 with e1 e2
  subst e1 e2
  obtain ⟨b', off', L_i, l_i, e0, hbl', c_i, hL_i⟩ := FsAt.get hF6 i hi4
  injection e0 with e0
  injection e0 with e1 e2
  subst e1 e2
  have HE6 : Hid (Blk w6 w.heap.size 26 #[.slice none 0 0, .slice none 0 0, .slice none 0 0] ∧ Blk w6 (w.heap.size + 1) 26 #[.slice none 0 0, .slice none 0 0, .slice none 0 0] ∧ Below w.heap.size w w6 ∧ Rdr w6 (w.heap.size + 2) A1 m1 c1 q6) :=
    ⟨H1.out.1.kept g16 (by omega), H1.out.2.1.kept g16 (by omega), gbelow H1.out.2.2 g16 (by omega), r6⟩
  have HTA : Hid (btB 1 (fs[k], (fs[j], cutT fs[k] fs[j] tr))) := ⟨by simp only; omega, by simp only; omega, by have := cutT_len fs[k] fs[j] tr; simp only; omega, fun e he => by have := cutT_row HRR.out e he; omega⟩
  have HTB : Hid (btB 1 (fs[j], (fs[i], cutT fs[j] fs[i] tr))) := ⟨by simp only; omega, by simp only; omega, by have := cutT_len fs[j] fs[i] tr; simp only; omega, fun e he => by have := cutT_row HRR.out e he; omega⟩
  clear r6 g6 g16 g26 g25 r5 H1 HO5 hF6 d1 hbl' HF
  go_wp2_with fail
  refine Rgo.wp_region_facts [[], [], [], [1, 2], [1, 2, 3], [], [], [6], [5, 6, 7], [5, 6, 7, 8], List.range 10, []]
    [fun _ _ v' _ => v' = .slice AT tr.length ct, fun _ _ v' _ => v' = .slice (some ⟨b, off, none⟩) fs.length cf, fun _ _ v' _ => v' = .int .i64 ((k : Nat)), fun _ _ v' _ => v' = .pointer (some ⟨b, off + k, none⟩), fun _ _ v' _ => v' = .slice L_k fs[k].length l_k, fun _ _ v' _ => v' = .slice (some ⟨b, off, none⟩) fs.length cf, fun _ _ v' _ => v' = .int .i64 ((k : Nat)), fun _ _ v' _ => v' = .int .i64 ((j : Nat) : Int), fun _ _ v' _ => v' = .pointer (some ⟨b, off + j, none⟩), fun _ _ v' _ => v' = .slice L_j fs[j].length l_j, BatI (fs[k], (fs[j], cutT fs[k] fs[j] tr)), BoxI]
    (by kernel_rfl) (by kernel_rfl) rfl ⟨Rgo.stable_pure _, Rgo.stable_pure _, Rgo.stable_pure _, Rgo.stable_pure _, Rgo.stable_pure _, Rgo.stable_pure _, Rgo.stable_pure _, Rgo.stable_pure _, Rgo.stable_pure _, Rgo.stable_pure _, stable_batI _, stable_boxI, trivial⟩ ?_
  refine Rgo.wf_stepK [] [] (by kernel_rfl) (by kernel_rfl) (fun wf hb hf => ?_) (fun t0 l0 h0 => ?_)
  · refine ⟨?_⟩
    go_wp2
    exact ⟨rfl, .slice AT tr.length ct, by kernel_rfl, Below.refl _ _, rfl⟩
  refine Rgo.wf_stepK [] [] (by kernel_rfl) (by kernel_rfl) (fun wf hb hf => ?_) (fun t1 l1 h1 => ?_)
  · refine ⟨?_⟩
    go_wp2
    exact ⟨rfl, .slice (some ⟨b, off, none⟩) fs.length cf, by kernel_rfl, Below.refl _ _, rfl⟩
  refine Rgo.wf_stepK [] [] (by kernel_rfl) (by kernel_rfl) (fun wf hb hf => ?_) (fun t2 l2 h2 => ?_)
  · refine ⟨?_⟩
    go_wp2
    exact ⟨rfl, .int .i64 ((k : Nat)), by kernel_rfl, Below.refl _ _, rfl⟩
  refine Rgo.wf_stepK [1, 2] [fun _ => t1 = .slice (some ⟨b, off, none⟩) fs.length cf, fun _ => t2 = .int .i64 ((k : Nat))] (by kernel_rfl) (by kernel_rfl) (fun wf hb hf => ?_) (fun t3 l3 h3 => ?_)
  · obtain ⟨rfl, rfl, -⟩ := hf
    refine ⟨?_⟩
    go_wp2
    exact ⟨rfl, .pointer (some ⟨b, off + k, none⟩), by kernel_rfl, Below.refl _ _, rfl⟩
  refine Rgo.wf_stepK [3] [fun _ => t3 = .pointer (some ⟨b, off + k, none⟩)] (by kernel_rfl) (by kernel_rfl) (fun wf hb hf => ?_) (fun t4 l4 h4 => ?_)
  · obtain ⟨rfl, -⟩ := hf
    refine ⟨?_⟩
    have p0 := (hb.cell (p := ⟨b, off + k, none⟩) hbl).trans c_k
    go_wp2
    exact ⟨rfl, .slice L_k fs[k].length l_k, by kernel_rfl, Below.refl _ _, rfl⟩
  refine Rgo.wf_stepK [] [] (by kernel_rfl) (by kernel_rfl) (fun wf hb hf => ?_) (fun t5 l5 h5 => ?_)
  · refine ⟨?_⟩
    go_wp2
    exact ⟨rfl, .slice (some ⟨b, off, none⟩) fs.length cf, by kernel_rfl, Below.refl _ _, rfl⟩
  refine Rgo.wf_stepK [] [] (by kernel_rfl) (by kernel_rfl) (fun wf hb hf => ?_) (fun t6 l6 h6 => ?_)
  · refine ⟨?_⟩
    go_wp2
    exact ⟨rfl, .int .i64 ((k : Nat)), by kernel_rfl, Below.refl _ _, rfl⟩
  refine Rgo.wf_stepK [6] [fun _ => t6 = .int .i64 ((k : Nat))] (by kernel_rfl) (by kernel_rfl) (fun wf hb hf => ?_) (fun t7 l7 h7 => ?_)
  · obtain ⟨rfl, -⟩ := hf
    refine ⟨?_⟩
    go_wp2
    exact ⟨rfl, .int .i64 ((j : Nat) : Int), by rw [HJ.out]; kernel_rfl, Below.refl _ _, rfl⟩
  refine Rgo.wf_stepK [5, 7] [fun _ => t5 = .slice (some ⟨b, off, none⟩) fs.length cf, fun _ => t7 = .int .i64 ((j : Nat) : Int)] (by kernel_rfl) (by kernel_rfl) (fun wf hb hf => ?_) (fun t8 l8 h8 => ?_)
  · obtain ⟨rfl, rfl, -⟩ := hf
    refine ⟨?_⟩
    go_wp2
    exact ⟨rfl, .pointer (some ⟨b, off + j, none⟩), by kernel_rfl, Below.refl _ _, rfl⟩
  refine Rgo.wf_stepK [8] [fun _ => t8 = .pointer (some ⟨b, off + j, none⟩)] (by kernel_rfl) (by kernel_rfl) (fun wf hb hf => ?_) (fun t9 l9 h9 => ?_)
  · obtain ⟨rfl, -⟩ := hf
    refine ⟨?_⟩
    have p0 := (hb.cell (p := ⟨b, off + j, none⟩) hbl).trans c_j
    go_wp2
    exact ⟨rfl, .slice L_j fs[j].length l_j, by kernel_rfl, Below.refl _ _, rfl⟩
  refine Rgo.wf_stepK [0, 4, 9] [fun _ => t0 = .slice AT tr.length ct, fun _ => t4 = .slice L_k fs[k].length l_k, fun _ => t9 = .slice L_j fs[j].length l_j] (by kernel_rfl) (by kernel_rfl) (fun wf hb hf => ?_) (fun t10 l10 h10 => ?_)
  · obtain ⟨rfl, rfl, rfl, -⟩ := hf
    refine ⟨?_⟩
    go_wp2_with (go_at_call 68; refine (cut_s AT ct tr L_k L_j l_k l_j fs[k] fs[j] _ (hU.below updR hb) (hL_k.below hb) (hL_j.below hb) (by omega) HRU.out (by omega) (by omega)).mono ?_; rintro e w2 ⟨L, lc, U, uc, T, tc, rfl, hox, hb2⟩)
    exact ⟨rfl, .agg #[.slice L fs[k].length lc, .slice U fs[j].length uc, .slice T (cutT fs[k] fs[j] tr).length tc], by kernel_rfl, hb2, L, lc, U, uc, T, tc, rfl, hox⟩
  refine Rgo.wf_stepK [] [] (by kernel_rfl) (by kernel_rfl) (fun wf hb hf => ?_) (fun t11 l11 h11 => ?_)
  · refine ⟨?_⟩
    go_wp2
    exact ⟨rfl, .pointer (some ⟨wf.heap.size, 0, none⟩), by kernel_rfl, bal (Below.refl _ _) _, wf.heap.size, rfl, Blk.newAt rfl, Nat.le_refl _, by simp⟩
  refine Rgo.wf_doneK [10, 11] [BatI (fs[k], (fs[j], cutT fs[k] fs[j] tr)) l10 h10 t10, BoxI l11 h11 t11] (by kernel_rfl) (by kernel_rfl) (fun w50 b50 hf hap hbo => ?_)
  obtain ⟨⟨L, lc, U, uc, T, tc, rfl, hbt⟩, ⟨bx, rfl, kX, x0, x1⟩, -⟩ := hf
  show wpList _ _ _ [_] _ _
  refine wpList_frame (by simp [Act.put]; rfl) ?_
  have hs50 := b50.size
  have ha : h10 ≤ l11 ∨ h11 ≤ l10 := hap 10 11 (by omega) (by simp)
  have hq10 : w6.heap.size ≤ l10 ∧ l10 ≤ h10 ∧ h10 ≤ w50.heap.size := hbo 10 (by simp)
  have hq11 : w6.heap.size ≤ l11 ∧ l11 ≤ h11 ∧ h11 ≤ w50.heap.size := hbo 11 (by simp)
  have HA := Lib.hid (boxI_fin (r := w.heap.size + 2) (cs := [.slice L fs[k].length lc, .slice U fs[j].length uc, .slice T (cutT fs[k] fs[j] tr).length tc]) (u0 := .slice L fs[k].length lc) (u1 := .slice U fs[j].length uc) (u2 := .slice T (cutT fs[k] fs[j] tr).length tc) kX b50 (Nat.le_trans hq11.1 x0) (by omega) hq10.1 (fun q hq => by rcases ha with ha | ha <;> omega) hbt _ rfl)
  have z0 := kX.frozen 0
  have z1 := kX.frozen 1
  have z2 := kX.frozen 2
  have y0 := kX.cell 0
  have y1 := kX.cell 1
  have y2 := kX.cell 2
  simp at y0 y1 y2
  have hbx0 : w6.heap.size ≤ bx := Nat.le_trans hq11.1 x0
  obtain ⟨bxA, hbx⟩ : ∃ bxA, bxA = bx := ⟨_, rfl⟩
  clear hbt kX ha hq10 hq11 hap hbo b50 x0 x1
  go_wp2_with fail
  refine abs_world (fun W => Below w6.heap.size w6 W ∧ Blk W bx 26 #[.slice L fs[k].length lc, .slice U fs[j].length uc, .slice T (cutT fs[k] fs[j] tr).length tc] ∧ BatO W (fun q0 => w.heap.size + 2 < q0 ∧ q0 < W.heap.size) [.slice L fs[k].length lc, .slice U fs[j].length uc, .slice T (cutT fs[k] fs[j] tr).length tc] (fs[k], (fs[j], cutT fs[k] fs[j] tr))) HA.out (fun w51 hh => ?_)
  clear HA z0 z1 z2 y0 y1 y2
  rw [← hbx] at hh hbx0 ⊢
  clear hbx
  obtain ⟨b51, kA, hA⟩ := hh
  have HA := Lib.hid (And.intro b51 (And.intro kA hA))
  have hs51 := b51.size
  have hbxs : w.heap.size + 2 < bxA := by omega
  have hU := hU.below updR b51
  have hL_j := hL_j.below b51
  have hL_i := hL_i.below b51
  have c_j := (b51.cell (p := ⟨b, off + j, none⟩) hbl).trans c_j
  have c_i := (b51.cell (p := ⟨b, off + i, none⟩) hbl).trans c_i
  have hbl : b < w51.heap.size := by omega
  clear b51 kA hA c_k hL_k hs50
  refine Rgo.wp_region_facts [[], [], [], [2], [1, 2, 3], [1, 2, 3, 4], [], [], [7], [6, 7, 8], [6, 7, 8, 9], List.range 11, []]
    [fun _ _ v' _ => v' = .slice AT tr.length ct, fun _ _ v' _ => v' = .slice (some ⟨b, off, none⟩) fs.length cf, fun _ _ v' _ => v' = .int .i64 ((k : Nat)), fun _ _ v' _ => v' = .int .i64 ((j : Nat) : Int), fun _ _ v' _ => v' = .pointer (some ⟨b, off + j, none⟩), fun _ _ v' _ => v' = .slice L_j fs[j].length l_j, fun _ _ v' _ => v' = .slice (some ⟨b, off, none⟩) fs.length cf, fun _ _ v' _ => v' = .int .i64 ((k : Nat)), fun _ _ v' _ => v' = .int .i64 ((i : Nat) : Int), fun _ _ v' _ => v' = .pointer (some ⟨b, off + i, none⟩), fun _ _ v' _ => v' = .slice L_i fs[i].length l_i, BatI (fs[j], (fs[i], cutT fs[j] fs[i] tr)), BoxI]
    (by kernel_rfl) (by kernel_rfl) rfl ⟨Rgo.stable_pure _, Rgo.stable_pure _, Rgo.stable_pure _, Rgo.stable_pure _, Rgo.stable_pure _, Rgo.stable_pure _, Rgo.stable_pure _, Rgo.stable_pure _, Rgo.stable_pure _, Rgo.stable_pure _, Rgo.stable_pure _, stable_batI _, stable_boxI, trivial⟩ ?_
  refine Rgo.wf_stepK [] [] (by kernel_rfl) (by kernel_rfl) (fun wf hb hf => ?_) (fun t0 l0 h0 => ?_)
  · refine ⟨?_⟩
    go_wp2
    exact ⟨rfl, .slice AT tr.length ct, by kernel_rfl, Below.refl _ _, rfl⟩
  refine Rgo.wf_stepK [] [] (by kernel_rfl) (by kernel_rfl) (fun wf hb hf => ?_) (fun t1 l1 h1 => ?_)
  · refine ⟨?_⟩
    go_wp2
    exact ⟨rfl, .slice (some ⟨b, off, none⟩) fs.length cf, by kernel_rfl, Below.refl _ _, rfl⟩
  refine Rgo.wf_stepK [] [] (by kernel_rfl) (by kernel_rfl) (fun wf hb hf => ?_) (fun t2 l2 h2 => ?_)
  · refine ⟨?_⟩
    go_wp2
    exact ⟨rfl, .int .i64 ((k : Nat)), by kernel_rfl, Below.refl _ _, rfl⟩
  refine Rgo.wf_stepK [2] [fun _ => t2 = .int .i64 ((k : Nat))] (by kernel_rfl) (by kernel_rfl) (fun wf hb hf => ?_) (fun t3 l3 h3 => ?_)
  · obtain ⟨rfl, -⟩ := hf
    refine ⟨?_⟩
    go_wp2
    exact ⟨rfl, .int .i64 ((j : Nat) : Int), by rw [HJ.out]; kernel_rfl, Below.refl _ _, rfl⟩
  refine Rgo.wf_stepK [1, 3] [fun _ => t1 = .slice (some ⟨b, off, none⟩) fs.length cf, fun _ => t3 = .int .i64 ((j : Nat) : Int)] (by kernel_rfl) (by kernel_rfl) (fun wf hb hf => ?_) (fun t4 l4 h4 => ?_)
  · obtain ⟨rfl, rfl, -⟩ := hf
    refine ⟨?_⟩
    go_wp2
    exact ⟨rfl, .pointer (some ⟨b, off + j, none⟩), by kernel_rfl, Below.refl _ _, rfl⟩
  refine Rgo.wf_stepK [4] [fun _ => t4 = .pointer (some ⟨b, off + j, none⟩)] (by kernel_rfl) (by kernel_rfl) (fun wf hb hf => ?_) (fun t5 l5 h5 => ?_)
  · obtain ⟨rfl, -⟩ := hf
    refine ⟨?_⟩
    have p0 := (hb.cell (p := ⟨b, off + j, none⟩) hbl).trans c_j
    go_wp2
    exact ⟨rfl, .slice L_j fs[j].length l_j, by kernel_rfl, Below.refl _ _, rfl⟩
  refine Rgo.wf_stepK [] [] (by kernel_rfl) (by kernel_rfl) (fun wf hb hf => ?_) (fun t6 l6 h6 => ?_)
  · refine ⟨?_⟩
    go_wp2
    exact ⟨rfl, .slice (some ⟨b, off, none⟩) fs.length cf, by kernel_rfl, Below.refl _ _, rfl⟩
  refine Rgo.wf_stepK [] [] (by kernel_rfl) (by kernel_rfl) (fun wf hb hf => ?_) (fun t7 l7 h7 => ?_)
  · refine ⟨?_⟩
    go_wp2
    exact ⟨rfl, .int .i64 ((k : Nat)), by kernel_rfl, Below.refl _ _, rfl⟩
  refine Rgo.wf_stepK [7] [fun _ => t7 = .int .i64 ((k : Nat))] (by kernel_rfl) (by kernel_rfl) (fun wf hb hf => ?_) (fun t8 l8 h8 => ?_)
  · obtain ⟨rfl, -⟩ := hf
    refine ⟨?_⟩
    go_wp2
    exact ⟨rfl, .int .i64 ((i : Nat) : Int), by rw [HI.out]; kernel_rfl, Below.refl _ _, rfl⟩
  refine Rgo.wf_stepK [6, 8] [fun _ => t6 = .slice (some ⟨b, off, none⟩) fs.length cf, fun _ => t8 = .int .i64 ((i : Nat) : Int)] (by kernel_rfl) (by kernel_rfl) (fun wf hb hf => ?_) (fun t9 l9 h9 => ?_)
  · obtain ⟨rfl, rfl, -⟩ := hf
    refine ⟨?_⟩
    go_wp2
    exact ⟨rfl, .pointer (some ⟨b, off + i, none⟩), by kernel_rfl, Below.refl _ _, rfl⟩
  refine Rgo.wf_stepK [9] [fun _ => t9 = .pointer (some ⟨b, off + i, none⟩)] (by kernel_rfl) (by kernel_rfl) (fun wf hb hf => ?_) (fun t10 l10 h10 => ?_)
  · obtain ⟨rfl, -⟩ := hf
    refine ⟨?_⟩
    have p0 := (hb.cell (p := ⟨b, off + i, none⟩) hbl).trans c_i
    go_wp2
    exact ⟨rfl, .slice L_i fs[i].length l_i, by kernel_rfl, Below.refl _ _, rfl⟩
  refine Rgo.wf_stepK [0, 5, 10] [fun _ => t0 = .slice AT tr.length ct, fun _ => t5 = .slice L_j fs[j].length l_j, fun _ => t10 = .slice L_i fs[i].length l_i] (by kernel_rfl) (by kernel_rfl) (fun wf hb hf => ?_) (fun t11 l11 h11 => ?_)
  · obtain ⟨rfl, rfl, rfl, -⟩ := hf
    refine ⟨?_⟩
    go_wp2_with (go_at_call 68; refine (cut_s AT ct tr L_j L_i l_j l_i fs[j] fs[i] _ (hU.below updR hb) (hL_j.below hb) (hL_i.below hb) (by omega) HRU.out (by omega) (by omega)).mono ?_; rintro e w2 ⟨L', lc', U', uc', T', tc', rfl, hox, hb2⟩)
    exact ⟨rfl, .agg #[.slice L' fs[j].length lc', .slice U' fs[i].length uc', .slice T' (cutT fs[j] fs[i] tr).length tc'], by kernel_rfl, hb2, L', lc', U', uc', T', tc', rfl, hox⟩
  refine Rgo.wf_stepK [] [] (by kernel_rfl) (by kernel_rfl) (fun wf hb hf => ?_) (fun t12 l12 h12 => ?_)
  · refine ⟨?_⟩
    go_wp2
    exact ⟨rfl, .pointer (some ⟨wf.heap.size, 0, none⟩), by kernel_rfl, bal (Below.refl _ _) _, wf.heap.size, rfl, Blk.newAt rfl, Nat.le_refl _, by simp⟩
  refine Rgo.wf_doneK [11, 12] [BatI (fs[j], (fs[i], cutT fs[j] fs[i] tr)) l11 h11 t11, BoxI l12 h12 t12] (by kernel_rfl) (by kernel_rfl) (fun w60 b60 hf hap hbo => ?_)
  obtain ⟨⟨L', lc', U', uc', T', tc', rfl, hbt⟩, ⟨bx, rfl, kX, x0, x1⟩, -⟩ := hf
  show wpList _ _ _ [_] _ _
  refine wpList_frame (by simp [Act.put]; rfl) ?_
  have hs60 := b60.size
  have ha : h11 ≤ l12 ∨ h12 ≤ l11 := hap 11 12 (by omega) (by simp)
  have hq11 : w51.heap.size ≤ l11 ∧ l11 ≤ h11 ∧ h11 ≤ w60.heap.size := hbo 11 (by simp)
  have hq12 : w51.heap.size ≤ l12 ∧ l12 ≤ h12 ∧ h12 ≤ w60.heap.size := hbo 12 (by simp)
  have HB := Lib.hid (boxI_fin (r := w.heap.size + 2) (cs := [.slice L' fs[j].length lc', .slice U' fs[i].length uc', .slice T' (cutT fs[j] fs[i] tr).length tc']) (u0 := .slice L' fs[j].length lc') (u1 := .slice U' fs[i].length uc') (u2 := .slice T' (cutT fs[j] fs[i] tr).length tc') kX b60 (Nat.le_trans hq12.1 x0) (by omega) hq11.1 (fun q hq => by rcases ha with ha | ha <;> omega) hbt _ rfl)
  have z0 := kX.frozen 0
  have z1 := kX.frozen 1
  have z2 := kX.frozen 2
  have y0 := kX.cell 0
  have y1 := kX.cell 1
  have y2 := kX.cell 2
  simp at y0 y1 y2
  have hbx1 : w51.heap.size ≤ bx := Nat.le_trans hq12.1 x0
  have hbxlt : bxA < w51.heap.size := HA.out.2.1.lt
  obtain ⟨bxB, hbx⟩ : ∃ bxB, bxB = bx := ⟨_, rfl⟩
  clear hbt kX ha hq11 hq12 hap hbo b60 x0 x1 hU hL_j hL_i c_j c_i hbl
  go_wp2_with fail
  refine absDm (fun W => Below w51.heap.size w51 W ∧ Blk W bx 26 #[.slice L' fs[j].length lc', .slice U' fs[i].length uc', .slice T' (cutT fs[j] fs[i] tr).length tc'] ∧ BatO W (fun q0 => w.heap.size + 2 < q0 ∧ q0 < W.heap.size) [.slice L' fs[j].length lc', .slice U' fs[i].length uc', .slice T' (cutT fs[j] fs[i] tr).length tc'] (fs[j], (fs[i], cutT fs[j] fs[i] tr))) HB.out (fun w61 hh => ?_)
  clear HB z0 z1 z2 y0 y1 y2
  rw [← hbx] at hh hbx1 ⊢
  clear hbx
  obtain ⟨b61, kB, hB⟩ := hh
  have hh : (Blk w61 bxA 26 #[.slice L fs[k].length lc, .slice U fs[j].length uc, .slice T (cutT fs[k] fs[j] tr).length tc] ∧ BatO w61 (fun q0 => w.heap.size + 2 < q0 ∧ q0 < w61.heap.size) [.slice L fs[k].length lc, .slice U fs[j].length uc, .slice T (cutT fs[k] fs[j] tr).length tc] (fs[k], (fs[j], cutT fs[k] fs[j] tr)) ∧ Below w6.heap.size w6 w61) ∧ Blk w61 bxB 26 #[.slice L' fs[j].length lc', .slice U' fs[i].length uc', .slice T' (cutT fs[j] fs[i] tr).length tc'] ∧ BatO w61 (fun q0 => w.heap.size + 2 < q0 ∧ q0 < w61.heap.size) [.slice L' fs[j].length lc', .slice U' fs[i].length uc', .slice T' (cutT fs[j] fs[i] tr).length tc'] (fs[j], (fs[i], cutT fs[j] fs[i] tr)) :=
    ⟨⟨HA.out.2.1.below b61, bo_below HA.out.2.2 b61, btr HA.out.1 b61⟩, kB, hB⟩
  clear b61 kB hB HA
  have r61 := HE6.out.2.2.2.below hh.1.2.2
  have HM := Lib.hid hh
  have hbxB : w.heap.size + 2 < bxB := by omega
  have hneA : some bxA ≠ some (w.heap.size + 2) := fun e => by injection e with e; omega
  have hneB : some bxB ≠ some (w.heap.size + 2) := fun e => by injection e with e; omega
  have hne9 : bxA ≠ w.heap.size + 2 := by omega
  have hne8 : bxB ≠ w.heap.size + 2 := by omega
  clear hh hs60
  go_wp2_with fail
  refine (pick_r _ _ _ _ _ _ _ r61 (by omega) (by omega)).mono ?_
  rintro e w7 ⟨jc, rfl, f0, f1, r7, g7⟩
  obtain ⟨q7, hq7⟩ : ∃ q7, q7 = q6 + 1 := ⟨_, rfl⟩
  rw [← hq7] at r7
  have hqb7 : q7 ≤ 2000 := by omega
  have kA := HM.out.1.1.kept g7 hne9
  have kB := HM.out.2.1.kept g7 hne8
  have g67 : w6.grownBy w7 (some (w.heap.size + 2)) := (gbel HM.out.1.2.2).trans g7
  have hs7 : w.heap.size + 2 < w7.heap.size := r7.1.lt
  have HE : Hid (Blk w7 w.heap.size 26 #[.slice none 0 0, .slice none 0 0, .slice none 0 0] ∧ Blk w7 (w.heap.size + 1) 26 #[.slice none 0 0, .slice none 0 0, .slice none 0 0] ∧ BatO w7 (fun k => w.heap.size + 2 < k ∧ k < w7.heap.size) [.slice L fs[k].length lc, .slice U fs[j].length uc, .slice T (cutT fs[k] fs[j] tr).length tc] (fs[k], (fs[j], cutT fs[k] fs[j] tr)) ∧ BatO w7 (fun k => w.heap.size + 2 < k ∧ k < w7.heap.size) [.slice L' fs[j].length lc', .slice U' fs[i].length uc', .slice T' (cutT fs[j] fs[i] tr).length tc'] (fs[j], (fs[i], cutT fs[j] fs[i] tr))) :=
    ⟨HE6.out.1.kept g67 (by omega), HE6.out.2.1.kept g67 (by omega), bo_grown HM.out.1.2.1 g7, bo_grown HM.out.2.2 g7⟩
  have HB7 := Lib.hid (gbelow HE6.out.2.2.1 g67 (by omega))
  have hltA := kA.lt
  have hltB := kB.lt
  have cA0 := kA.cell 0
  have cA1 := kA.cell 1
  have cA2 := kA.cell 2
  have cB0 := kB.cell 0
  have cB1 := kB.cell 1
  have cB2 := kB.cell 2
  simp at cA0 cA1 cA2 cB0 cB1 cB2
  have kB7 := Lib.hid kB
  clear f1 r61 g7 g67 HM HE6 kA kB hq7
  by_cases hj0 : jc = 0
  · subst hj0
    go_wp2_with fail
    refine Rgn.wp_region_facts (Rgn.RR (w.heap.size + 2)) (RJ w7 (w.heap.size + 2) A1 m1 c1 (q7 + 5000 * ((5 : Nat) : Int))) (RJ.start r7) [[], [], [1]]
      [fun v' _ => v' = .agg #[.slice L fs[k].length lc, .slice U fs[j].length uc, .slice T (cutT fs[k] fs[j] tr).length tc], fun v' _ => v' = .pointer (some ⟨w.heap.size + 2, 0, none⟩), AnyG (w.heap.size + 2)]
      (by kernel_rfl) (by kernel_rfl) rfl ⟨Rgn.stable_pure _, Rgn.stable_pure _, Rgn.stable_of (fun _ _ _ hg h => h.grown hg), trivial⟩ ?_
    refine Rgn.wf_stepK [] [] (by kernel_rfl) (by kernel_rfl) (fun ff wf hi hf => ?_) (fun t0 => ?_)
    · have hb := hi.1
      refine Rgn.WfOp.ofB Rgn.RR.ofB RJ.below hi ⟨?_⟩
      have p0 := hb.cell cA0 hneA
      have p1 := hb.cell cA1 hneA
      have p2 := hb.cell cA2 hneA
      go_wp2
      exact ⟨rfl, .agg #[.slice L fs[k].length lc, .slice U fs[j].length uc, .slice T (cutT fs[k] fs[j] tr).length tc], by kernel_rfl, Below.refl _ _, rfl⟩
    refine Rgn.wf_stepK [] [] (by kernel_rfl) (by kernel_rfl) (fun ff wf hi hf => ?_) (fun t1 => ?_)
    · have hb := hi.1
      refine Rgn.WfOp.ofB Rgn.RR.ofB RJ.below hi ⟨?_⟩
      go_wp2
      exact ⟨rfl, .pointer (some ⟨w.heap.size + 2, 0, none⟩), by kernel_rfl, Below.refl _ _, rfl⟩
    refine Rgn.wf_stepK [1] [fun _ => t1 = .pointer (some ⟨w.heap.size + 2, 0, none⟩)] (by kernel_rfl) (by kernel_rfl) (fun ff wf hi hf => ?_) (fun t2 => ?_)
    · obtain ⟨rfl, -⟩ := hf
      refine RJ.op hi (fun qr hqr hq1 hgr => ⟨?_⟩)
      go_wp2_with (go_at_call 69; refine (anyBatch_r (w.heap.size + 2) A1 m1 c1 qr _ hqr (by omega)).mono ?_; rintro e w5 ⟨b9, v9, q9, rfl, hbn, hbt, a0, a1, r2, g2⟩)
      exact ⟨rfl, v9, by kernel_rfl, g2, ⟨hgr.trans g2, _, r2, by omega⟩, b9, hbt, hbn.news (by have := hqr.1.lt; omega)⟩
    refine Rgn.wf_doneK [0, 2] [fun _ => t0 = .agg #[.slice L fs[k].length lc, .slice U fs[j].length uc, .slice T (cutT fs[k] fs[j] tr).length tc], AnyG (w.heap.size + 2) t2] (by kernel_rfl) (by kernel_rfl) (fun f70 w70 b70 hf => ?_)
    obtain ⟨rfl, ⟨⟨lo9, up9, us9⟩, hbt9, L9, lc9, U9, uc9, T9, tc9, rfl, hb9⟩, -⟩ := hf
    show wpList _ _ _ [_, _] _ _
    refine wpList_frame (by simp [Act.put]; rfl) ?_
    have hsz := HB7.out.size
    have k0 := HE.out.1.kept b70.1 (by omega)
    have k1 := HE.out.2.1.kept b70.1 (by omega)
    have hBw : Below w.heap.size w w70 := gbelow HB7.out b70.1 (by omega)
    obtain ⟨HD, s0, s1⟩ := dmb_fin k0 k1 hBw (bo_grown HE.out.2.2.1 b70.1) (hb9) HTA.out hbt9 _ rfl
    have HD := Lib.hid HD
    have KS := Lib.hid (And.intro s0 s1)
    clear s0 s1
    have z0 := k0.frozen 0
    have z1 := k0.frozen 1
    have z2 := k0.frozen 2
    have y0 := k0.cell 0
    have y1 := k0.cell 1
    have y2 := k0.cell 2
    have x0 := k1.frozen 0
    have x1 := k1.frozen 1
    have x2 := k1.frozen 2
    have v0 := k1.cell 0
    have v1 := k1.cell 1
    have v2 := k1.cell 2
    simp at y0 y1 y2 v0 v1 v2
    clear k0 k1 hBw b70 HE HB7
    go_wp2_with fail
    have s0 := KS.out.1.cell 0
    have s1 := KS.out.1.cell 1
    have s2 := KS.out.1.cell 2
    have u0 := KS.out.2.cell 0
    have u1 := KS.out.2.cell 1
    have u2 := KS.out.2.cell 2
    simp at s0 s1 s2 u0 u1 u2
    exact bodyPost_ret (v := .tuple #[.agg #[.slice L fs[k].length lc, .slice U fs[j].length uc, .slice T (cutT fs[k] fs[j] tr).length tc], .agg #[.slice L9 lo9.length lc9, .slice U9 up9.length uc9, .slice T9 us9.length tc9]]) (by simp [results, Try.results12, go_sem, s0, s1, s2, u0, u1, u2]) rfl HD.out
  have hb0 : (jc == 0) = false := by rw [beq_eq_false_iff_ne]; exact hj0
  by_cases hj1 : jc = 1
  · subst hj1
    go_wp2_with fail
    have HG := Lib.hid (And.intro r7 kB7.out)
    have hBne : bxB ≠ w.heap.size := by omega
    have hBne' : w.heap.size ≠ bxB := by omega
    clear r7
    have hdrew : w7.grownBy w7.drew (some (w.heap.size + 2)) := ⟨rfl, rfl, rfl, Nat.le_refl _, fun _ _ _ => rfl⟩
    go_region_with (go_at_call 69; refine (anyBatch_r (w.heap.size + 2) A1 m1 c1 q7 w7.drew HG.out.1 (by omega)).mono ?_; rintro e w5 ⟨⟨lo9, up9, us9⟩, v9, q9, rfl, ⟨L9, lc9, U9, uc9, T9, tc9, rfl, hbn⟩, hbt9, a0, a1, r2, g2⟩; simp only at hbn ⊢; have g2 : w7.grownBy w5 (some (w.heap.size + 2)) := hdrew.trans g2; have hsz7 := g2.size; have kB5 := HG.out.2.kept g2 hne8; have p0 := kB5.cell 0; have p1 := kB5.cell 1; have p2 := kB5.cell 2; have k0 := HE.out.1.kept g2 (by omega); have k1 := HE.out.2.1.kept g2 (by omega); have hfin := dmb_fin k0 k1 (gbelow HB7.out g2 (by omega)) (lo := lo9) (up := up9) (us := us9) (L := L9) (lc := lc9) (U := U9) (uc := uc9) (T := T9) (tc := tc9) (batO.mono hbn (fun q hq => ⟨by have q1 : w7.drew.heap.size ≤ q := hq.1; have q2 : w7.drew.heap.size = w7.heap.size := rfl; omega, hq.2⟩) (fun q hq => hq.2)) (bo_grown HE.out.2.2.2 g2) hbt9 HTB.out _ rfl; have HD := Lib.hid hfin; have z0 := k0.frozen 0; have z1 := k0.frozen 1; have z2 := k0.frozen 2; have y0 := k0.cell 0; have y1 := k0.cell 1; have y2 := k0.cell 2; have x0 := k1.frozen 0; have x1 := k1.frozen 1; have x2 := k1.frozen 2; have v0 := k1.cell 0; have v1 := k1.cell 1; have v2 := k1.cell 2; simp at p0 p1 p2 y0 y1 y2 v0 v1 v2; clear hfin k0 k1 kB5 hbn hbt9 a0 a1 r2 g2)
    all_goals (go_wp2_with fail; (have s0 := HD.out.2.1.cell 0); (have s1 := HD.out.2.1.cell 1); (have s2 := HD.out.2.1.cell 2); (have u0 := HD.out.2.2.cell 0); (have u1 := HD.out.2.2.cell 1); (have u2 := HD.out.2.2.cell 2); simp at s0 s1 s2 u0 u1 u2; exact bodyPost_ret (v := .tuple #[.agg #[.slice L9 lo9.length lc9, .slice U9 up9.length uc9, .slice T9 us9.length tc9], .agg #[.slice L' fs[j].length lc', .slice U' fs[i].length uc', .slice T' (cutT fs[j] fs[i] tr).length tc']]) (by simp [results, Try.results12, go_sem, s0, s1, s2, u0, u1, u2]) rfl HD.out.1)
  have hb1 : (jc == 1) = false := by rw [beq_eq_false_iff_ne]; exact hj1
  go_wp2_with fail
  have hBne : bxB ≠ w.heap.size := by omega
  have hBne' : w.heap.size ≠ bxB := by omega
  have HD := Lib.hid (dmb_drew (dmb_fin HE.out.1 HE.out.2.1 HB7.out HE.out.2.2.1 HE.out.2.2.2 HTA.out HTB.out _ rfl))
  have z0 := HE.out.1.frozen 0
  have z1 := HE.out.1.frozen 1
  have z2 := HE.out.1.frozen 2
  have y0 := HE.out.1.cell 0
  have y1 := HE.out.1.cell 1
  have y2 := HE.out.1.cell 2
  have x0 := HE.out.2.1.frozen 0
  have x1 := HE.out.2.1.frozen 1
  have x2 := HE.out.2.1.frozen 2
  have v0 := HE.out.2.1.cell 0
  have v1 := HE.out.2.1.cell 1
  have v2 := HE.out.2.1.cell 2
  simp at y0 y1 y2 v0 v1 v2
  clear HE HB7
  go_region
  all_goals (go_wp2_with fail; (have s0 := HD.out.2.1.cell 0); (have s1 := HD.out.2.1.cell 1); (have s2 := HD.out.2.1.cell 2); (have u0 := HD.out.2.2.cell 0); (have u1 := HD.out.2.2.cell 1); (have u2 := HD.out.2.2.cell 2); simp at s0 s1 s2 u0 u1 u2; exact bodyPost_ret (v := .tuple #[.agg #[.slice L fs[k].length lc, .slice U fs[j].length uc, .slice T (cutT fs[k] fs[j] tr).length tc], .agg #[.slice L' fs[j].length lc', .slice U' fs[i].length uc', .slice T' (cutT fs[j] fs[i] tr).length tc']]) (by simp [results, Try.results12, go_sem, s0, s1, s2, u0, u1, u2]) rfl HD.out.1)
end Go.Proofs.Ythefakiobpijiaa
