/- HELPER, no statement of the seat: several texts in one file. -/
import Derived.Test.YthefakiobpijiaaBtc
import Derived.Test.YthefakiobpijiaaMef
import Derived.Test.YthefakiobpijiaaZsq
import Derived.Test.YthefakiobpijiaaDrawF
import Derived.Test.YthefakiobpijiaaFrr
import Derived.Test.YthefakiobpijiaaDrs
import Derived.Test.YthefakiobpijiaaMeg
import Derived.Test.YthefakiobpijiaaDrh
/- HELPER, no statement of the seat: the specification's cut. -/
namespace Go.Proofs.Ythefakiobpijiaa
open Go.RowKit Go.Sort
set_option linter.unusedSimpArgs false
set_option linter.unusedVariables false

/-- The blocks from m on, but B. -/
def nwx (m B : Nat) (w : World) : Fp := fun k => m ≤ k ∧ k < w.heap.size ∧ k ≠ B
/-- One more update, beside a box. -/
theorem SlF.pushX {a w0 w1 w2 : World} {m B base : Nat} {A : Option Addr} {c : Nat} {es : List Upd} {css : List (List Value)} {F : Nat → Fp} {v' : Value} {RA : Option Addr} {rc : Nat} {xs : List Int} {p q x : Int}
    (h : SlF UpdO 4 119 w0 (nwx m B w0) A c es css F) (hB : B < w0.heap.size) (hm : m ≤ w0.heap.size) (hbm : base ≤ m) (hb0 : Below base a w0) (hb1 : Below w0.heap.size w0 w1) (ho : IntsOwn w1 w0.heap.size RA rc xs)
    (hrow : w2.ownsRow m 119 4 v' (es.length + 1) (css.flatten ++ [.slice RA xs.length rc, .int .i64 p, .int .i64 q, .int .i64 x]))
    (hg : w1.grownBy w2 (blk A)) (hl : ∀ k, v'.ownBlock = some k → blk A = some k ∨ w1.heap.size ≤ k) :
    ∃ A' c', v' = .slice A' (es.length + 1) c' ∧ UpdsOw w2 (nwx m B w2) A' c' (es ++ [((xs, (p, q)), x)]) ∧ (∀ k, k < m ∨ k = B → k < w0.heap.size → w2.heap[k]? = w0.heap[k]?) ∧ w0.heap.size ≤ w2.heap.size := by
  obtain ⟨A', c', rfl⟩ := own_slice hrow
  rw [ownBlock_slice] at hl
  have hs1 := hb1.size
  have hs2 := hg.size
  have h1 : SlF UpdO 4 119 w1 (nwx m B w0) A c es css F := h.loc updO (fun k hk => hb1.block k hk.2.1)
  have hA0 : ∀ k, blk A = some k → m ≤ k ∧ k < w0.heap.size ∧ k ≠ B := fun k hk => h.top k hk
  have hel : UpdO w1 (news w0 w1) [.slice RA xs.length rc, .int .i64 p, .int .i64 q, .int .i64 x] ((xs, (p, q)), x) := UpdO.mk (fun k hk => hk.2) (fun k hk => by
    rcases ownsRow_form ho with ⟨e, _⟩ | ⟨g, e, hg1, hg2, _⟩
    · rw [e] at hk; cases hk
    · rw [e] at hk; simp [blk] at hk; subst hk; exact ⟨hg1, hg2⟩) (ho.mono (Nat.zero_le _))
  have hb2 : ∀ k, k < w1.heap.size → blk A ≠ some k → w2.heap[k]? = w1.heap[k]? := fun k hk hn => hg.block k hk (fun e => hn e.symm)
  refine ⟨A', c', rfl, ⟨_, _, h1.push updO hel (fun k h1 h2 => by have := h1.1; have := h2.2.1; omega) (ownsRow_base0 hrow) hb2 (fun k hk => ?_) (fun k hk => ?_) (fun k hk => hk.2.1)⟩, ?_, by omega⟩
  · rcases hl k hk with h | h
    · exact .inl h
    · right; omega
  · rcases hk with hk | hk | hk
    · exact ⟨hk.1, by have := hk.2.1; omega, hk.2.2⟩
    · exact ⟨by have := hk.1; omega, by have := hk.2; omega, by have := hk.1; omega⟩
    · have h2 := World.ownsRow.lt hrow k (by rw [ownBlock_slice]; exact hk)
      refine ⟨h2.1, h2.2, fun e => ?_⟩
      rcases hl k hk with h | h
      · exact (hA0 k h).2.2 e
      · omega
  · intro k hk hlt
    refine (hb2 k (by omega) (fun e => ?_)).trans (hb1.block k hlt)
    have := hA0 k e
    omega
/-- The copy of an update. -/
def CpyU (g : Nat) (u : Upd) (v : Value) (w : World) : Prop := ∃ R rc, v = .agg #[.slice R u.1.1.length rc, .int .i64 u.1.2.1, .int .i64 u.1.2.2, .int .i64 u.2] ∧ IntsOwn w g R rc u.1.1
theorem stable_cpyU (g : Nat) (u : Upd) : Stable (CpyU g u) := fun _ _ _ hb ⟨R, rc, e, h⟩ => ⟨R, rc, e, h.below hb⟩
/-- A slice of one copied update. -/
def BldU (g : Nat) (u : Upd) (v : Value) (w : World) : Prop := ∃ G R rc, v = .slice (some ⟨G, 0, none⟩) 1 1 ∧ Blk w G 119 #[.slice R u.1.1.length rc, .int .i64 u.1.2.1, .int .i64 u.1.2.2, .int .i64 u.2] ∧ IntsOwn w g R rc u.1.1 ∧ g ≤ G
theorem stable_bldU (g : Nat) (u : Upd) : Stable (BldU g u) := fun _ _ _ hb ⟨G, R, rc, e, h, k, l⟩ => ⟨G, R, rc, e, h.below hb, k.below hb, l⟩
/-- The source of an append out of a block. -/
theorem blk_srcU {w : World} {G : Nat} {a0 a1 a2 a3 : Value} (h : Blk w G 119 #[a0, a1, a2, a3]) : ∀ a, some (⟨G, 0, none⟩ : Addr) = some a → ∀ j u, [a0, a1, a2, a3][j]? = some u → w.cell? (a.add j) = some u := by
  intro a e j u hu
  injection e with e
  subst e
  have hc := (h.cell j).trans (show (#[a0, a1, a2, a3] : Array Value)[j]? = some u by simpa using hu)
  rcases Nat.eq_zero_or_pos j with rfl | hj
  · simpa [Addr.add] using hc
  · simpa [Addr.add, Nat.ne_of_gt hj] using hc
def CutK (w w4 w6 : World) (A4 A6 : Option Addr) (c4 c6 : Nat) (lo up : List Tm) (W : World) : Prop :=
  Blk W w.heap.size 26 #[.slice none 0 0, .slice none 0 0, .slice none 0 0] ∧ TmOwn W (w.heap.size + 1) A4 c4 lo ∧ TmOwn W w4.heap.size A6 c6 up ∧ Below w.heap.size w W ∧ w6.heap.size + 2 ≤ W.heap.size ∧ (∀ k, blk A4 = some k → k < w4.heap.size) ∧ (∀ k, blk A6 = some k → k < w6.heap.size) ∧ w.heap.size < w4.heap.size ∧ w4.heap.size ≤ w6.heap.size
theorem CutK.keep {w w4 w6 W W' : World} {A4 A6 : Option Addr} {c4 c6 : Nat} {lo up : List Tm} (h : CutK w w4 w6 A4 A6 c4 c6 lo up W) (hs : W.heap.size ≤ W'.heap.size) (hk : ∀ k, k < w6.heap.size → W'.heap[k]? = W.heap[k]?) (hb : Below w.heap.size w W') : CutK w w4 w6 A4 A6 c4 c6 lo up W' := by
  obtain ⟨h1, h2, h3, h4, h5, h6, h7, h8, h9⟩ := h
  exact ⟨(hk _ (by omega)).trans h1, h2.loc (fun k e => hk k (by have := h6 k e; omega)), h3.loc (fun k e => hk k (h7 k e)), hb, by omega, h6, h7, h8, h9⟩
def cutT (lo up : List Tm) (us : List Upd) : List Upd := us.filter (fun u => inBt lo up u.1.2)

theorem hK1s {w w4 w6 W : World} {A4 A6 : Option Addr} {c4 c6 : Nat} {lo up : List Tm} (h : CutK w w4 w6 A4 A6 c4 c6 lo up W) : w.heap.size < w6.heap.size := by
  obtain ⟨h1, h2, h3, h4, h5, h6, h7, h8, h9⟩ := h
  omega
theorem cut_end {w w4 w6 W : World} {A4 A6 A' : Option Addr} {c4 c6 c' : Nat} {lo up : List Tm} {us : List Upd} (ho : UpdsOw W (nwx w6.heap.size (w6.heap.size + 1) W) A' c' us) (h : CutK w w4 w6 A4 A6 c4 c6 lo up W) (u0 u1 u2 : Value) :
    BatO (((W.setCell ⟨w.heap.size, 0, none⟩ u0).setCell ⟨w.heap.size, 1, none⟩ u1).setCell ⟨w.heap.size, 2, none⟩ u2) (news w (((W.setCell ⟨w.heap.size, 0, none⟩ u0).setCell ⟨w.heap.size, 1, none⟩ u1).setCell ⟨w.heap.size, 2, none⟩ u2)) [.slice A4 lo.length c4, .slice A6 up.length c6, .slice A' us.length c'] (lo, (up, us)) ∧ Below w.heap.size w (((W.setCell ⟨w.heap.size, 0, none⟩ u0).setCell ⟨w.heap.size, 1, none⟩ u1).setCell ⟨w.heap.size, 2, none⟩ u2) := by
  obtain ⟨h1, h2, h3, h4, h5, h6, h7, h8, h9⟩ := h
  have far : ∀ k, w.heap.size < k → (((W.setCell ⟨w.heap.size, 0, none⟩ u0).setCell ⟨w.heap.size, 1, none⟩ u1).setCell ⟨w.heap.size, 2, none⟩ u2).heap[k]? = W.heap[k]? := fun k hk =>
    (Below.heap_setCell _ _ _ _ (by simp; omega)).trans ((Below.heap_setCell _ _ _ _ (by simp; omega)).trans (Below.heap_setCell _ _ _ _ (by simp; omega)))
  have hsz : (((W.setCell ⟨w.heap.size, 0, none⟩ u0).setCell ⟨w.heap.size, 1, none⟩ u1).setCell ⟨w.heap.size, 2, none⟩ u2).heap.size = W.heap.size := by simp [World.setCell]
  have l4 := fun k hk => h2.lt k hk
  have l6 := fun k hk => h3.lt k hk
  refine ⟨BatO.mk (S1 := fun k => blk A4 = some k) (S2 := fun k => blk A6 = some k) (S3 := nwx w6.heap.size (w6.heap.size + 1) W) (fun q hq => hq.2) ⟨fun k hk => by rw [hsz]; exact (l4 k hk).2, fun k hk => hk, (h2.loc (fun k hk => far k (by have := (l4 k hk).1; omega))).mono (Nat.zero_le _)⟩ ⟨fun k hk => by rw [hsz]; exact (l6 k hk).2, fun k hk => hk, (h3.loc (fun k hk => far k (by have := (l6 k hk).1; omega))).mono (Nat.zero_le _)⟩ (ho.loc updO (fun k hk => far k (by have := hk.1; omega))) (fun q hq => ⟨⟨by have := (l4 q hq).1; omega, by rw [hsz]; exact (l4 q hq).2⟩, fun e => by have := (l6 q e).1; have := h6 q hq; omega, fun e => by have := e.1; have := h6 q hq; omega⟩) (fun q hq => ⟨⟨by have := (l6 q hq).1; omega, by rw [hsz]; exact (l6 q hq).2⟩, fun e => by have := e.1; have := h7 q hq; omega⟩) (fun q hq => ⟨by have := hq.1; omega, by rw [hsz]; exact hq.2.1⟩), bset (bset (bset h4 (by simp) _) (by simp) _) (by simp) _⟩

set_option maxRecDepth 100000 in
set_option maxHeartbeats 6400000 in
theorem cut_s (A : Option Addr) (c : Nat) (us : List Upd) (LA UA : Option Addr) (lc uc : Nat) (lo up : List Tm) (w : World) (hx : UpdsAt w A us) (h1 : TimesAt w LA lo) (h2 : TimesAt w UA up) (n0 : us.length ≤ 4194303) (r0 : rowsU us 4194304) (n1 : lo.length ≤ 4194304) (n2 : up.length ≤ 4194304) :
    Calls Try.prog 68 #[.slice A us.length c, .slice LA lo.length lc, .slice UA up.length uc] w fun e w' => ∃ L' lc' U' uc' T' tc', e = .returned (.agg #[.slice L' lo.length lc', .slice U' up.length uc', .slice T' (cutT lo up us).length tc']) ∧ BatO w' (news w w') [.slice L' lo.length lc', .slice U' up.length uc', .slice T' (cutT lo up us).length tc'] (lo, (up, cutT lo up us)) ∧ Below w.heap.size w w' := by
  obtain ⟨i0, hi, hz0, hz1, hz2⟩ := info_parts Try.infoTime
  obtain ⟨j0, hj, hy0, hy1, hy2⟩ := info_parts Try.infoUpd
  have hbZ := bal (Below.refl w.heap.size w) (.cells #[.slice none 0 0, .slice none 0 0, .slice none 0 0] 26)
  have kZ : Blk (w.alloc (.cells #[.slice none 0 0, .slice none 0 0, .slice none 0 0] 26)) w.heap.size 26 #[.slice none 0 0, .slice none 0 0, .slice none 0 0] := Blk.newAt rfl
  have hb3 := bal hbZ (.cells #[] 117)
  have kZ3 := kZ.alloc (.cells #[] 117)
  have ho3 := TmOwn.lit (w.alloc (.cells #[.slice none 0 0, .slice none 0 0, .slice none 0 0] 26))
  rw [show (w.alloc (.cells #[.slice none 0 0, .slice none 0 0, .slice none 0 0] 26)).heap.size = w.heap.size + 1 by simp] at ho3
  have hs1 := tms_src (h1.below hb3)
  go_enter Try.func68, Try.ntmps68
  go_wp2_with (at_builtin; refine wpList_append_src _ rfl _ _ 23 rfl (w.heap.size + 1) 117 i0 (.agg #[.int .i64 0, .int .i64 0]) 2 16 Try.underlying23 hi hz0 hz1 hz2 rfl (by decide) _ _ _ rfl ho3 LA lo.length lc (timeL lo) rfl (timeL_len lo) hs1.1 hs1.2 (tms_one lo) (by simp [maxLen]; omega) (by simp; omega) (by simp) ?_)
  intro v' w4 hown' hgrow _
  have hsz3 : w.heap.size + 2 ≤ w4.heap.size := by have := hgrow.size; simpa using this
  have hb4 : Below w.heap.size w w4 := hb3.grown hgrow (by simp; omega) (fun k hk => by have := (ho3.lt k (by rw [ownBlock_slice] at hk; exact hk)).1; omega)
  have kZ4 : Blk w4 w.heap.size 26 #[.slice none 0 0, .slice none 0 0, .slice none 0 0] := (hgrow.block w.heap.size (by simp; omega) (fun e => by have := (ho3.lt _ e.symm).1; omega)).trans kZ3
  obtain ⟨A4, c4, hv⟩ := own_slice hown'
  subst hv
  have ho4 : TmOwn w4 (w.heap.size + 1) A4 c4 lo := by unfold TmOwn; simpa [timeL] using hown'
  have hb5 := bal hb4 (.cells #[] 117)
  have ho5 := TmOwn.lit w4
  have hs2 := tms_src (h2.below hb5)
  try simp only [List.length_nil, Nat.zero_add] at *
  clear hown' hgrow hb3 ho3 hs1 kZ kZ3 hbZ
  go_wp2_with (at_builtin; refine wpList_append_src _ rfl _ _ 23 rfl w4.heap.size 117 i0 (.agg #[.int .i64 0, .int .i64 0]) 2 16 Try.underlying23 hi hz0 hz1 hz2 rfl (by decide) _ _ _ rfl ho5 UA up.length uc (timeL up) rfl (timeL_len up) hs2.1 hs2.2 (tms_one up) (by simp [maxLen]; omega) (by simp; omega) (by simp) ?_)
  intro v' w6 hown' hgrow _
  have hsz5 : w4.heap.size + 1 ≤ w6.heap.size := by have := hgrow.size; simpa using this
  have hb6 : Below w.heap.size w w6 := hb5.grown hgrow (by simp; omega) (fun k hk => by have := (ho5.lt k (by rw [ownBlock_slice] at hk; exact hk)).1; omega)
  have kZ6 : Blk w6 w.heap.size 26 #[.slice none 0 0, .slice none 0 0, .slice none 0 0] := (hgrow.block w.heap.size (by simp; omega) (fun e => by have := (ho5.lt _ e.symm).1; omega)).trans (kZ4.alloc _)
  have ho46 : TmOwn w6 (w.heap.size + 1) A4 c4 lo := ho4.loc (fun k hk => (hgrow.block k (by have := (ho4.lt k hk).2; simp; omega) (fun e => by have := (ho5.lt k e.symm).1; have := (ho4.lt k hk).2; omega)).trans (Below.heap_alloc _ _ _ (ho4.lt k hk).2))
  obtain ⟨A6, c6, hv⟩ := own_slice hown'
  subst hv
  have ho6 : TmOwn w6 w4.heap.size A6 c6 up := by unfold TmOwn; simpa [timeL] using hown'
  have hl4 := fun k hk => (ho4.lt k hk).2
  try simp only [List.length_nil, Nat.zero_add] at *
  clear hown' hgrow hb5 ho5 hs2 kZ4 hb4 ho4
  have hl6 := fun k hk => (ho6.lt k hk).2
  have hmade := SlF.made UpdO 4 119 w6 #[] 0 (by simp [maxLen]) (by simp) (S := nwx w6.heap.size (w6.heap.size + 1) ((w6.alloc (.cells #[] 119)).alloc (.cells #[.slice A4 lo.length c4, .slice A6 up.length c6, .slice (some ⟨w6.heap.size, 0, none⟩) 0 0] 26))) ⟨Nat.le_refl _, by simp; omega, by omega⟩ (fun k hk => by have h1 := hk.2.1; have h2 := hk.2.2; simp at h1 ⊢; omega)
  have HU : Hid (UpdsOw ((w6.alloc (.cells #[] 119)).alloc (.cells #[.slice A4 lo.length c4, .slice A6 up.length c6, .slice (some ⟨w6.heap.size, 0, none⟩) 0 0] 26)) (nwx w6.heap.size (w6.heap.size + 1) ((w6.alloc (.cells #[] 119)).alloc (.cells #[.slice A4 lo.length c4, .slice A6 up.length c6, .slice (some ⟨w6.heap.size, 0, none⟩) 0 0] 26))) (some ⟨w6.heap.size, 0, none⟩) 0 []) := ⟨_, _, hmade.loc updO (fun k hk => Below.heap_alloc _ _ k (by have h1 := hk.2.1; have h2 := hk.2.2; simp at h1 ⊢; omega))⟩
  have HB0 : Hid (Blk ((w6.alloc (.cells #[] 119)).alloc (.cells #[.slice A4 lo.length c4, .slice A6 up.length c6, .slice (some ⟨w6.heap.size, 0, none⟩) 0 0] 26)) (w6.heap.size + 1) 26 #[.slice A4 lo.length c4, .slice A6 up.length c6, .slice (some ⟨w6.heap.size, 0, none⟩) 0 0]) := Blk.newAt (by simp)
  have HK0 : Hid (CutK w w4 w6 A4 A6 c4 c6 lo up ((w6.alloc (.cells #[] 119)).alloc (.cells #[.slice A4 lo.length c4, .slice A6 up.length c6, .slice (some ⟨w6.heap.size, 0, none⟩) 0 0] 26))) := ⟨(kZ6.alloc _).alloc _, (ho46.below (bal (Below.refl _ _) _)).below (bal (Below.refl _ _) _), (ho6.below (bal (Below.refl _ _) _)).below (bal (Below.refl _ _) _), bal (bal hb6 _) _, by simp, hl4, hl6, by omega, by omega⟩
  clear hb6 kZ6 ho46 ho6 hl4 hl6 hmade
  go_wp2
  go_loopw [8] (fun i wr => ∃ k A' c', k ≤ us.length ∧ i = .int .i64 (k : Nat) ∧ UpdsOw wr (nwx w6.heap.size (w6.heap.size + 1) wr) A' c' (cutT lo up (us.take k)) ∧ Blk wr (w6.heap.size + 1) 26 #[.slice A4 lo.length c4, .slice A6 up.length c6, .slice A' (cutT lo up (us.take k)).length c'] ∧ CutK w w4 w6 A4 A6 c4 c6 lo up wr) (fun i _ => us.length - (intOf i).toNat)
  case atStart => exact ⟨0, _, 0, by omega, rfl, HU.out, HB0.out, HK0.out⟩
  case round =>
    obtain ⟨k, A', c', hk, rfl, ⟨css, F, hown⟩, kB, hK⟩ := hrel
    clear HU HB0 HK0
    have hbel := hK.2.2.2.1
    have hz2 := hK.2.2.2.2.1
    by_cases hlt : k < us.length
    · have hkI : (k : Int) < us.length := by omega
      obtain ⟨b, off, RA, rc, rfl, hbl, hc0, hc1, hc2, hc3, hml, hrow0⟩ := hx.get k hlt
      have q0 := (hbel.cell (p := ⟨b, off + k * 4, none⟩) hbl).trans hc0
      have q1 := (hbel.cell (p := ⟨b, off + k * 4 + 1, none⟩) hbl).trans hc1
      have q2 := (hbel.cell (p := ⟨b, off + k * 4 + 2, none⟩) hbl).trans hc2
      have q3 := (hbel.cell (p := ⟨b, off + k * 4 + 3, none⟩) hbl).trans hc3
      have hrl := r0.get hlt
      have hdl : (cutT lo up (us.take k)).length ≤ k := Nat.le_trans (List.length_filter_le _ _) (by simp; omega)
      have hst : cutT lo up (us.take (k + 1)) = cutT lo up (us.take k) ++ if inBt lo up us[k].1.2 = true then [us[k]] else [] := by
        unfold cutT
        rw [List.take_succ_eq_append_getElem hlt, List.filter_append]
        congr 1
        by_cases h : inBt lo up us[k].1.2 = true <;> simp [h]
      have p2 := kB.cell 2
      simp at p2
      have hcon := inBatch_s LA UA lc uc lo up us[k].1.2.1 us[k].1.2.2 wr (h1.below hbel) (h2.below hbel) n1 n2
      have HO := Lib.hid hown
      have HK := Lib.hid hK
      have HKB := Lib.hid kB
      clear hown hK kB
      generalize hM : cutT lo up (us.take k) = M at *
      clear hM
      cases hr : inBt lo up us[k].1.2
      · have hr' : inBt lo up (us[k].1.2.1, us[k].1.2.2) = false := hr
        rw [hr'] at hcon
        rw [hr, if_neg (by simp), List.append_nil] at hst
        have HST := Lib.hid hst
        clear hst hr hr'
        go_wp2_with fail
        refine hcon.mono ?_
        rintro e w1 ⟨rfl, b1⟩
        have HR : Hid (UpdsOw w1 (nwx w6.heap.size (w6.heap.size + 1) w1) A' c' (cutT lo up (us.take (k + 1))) ∧ Blk w1 (w6.heap.size + 1) 26 #[.slice A4 lo.length c4, .slice A6 up.length c6, .slice A' (cutT lo up (us.take (k + 1))).length c'] ∧ CutK w w4 w6 A4 A6 c4 c6 lo up w1) := by
          have hs := b1.size
          rw [Hid, HST.out]
          exact ⟨⟨css, F, (HO.out.loc updO (fun q hq => b1.block q hq.2.1)).mono (fun q hq => ⟨hq.1, Nat.lt_of_lt_of_le hq.2.1 hs, hq.2.2⟩) (fun q hq => hq.2.1)⟩, HKB.out.below b1, HK.out.keep hs (fun q hq => b1.block q (by have := HK.out.2.2.2.2.1; omega)) (btr HK.out.2.2.2.1 b1)⟩
        clear hcon b1 q0 q1 q2 q3 p2 hbel hrow0 hc0 hc1 hc2 hc3
        go_wp2
        go_roundw
        case rel => exact ⟨k + 1, A', c', by omega, by go_num, HR.out⟩
        case measure => simp [intOf]; omega
      · have hr' : inBt lo up (us[k].1.2.1, us[k].1.2.2) = true := hr
        rw [hr'] at hcon
        rw [hr, if_pos rfl] at hst
        have HST := Lib.hid hst
        clear hst hr hr'
        go_wp2_with fail
        refine hcon.mono ?_
        rintro e w1 ⟨rfl, b1⟩
        have hs1 := b1.size
        have hbel1 := btr hbel b1
        have hbl1 : b < w1.heap.size := Nat.lt_of_lt_of_le hbl hbel1.size
        have kB1 := HKB.out.below b1
        have hrow := hrow0.below hbel1
        have hO1 : SlF UpdO 4 119 w1 (nwx w6.heap.size (w6.heap.size + 1) w1) A' c' M css F := (HO.out.loc updO (fun q hq => b1.block q hq.2.1)).mono (fun q hq => ⟨hq.1, Nat.lt_of_lt_of_le hq.2.1 hs1, hq.2.2⟩) (fun q hq => hq.2.1)
        have hK1 : CutK w w4 w6 A4 A6 c4 c6 lo up w1 := HK.out.keep hs1 (fun q hq => b1.block q (by omega)) hbel1
        have HF1 := Lib.hid (And.intro hO1 hK1)
        clear q0 q1 q2 q3 p2 hO1 hK1 hcon HO HK HKB
        have q0 := (hbel1.cell (p := ⟨b, off + k * 4, none⟩) hbl).trans hc0
        have q1 := (hbel1.cell (p := ⟨b, off + k * 4 + 1, none⟩) hbl).trans hc1
        have q2 := (hbel1.cell (p := ⟨b, off + k * 4 + 2, none⟩) hbl).trans hc2
        have q3 := (hbel1.cell (p := ⟨b, off + k * 4 + 3, none⟩) hbl).trans hc3
        go_wp2_with fail
        refine wp_region_facts [[], [0], [], [], [2, 3], [2, 3, 4], [2, 3, 4, 5], [2, 3, 4, 5, 6]]
          [fun v' _ => v' = .pointer (some ⟨w6.heap.size + 1, 2, none⟩), fun v' _ => v' = .slice A' M.length c', fun v' _ => v' = .slice (some ⟨b, off, none⟩) us.length c, fun v' _ => v' = .int .i64 ((k : Nat)), fun v' _ => v' = .pointer (some ⟨b, off + k * 4, none⟩), fun v' _ => v' = .agg #[.slice RA us[k].1.1.length rc, .int .i64 us[k].1.2.1, .int .i64 us[k].1.2.2, .int .i64 us[k].2], CpyU w1.heap.size us[k], BldU w1.heap.size us[k]]
          (by kernel_rfl) (by kernel_rfl) rfl ⟨stable_pure _, stable_pure _, stable_pure _, stable_pure _, stable_pure _, stable_pure _, stable_cpyU _ _, stable_bldU _ _, trivial⟩ ?_
        refine wf_stepK [] [] (by kernel_rfl) (by kernel_rfl) (fun wf hb hf => ?_) (fun t0 => ?_)
        · refine ⟨?_⟩
          go_wp2
          exact ⟨rfl, .pointer (some ⟨w6.heap.size + 1, 2, none⟩), by kernel_rfl, Below.refl _ _, rfl⟩
        refine wf_stepK [0] [fun _ => t0 = .pointer (some ⟨w6.heap.size + 1, 2, none⟩)] (by kernel_rfl) (by kernel_rfl) (fun wf hb hf => ?_) (fun t1 => ?_)
        · obtain ⟨rfl, -⟩ := hf
          refine ⟨?_⟩
          have p0 := (kB1.below hb).cell 2
          simp at p0
          go_wp2
          exact ⟨rfl, .slice A' M.length c', by kernel_rfl, Below.refl _ _, rfl⟩
        refine wf_stepK [] [] (by kernel_rfl) (by kernel_rfl) (fun wf hb hf => ?_) (fun t2 => ?_)
        · refine ⟨?_⟩
          go_wp2
          exact ⟨rfl, .slice (some ⟨b, off, none⟩) us.length c, by kernel_rfl, Below.refl _ _, rfl⟩
        refine wf_stepK [] [] (by kernel_rfl) (by kernel_rfl) (fun wf hb hf => ?_) (fun t3 => ?_)
        · refine ⟨?_⟩
          go_wp2
          exact ⟨rfl, .int .i64 ((k : Nat)), by kernel_rfl, Below.refl _ _, rfl⟩
        refine wf_stepK [2, 3] [fun _ => t2 = .slice (some ⟨b, off, none⟩) us.length c, fun _ => t3 = .int .i64 ((k : Nat))] (by kernel_rfl) (by kernel_rfl) (fun wf hb hf => ?_) (fun t4 => ?_)
        · obtain ⟨rfl, rfl, -⟩ := hf
          refine ⟨?_⟩
          go_wp2
          exact ⟨rfl, .pointer (some ⟨b, off + k * 4, none⟩), by kernel_rfl, Below.refl _ _, rfl⟩
        refine wf_stepK [4] [fun _ => t4 = .pointer (some ⟨b, off + k * 4, none⟩)] (by kernel_rfl) (by kernel_rfl) (fun wf hb hf => ?_) (fun t5 => ?_)
        · obtain ⟨rfl, -⟩ := hf
          refine ⟨?_⟩
          have p0 := (hb.cell (p := ⟨b, off + k * 4, none⟩) hbl1).trans q0
          have p1 := (hb.cell (p := ⟨b, off + k * 4 + 1, none⟩) hbl1).trans q1
          have p2 := (hb.cell (p := ⟨b, off + k * 4 + 2, none⟩) hbl1).trans q2
          have p3 := (hb.cell (p := ⟨b, off + k * 4 + 3, none⟩) hbl1).trans q3
          go_wp2
          exact ⟨rfl, .agg #[.slice RA us[k].1.1.length rc, .int .i64 us[k].1.2.1, .int .i64 us[k].1.2.2, .int .i64 us[k].2], by kernel_rfl, Below.refl _ _, rfl⟩
        refine wf_stepK [5] [fun _ => t5 = .agg #[.slice RA us[k].1.1.length rc, .int .i64 us[k].1.2.1, .int .i64 us[k].1.2.2, .int .i64 us[k].2]] (by kernel_rfl) (by kernel_rfl) (fun wf hb hf => ?_) (fun t6 => ?_)
        · obtain ⟨rfl, -⟩ := hf
          refine ⟨?_⟩
          go_wp2_with (go_at_call 136; refine (copyUpdate_s _ _ _ _ _ _ _ (hrow.below hb) hrl).mono ?_; rintro e w2 ⟨RX, rcx, rfl, hox, hb2⟩)
          exact ⟨rfl, .agg #[.slice RX us[k].1.1.length rcx, .int .i64 us[k].1.2.1, .int .i64 us[k].1.2.2, .int .i64 us[k].2], by kernel_rfl, hb2, RX, rcx, rfl, hox.mono hb.size⟩
        refine wf_stepK [6] [CpyU w1.heap.size us[k] t6] (by kernel_rfl) (by kernel_rfl) (fun wf hb hf => ?_) (fun t7 => ?_)
        · obtain ⟨⟨R', rc', rfl, ho⟩, -⟩ := hf
          refine ⟨?_⟩
          go_wp2
          exact ⟨rfl, .slice (some ⟨wf.heap.size, 0, none⟩) 1 1, by kernel_rfl, bal (Below.refl _ _) _, wf.heap.size, R', rc', rfl, Blk.newAt rfl, ho.below (bal (Below.refl _ _) _), hb.size⟩
        refine wf_doneK [1, 7] [fun _ => t1 = .slice A' M.length c', BldU w1.heap.size us[k] t7] (by kernel_rfl) (by kernel_rfl) (fun w50 b50 hf => ?_)
        obtain ⟨rfl, ⟨G, R', rc', rfl, hG, ho, hgl⟩, -⟩ := hf
        show wpList _ _ _ [_, _, _] _ _
        refine wpList_frame (by simp [Act.put]; rfl) ?_
        have hs50 := b50.size
        have hF1 := HF1.out.1
        have hrow50 := ownsRow_base ((hF1.loc updO (fun q hq => b50.block q hq.2.1)).row) (base := w6.heap.size) (fun q hq => (hF1.top q hq).1)
        clear q0 q1 q2 q3
        go_wp2_with (at_builtin; refine wpList_append_src _ rfl _ _ 24 rfl w6.heap.size 119 j0 (.agg #[.slice none 0 0, .int .i64 0, .int .i64 0, .int .i64 0]) 4 48 Try.underlying24 hj hy0 hy1 hy2 rfl (by decide) _ _ _ rfl hrow50 (some ⟨G, 0, none⟩) 1 1 [.slice R' us[k].1.1.length rc', .int .i64 us[k].1.2.1, .int .i64 us[k].1.2.2, .int .i64 us[k].2] rfl rfl (fun h => by cases h) (blk_srcU hG) upd_ones (by unfold maxLen; omega) (by omega) (by omega) ?_)
        intro v' w3 hown' hgrow hloc
        rw [ownBlock_slice] at hgrow hloc
        have hp := hF1.pushX (by omega) (by omega) (base := w.heap.size) (by have := hK1s HF1.out.2; omega) hbel1 b50 ho hown' hgrow hloc
        obtain ⟨A3, c3, rfl, ho3, hkeep, hsz⟩ := hp
        have kB3 : Blk w3 (w6.heap.size + 1) 26 #[.slice A4 lo.length c4, .slice A6 up.length c6, .slice A' M.length c'] := (hkeep _ (.inr rfl) (by omega)).trans kB1
        have hB3 : Below w.heap.size w w3 := (btr hbel1 b50).grown hgrow (by have := hbel1.size; omega) (fun q hq => by have := (hF1.top q hq).1; have := hK1s HF1.out.2; omega)
        have hK3 : CutK w w4 w6 A4 A6 c4 c6 lo up w3 := HF1.out.2.keep hsz (fun q hq => hkeep q (.inl hq) (by omega)) hB3
        have HR : Hid (UpdsOw (w3.setCell ⟨w6.heap.size + 1, 2, none⟩ (.slice A3 (M.length + 1) c3)) (nwx w6.heap.size (w6.heap.size + 1) (w3.setCell ⟨w6.heap.size + 1, 2, none⟩ (.slice A3 (M.length + 1) c3))) A3 c3 (cutT lo up (us.take (k + 1))) ∧ Blk (w3.setCell ⟨w6.heap.size + 1, 2, none⟩ (.slice A3 (M.length + 1) c3)) (w6.heap.size + 1) 26 #[.slice A4 lo.length c4, .slice A6 up.length c6, .slice A3 (cutT lo up (us.take (k + 1))).length c3] ∧ CutK w w4 w6 A4 A6 c4 c6 lo up (w3.setCell ⟨w6.heap.size + 1, 2, none⟩ (.slice A3 (M.length + 1) c3))) := by
          rw [Hid, HST.out]
          have hll : (M ++ [us[k]]).length = M.length + 1 := by simp
          rw [hll]
          refine ⟨(ho3.loc updO (fun q hq => Below.heap_setCell _ _ _ _ hq.2.2)).mono (fun q hq => ⟨hq.1, by simpa [World.setCell] using hq.2.1, hq.2.2⟩) (fun q hq => hq.2.1), by simpa using kB3.set_ 2 (.slice A3 (M.length + 1) c3), hK3.keep (by simp [World.setCell]) (fun q hq => Below.heap_setCell _ _ _ _ (by simp; omega)) (bset hB3 (by simp; have := hK1s HF1.out.2; omega) _)⟩
        have cB := kB3.cell 2
        have fB := kB3.frozen 2
        simp at cB
        clear hown' hgrow hloc ho3 hkeep kB3 hB3 hK3 hF1 hrow50 b50 hG ho hgl HF1 hbel hbel1 hrow hrow0 hc0 hc1 hc2 hc3 kB1 b1
        go_wp2
        go_roundw
        case rel => exact ⟨k + 1, A3, c3, by omega, by go_num, HR.out⟩
        case measure => simp [intOf]; omega
    · obtain rfl : k = us.length := by omega
      rw [List.take_length] at kB hown
      have hg := hK.2.2.2.2.2
      have z0 := hK.1.frozen 0
      have z1 := hK.1.frozen 1
      have z2 := hK.1.frozen 2
      have y0 := hK.1.cell 0
      have y1 := hK.1.cell 1
      have y2 := hK.1.cell 2
      have p0 := kB.cell 0
      have p1 := kB.cell 1
      have p2 := kB.cell 2
      simp at p0 p1 p2 y0 y1 y2
      have KZ := Lib.hid (((hK.1.set_ 0 (.slice A4 lo.length c4)).set_ 1 (.slice A6 up.length c6)).set_ 2 (.slice A' (cutT lo up us).length c'))
      have HR : Hid (UpdsOw wr (nwx w6.heap.size (w6.heap.size + 1) wr) A' c' (cutT lo up us) ∧ CutK w w4 w6 A4 A6 c4 c6 lo up wr) := ⟨⟨css, F, hown⟩, hK⟩
      clear hK hown kB hbel
      go_wp2_with fail
      have s0 := KZ.out.cell 0
      have s1 := KZ.out.cell 1
      have s2 := KZ.out.cell 2
      simp at s0 s1 s2
      exact bodyPost_ret (v := .agg #[.slice A4 lo.length c4, .slice A6 up.length c6, .slice A' (cutT lo up us).length c']) (by simp [results, Try.results68, go_sem, s0, s1, s2]) rfl ⟨A4, c4, A6, c6, A', c', rfl, cut_end HR.out.1 HR.out.2 _ _ _⟩
end Go.Proofs.Ythefakiobpijiaa

/- HELPER, no statement of the seat: the generator of chains of frontiers. -/
namespace Go.Proofs.Ythefakiobpijiaa
open Go.RowKit Go.Sort
set_option linter.unusedSimpArgs false
set_option linter.unusedVariables false

abbrev FsOw (w : World) (S : Fp) (A : Option Addr) (c : Nat) (fs : List (List Tm)) : Prop := SlOw TmlO 1 23 w S A c fs
theorem Try.infoTml : (Try.prog.info? 23).map (fun i => (i.zero, i.size, i.bytes)) = some (some (.slice none 0 0), 1, 24) := by kernel_rfl
/-- One more frontier, in a row that holds the ones before it. -/
theorem SlF.nextT {w0 wr w2 w3 : World} {A : Option Addr} {c : Nat} {fs : List (List Tm)} {css : List (List Value)} {F : Nat → Fp} {g : Nat} {LA : Option Addr} {lc : Nat} {la : List Tm} {v' : Value}
    (h : SlF TmlO 1 23 wr (news w0 wr) A c fs css F) (hw : w0.heap.size ≤ wr.heap.size) (hg : wr.grownBy w2 (some g)) (hg0 : g < w0.heap.size) (hz : TmOwn w2 wr.heap.size LA lc la)
    (hrow : w3.ownsRow w0.heap.size 23 1 v' (fs.length + 1) (css.flatten ++ [.slice LA la.length lc])) (hgrow : w2.grownBy w3 (blk A)) (hl : ∀ k, v'.ownBlock = some k → blk A = some k ∨ w2.heap.size ≤ k) :
    ∃ A' c', v' = .slice A' (fs.length + 1) c' ∧ A' ≠ none ∧ FsOw w3 (news w0 w3) A' c' (fs ++ [la]) := by
  obtain ⟨A', c', rfl⟩ := own_slice hrow
  rw [ownBlock_slice] at hl
  have hs1 := hg.size
  have hs3 := hgrow.size
  have h2 := h.loc tmlO (w' := w2) (fun k hk => hg.block k hk.2 (fun e => by injection e with e; have := hk.1; omega))
  have hz2 : TmlO w2 (news wr w2) [.slice LA la.length lc] la := ⟨LA, lc, rfl, TmOwS.ofOwn hz⟩
  refine ⟨A', c', rfl, fun e => ?_, _, _, SlF.push tmlO h2 hz2 (U := news w0 w3) (fun k h1 h2 => by have := h1.1; have := h2.2; omega) (ownsRow_base0 hrow) (fun k hk hn => hgrow.block k hk (fun e => hn e.symm)) hl (fun k hk => ?_) (fun k hk => hk.2)⟩
  · rcases ownsRow_form hrow with ⟨_, _, h0⟩ | ⟨g', e', _⟩
    · omega
    · rw [e] at e'; cases e'
  have hlt := World.ownsRow.lt hrow
  rcases hk with hk | hk | hk
  · exact ⟨hk.1, by have := hk.2; omega⟩
  · exact ⟨by have := hk.1; omega, by have := hk.2; omega⟩
  · have := hlt k (by rw [ownBlock_slice]; exact hk)
    exact ⟨this.1, this.2⟩
def fsB (fs : List (List Tm)) : Prop := ∀ f ∈ fs, f.length ≤ 81
theorem fsB.snoc {fs : List (List Tm)} {f : List Tm} (h : fsB fs) (k : f.length ≤ 81) : fsB (fs ++ [f]) := fun y hy => by
  rcases List.mem_append.1 hy with hy | hy
  · exact h y hy
  · simp at hy; subst hy; exact k
def ChnR (w : World) (g : Nat) (A : Option Addr) (n c : Nat) (p : Int) (m : Nat) (e : Ending) (w' : World) : Prop :=
  ∃ (fs : List (List Tm)) (A' : Option Addr) (c' : Nat) (q : Int), e = .returned (.slice A' fs.length c') ∧ FsOw w' (news w w') A' c' fs ∧ fs.length = m + 1 ∧ fsB fs ∧ A' ≠ none ∧ p ≤ q ∧ q ≤ p + 60 * (m : Int) ∧ Rdr w' g A n c q ∧ w.grownBy w' (some g)
theorem chn_start (w : World) : FsOw (((w.alloc (.cells #[.int .i64 0, .int .i64 0] 117)).alloc (.cells #[.slice (some ⟨w.heap.size, 0, none⟩) 1 1] 23))) (news w ((w.alloc (.cells #[.int .i64 0, .int .i64 0] 117)).alloc (.cells #[.slice (some ⟨w.heap.size, 0, none⟩) 1 1] 23))) (some ⟨w.heap.size + 1, 0, none⟩) 1 [[(0, 0)]] := by
  have hT : TmOwn (w.alloc (.cells #[.int .i64 0, .int .i64 0] 117)) w.heap.size (some ⟨w.heap.size, 0, none⟩) 1 [(0, 0)] := TmOwn.ofBlk (Blk.newAt rfl) (Nat.le_refl _) (by simp [maxLen])
  have hx : TmlO (w.alloc (.cells #[.int .i64 0, .int .i64 0] 117)) (news w (w.alloc (.cells #[.int .i64 0, .int .i64 0] 117))) [.slice (some ⟨w.heap.size, 0, none⟩) 1 1] [(0, 0)] := ⟨_, _, rfl, TmOwS.ofOwn hT⟩
  have hn : SlF TmlO 1 23 (w.alloc (.cells #[.int .i64 0, .int .i64 0] 117)) (fun _ => False) none 0 [] [] (fun _ _ => False) := SlF.nil (fun k h => h.elim)
  have hrow := World.ownsRow_lit (base := 0) (size := 1) (e := 23) (w.alloc (.cells #[.int .i64 0, .int .i64 0] 117)) #[.slice (some ⟨w.heap.size, 0, none⟩) 1 1] 1 (Nat.zero_le _) (by simp [maxLen]) (by simp)
  rw [show (w.alloc (.cells #[.int .i64 0, .int .i64 0] 117)).heap.size = w.heap.size + 1 by simp] at hrow
  have hp := SlF.push tmlO hn hx (U := news w ((w.alloc (.cells #[.int .i64 0, .int .i64 0] 117)).alloc (.cells #[.slice (some ⟨w.heap.size, 0, none⟩) 1 1] 23))) (A' := some ⟨w.heap.size + 1, 0, none⟩) (c' := 1) (fun k _ h => h.elim) (by simpa using hrow) (fun k hk _ => Below.heap_alloc _ _ k hk) (fun k hk => by simp [blk] at hk; right; simp; omega) (fun k hk => by
    rcases hk with hk | hk | hk
    · exact hk.elim
    · exact ⟨hk.1, by have := hk.2; simp at this ⊢; omega⟩
    · simp [blk] at hk; exact ⟨by omega, by simp; omega⟩) (fun k hk => hk.2)
  exact ⟨_, _, hp⟩
set_option maxRecDepth 100000 in
set_option maxHeartbeats 6400000 in
theorem chain_r (g : Nat) (A : Option Addr) (n c : Nat) (p : Int) (m : Nat) (w : World) (hr : Rdr w g A n c p) (hp : p + 400 ≤ 1000000000) (hm : 1 ≤ m) (hm4 : m ≤ 4) :
    Calls Try.prog 64 #[.pointer (some ⟨g, 0, none⟩), .int .i64 (m : Int)] w (ChnR w g A n c p m) := by
  obtain ⟨i0, hi, hz0, hz1, hz2⟩ := info_parts Try.infoTime
  obtain ⟨k0, hk, hy0, hy1, hy2⟩ := info_parts Try.infoTml
  have hlt := hr.1.lt
  have HS0 := Lib.hid (chn_start w)
  have HR0 := Lib.hid (((hr.alloc (.cells #[.int .i64 0, .int .i64 0] 117)).alloc (.cells #[.slice (some ⟨w.heap.size, 0, none⟩) 1 1] 23)).alloc (.cells #[.int .i64 0, .int .i64 0] 117))
  have HB0 : Hid (Below w.heap.size w (((w.alloc (.cells #[.int .i64 0, .int .i64 0] 117)).alloc (.cells #[.slice (some ⟨w.heap.size, 0, none⟩) 1 1] 23)).alloc (.cells #[.int .i64 0, .int .i64 0] 117))) := bal (bal (bal (Below.refl _ _) _) _) _
  clear hr
  go_enter Try.func64, Try.ntmps64
  go_wp2
  go_loopw [5, 6, 7] (fun out last iv wr => ∃ (i : Nat) (fs : List (List Tm)) (A' LA : Option Addr) (c' lc : Nat) (la : List Tm) (q : Int), 1 ≤ i ∧ i ≤ m ∧ iv = .int .i64 i ∧ out = .slice A' fs.length c' ∧ last = .slice LA la.length lc ∧ fs.length = i ∧ FsOw wr (news w wr) A' c' fs ∧ fsB fs ∧ A' ≠ none ∧ TmOwn wr w.heap.size LA lc la ∧ la.length ≤ 3 ^ (i - 1) ∧ p ≤ q ∧ q ≤ p + 60 * (i : Int) - 60 ∧ Rdr wr g A n c q ∧ w.grownBy wr (some g)) (fun _ _ iv _ => m - (intOf iv).toNat)
  case atStart =>
    refine ⟨1, [[(0, 0)]], _, _, 1, 1, [(0, 0)], p, by omega, by omega, rfl, rfl, rfl, rfl, (HS0.out.below tmlO (bal (Below.refl _ _) _)).mono (fun q hq => ⟨hq.1, by have := hq.2; simp at this ⊢; omega⟩) (fun q hq => hq.2), fun f hf => by simp at hf; subst hf; simp, by simp, TmOwn.ofBlk (Blk.newAt (by simp)) (by omega) (by simp [maxLen]), by simp, by omega, by omega, HR0.out, gbel HB0.out⟩
  case round =>
    obtain ⟨i, fs, A', LA, c', lc, la, q, h1, him, rfl, rfl, rfl, hfl, ⟨css, F, hown⟩, hfb, hA', hla, hl3, hq0, hq1, hrd, hgr⟩ := hrel
    clear HS0 HR0 HB0
    have hsr := hgr.size
    have HFL := Lib.hid hfl
    have hf5 : fs.length ≤ 5 := by omega
    clear hfl
    have hpw : 3 ^ (i - 1) ≤ 27 := by
      have : 3 ^ (i - 1) ≤ 3 ^ 3 := Nat.pow_le_pow_right (by omega) (by omega)
      simpa using this
    by_cases hlm : i < m
    · have hmI : (i : Int) < m := by omega
      have HF := Lib.hid (And.intro hown (And.intro hfb hgr))
      have HP : Hid (3 ^ (i - 1) * 3 = 3 ^ (i + 1 - 1)) := by
        rw [Hid, show i + 1 - 1 = (i - 1) + 1 by omega, Nat.pow_succ]
      clear hown hfb hgr
      go_wp2_with fail
      refine (randomTimes_r g A n c q 2 wr hrd (by omega) (by omega)).mono ?_
      rintro e w1 ⟨z, A1, c1, q1, rfl, ho1, hzl, hq2, hq3, r1, g1⟩
      have HL1 := Lib.hid (And.intro hla g1)
      have hs1 := g1.size
      clear hrd hla g1
      go_wp2_with fail
      refine (pick_r _ _ _ _ _ _ _ r1 (by omega) (by omega)).mono ?_
      rintro e w2 ⟨x, rfl, x0, x1, r2, g2⟩
      have ho2 := ho1.keptG g2 (by omega)
      have HG2 := Lib.hid (HL1.out.2.trans g2)
      have hs2 := g2.size
      clear ho1 r1 g2 x1
      go_wp2_with fail
      refine (pick_r _ _ _ _ _ _ _ r2 (by omega) (by omega)).mono ?_
      rintro e w3 ⟨y, rfl, y0, y1, r3, g3⟩
      have ho3 := ho2.keptG g3 (by omega)
      have HG3 := Lib.hid (HG2.out.trans g3)
      have hs3 := g3.size
      have hcap := ho3.cap
      clear ho2 r2 g3 y1 HG2
      go_wp2_with (at_builtin; refine wpList_append_src _ rfl _ _ 23 rfl wr.heap.size 117 i0 (.agg #[.int .i64 0, .int .i64 0]) 2 16 Try.underlying23 hi hz0 hz1 hz2 rfl (by decide) _ _ _ rfl (World.ownsRow.alloc ho3 _) (some ⟨w3.heap.size, 0, none⟩) 1 1 [.int .i64 x, .int .i64 y] rfl rfl (fun h => by cases h) (tm_srcs _ _) (tm_ones _ _) (by unfold maxLen; omega) (by omega) (by simp; omega) ?_)
      intro v' w5 hown' hgrow hloc
      have hg5 : wr.grownBy w5 (some g) := (gal HG3.out _).andThen hgrow (fun j hj => .inl (ho3.lt j (by rw [ownBlock_slice] at hj; exact hj)).1)
      have hr5 : Rdr w5 g A n c (q1 + 1 + 1) := (r3.alloc _).keptG hgrow (fun k hk => by have := (ho3.lt k (by rw [ownBlock_slice] at hk; exact hk)).1; omega)
      obtain ⟨A5, c5, rfl, ho5⟩ := TmOwn.push hown'
      have hla5 := HL1.out.1.keptG hg5 hlt
      have hmul : la.length * (z.length + 1) ≤ 3 ^ (i - 1) * 3 := Nat.mul_le_mul hl3 (by omega)
      have hcon := joins_s LA A5 lc c5 la (z ++ [(x, y)]) w5 hla5.at_ ho5.at_ (by omega) (by simp; omega)
      rw [List.length_append, List.length_singleton] at hcon
      have H5 := Lib.hid (And.intro hg5 hr5)
      have hs5 := hg5.size
      clear hown' hgrow hloc ho3 r3 HG3 hg5 hr5 hla5 ho5 HL1
      go_wp2_with fail
      refine hcon.mono ?_
      rintro e w6 ⟨A6, c6, rfl, ho6, b6⟩
      have hjl : (joinsT la (z ++ [(x, y)])).length ≤ 3 ^ (i - 1) * 3 := by rw [joinsT_len, List.length_append, List.length_singleton]; exact hmul
      have hcon2 := minimal_s A6 c6 (joinsT la (z ++ [(x, y)])) w6 ho6.at_ (by omega)
      clear hcon ho6
      go_wp2_with fail
      refine hcon2.mono ?_
      rintro e w7 ⟨A7, c7, rfl, ho7, b7⟩
      have hml := minT_len (joinsT la (z ++ [(x, y)]))
      generalize minT (joinsT la (z ++ [(x, y)])) = ln at *
      have hs6 := b6.size
      have hs7 := b7.size
      have hb57 := btr b6 b7
      have hg7 : wr.grownBy w7 (some g) := H5.out.1.trans (gbel hb57)
      have ho7' : TmOwn w7 wr.heap.size A7 c7 ln := ho7.mono (by omega)
      have hrow7 : w7.ownsRow w.heap.size 23 1 (.slice A' fs.length c') fs.length css.flatten := ownsRow_base (ownsRow_loc HF.out.1.row (fun k hk => hg7.block k (HF.out.1.top k hk).2 (fun e => by injection e with e; have := (HF.out.1.top k hk).1; omega))) (fun k hk => (HF.out.1.top k hk).1)
      have hr7 : Rdr w7 g A n c (q1 + 1 + 1) := H5.out.2.keptG (gbel (r := none) hb57) (fun k hk => by cases hk)
      have H7 := Lib.hid (And.intro hg7 (And.intro hr7 ho7'))
      clear hcon2 b6 b7 ho7 ho7' hb57 hg7 hr7 H5
      go_wp2_with (at_builtin; refine wpList_append_src _ rfl _ _ 42 rfl w.heap.size 23 k0 (.slice none 0 0) 1 24 Try.underlying42 hk hy0 hy1 hy2 rfl (by decide) _ _ _ rfl (hrow7.alloc _) (some ⟨w7.heap.size, 0, none⟩) 1 1 [.slice A7 ln.length c7] rfl rfl (fun h => by cases h) zl_srcs zl_ones (by unfold maxLen; omega) (by omega) (by simp; omega) ?_)
      intro v' w8 hown' hgrow hloc
      simp only [ownBlock_slice] at hgrow hloc
      have hnx := HF.out.1.nextT hsr (gal H7.out.1 _) hlt (H7.out.2.2.below (bal (Below.refl _ _) _)) hown' hgrow (fun k hk => by have := hloc k hk; simpa using this)
      obtain ⟨A8, c8, rfl, hA8, ho8⟩ := hnx
      have hr8 := (H7.out.2.1.alloc (.cells #[.slice A7 ln.length c7] 23)).keptG hgrow (fun k hk => by have := (HF.out.1.top k hk).1; omega)
      have hg8 := gG (gal (HF.out.2.2.trans H7.out.1) (.cells #[.slice A7 ln.length c7] 23)) hgrow (fun k hk => (HF.out.1.top k hk).1)
      have hl8 : TmOwn w8 w.heap.size A7 c7 ln := ((H7.out.2.2.below (bal (Below.refl _ (w7)) (.cells #[.slice A7 ln.length c7] 23))).loc (fun k hk => hgrow.block k (by have := (H7.out.2.2.lt k hk).2; simp; omega) (fun e => by have := (HF.out.1.top k e.symm).2; have := (H7.out.2.2.lt k hk).1; omega))).mono hsr
      have HE : Hid (FsOw w8 (news w w8) A8 c8 (fs ++ [ln]) ∧ fsB (fs ++ [ln]) ∧ A8 ≠ none ∧ TmOwn w8 w.heap.size A7 c7 ln ∧ ln.length ≤ 3 ^ (i + 1 - 1)) := ⟨ho8, HF.out.2.1.snoc (by omega), hA8, hl8, by rw [← HP.out]; omega⟩
      have HE2 := Lib.hid (And.intro hr8 hg8)
      clear hown' hgrow hloc ho8 hl8 hr8 hg8 hrow7 H7 HF hA8
      go_wp2
      go_roundw
      case rel => exact ⟨i + 1, fs ++ [ln], A8, A7, c8, c7, ln, q1 + 1 + 1, by omega, by omega, by go_num, by simp, rfl, by have := HFL.out; simp; omega, HE.out.1, HE.out.2.1, HE.out.2.2.1, HE.out.2.2.2.1, HE.out.2.2.2.2, by omega, by omega, HE2.out.1, HE2.out.2⟩
      case measure => simp [intOf]; omega
    · obtain rfl : i = m := by omega
      have hmI : ¬ (i : Int) < i := by omega
      have hrow : (wr.alloc (.cells #[] 117)).ownsRow w.heap.size 23 1 (.slice A' fs.length c') fs.length css.flatten := (ownsRow_base hown.row (fun k hk => (hown.top k hk).1)).alloc _
      have HF := Lib.hid (And.intro hown (And.intro hfb hgr))
      have hz : TmOwn (wr.alloc (.cells #[] 117)) wr.heap.size (some ⟨wr.heap.size, 0, none⟩) 0 [] := TmOwn.lit wr
      have HZ := Lib.hid hz
      have HD := Lib.hid hrd
      clear hown hfb hgr hla hz hrd
      go_wp2_with (at_builtin; refine wpList_append_src _ rfl _ _ 42 rfl w.heap.size 23 k0 (.slice none 0 0) 1 24 Try.underlying42 hk hy0 hy1 hy2 rfl (by decide) _ _ _ rfl (hrow.alloc _) (some ⟨wr.heap.size + 1, 0, none⟩) 1 1 [.slice (some ⟨wr.heap.size, 0, none⟩) 0 0] rfl rfl (fun h => by cases h) (by simpa using zl_srcs (w := wr.alloc (.cells #[] 117)) (A := some ⟨wr.heap.size, 0, none⟩) (n := 0) (c := 0) (E := 23)) zl_ones (by unfold maxLen; omega) (by omega) (by simp; omega) ?_)
      intro v' w8 hown' hgrow hloc
      simp only [ownBlock_slice] at hgrow hloc
      have hnx := HF.out.1.nextT (la := []) hsr (gal (World.grownBy_alloc wr _ _) _) hlt (HZ.out.below (bal (Below.refl _ _) _)) hown' hgrow (fun k hk => by have := hloc k hk; simpa using this)
      obtain ⟨A8, c8, rfl, hA8, ho8⟩ := hnx
      have hr8 := ((HD.out.alloc (.cells #[] 117)).alloc (.cells #[.slice (some ⟨wr.heap.size, 0, none⟩) 0 0] 23)).keptG hgrow (fun k hk => by have := (HF.out.1.top k hk).1; omega)
      have hg8 := gG (gal (gal HF.out.2.2 (.cells #[] 117)) (.cells #[.slice (some ⟨wr.heap.size, 0, none⟩) 0 0] 23)) hgrow (fun k hk => (HF.out.1.top k hk).1)
      have HE : Hid (FsOw w8 (news w w8) A8 c8 (fs ++ [[]]) ∧ fsB (fs ++ [[]]) ∧ A8 ≠ none ∧ Rdr w8 g A n c q ∧ w.grownBy w8 (some g)) := ⟨ho8, HF.out.2.1.snoc (by simp), hA8, hr8, hg8⟩
      clear hown' hgrow hloc ho8 hr8 hg8 hrow HZ HD HF hA8
      go_wp2
      go_ret
      exact ⟨fs ++ [[]], A8, c8, q, by simp, HE.out.1, by have := HFL.out; simp; omega, HE.out.2.1, HE.out.2.2.1, by omega, by omega, HE.out.2.2.2.1, HE.out.2.2.2.2⟩
end Go.Proofs.Ythefakiobpijiaa

/- HELPER, no statement of the seat: the generator of batches. -/
namespace Go.Proofs.Ythefakiobpijiaa
open Go.RowKit Go.Sort
set_option linter.unusedSimpArgs false
set_option linter.unusedVariables false

theorem FsAt.get {w : World} {A : Option Addr} {fs : List (List Tm)} (h : SlAt TmlR 1 w A fs) (k : Nat) (hk : k < fs.length) :
    ∃ b off LA lc, A = some ⟨b, off, none⟩ ∧ b < w.heap.size ∧ w.cell? ⟨b, off + k, none⟩ = some (.slice LA fs[k].length lc) ∧ TimesAt w LA fs[k] := by
  obtain ⟨b, off, e, hlt, hc⟩ := h (by omega)
  obtain ⟨cs, hl, hcell, LA, lc, hcs, hm, hz⟩ := hc k hk
  have := hcell 0 (by omega)
  simp only [Nat.mul_one, Nat.add_zero] at this
  rw [hcs] at this
  exact ⟨b, off, LA, lc, e, hlt, this, hz⟩
/-- A batch made since w0. -/
def BatN (w0 : World) (b : Bt) (v : Value) (w : World) : Prop := ∃ L lc U uc T tc, v = .agg #[.slice L b.1.length lc, .slice U b.2.1.length uc, .slice T b.2.2.length tc] ∧ BatO w (news w0 w) [.slice L b.1.length lc, .slice U b.2.1.length uc, .slice T b.2.2.length tc] b
theorem stable_batN (w0 : World) (b : Bt) : Stable (BatN w0 b) := fun _ _ _ hb ⟨L, lc, U, uc, T, tc, e, h⟩ => ⟨L, lc, U, uc, T, tc, e, batO.mono (batO.below h hb) (fun q hq => ⟨hq.1, Nat.lt_of_lt_of_le hq.2 hb.size⟩) (fun q hq => hq.2)⟩
def btB (k : Nat) (b : Bt) : Prop := b.1.length ≤ 81 + k ∧ b.2.1.length ≤ 81 + k ∧ b.2.2.length ≤ 20 + k ∧ rowsU b.2.2 10
def RBt (k : Nat) (w : World) (g : Nat) (A : Option Addr) (n c : Nat) (p t : Int) (e : Ending) (w' : World) : Prop :=
  ∃ (b : Bt) (v : Value) (q : Int), e = .returned v ∧ BatN w b v w' ∧ btB k b ∧ p ≤ q ∧ q ≤ p + t ∧ Rdr w' g A n c q ∧ w.grownBy w' (some g)
theorem cutT_row {lo up : List Tm} {us : List Upd} {k : Nat} (h : rowsU us k) : rowsU (cutT lo up us) k := fun e he => h e (List.mem_filter.1 he).1
theorem cutT_len (lo up : List Tm) (us : List Upd) : (cutT lo up us).length ≤ us.length := List.length_filter_le _ _

set_option maxRecDepth 100000 in
set_option maxHeartbeats 6400000 in
theorem randomBatch_r (g : Nat) (A : Option Addr) (n c : Nat) (p : Int) (m : Nat) (w : World) (hr : Rdr w g A n c p) (hp : p + 1000 ≤ 1000000000) (hm : m ≤ 7) :
    Calls Try.prog 137 #[.pointer (some ⟨g, 0, none⟩), .int .i64 (m : Int)] w (RBt 0 w g A n c p 400) := by
  have hlt := hr.1.lt
  have kZ : Blk (w.alloc (.cells #[.slice none 0 0, .slice none 0 0, .slice none 0 0] 26)) w.heap.size 26 #[.slice none 0 0, .slice none 0 0, .slice none 0 0] := Blk.newAt rfl
  have hZs : (w.alloc (.cells #[.slice none 0 0, .slice none 0 0, .slice none 0 0] 26)).heap.size = w.heap.size + 1 := by simp
  have hgZ : w.grownBy (w.alloc (.cells #[.slice none 0 0, .slice none 0 0, .slice none 0 0] 26)) (some g) := World.grownBy_alloc _ _ _
  have hrZ := hr.alloc (.cells #[.slice none 0 0, .slice none 0 0, .slice none 0 0] 26)
  have hcon := chain_r g A n c p 3 _ hrZ (by omega) (by omega) (by omega)
  rw [show ((3 : Nat) : Int) = 3 from rfl] at hcon
  have HZ := Lib.hid (And.intro kZ (And.intro hgZ hZs))
  clear kZ hgZ hZs hr hrZ
  go_enter Try.func137, Try.ntmps137
  go_wp2_with fail
  refine hcon.mono ?_
  clear hcon
  rintro e w1 ⟨fs, AF, cf, q1, rfl, hof, hfl, hfb, hAF, hq1, hq2, r1, g1⟩
  have hs1 := g1.size
  have hzs := HZ.out.2.2
  have hof1 : FsOw w1 (news w w1) AF cf fs := hof.mono (fun k hk => ⟨by have := hk.1; omega, hk.2⟩) (fun k hk => hk.2)
  have hf1 : ∀ k, news (w.alloc (.cells #[.slice none 0 0, .slice none 0 0, .slice none 0 0] 26)) w1 k → k ≠ g := fun k hk => by have := hk.1; omega
  have k1 : Blk w1 w.heap.size 26 #[.slice none 0 0, .slice none 0 0, .slice none 0 0] := HZ.out.1.kept g1 (by omega)
  have H1 := Lib.hid (And.intro hof (And.intro hfb (And.intro k1 (HZ.out.2.1.trans g1))))
  have hs1w : w.heap.size < w1.heap.size := by omega
  have HFL := Lib.hid hfl
  clear hof hof1 hfb k1 g1 HZ hf1 hfl
  go_wp2_with fail
  refine (randomUpdates_r g A n c q1 m 9 w1 r1 (by omega) hm (by omega)).mono ?_
  rintro e w2 ⟨z0, A2, c2, q2, rfl, ho2, hl2, hr2, hw2, hq3, hq4, r2, g2⟩
  have hat2 : UpdsAt w2 A2 z0 := SlOw.at_ updO ho2
  have hcl := consL_le z0
  have hcr := drT_row (nz (NormLU z0))
  have hcon := consolidate_w A2 c2 z0 w2 hat2 (by omega) (fun e he => by have := hr2 e he; omega) (hw2.mono (by omega))
  have H2 := Lib.hid (And.intro g2 r2)
  clear r1 ho2 hat2 hr2 hw2 g2 r2
  go_wp2_with fail
  refine hcon.mono ?_
  clear hcon
  generalize chkT (nz (NormLU z0)) = us at *
  rintro e w3 ⟨AT, ct, rfl, ho3, b3⟩
  have hu3 := UpdsOw.at_ ho3
  have g13 : w1.grownBy w3 (some g) := gB H2.out.1 b3
  have r3 := H2.out.2.below b3
  have hs3 := b3.size
  have hs2 := H2.out.1.size
  have hul : us.length ≤ 9 := by omega
  have HRU : Hid (rowsU us 4194304) := fun e he => by have := hcr e he; omega
  have HRR := Lib.hid hcr
  have HO3 := Lib.hid ho3
  clear ho3 b3 H2 hcr
  go_wp2_with fail
  refine (pick_r _ _ _ _ _ _ _ r3 (by omega) (by omega)).mono ?_
  rintro e w4 ⟨kI, rfl, a0, a1, r4, g4⟩
  have ha1 := a1 (by omega)
  obtain ⟨k, rfl⟩ := Int.eq_ofNat_of_zero_le a0
  have g14 := g13.trans g4
  have hs4 := g4.size
  have hU : UpdsAt w4 AT us := UpdsOw.at_ (HO3.out.loc updO (fun q hq => g4.block q hq.2 (fun e => by injection e with e; have := hq.1; omega)))
  have hF4 : SlAt TmlR 1 w4 AF fs := SlOw.at_ tmlO (H1.out.1.loc tmlO (fun q hq => g14.block q hq.2 (fun e => by injection e with e; have := hq.1; omega)))
  have kZ4 : Blk w4 w.heap.size 26 #[.slice none 0 0, .slice none 0 0, .slice none 0 0] := H1.out.2.2.1.kept g14 (by omega)
  have hg4 : w.grownBy w4 (some g) := H1.out.2.2.2.trans g14
  obtain ⟨j, HJ⟩ : ∃ j : Nat, Hid ((j : Int) = (k : Int) + 1) := ⟨k + 1, by simp [Hid]⟩
  have hk4 : k < fs.length := by have := HFL.out; omega
  have hj4 : j < fs.length := by have := HFL.out; have := HJ.out; omega
  have hkI : (k : Int) < fs.length := by omega
  have hjI : (j : Int) < fs.length := by omega
  have hfk := H1.out.2.1 _ (List.getElem_mem hk4)
  have hfj := H1.out.2.1 _ (List.getElem_mem hj4)
  obtain ⟨b, off, L1, l1, rfl, hbl, c1, hL1⟩ := FsAt.get hF4 k hk4
  obtain ⟨b', off', L2, l2, e0, hbl', c2, hL2⟩ := FsAt.get hF4 j hj4
  injection e0 with e0
  injection e0 with e1 e2
  subst e1 e2
  have HE := Lib.hid (And.intro kZ4 (And.intro hg4 r4))
  clear kZ4 hg4 r4 g4 g14 g13 r3 H1 HO3 hF4 a1 hbl'
  go_wp2_with fail
  refine wp_region_facts [[], [], [], [1, 2], [1, 2, 3], [], [], [6], [5, 6, 7], [5, 6, 7, 8], List.range 10]
    [fun v' _ => v' = .slice AT us.length ct, fun v' _ => v' = .slice (some ⟨b, off, none⟩) fs.length cf, fun v' _ => v' = .int .i64 ((k : Nat)), fun v' _ => v' = .pointer (some ⟨b, off + k, none⟩), fun v' _ => v' = .slice L1 fs[k].length l1, fun v' _ => v' = .slice (some ⟨b, off, none⟩) fs.length cf, fun v' _ => v' = .int .i64 ((k : Nat)), fun v' _ => v' = .int .i64 ((j : Nat) : Int), fun v' _ => v' = .pointer (some ⟨b, off + j, none⟩), fun v' _ => v' = .slice L2 fs[j].length l2, BatN w4 (fs[k], (fs[j], cutT fs[k] fs[j] us))]
    (by kernel_rfl) (by kernel_rfl) rfl ⟨stable_pure _, stable_pure _, stable_pure _, stable_pure _, stable_pure _, stable_pure _, stable_pure _, stable_pure _, stable_pure _, stable_pure _, stable_batN _ _, trivial⟩ ?_
  refine wf_stepK [] [] (by kernel_rfl) (by kernel_rfl) (fun wf hb hf => ?_) (fun t0 => ?_)
  · refine ⟨?_⟩
    go_wp2
    exact ⟨rfl, .slice AT us.length ct, by kernel_rfl, Below.refl _ _, rfl⟩
  refine wf_stepK [] [] (by kernel_rfl) (by kernel_rfl) (fun wf hb hf => ?_) (fun t1 => ?_)
  · refine ⟨?_⟩
    go_wp2
    exact ⟨rfl, .slice (some ⟨b, off, none⟩) fs.length cf, by kernel_rfl, Below.refl _ _, rfl⟩
  refine wf_stepK [] [] (by kernel_rfl) (by kernel_rfl) (fun wf hb hf => ?_) (fun t2 => ?_)
  · refine ⟨?_⟩
    go_wp2
    exact ⟨rfl, .int .i64 ((k : Nat)), by kernel_rfl, Below.refl _ _, rfl⟩
  refine wf_stepK [1, 2] [fun _ => t1 = .slice (some ⟨b, off, none⟩) fs.length cf, fun _ => t2 = .int .i64 ((k : Nat))] (by kernel_rfl) (by kernel_rfl) (fun wf hb hf => ?_) (fun t3 => ?_)
  · obtain ⟨rfl, rfl, -⟩ := hf
    refine ⟨?_⟩
    go_wp2
    exact ⟨rfl, .pointer (some ⟨b, off + k, none⟩), by kernel_rfl, Below.refl _ _, rfl⟩
  refine wf_stepK [3] [fun _ => t3 = .pointer (some ⟨b, off + k, none⟩)] (by kernel_rfl) (by kernel_rfl) (fun wf hb hf => ?_) (fun t4 => ?_)
  · obtain ⟨rfl, -⟩ := hf
    refine ⟨?_⟩
    have p0 := (hb.cell (p := ⟨b, off + k, none⟩) hbl).trans c1
    go_wp2
    exact ⟨rfl, .slice L1 fs[k].length l1, by kernel_rfl, Below.refl _ _, rfl⟩
  refine wf_stepK [] [] (by kernel_rfl) (by kernel_rfl) (fun wf hb hf => ?_) (fun t5 => ?_)
  · refine ⟨?_⟩
    go_wp2
    exact ⟨rfl, .slice (some ⟨b, off, none⟩) fs.length cf, by kernel_rfl, Below.refl _ _, rfl⟩
  refine wf_stepK [] [] (by kernel_rfl) (by kernel_rfl) (fun wf hb hf => ?_) (fun t6 => ?_)
  · refine ⟨?_⟩
    go_wp2
    exact ⟨rfl, .int .i64 ((k : Nat)), by kernel_rfl, Below.refl _ _, rfl⟩
  refine wf_stepK [6] [fun _ => t6 = .int .i64 ((k : Nat))] (by kernel_rfl) (by kernel_rfl) (fun wf hb hf => ?_) (fun t7 => ?_)
  · obtain ⟨rfl, -⟩ := hf
    refine ⟨?_⟩
    go_wp2
    exact ⟨rfl, .int .i64 ((j : Nat) : Int), by rw [HJ.out]; kernel_rfl, Below.refl _ _, rfl⟩
  refine wf_stepK [5, 7] [fun _ => t5 = .slice (some ⟨b, off, none⟩) fs.length cf, fun _ => t7 = .int .i64 ((j : Nat) : Int)] (by kernel_rfl) (by kernel_rfl) (fun wf hb hf => ?_) (fun t8 => ?_)
  · obtain ⟨rfl, rfl, -⟩ := hf
    refine ⟨?_⟩
    go_wp2
    exact ⟨rfl, .pointer (some ⟨b, off + j, none⟩), by kernel_rfl, Below.refl _ _, rfl⟩
  refine wf_stepK [8] [fun _ => t8 = .pointer (some ⟨b, off + j, none⟩)] (by kernel_rfl) (by kernel_rfl) (fun wf hb hf => ?_) (fun t9 => ?_)
  · obtain ⟨rfl, -⟩ := hf
    refine ⟨?_⟩
    have p0 := (hb.cell (p := ⟨b, off + j, none⟩) hbl).trans c2
    go_wp2
    exact ⟨rfl, .slice L2 fs[j].length l2, by kernel_rfl, Below.refl _ _, rfl⟩
  refine wf_stepK [0, 4, 9] [fun _ => t0 = .slice AT us.length ct, fun _ => t4 = .slice L1 fs[k].length l1, fun _ => t9 = .slice L2 fs[j].length l2] (by kernel_rfl) (by kernel_rfl) (fun wf hb hf => ?_) (fun t10 => ?_)
  · obtain ⟨rfl, rfl, rfl, -⟩ := hf
    refine ⟨?_⟩
    go_wp2_with (go_at_call 68; refine (cut_s AT ct us L1 L2 l1 l2 fs[k] fs[j] _ (hU.below updR hb) (hL1.below hb) (hL2.below hb) (by omega) HRU.out (by omega) (by omega)).mono ?_; rintro e w2 ⟨L', lc', U', uc', T', tc', rfl, hox, hb2⟩)
    exact ⟨rfl, .agg #[.slice L' fs[k].length lc', .slice U' fs[j].length uc', .slice T' (cutT fs[k] fs[j] us).length tc'], by kernel_rfl, hb2, L', lc', U', uc', T', tc', rfl, batO.mono hox (fun q hq => ⟨Nat.le_trans hb.size hq.1, hq.2⟩) (fun q hq => hq.2)⟩
  refine wf_doneK [10] [BatN w4 (fs[k], (fs[j], cutT fs[k] fs[j] us)) t10] (by kernel_rfl) (by kernel_rfl) (fun w50 b50 hf => ?_)
  obtain ⟨⟨L', lc', U', uc', T', tc', rfl, hbt⟩, -⟩ := hf
  show wpList _ _ _ [_] _ _
  refine wpList_frame (by simp [Act.put]; rfl) ?_
  have hs50 := b50.size
  have k50 := HE.out.1.below b50
  have z0 := k50.frozen 0
  have z1 := k50.frozen 1
  have z2 := k50.frozen 2
  have y0 := k50.cell 0
  have y1 := k50.cell 1
  have y2 := k50.cell 2
  simp at y0 y1 y2
  have KZ := Lib.hid (((k50.set_ 0 (.slice L' fs[k].length lc')).set_ 1 (.slice U' fs[j].length uc')).set_ 2 (.slice T' (cutT fs[k] fs[j] us).length tc'))
  have hsw := HE.out.2.1.size
  have HR : Hid (RBt 0 w g A n c p 400 (.returned (.agg #[.slice L' fs[k].length lc', .slice U' fs[j].length uc', .slice T' (cutT fs[k] fs[j] us).length tc'])) (((w50.setCell ⟨w.heap.size, 0, none⟩ (.slice L' fs[k].length lc')).setCell ⟨w.heap.size, 1, none⟩ (.slice U' fs[j].length uc')).setCell ⟨w.heap.size, 2, none⟩ (.slice T' (cutT fs[k] fs[j] us).length tc'))) := by
    refine ⟨(fs[k], (fs[j], cutT fs[k] fs[j] us)), _, q2 + 1, rfl, ⟨L', lc', U', uc', T', tc', rfl, batO.mono (batO.loc hbt (fun q hq => ((Below.heap_setCell _ _ _ _ (by have := hq.1; simp; omega)).trans ((Below.heap_setCell _ _ _ _ (by have := hq.1; simp; omega)).trans (Below.heap_setCell _ _ _ _ (by have := hq.1; simp; omega)))))) (fun q hq => ⟨by have := hq.1; omega, by have := hq.2; simpa [World.setCell] using this⟩) (fun q hq => hq.2)⟩, ⟨by simp only; omega, by simp only; omega, by have := cutT_len fs[k] fs[j] us; simp only; omega, fun e he => by have := cutT_row HRR.out e he; omega⟩, by omega, by omega, (((HE.out.2.2.below b50).far (by simp; omega) _).far (by simp; omega) _).far (by simp; omega) _, gset (gset (gset (gB HE.out.2.1 b50) (by simp) _) (by simp) _) (by simp) _⟩
  clear b50 hbt k50 HE hU hL1 hL2 hbl c1 c2
  go_wp2_with fail
  have s0 := KZ.out.cell 0
  have s1 := KZ.out.cell 1
  have s2 := KZ.out.cell 2
  simp at s0 s1 s2
  exact bodyPost_ret (v := .agg #[.slice L' fs[k].length lc', .slice U' fs[j].length uc', .slice T' (cutT fs[k] fs[j] us).length tc']) (by simp [results, Try.results137, go_sem, s0, s1, s2]) rfl HR.out
end Go.Proofs.Ythefakiobpijiaa

/- HELPER, no statement of the seat: the generator of batches that may be invalid. -/
namespace Go.Proofs.Ythefakiobpijiaa
open Go.RowKit Go.Sort
set_option linter.unusedSimpArgs false
set_option linter.unusedVariables false

/-! ### What the parts of an update made in a drawn region come to -/
def TimG (v : Value) (w : World) : Prop := ∃ x y : Int, v = .agg #[.int .i64 x, .int .i64 y]
def NineG (m : Nat) (v : Value) (w : World) : Prop := ∃ G, v = .slice (some ⟨G, 0, none⟩) 1 1 ∧ Blk w G 3 #[.int .i64 9] ∧ m ≤ G
def OneG (m : Nat) (v : Value) (w : World) : Prop := ∃ (G : Nat) (x y : Int), v = .agg #[.slice (some ⟨G, 0, none⟩) 1 1, .int .i64 x, .int .i64 y, .int .i64 1] ∧ Blk w G 3 #[.int .i64 9] ∧ m ≤ G
def SliG (m : Nat) (v : Value) (w : World) : Prop := ∃ (G G' : Nat) (x y : Int), v = .slice (some ⟨G, 0, none⟩) 1 1 ∧ Blk w G 119 #[.slice (some ⟨G', 0, none⟩) 1 1, .int .i64 x, .int .i64 y, .int .i64 1] ∧ Blk w G' 3 #[.int .i64 9] ∧ m ≤ G ∧ m ≤ G'
theorem stable_nine {g m : Nat} (h : g < m) : Rgn.Stable (Rgn.RR g) (NineG m) := fun _ _ _ hg ⟨G, e, hb, hm⟩ => ⟨G, e, hb.kept hg (by omega), hm⟩
theorem stable_one {g m : Nat} (h : g < m) : Rgn.Stable (Rgn.RR g) (OneG m) := fun _ _ _ hg ⟨G, x, y, e, hb, hm⟩ => ⟨G, x, y, e, hb.kept hg (by omega), hm⟩
theorem stable_sli {g m : Nat} (h : g < m) : Rgn.Stable (Rgn.RR g) (SliG m) := fun _ _ _ hg ⟨G, G', x, y, e, hb, hb', hm, hm'⟩ => ⟨G, G', x, y, e, hb.kept hg (by omega), hb'.kept hg (by omega), hm, hm'⟩
section
variable {w w' : World} {S S' : Fp} {L U T L' U' T' : Option Addr} {lc uc tc lc' uc' tc' : Nat} {lo up lo' up' : List Tm} {us us' : List Upd}
/-- A batch with another lower frontier. -/
theorem BatO.low (h : BatO w S [.slice L lo.length lc, .slice U up.length uc, .slice T us.length tc] (lo, (up, us))) (hk : ∀ k, k < w.heap.size → blk L ≠ some k → w'.heap[k]? = w.heap[k]?) (hs : w.heap.size ≤ w'.heap.size) (ho : TmOwn w' 0 L' lc' lo') (hl : ∀ k, blk L' = some k → blk L = some k ∨ w.heap.size ≤ k)
    (hS : ∀ k, S k ∨ (w.heap.size ≤ k ∧ k < w'.heap.size) → S' k) (hS' : ∀ k, S' k → k < w'.heap.size) : BatO w' S' [.slice L' lo'.length lc', .slice U up.length uc, .slice T us.length tc] (lo', (up, us)) := by
  obtain ⟨LA', lc1, UA', uc1, TA', tc1, S1, S2, S3, e, t1, t2, t3, i1, i2, i3⟩ := h.form
  simp only [List.cons.injEq, Value.slice.injEq, and_true, true_and] at e
  obtain ⟨⟨rfl, rfl⟩, ⟨rfl, rfl⟩, ⟨rfl, rfl⟩⟩ := e
  have n2 : ∀ k, S2 k → blk L ≠ some k := fun k hk e => (i1 k (t1.top k e)).2.1 hk
  have n3 : ∀ k, S3 k → blk L ≠ some k := fun k hk e => (i1 k (t1.top k e)).2.2 hk
  refine BatO.mk (S1 := fun k => blk L' = some k) (S2 := S2) (S3 := S3) hS' ⟨fun k hk => (ho.lt k hk).2, fun k hk => hk, ho⟩ (t2.loc (fun k hk' => hk k (t2.lt k hk') (n2 k hk'))) (t3.loc updO (fun k hk' => hk k (t3.lt k hk') (n3 k hk'))) (fun q hq => ?_) (fun q hq => ⟨hS q (.inl (i2 q hq).1), (i2 q hq).2⟩) (fun q hq => hS q (.inl (i3 q hq)))
  rcases hl q hq with e | e
  · exact ⟨hS q (.inl (i1 q (t1.top q e)).1), (i1 q (t1.top q e)).2⟩
  · exact ⟨hS q (.inr ⟨e, (ho.lt q hq).2⟩), fun h2 => by have := t2.lt q h2; omega, fun h3 => by have := t3.lt q h3; omega⟩
/-- A batch with a new upper frontier. -/
theorem BatO.upp (h : BatO w S [.slice L lo.length lc, .slice U up.length uc, .slice T us.length tc] (lo, (up, us))) (hk : ∀ k, k < w.heap.size → w'.heap[k]? = w.heap[k]?) (ho : TmOwn w' w.heap.size U' uc' up')
    (hS : ∀ k, S k ∨ (w.heap.size ≤ k ∧ k < w'.heap.size) → S' k) (hS' : ∀ k, S' k → k < w'.heap.size) : BatO w' S' [.slice L lo.length lc, .slice U' up'.length uc', .slice T us.length tc] (lo, (up', us)) := by
  obtain ⟨LA', lc1, UA', uc1, TA', tc1, S1, S2, S3, e, t1, t2, t3, i1, i2, i3⟩ := h.form
  simp only [List.cons.injEq, Value.slice.injEq, and_true, true_and] at e
  obtain ⟨⟨rfl, rfl⟩, ⟨rfl, rfl⟩, ⟨rfl, rfl⟩⟩ := e
  refine BatO.mk (S1 := S1) (S2 := fun k => blk U' = some k) (S3 := S3) hS' (t1.loc (fun k hk' => hk k (t1.lt k hk'))) ⟨fun k hk => (ho.lt k hk).2, fun k hk => hk, ho.mono (Nat.zero_le _)⟩ (t3.loc updO (fun k hk' => hk k (t3.lt k hk'))) (fun q hq => ⟨hS q (.inl (i1 q hq).1), fun e => by have := (ho.lt q e).1; have := t1.lt q hq; omega, (i1 q hq).2.2⟩) (fun q hq => ⟨hS q (.inr ⟨(ho.lt q hq).1, (ho.lt q hq).2⟩), fun h3 => by have := (ho.lt q hq).1; have := t3.lt q h3; omega⟩) (fun q hq => hS q (.inl (i3 q hq)))
/-- A batch with one more update. -/
theorem BatO.psh {G' : Nat} {w1 : World} {x y : Int} (h : BatO w S [.slice L lo.length lc, .slice U up.length uc, .slice T us.length tc] (lo, (up, us))) (hk : ∀ k, S k → w1.heap[k]? = w.heap[k]?) (hs : w.heap.size ≤ w1.heap.size) (h9 : Blk w1 G' 3 #[.int .i64 9]) (hG : w.heap.size ≤ G') :
    ∃ css : List (List Value), w1.ownsRow 0 119 4 (.slice T us.length tc) us.length css.flatten ∧ (us.length ≤ tc ∧ tc ≤ maxLen) ∧ (∀ k, blk T = some k → S k) ∧
      ∀ (w' : World) (v' : Value) (S' : Fp), w'.ownsRow 0 119 4 v' (us.length + 1) (css.flatten ++ [.slice (some ⟨G', 0, none⟩) 1 1, .int .i64 x, .int .i64 y, .int .i64 1]) → w1.grownBy w' (blk T) → (∀ k, v'.ownBlock = some k → blk T = some k ∨ w1.heap.size ≤ k) →
        (∀ k, S k ∨ (w.heap.size ≤ k ∧ k < w'.heap.size) → S' k) → (∀ k, S' k → k < w'.heap.size) →
        ∃ T' tc', v' = .slice T' (us.length + 1) tc' ∧ BatO w' S' [.slice L lo.length lc, .slice U up.length uc, .slice T' (us.length + 1) tc'] (lo, (up, us ++ [(([9], (x, y)), 1)])) := by
  obtain ⟨LA', lc1, UA', uc1, TA', tc1, S1, S2, S3, e, t1, t2, ⟨css, Fp0, t3⟩, i1, i2, i3⟩ := h.form
  simp only [List.cons.injEq, Value.slice.injEq, and_true, true_and] at e
  obtain ⟨⟨rfl, rfl⟩, ⟨rfl, rfl⟩, ⟨rfl, rfl⟩⟩ := e
  have t3' := t3.loc updO (w' := w1) (fun k hk' => hk k (i3 k hk'))
  have hcap : us.length ≤ tc ∧ tc ≤ maxLen := by
    rcases t3.form with ⟨_, rfl, hn⟩ | ⟨g0, _, _, _, h1, h2⟩
    · subst hn; simp [maxLen]
    · exact ⟨h1, h2⟩
  refine ⟨css, ownsRow_base0 t3'.row, hcap, fun k hk' => i3 k (t3.top k hk'), fun w' v' S' hrow hgrow hl hS hS' => ?_⟩
  obtain ⟨T', tc', rfl⟩ := own_slice hrow
  rw [ownBlock_slice] at hl
  have hs3 := hgrow.size
  have hI : IntsOwn w1 0 (some ⟨G', 0, none⟩) 1 [9] := IntsOwn.ofBlk h9 (Nat.zero_le _) (by simp [maxLen])
  have hx : UpdO w1 (fun k => k = G') [.slice (some ⟨G', 0, none⟩) 1 1, .int .i64 x, .int .i64 y, .int .i64 1] (([9], (x, y)), 1) := UpdO.mk (fun k hk => by rw [hk]; exact h9.lt) (fun k hk => by simp [blk] at hk; exact hk.symm) hI
  have hk1 : ∀ k, S k → blk T ≠ some k → w'.heap[k]? = w.heap[k]? := fun k hk' hn => (hgrow.block k (lt_of_heap (hk k hk') (batO.lt h k hk')) (fun e => hn e.symm)).trans (hk k hk')
  have n1 : ∀ k, S1 k → blk T ≠ some k := fun k hk e => (i1 k hk).2.2 (t3.top k e)
  have n2 : ∀ k, S2 k → blk T ≠ some k := fun k hk e => (i2 k hk).2 (t3.top k e)
  have hp := SlF.push updO t3' hx (U := fun k => S3 k ∨ (w.heap.size ≤ k ∧ k < w'.heap.size)) (fun k h1 h2 => by have := t3.lt k h2; omega) hrow (fun k hk hn => hgrow.block k hk (fun e => hn e.symm)) hl (fun k hk' => by
    rcases hk' with h | h | h
    · exact .inl h
    · right; have := h9.lt; omega
    · rcases hl k h with e | e
      · exact .inl (t3.top k e)
      · have := World.ownsRow.lt hrow k (by rw [ownBlock_slice]; exact h)
        right; omega) (fun k hk' => by
    rcases hk' with h | h
    · have := lt_of_heap (hk k (i3 k h)) (t3.lt k h); omega
    · exact h.2)
  refine ⟨T', tc', rfl, ?_⟩
  have hb := BatO.mk (LA := L) (UA := U) (TA := T') (lc := lc) (uc := uc) (tc := tc') (S1 := S1) (S2 := S2) (S3 := fun k => S3 k ∨ (w.heap.size ≤ k ∧ k < w'.heap.size)) hS' (t1.loc (fun k hk' => hk1 k (i1 k hk').1 (n1 k hk'))) (t2.loc (fun k hk' => hk1 k (i2 k hk').1 (n2 k hk'))) ⟨_, _, hp⟩ (fun q hq => ⟨hS q (.inl (i1 q hq).1), (i1 q hq).2.1, fun e => e.elim (i1 q hq).2.2 (fun e => by have := t1.lt q hq; omega)⟩) (fun q hq => ⟨hS q (.inl (i2 q hq).1), fun e => e.elim (i2 q hq).2 (fun e => by have := t2.lt q hq; omega)⟩) (fun q hq => hS q (hq.elim (fun h => .inl (i3 q h)) .inr))
  rw [List.length_append, List.length_singleton] at hb
  exact hb
end
def AbE (w w2 : World) (g : Nat) (A : Option Addr) (n c : Nat) (p : Int) (W : World) (b : Bt) (l1 l2 l3 : Nat) (L : Option Addr) (lc : Nat) (U : Option Addr) (uc : Nat) (T : Option Addr) (tc : Nat) : Prop :=
  Blk W w2.heap.size 26 #[.slice L l1 lc, .slice U l2 uc, .slice T l3 tc] ∧ Blk W w.heap.size 26 #[.slice none 0 0, .slice none 0 0, .slice none 0 0] ∧ BatO W (fun k => w.heap.size < k ∧ k < W.heap.size ∧ k ≠ w2.heap.size) [.slice L l1 lc, .slice U l2 uc, .slice T l3 tc] b ∧
    b.1.length = l1 ∧ b.2.1.length = l2 ∧ b.2.2.length = l3 ∧ btB 1 b ∧ (∃ q, Rdr W g A n c q ∧ p ≤ q ∧ q ≤ p + 5000) ∧ w.grownBy W (some g)
theorem AbE.fin {w w2 W : World} {g n c : Nat} {A : Option Addr} {p : Int} {b : Bt} {l1 l2 l3 lc uc tc : Nat} {L U T : Option Addr} (h : AbE w w2 g A n c p W b l1 l2 l3 L lc U uc T tc) (hlt : g < w.heap.size) (u0 u1 u2 : Value) :
    RBt 1 w g A n c p 5000 (.returned (.agg #[.slice L l1 lc, .slice U l2 uc, .slice T l3 tc])) (((W.setCell ⟨w.heap.size, 0, none⟩ u0).setCell ⟨w.heap.size, 1, none⟩ u1).setCell ⟨w.heap.size, 2, none⟩ u2) := by
  obtain ⟨h1, h2, h3, rfl, rfl, rfl, hb, ⟨q, hr, hq0, hq1⟩, hg⟩ := h
  refine ⟨b, _, q, rfl, ⟨L, lc, U, uc, T, tc, rfl, batO.mono (batO.loc h3 (fun k hk => ((Below.heap_setCell _ _ _ _ (by have := hk.1; simp; omega)).trans ((Below.heap_setCell _ _ _ _ (by have := hk.1; simp; omega)).trans (Below.heap_setCell _ _ _ _ (by have := hk.1; simp; omega)))))) (fun k hk => ⟨by have := hk.1; omega, by have := hk.2.1; simpa [World.setCell] using this⟩) (fun k hk => hk.2)⟩, hb, hq0, hq1, ((hr.far (by simp; omega) _).far (by simp; omega) _).far (by simp; omega) _, gset (gset (gset hg (by simp) _) (by simp) _) (by simp) _⟩
set_option maxRecDepth 100000 in
set_option maxHeartbeats 6400000 in
theorem anyBatch_r (g : Nat) (A : Option Addr) (n c : Nat) (p : Int) (w : World) (hr : Rdr w g A n c p) (hp : p + 6000 ≤ 1000000000) :
    Calls Try.prog 69 #[.pointer (some ⟨g, 0, none⟩)] w (RBt 1 w g A n c p 5000) := by
  obtain ⟨i0, hi, hz0, hz1, hz2⟩ := info_parts Try.infoTime
  obtain ⟨j0, hj, hy0, hy1, hy2⟩ := info_parts Try.infoUpd
  have hlt := hr.1.lt
  have kZ : Blk (w.alloc (.cells #[.slice none 0 0, .slice none 0 0, .slice none 0 0] 26)) w.heap.size 26 #[.slice none 0 0, .slice none 0 0, .slice none 0 0] := Blk.newAt rfl
  have hZs : (w.alloc (.cells #[.slice none 0 0, .slice none 0 0, .slice none 0 0] 26)).heap.size = w.heap.size + 1 := by simp
  have hgZ : w.grownBy (w.alloc (.cells #[.slice none 0 0, .slice none 0 0, .slice none 0 0] 26)) (some g) := World.grownBy_alloc _ _ _
  have hrZ := hr.alloc (.cells #[.slice none 0 0, .slice none 0 0, .slice none 0 0] 26)
  have HZ := Lib.hid (And.intro kZ (And.intro hgZ hZs))
  clear kZ hgZ hZs hr
  go_enter Try.func69, Try.ntmps69
  go_wp2_with fail
  refine (pick_r _ _ _ _ _ _ _ hrZ (by omega) (by omega)).mono ?_
  rintro e w1 ⟨j, rfl, a0, a1, r1, g1⟩
  have ha1 := a1 (by omega)
  obtain ⟨k, rfl⟩ := Int.eq_ofNat_of_zero_le a0
  have hcon := randomBatch_r g A n c _ (1 + k) w1 r1 (by omega) (by omega)
  rw [show ((1 + k : Nat) : Int) = 1 + (k : Int) by omega] at hcon
  have hs1 : w.heap.size < w1.heap.size := by have := g1.size; have := HZ.out.2.2; omega
  have HG1 := Lib.hid (HZ.out.2.1.trans g1)
  have HK1 := Lib.hid (HZ.out.1.kept g1 (by omega))
  clear a1 r1 g1 HZ hrZ
  go_wp2_with fail
  refine hcon.mono ?_
  clear hcon
  rintro e w2 ⟨⟨lo, up, us⟩, v, q2, rfl, ⟨L, lc, U, uc, T, tc, rfl, hbo⟩, hbt, hq0, hq1, r2, g2⟩
  simp only at hbo ⊢
  have hs2 := g2.size
  have HB2 := Lib.hid (And.intro hbo (And.intro hbt g2))
  have r3 := r2.alloc (.cells #[.slice L lo.length lc, .slice U up.length uc, .slice T us.length tc] 26)
  have kB : Blk (w2.alloc (.cells #[.slice L lo.length lc, .slice U up.length uc, .slice T us.length tc] 26)) w2.heap.size 26 #[.slice L lo.length lc, .slice U up.length uc, .slice T us.length tc] := Blk.newAt rfl
  have HKB := Lib.hid kB
  clear hbo hbt g2 r2 kB
  go_wp2_with fail
  refine (pick_r _ _ _ _ _ _ _ r3 (by omega) (by omega)).mono ?_
  rintro e w4 ⟨j, rfl, b0, b1, r4, g4⟩
  obtain ⟨q4, hq4⟩ : ∃ q4, q4 = q2 + 1 := ⟨_, rfl⟩
  rw [← hq4] at r4
  have hs4 : w2.heap.size < w4.heap.size := by have := g4.size; simp at this; omega
  have hlt4 : g < w4.heap.size := by omega
  have g24 : w2.grownBy w4 (some g) := (World.grownBy_alloc _ _ _).trans g4
  have hne : some w2.heap.size ≠ some g := fun e => by injection e with e; omega
  have HE : Hid (AbE w w2 g A n c p w4 (lo, (up, us)) lo.length up.length us.length L lc U uc T tc) :=
    ⟨HKB.out.kept g4 (by omega), (HK1.out.kept HB2.out.2.2 (by omega)).kept g24 (by omega), batO.mono (batO.loc HB2.out.1 (fun k hk => g24.block k hk.2 (fun e => by injection e with e; have := hk.1; omega))) (fun k hk => ⟨by have := hk.1; omega, by have := hk.2; omega, by have := hk.2; omega⟩) (fun k hk => hk.2.1), rfl, rfl, rfl, ⟨by have := HB2.out.2.1.1; simp at this ⊢; omega, by have := HB2.out.2.1.2.1; simp at this ⊢; omega, by have := HB2.out.2.1.2.2.1; simp at this ⊢; omega, HB2.out.2.1.2.2.2⟩, ⟨q4, r4, by omega, by omega⟩, (HG1.out.trans HB2.out.2.2).trans g24⟩
  have hl1 : lo.length ≤ 81 := HB2.out.2.1.1
  have hl2 : up.length ≤ 81 := HB2.out.2.1.2.1
  have hl3 : us.length ≤ 20 := HB2.out.2.1.2.2.1
  have HQ : Hid (p ≤ q4 ∧ q4 ≤ p + 500) := ⟨by omega, by omega⟩
  clear b1 g4 g24 r3 HB2 HKB HK1 HG1 hq4
  by_cases hj0 : j = 0
  · subst hj0
    have hto : TmOwn w4 0 L lc lo := by
      obtain ⟨LA', lc1, UA', uc1, TA', tc1, S1, S2, S3, e, t1, t2, t3, i1, i2, i3⟩ := HE.out.2.2.1.form
      simp only [List.cons.injEq, Value.slice.injEq, and_true, true_and] at e
      obtain ⟨⟨rfl, rfl⟩, _, _⟩ := e
      exact t1.own
    have p0 := HE.out.1.cell 0
    simp at p0
    have hcap := hto.cap
    clear r4
    go_wp2_with (at_builtin; refine wpList_append_src _ rfl _ _ 23 rfl 0 117 i0 (.agg #[.int .i64 0, .int .i64 0]) 2 16 Try.underlying23 hi hz0 hz1 hz2 rfl (by decide) _ _ _ rfl (World.ownsRow.alloc hto _) (some ⟨w4.heap.size, 0, none⟩) 1 1 [.int .i64 3, .int .i64 0] rfl rfl (fun h => by cases h) (tm_srcs _ _) (tm_ones _ _) (by unfold maxLen; omega) (by omega) (Nat.zero_le _) ?_)
    intro v' w5 hown' hgrow hloc
    simp only [ownBlock_slice] at hgrow
    obtain ⟨A5, c5, rfl, ho5⟩ := TmOwn.push hown'
    simp only [ownBlock_slice] at hloc
    have hs5 : w4.heap.size + 1 ≤ w5.heap.size := by have := hgrow.size; simpa using this
    have hk5 : ∀ k, k < w4.heap.size → blk L ≠ some k → w5.heap[k]? = w4.heap[k]? := fun k hk hn => (hgrow.block k (by simp; omega) (fun e => hn e.symm)).trans (Below.heap_alloc _ _ k hk)
    have hLS : ∀ k, blk L = some k → w.heap.size < k ∧ k < w4.heap.size ∧ k ≠ w2.heap.size := by
      obtain ⟨LA', lc1, UA', uc1, TA', tc1, S1, S2, S3, e, t1, t2, t3, i1, i2, i3⟩ := HE.out.2.2.1.form
      simp only [List.cons.injEq, Value.slice.injEq, and_true, true_and] at e
      obtain ⟨⟨rfl, rfl⟩, _, _⟩ := e
      exact fun k hk => (i1 k (t1.top k hk)).1
    have kB5 : Blk w5 w2.heap.size 26 #[.slice L lo.length lc, .slice U up.length uc, .slice T us.length tc] := (hk5 _ hs4 (fun e => (hLS _ e).2.2 rfl)).trans HE.out.1
    have kZ5 : Blk w5 w.heap.size 26 #[.slice none 0 0, .slice none 0 0, .slice none 0 0] := (hk5 _ (by omega) (fun e => by have := (hLS _ e).1; omega)).trans HE.out.2.1
    have hb5 := HE.out.2.2.1.low (S' := fun k => w.heap.size < k ∧ k < w5.heap.size ∧ k ≠ w2.heap.size) hk5 (by omega) ho5 (fun k hk => (hloc k hk).imp_right (fun h => by omega)) (fun k hk => by rcases hk with h | h <;> omega) (fun k hk => hk.2.1)
    have hg5 : w.grownBy w5 (some g) := (gal HE.out.2.2.2.2.2.2.2.2 (.cells #[.int .i64 3, .int .i64 0] 117)).andThen hgrow (fun k e => .inl (by have := (hLS k e).1; omega))
    have hr5 : ∃ q, Rdr w5 g A n c q ∧ p ≤ q ∧ q ≤ p + 5000 := by
      obtain ⟨q, hr, h1, h2⟩ := HE.out.2.2.2.2.2.2.2.1
      exact ⟨q, (hr.alloc _).keptG hgrow (fun k e => by have := (hLS k e).1; omega), h1, h2⟩
    have hbt := HE.out.2.2.2.2.2.2.1
    have HE0 := HE
    clear HE
    have HE : Hid (AbE w w2 g A n c p (w5.setCell ⟨w2.heap.size, 0, none⟩ (.slice A5 (lo.length + 1) c5)) (lo ++ [(3, 0)], (up, us)) (lo.length + 1) up.length us.length A5 c5 U uc T tc) := by
      obtain ⟨q, hr, h1, h2⟩ := hr5
      rw [List.length_append, List.length_singleton] at hb5
      refine ⟨by simpa using kB5.set_ 0 (.slice A5 (lo.length + 1) c5), kZ5.far (by simp; omega) _, batO.mono (batO.loc hb5 (fun k hk => Below.heap_setCell _ _ _ _ hk.2.2)) (fun k hk => ⟨hk.1, by simpa [World.setCell] using hk.2.1, hk.2.2⟩) (fun k hk => hk.2.1), by simp, rfl, rfl, ⟨by simp; omega, hbt.2.1, hbt.2.2.1, hbt.2.2.2⟩, ⟨q, hr.far (by simp; omega) _, h1, h2⟩, gset hg5 (by simp; omega) _⟩
    clear hown' hgrow hloc ho5 hk5 hLS hb5 hg5 hr5 hbt HE0 hto p0
    have p0 := kB5.cell 0
    have p1 := kB5.cell 1
    have p2 := kB5.cell 2
    have f0 := kB5.frozen 0
    have f1 := kB5.frozen 1
    have f2 := kB5.frozen 2
    have z0 := kZ5.frozen 0
    have z1 := kZ5.frozen 1
    have z2 := kZ5.frozen 2
    have y0 := kZ5.cell 0
    have y1 := kZ5.cell 1
    have y2 := kZ5.cell 2
    simp at p0 p1 p2 y0 y1 y2
    clear kB5 kZ5
    have KZ := Lib.hid (((HE.out.2.1.set_ 0 (.slice A5 (lo.length + 1) c5)).set_ 1 (.slice U up.length uc)).set_ 2 (.slice T us.length tc))
    have HRR := Lib.hid (HE.out.fin hlt (.slice A5 (lo.length + 1) c5) (.slice U up.length uc) (.slice T us.length tc))
    have hnb : w2.heap.size ≠ w.heap.size := by omega
    have hnb' : w.heap.size ≠ w2.heap.size := by omega
    go_wp2_with fail
    have s0 := KZ.out.cell 0
    have s1 := KZ.out.cell 1
    have s2 := KZ.out.cell 2
    simp at s0 s1 s2
    exact bodyPost_ret (v := .agg #[.slice A5 (lo.length + 1) c5, .slice U up.length uc, .slice T us.length tc]) (by simp [results, Try.results69, go_sem, s0, s1, s2]) rfl HRR.out
  have e0 : (j == 0) = false := by rw [beq_eq_false_iff_ne]; exact hj0
  clear hj0
  by_cases hj1 : j = 1
  · subst hj1
    have kB4 := HE.out.1
    have kZ4 := HE.out.2.1
    have hnw : w.heap.size < w4.heap.size := by omega
    have hnw' : w.heap.size ≠ w4.heap.size := by omega
    have hbw' : w2.heap.size ≠ w4.heap.size := by omega
    have kB5 := HE.out.1.alloc (.cells #[.int .i64 0, .int .i64 0] 117)
    have kZ5 := HE.out.2.1.alloc (.cells #[.int .i64 0, .int .i64 0] 117)
    have ho5 : TmOwn (w4.alloc (.cells #[.int .i64 0, .int .i64 0] 117)) w4.heap.size (some ⟨w4.heap.size, 0, none⟩) 1 [(0, 0)] := TmOwn.ofBlk (Blk.newAt rfl) (Nat.le_refl _) (by simp [maxLen])
    have hb5 := HE.out.2.2.1.upp (S' := fun k => w.heap.size < k ∧ k < (w4.alloc (.cells #[.int .i64 0, .int .i64 0] 117)).heap.size ∧ k ≠ w2.heap.size) (fun k hk => Below.heap_alloc _ _ k hk) ho5 (fun k hk => by simp at hk ⊢; rcases hk with h | h <;> omega) (fun k hk => hk.2.1)
    have hbt := HE.out.2.2.2.2.2.2.1
    have hg5 := gal HE.out.2.2.2.2.2.2.2.2 (.cells #[.int .i64 0, .int .i64 0] 117)
    have hr5 := HE.out.2.2.2.2.2.2.2.1
    clear HE
    have HE : Hid (AbE w w2 g A n c p ((w4.alloc (.cells #[.int .i64 0, .int .i64 0] 117)).setCell ⟨w2.heap.size, 1, none⟩ (.slice (some ⟨w4.heap.size, 0, none⟩) 1 1)) (lo, ([(0, 0)], us)) lo.length 1 us.length L lc (some ⟨w4.heap.size, 0, none⟩) 1 T tc) := by
      obtain ⟨q, hr, h1, h2⟩ := hr5
      refine ⟨by simpa using kB5.set_ 1 (.slice (some ⟨w4.heap.size, 0, none⟩) 1 1), kZ5.far (by simp; omega) _, batO.mono (batO.loc hb5 (fun k hk => Below.heap_setCell _ _ _ _ hk.2.2)) (fun k hk => ⟨hk.1, by simpa [World.setCell] using hk.2.1, hk.2.2⟩) (fun k hk => hk.2.1), rfl, rfl, rfl, ⟨hbt.1, by simp, hbt.2.2.1, hbt.2.2.2⟩, ⟨q, (hr.alloc _).far (by simp; omega) _, h1, h2⟩, gset hg5 (by simp; omega) _⟩
    clear ho5 hb5 hbt hg5 hr5 r4 kB5 kZ5
    have p0 := kB4.cell 0
    have p1 := kB4.cell 1
    have p2 := kB4.cell 2
    have f0 := kB4.frozen 0
    have f1 := kB4.frozen 1
    have f2 := kB4.frozen 2
    have z0 := kZ4.frozen 0
    have z1 := kZ4.frozen 1
    have z2 := kZ4.frozen 2
    have y0 := kZ4.cell 0
    have y1 := kZ4.cell 1
    have y2 := kZ4.cell 2
    simp at p0 p1 p2 y0 y1 y2
    clear kB4 kZ4
    have KZ := Lib.hid (((HE.out.2.1.set_ 0 (.slice L lo.length lc)).set_ 1 (.slice (some ⟨w4.heap.size, 0, none⟩) 1 1)).set_ 2 (.slice T us.length tc))
    have HRR := Lib.hid (HE.out.fin hlt (.slice L lo.length lc) (.slice (some ⟨w4.heap.size, 0, none⟩) 1 1) (.slice T us.length tc))
    rw [World.setCell_alloc_past _ _ _ _ hs4, World.setCell_alloc_past _ _ _ _ (by simp [World.setCell]; omega), World.setCell_alloc_past _ _ _ _ (by simp [World.setCell]; omega), World.setCell_alloc_past _ _ _ _ (by simp [World.setCell]; omega)] at KZ HRR
    have hnb : w2.heap.size ≠ w.heap.size := by omega
    have hnb' : w.heap.size ≠ w2.heap.size := by omega
    go_wp2_with fail
    have s0 := KZ.out.cell 0
    have s1 := KZ.out.cell 1
    have s2 := KZ.out.cell 2
    simp at s0 s1 s2
    exact bodyPost_ret (v := .agg #[.slice L lo.length lc, .slice (some ⟨w4.heap.size, 0, none⟩) 1 1, .slice T us.length tc]) (by simp [results, Try.results69, go_sem, s0, s1, s2]) rfl HRR.out
  have e1 : (j == 1) = false := by rw [beq_eq_false_iff_ne]; exact hj1
  clear hj1
  by_cases hj2 : j = 2
  · subst hj2
    have c2 := HE.out.1.cell 2
    simp at c2
    have hgw : w.heap.size < w4.heap.size := by omega
    have hq9 : q4 ≤ 999994500 := by have := HQ.out.2; omega
    go_wp2_with fail
    refine Rgn.wp_region_facts (Rgn.RR g) (Rgn.RI w4 g A n c q4 (q4 + 400 * ((10 : Nat) : Int))) (Rgn.RI.start r4) [[], [0], [], [], [3], [2, 3, 4], [2, 3, 4, 5]]
      [fun v' _ => v' = .pointer (some ⟨w2.heap.size, 2, none⟩), fun v' _ => v' = .slice T us.length tc, NineG w4.heap.size, fun v' _ => v' = .pointer (some ⟨g, 0, none⟩), TimG, OneG w4.heap.size, SliG w4.heap.size]
      (by kernel_rfl) (by kernel_rfl) rfl ⟨Rgn.stable_pure _, Rgn.stable_pure _, stable_nine hlt4, Rgn.stable_pure _, Rgn.stable_of (fun _ _ _ _ h => h), stable_one hlt4, stable_sli hlt4, trivial⟩ ?_
    refine Rgn.wf_stepK [] [] (by kernel_rfl) (by kernel_rfl) (fun ff wf hi hf => ?_) (fun t0 => ?_)
    · have hb := hi.1
      refine Rgn.WfOp.ofB Rgn.RR.ofB Rgn.RI.below hi ⟨?_⟩
      go_wp2
      exact ⟨rfl, .pointer (some ⟨w2.heap.size, 2, none⟩), by kernel_rfl, Below.refl _ _, rfl⟩
    refine Rgn.wf_stepK [0] [fun _ => t0 = .pointer (some ⟨w2.heap.size, 2, none⟩)] (by kernel_rfl) (by kernel_rfl) (fun ff wf hi hf => ?_) (fun t1 => ?_)
    · obtain ⟨rfl, -⟩ := hf
      have hb := hi.1
      refine Rgn.WfOp.ofB Rgn.RR.ofB Rgn.RI.below hi ⟨?_⟩
      have p0 := hb.cell c2 hne
      go_wp2
      exact ⟨rfl, .slice T us.length tc, by kernel_rfl, Below.refl _ _, rfl⟩
    refine Rgn.wf_stepK [] [] (by kernel_rfl) (by kernel_rfl) (fun ff wf hi hf => ?_) (fun t2 => ?_)
    · have hb := hi.1
      refine Rgn.WfOp.ofB Rgn.RR.ofB Rgn.RI.below hi ⟨?_⟩
      go_wp2
      exact ⟨rfl, .slice (some ⟨wf.heap.size, 0, none⟩) 1 1, by kernel_rfl, bal (Below.refl _ _) _, wf.heap.size, rfl, Blk.newAt rfl, hb.size⟩
    refine Rgn.wf_stepK [] [] (by kernel_rfl) (by kernel_rfl) (fun ff wf hi hf => ?_) (fun t3 => ?_)
    · have hb := hi.1
      refine Rgn.WfOp.ofB Rgn.RR.ofB Rgn.RI.below hi ⟨?_⟩
      go_wp2
      exact ⟨rfl, .pointer (some ⟨g, 0, none⟩), by kernel_rfl, Below.refl _ _, rfl⟩
    refine Rgn.wf_stepK [3] [fun _ => t3 = .pointer (some ⟨g, 0, none⟩)] (by kernel_rfl) (by kernel_rfl) (fun ff wf hi hf => ?_) (fun t4 => ?_)
    · obtain ⟨rfl, -⟩ := hf
      refine Rgn.RI.op hi (fun qr hqr hq0 hq1 hgr => ⟨?_⟩)
      go_wp2_with (go_at_call 138; refine (anyTime_r g A n c qr _ hqr (by omega)).mono ?_; rintro e w2 ⟨x, y, q2, rfl, hx0, hx1, r2, g2⟩)
      exact ⟨rfl, .agg #[.int .i64 x, .int .i64 y], by kernel_rfl, g2, ⟨hgr.trans g2, q2, r2, by omega, by omega⟩, x, y, rfl⟩
    refine Rgn.wf_stepK [2, 4] [NineG w4.heap.size t2, TimG t4] (by kernel_rfl) (by kernel_rfl) (fun ff wf hi hf => ?_) (fun t5 => ?_)
    · obtain ⟨⟨G', rfl, h9, hG'⟩, ⟨x, y, rfl⟩, -⟩ := hf
      have hb := hi.1
      refine Rgn.WfOp.ofB Rgn.RR.ofB Rgn.RI.below hi ⟨?_⟩
      go_wp2
      exact ⟨rfl, .agg #[.slice (some ⟨G', 0, none⟩) 1 1, .int .i64 x, .int .i64 y, .int .i64 1], by kernel_rfl, Below.refl _ _, G', x, y, rfl, h9, hG'⟩
    refine Rgn.wf_stepK [5] [OneG w4.heap.size t5] (by kernel_rfl) (by kernel_rfl) (fun ff wf hi hf => ?_) (fun t6 => ?_)
    · obtain ⟨⟨G', x, y, rfl, h9, hG'⟩, -⟩ := hf
      have hb := hi.1
      refine Rgn.WfOp.ofB Rgn.RR.ofB Rgn.RI.below hi ⟨?_⟩
      go_wp2
      exact ⟨rfl, .slice (some ⟨wf.heap.size, 0, none⟩) 1 1, by kernel_rfl, bal (Below.refl _ _) _, wf.heap.size, G', x, y, rfl, Blk.newAt rfl, h9.alloc _, hb.size, hG'⟩
    refine Rgn.wf_doneK [1, 6] [fun _ => t1 = .slice T us.length tc, SliG w4.heap.size t6] (by kernel_rfl) (by kernel_rfl) (fun f50 w50 b50 hf => ?_)
    obtain ⟨rfl, ⟨G, G', x, y, rfl, hG, h9, hG0, hG'⟩, -⟩ := hf
    show wpList _ _ _ [_, _, _] _ _
    refine wpList_frame (by simp [Act.put]; rfl) ?_
    have hg50 := b50.1
    have hs50 := hg50.size
    have kB50 := HE.out.1.kept hg50 (by omega)
    have kZ50 := HE.out.2.1.kept hg50 (by omega)
    obtain ⟨css, hrow, hcap, hTS, hpsh⟩ := HE.out.2.2.1.psh (x := x) (y := y) (w1 := w50) (fun k hk => hg50.block k hk.2.1 (fun e => by injection e with e; have := hk.1; omega)) hs50 h9 hG'
    have hbt := HE.out.2.2.2.2.2.2.1
    have hgw0 := HE.out.2.2.2.2.2.2.2.2.trans hg50
    clear c2 h9
    go_wp2_with (at_builtin; refine wpList_append_src _ rfl _ _ 24 rfl 0 119 j0 (.agg #[.slice none 0 0, .int .i64 0, .int .i64 0, .int .i64 0]) 4 48 Try.underlying24 hj hy0 hy1 hy2 rfl (by decide) _ _ _ rfl hrow (some ⟨G, 0, none⟩) 1 1 [.slice (some ⟨G', 0, none⟩) 1 1, .int .i64 x, .int .i64 y, .int .i64 1] rfl rfl (fun h => by cases h) (blk_srcU hG) upd_ones (by unfold maxLen; omega) (by omega) (Nat.zero_le _) ?_)
    intro v' w5 hown' hgrow hloc
    simp only [ownBlock_slice] at hgrow hloc
    have hs5 := hgrow.size
    obtain ⟨T5, tc5, rfl, hb5⟩ := hpsh w5 v' (fun k => w.heap.size < k ∧ k < w5.heap.size ∧ k ≠ w2.heap.size) hown' hgrow hloc (fun k hk => by rcases hk with h | h <;> omega) (fun k hk => hk.2.1)
    have kB5 : Blk w5 w2.heap.size 26 #[.slice L lo.length lc, .slice U up.length uc, .slice T us.length tc] := (hgrow.block _ (by omega) (fun e => (hTS _ e.symm).2.2 rfl)).trans kB50
    have kZ5 : Blk w5 w.heap.size 26 #[.slice none 0 0, .slice none 0 0, .slice none 0 0] := (hgrow.block _ (by omega) (fun e => by have := (hTS _ e.symm).1; omega)).trans kZ50
    have hg5 : w.grownBy w5 (some g) := hgw0.andThen hgrow (fun k e => .inl (by have := (hTS k e).1; omega))
    have hr5 : ∃ q, Rdr w5 g A n c q ∧ p ≤ q ∧ q ≤ p + 5000 := by
      obtain ⟨q, hr, h1, h2⟩ := b50.2
      have hq1 := HQ.out.1
      have hq2 := HQ.out.2
      exact ⟨q, hr.keptG hgrow (fun k e => by have := (hTS k e).1; omega), by omega, by omega⟩
    clear HE
    have HE : Hid (AbE w w2 g A n c p (w5.setCell ⟨w2.heap.size, 2, none⟩ (.slice T5 (us.length + 1) tc5)) (lo, (up, us ++ [(([9], (x, y)), 1)])) lo.length up.length (us.length + 1) L lc U uc T5 tc5) := by
      obtain ⟨q, hr, h1, h2⟩ := hr5
      refine ⟨by simpa using kB5.set_ 2 (.slice T5 (us.length + 1) tc5), kZ5.far (by simp; omega) _, batO.mono (batO.loc hb5 (fun k hk => Below.heap_setCell _ _ _ _ hk.2.2)) (fun k hk => ⟨hk.1, by simpa [World.setCell] using hk.2.1, hk.2.2⟩) (fun k hk => hk.2.1), rfl, rfl, by simp, ⟨hbt.1, hbt.2.1, by simp; omega, fun e he => ?_⟩, ⟨q, hr.far (by simp; omega) _, h1, h2⟩, gset hg5 (by simp; omega) _⟩
      rcases List.mem_append.1 he with he | he
      · exact hbt.2.2.2 e he
      · simp at he; subst he; simp
    clear hown' hgrow hloc hpsh hTS hb5 hg5 hr5 hbt hrow kB50 kZ50 hg50 hgw0 b50 hG
    have p0 := kB5.cell 0
    have p1 := kB5.cell 1
    have p2 := kB5.cell 2
    have f0 := kB5.frozen 0
    have f1 := kB5.frozen 1
    have f2 := kB5.frozen 2
    have z0 := kZ5.frozen 0
    have z1 := kZ5.frozen 1
    have z2 := kZ5.frozen 2
    have y0 := kZ5.cell 0
    have y1 := kZ5.cell 1
    have y2 := kZ5.cell 2
    simp at p0 p1 p2 y0 y1 y2
    clear kB5 kZ5
    have KZ := Lib.hid (((HE.out.2.1.set_ 0 (.slice L lo.length lc)).set_ 1 (.slice U up.length uc)).set_ 2 (.slice T5 (us.length + 1) tc5))
    have HRR := Lib.hid (HE.out.fin hlt (.slice L lo.length lc) (.slice U up.length uc) (.slice T5 (us.length + 1) tc5))
    have hnb : w2.heap.size ≠ w.heap.size := by omega
    have hnb' : w.heap.size ≠ w2.heap.size := by omega
    go_wp2_with fail
    have s0 := KZ.out.cell 0
    have s1 := KZ.out.cell 1
    have s2 := KZ.out.cell 2
    simp at s0 s1 s2
    exact bodyPost_ret (v := .agg #[.slice L lo.length lc, .slice U up.length uc, .slice T5 (us.length + 1) tc5]) (by simp [results, Try.results69, go_sem, s0, s1, s2]) rfl HRR.out
  have e2 : (j == 2) = false := by rw [beq_eq_false_iff_ne]; exact hj2
  clear hj2 r4
  have p0 := HE.out.1.cell 0
  have p1 := HE.out.1.cell 1
  have p2 := HE.out.1.cell 2
  have f0 := HE.out.1.frozen 0
  have f1 := HE.out.1.frozen 1
  have f2 := HE.out.1.frozen 2
  have z0 := HE.out.2.1.frozen 0
  have z1 := HE.out.2.1.frozen 1
  have z2 := HE.out.2.1.frozen 2
  have y0 := HE.out.2.1.cell 0
  have y1 := HE.out.2.1.cell 1
  have y2 := HE.out.2.1.cell 2
  simp at p0 p1 p2 y0 y1 y2
  have KZ := Lib.hid (((HE.out.2.1.set_ 0 (.slice L lo.length lc)).set_ 1 (.slice U up.length uc)).set_ 2 (.slice T us.length tc))
  have HRR := Lib.hid (HE.out.fin hlt (.slice L lo.length lc) (.slice U up.length uc) (.slice T us.length tc))
  have hnb : w2.heap.size ≠ w.heap.size := by omega
  have hnb' : w.heap.size ≠ w2.heap.size := by omega
  go_wp2_with fail
  have s0 := KZ.out.cell 0
  have s1 := KZ.out.cell 1
  have s2 := KZ.out.cell 2
  simp at s0 s1 s2
  exact bodyPost_ret (v := .agg #[.slice L lo.length lc, .slice U up.length uc, .slice T us.length tc]) (by simp [results, Try.results69, go_sem, s0, s1, s2]) rfl HRR.out
end Go.Proofs.Ythefakiobpijiaa

/- HELPER, no statement of the seat: the generator of the arguments of SeekRows. -/
namespace Go.Proofs.Ythefakiobpijiaa
open Go.RowKit Go.Sort
set_option linter.unusedSimpArgs false
set_option linter.unusedVariables false

def PikG (v : Value) (w : World) : Prop := ∃ k : Nat, k < 3 ∧ v = .int .i64 (k : Int)
def RowG (m : Nat) (v : Value) (w : World) : Prop := ∃ (xs : List Int) (A : Option Addr) (c : Nat), v = .slice A xs.length c ∧ IntsOwn w m A c xs ∧ xs.length ≤ 3
theorem stable_row {g m : Nat} (h : g < m) : Rgn.Stable (Rgn.RR g) (RowG m) := fun _ _ _ hg ⟨xs, A, c, e, ho, hl⟩ => ⟨xs, A, c, e, ho.keptG hg h, hl⟩
def SkD (w : World) (e : Ending) (w' : World) : Prop := ∃ (b : Bt) (v : Value) (xs : List Int) (A' : Option Addr) (c' : Nat), e = .returned (.tuple #[v, .slice A' xs.length c']) ∧ BatN w b v w' ∧ btB 1 b ∧ IntsOwn w' w.heap.size A' c' xs ∧ xs.length ≤ 3 ∧ Below w.heap.size w w'
end Go.Proofs.Ythefakiobpijiaa
