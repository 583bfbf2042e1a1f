/- The law FnShardOf returns true at every code; no condition. -/
import Derived.Test.YtjikdlldochhcabDrawSh
import Derived.Test.YtjikdlldochhcabSho
import Derived.Test.YtjikdlldochhcabClo
import Derived.Carry
import Derived.ChangeOld
import Derived.Lib.SmallJoins
import Derived.Lib.QuietBelow
namespace Go.Proofs.Ytjikdlldochhcab
open Go.ChangeShapes Go.WideShapes Go.ChangeAt Go.RowKit Go.Sort
set_option linter.unusedVariables false
set_option linter.unusedSimpArgs false

def sevB (xs ys : List Int) (k : Nat) : Prop := ys.length = xs.length ∧ ys.take k = xs.take k ∧ ∀ x ∈ ys, -9999 ≤ x ∧ x ≤ 9999
theorem sevB_start {xs : List Int} (h : rowB xs = true) (k : Nat) : sevB xs xs k := by
  simp only [rowB, decide_eq_true_eq] at h
  exact ⟨rfl, rfl, h.2.2⟩
theorem sevB_step {xs ys : List Int} {k j : Nat} (h : sevB xs ys k) (hj : k ≤ j) : sevB xs (ys.set j 7) k := by
  obtain ⟨h1, h2, h3⟩ := h
  refine ⟨by rw [List.length_set]; exact h1, by rw [List.take_set_of_le hj]; exact h2, fun x hx => ?_⟩
  rcases List.mem_or_eq_of_mem_set hx with hx | rfl
  · exact h3 x hx
  · omega
theorem sevB_shF {xs ys : List Int} {k : Nat} (h : sevB xs ys k) (hr : rowB xs = true) (n : Int) : shF ys (k : Int) n = shF xs (k : Int) n := by
  obtain ⟨h1, h2, h3⟩ := h
  have hy : rowB ys = true := by
    simp only [rowB, decide_eq_true_eq] at hr ⊢
    rw [h1]
    exact ⟨hr.1, hr.2.1, h3⟩
  simp only [shF, shB, hy, hr, h1, Int.toNat_natCast, h2]
set_option maxRecDepth 100000 in
set_option maxHeartbeats 6400000 in
theorem FnShardOf_walk (A : Option Addr) (n c : Nat) (w : World) (hc : n ≤ c) (hl : n ≤ maxLen) (hb : BytesAt w w.heap.size A n) :
    Calls Try.prog 6 #[.slice A n c] w fun e w' => e = .returned (.bool true) ∧ Below w.heap.size w w' := by
  unfold maxLen at hl
  by_cases hbign : 1048576 < n
  · have hb' : (1048576 : Int) < n := by omega
    go_enter Try.func6, Try.ntmps6
    go_wp2
    go_ret
    exact ⟨rfl, Below.refl _ _⟩
  have hbn' : (n : Int) ≤ 1048576 := by omega
  have HB := Lib.hid hb
  clear hb hbign
  obtain ⟨i0, hi, hz0, hz1, hz2⟩ := info_parts Try.infoInt
  go_enter Try.func6, Try.ntmps6
  go_wp2_with fail
  refine (DrawShardOf_r _ _ _ _ HB.out hc (by omega)).mono ?_
  rintro e w1 ⟨xs, k, m, A1, c1, rfl, hxl, hx, hlc, hcm, hk0, hk1, hm0, hm1, B1⟩
  have conI := fun W (h : IntsAt W A1 xs) => ShardOf_i A1 c1 xs k m W h hlc hcm (by omega)
  have conS := fun W (h : IntsAt W A1 xs) => ShardOf_s A1 c1 xs k m W h (by omega)
  by_cases hB : shB xs k m = true
  case neg =>
    have hR : shF xs k m = -1 := by simp [shF, hB]
    rw [hR] at conI conS
    clear hR hB
    go_wp2_with fail
    refine (conI _ hx).mono ?_
    rintro e w2 ⟨rfl, b2⟩
    have B2 := btr B1 b2
    go_wp2_with fail
    refine (conS _ (hx.below b2)).mono ?_
    rintro e w3 ⟨rfl, b3⟩
    have B3 := btr B2 b3
    go_wp2_with fail
    refine (conS _ (hx.below (btr b2 b3))).mono ?_
    rintro e w4 ⟨rfl, b4⟩
    have B4 := btr B3 b4
    go_wp2_with fail
    go_ret
    exact ⟨rfl, B4⟩
  have hB' := hB
  simp only [shB, Bool.and_eq_true] at hB'
  obtain ⟨hrow, hin, hwk⟩ := hB'
  have k0 := inB_yes hin
  have n0 := inB_yes hwk
  obtain ⟨q, rfl⟩ : ∃ q : Nat, k = q := ⟨k.toNat, by omega⟩
  have hR : shF xs (q : Int) m = hsL (xs.take q) % m := by simp [shF, hB]
  have hR1 : shF xs (q : Int) 1 = 0 := by
    have : shB xs (q : Int) 1 = true := by simp only [shB, hrow, hin, Bool.true_and]; rfl
    simp only [shF, this, if_true]
    omega
  have hb1 : 0 ≤ hsL (xs.take q) % m := Int.emod_nonneg _ (by omega)
  have hb2 : hsL (xs.take q) % m < m := Int.emod_lt_of_pos _ (by omega)
  have conI1 := fun W (h : IntsAt W A1 xs) => ShardOf_i A1 c1 xs q 1 W h hlc hcm (by omega)
  rw [hR1] at conI1
  have HSV := Lib.hid (fun ys (h : sevB xs ys q) => (sevB_shF h hrow m).trans hR)
  rw [hR] at conI conS
  have hl6 : 1 ≤ xs.length ∧ xs.length ≤ 6 := by have h := hrow; simp only [rowB, decide_eq_true_eq] at h; exact ⟨h.1, h.2.1⟩
  have HST := Lib.hid (sevB_start hrow q)
  clear hR hR1 hB hin hwk hrow
  generalize hsL (xs.take q) % m = R at conI conS hb1 hb2 HSV
  have hRR : (R != R) = false := by simp
  have hRE : (R == R) = true := by simp
  have hRn : decide (R < 0) = false := by simp; omega
  go_wp2_with fail
  refine (conI _ hx).mono ?_
  rintro e w2 ⟨rfl, b2⟩
  have B2 := btr B1 b2
  go_wp2_with fail
  refine (conS _ (hx.below b2)).mono ?_
  rintro e w3 ⟨rfl, b3⟩
  have B3 := btr B2 b3
  have hxk : IntsAt w3 A1 xs := (hx.below (btr b2 b3))
  have hb0 : Below w3.heap.size w3 (w3.alloc (.cells #[] 3)) := bal (Below.refl _ _) _
  have hs := ints_src (hxk.below hb0)
  have hown := World.ownsRow_lit (base := w3.heap.size) (size := 1) (e := 3) w3 #[] 0 (Nat.le_refl _) (by simp [maxLen]) (by simp)
  clear conI conS
  go_wp2_with (at_builtin; refine wpList_append_src _ rfl _ _ 22 rfl w3.heap.size 3 i0 (.int .i64 0) 1 8 Try.underlying22 hi hz0 hz1 hz2 rfl (by decide) _ _ _ rfl hown A1 xs.length c1 (xs.map (Value.int .i64)) rfl (by simp) hs.1 hs.2 (ints_one xs) (by unfold maxLen; omega) (by omega) (by simp) ?_)
  intro v' wA hownA hgrowA _
  obtain ⟨A', c', rfl⟩ := own_slice hownA
  have hbA : Below w3.heap.size w3 wA := hb0.grown hgrowA (by simp) (fun q hq => by simp [Value.ownBlock] at hq; omega)
  have hownA2 : IntsOwn wA w3.heap.size A' c' xs := by simpa [IntsOwn] using hownA
  obtain ⟨G, rfl⟩ : ∃ G, A' = some ⟨G, 0, none⟩ := by
    rcases ownsRow_form hownA2 with ⟨_, _, h0⟩ | ⟨g, h, _⟩
    · omega
    · exact ⟨g, h⟩
  have HO := Lib.hid hownA2
  have HA := Lib.hid hbA
  clear hownA hgrowA hown hs hb0 hownA2 hbA
  try simp only [Nat.zero_add]
  go_wp2
  go_loopw [8] (fun i wr => ∃ (j : Nat) (ys : List Int), q ≤ j ∧ j ≤ xs.length ∧ i = .int .i64 (j : Nat) ∧ sevB xs ys q ∧ IntsOwn wr w3.heap.size (some ⟨G, 0, none⟩) c' ys ∧ Below w3.heap.size w3 wr) (fun i _ => xs.length - (intOf i).toNat)
  case atStart => exact ⟨q, xs, by omega, by omega, rfl, HST.out, HO.out, HA.out⟩
  case round =>
    obtain ⟨j, ys, hj0, hj1, rfl, hsv, hoy, hbel⟩ := hrel
    have hyl : ys.length = xs.length := hsv.1
    by_cases hlt : j < xs.length
    · have hr0 : wr.ownsRow w3.heap.size 3 1 (.slice (some ⟨G, 0, none⟩) ys.length c') ys.length (ys.map (Value.int .i64)) := hoy
      have hce := World.ownsRow.cellAt hr0 j (by omega)
      rw [show (ys.map (Value.int .i64))[j]? = some (.int .i64 (ys.getD j 0)) by simp [show j < ys.length by omega]] at hce
      have hfr := World.ownsRow.frozenAt hr0 j
      have hG : w3.heap.size ≤ G := by
        rcases ownsRow_form hoy with ⟨h, _, _⟩ | ⟨g, h, h2, _⟩
        · cases h
        · injection h with h; injection h with h; omega
      have HS := Lib.hid (sevB_step hsv hj0)
      have HW := Lib.hid (IntsOwn.store (k := j) hoy 7)
      have HB2 := Lib.hid hbel
      clear hsv hoy hr0 hbel HO HA HST hyl
      go_wp2
      go_roundw
      case rel => exact ⟨j + 1, ys.set j 7, by omega, by omega, by go_num, HS.out, HW.out, bset HB2.out hG _⟩
      case measure => simp [intOf]; omega
    · obtain rfl : j = xs.length := by omega
      have hlc2 := hoy.len_cap
      have hcon := ShardOf_i (some ⟨G, 0, none⟩) c' ys q m wr hoy.at_ hlc2.1 hlc2.2 (by omega)
      rw [HSV.out ys hsv, hyl] at hcon
      have B4 := btr B3 hbel
      have hx4 := hx.below (btr (btr b2 b3) hbel)
      have hlm : decide (R < m) = true := by simpa using hb2
      clear hsv hoy HO HA HST hyl
      go_wp2_with fail
      refine hcon.mono ?_
      rintro e w5 ⟨rfl, b5⟩
      have B5 := btr B4 b5
      go_wp2_with fail
      refine (conI1 _ (hx4.below b5)).mono ?_
      rintro e w6 ⟨rfl, b6⟩
      have B6 := btr B5 b6
      go_wp2_with fail
      go_ret
      exact ⟨rfl, B6⟩

namespace lawFnShardOf
theorem own : ownKnob Try.prog.godebug = none := by kernel_rfl
theorem laidOut : laidOutB Try.prog = true := clo_laid
set_option maxRecDepth 100000 in
theorem lifted (os : Os) (started : os.Started) (H : Type) (enc : TypeId × Value → H) :
    ReturnsInHanded {} Try.checked os 6 .any (Rows.fnShardOfSpec.pre6 enc Try.prog Try.f6 Rows.fnShardOfRow.domain false) (Rows.fnShardOfSpec.post enc Try.prog Try.f6 false true false false) := by
  refine returnsInHanded_of_change (C := Try.checked) own started (by kernel_rfl) Try.func6
    (ChangeSpec.witness6 (enc := enc) (C := Try.checked) false ⟨#[], #[.slice none 0 0], []⟩ 8 (by kernel_rfl) (by kernel_rfl) (by kernel_rfl) (by kernel_rfl)) ?_
  intro W base args ds gs before hval0 hW hcnd _
  have hval : ∀ (j : Nat) t v, Try.f6.params[j]? = some t → args[j]? = some v → Value.okWide Try.prog W .any base t v := hval0
  have hW' := hW
  obtain ⟨p, q, hA0, hV, rfl, hfz, hnd⟩ := hW
  have hA : DataW.TrodAll enc Try.prog W 0 (fun _ => true) true Try.f6.params.toList args.toList ds p := hA0
  rw [Try.params6] at hA hval
  obtain ⟨v0, vs0, d0, ds0, p0, q0, hargs, rfl, rfl, h0, r0⟩ := trodAll_cons hA
  obtain ⟨rfl, rfl, rfl⟩ := trodAll_nil r0
  obtain rfl : args = #[v0] := by cases args; simp_all
  obtain ⟨rfl, rfl⟩ := trodVars_none hV
  have k0 := h0
  have lt0 : ∀ x ∈ p0, x.block < W.heap.size := by obtain ⟨m, hm⟩ := k0; exact DataW.trod_lt m _ _ _ hm
  obtain ⟨a0, len0, cap0, rfl⟩ := okWide_slice Try.underlying43 (hval 0 43 v0 rfl rfl)
  obtain ⟨l0, m0, w0⟩ := bytes_of Try.underlying43 Try.underlying5 (by kernel_rfl) h0
  clear hA0 hval0
  refine (FnShardOf_walk a0 len0 cap0 W l0 m0 w0).mono fun e W' ⟨he, bel⟩ => ?_
  subst he
  exact ⟨_, rfl, _, _, _, [], _, [], hW', trodAll_mk1 (shut_bool Try.underlying4 _), (trodAll_cons_mk (Below.trod laidOut (by kernel_rfl) (of_decide_eq_true (by kernel_rfl)) k0 bel lt0) trodAll_mk0), rfl, bel.frame _, fun h => by cases h⟩
theorem andTT {a b : Bool} (h1 : a = true) (h2 : b = true) : (a && b) = true := by rw [h1, h2]; rfl
set_option maxHeartbeats 8000000 in
theorem closed : joinedFacts Try.prog 6 Try.f6 Rows.fnShardOfSpec Rows.fnShardOfRow = true := by
  unfold joinedFacts
  repeat' (with_reducible refine andTT ?_ ?_)
  all_goals (first | (with_reducible exact clo_laid) | (with_reducible exact clo_maps) | (with_reducible exact clo_heard) | (with_reducible exact clo_enter) | ((with_reducible refine clo_plain _ ?_); rfl) | ((with_reducible refine clo_lifts _ ?_); rfl) | (as_aux_lemma => kernel_rfl))

theorem over : Rows.fnShardOfRow.holds Try.pinned (OpenSpec.ofChange Rows.fnShardOfSpec) :=
  OpenClaim.holds_of_wide 6 Try.f6 rfl rfl rfl rfl rfl rfl rfl ⟨rfl, rfl, rfl, rfl, rfl⟩ rfl rfl rfl rfl rfl (by kernel_rfl) Try.func6 closed
    (of_decide_eq_true (by kernel_rfl)) (by unfold Func.isWrapper; first | (rw [if_pos (by decide +kernel)]; kernel_rfl) | (rw [if_neg (by decide +kernel)]; exact ⟨rfl, rfl⟩))
    (fun os started H enc _ => lifted os started H enc)

/-- THE STATEMENT. -/
theorem proved : Rows.FnShardOfSaid := over
end lawFnShardOf
end Go.Proofs.Ytjikdlldochhcab
