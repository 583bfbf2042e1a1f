/- The law FnCheckPath returns true at every code; no condition. -/
import Derived.Test.YtifjenleoagefaaDrawCp
import Derived.Test.YtifjenleoagefaaCge
import Derived.Test.YtifjenleoagefaaCgg
import Derived.Test.YtifjenleoagefaaCtl
import Derived.Test.YtifjenleoagefaaCgf
import Derived.Test.YtifjenleoagefaaCgm
import Derived.Test.YtifjenleoagefaaEqZ
import Derived.Test.YtifjenleoagefaaCgn
import Derived.Test.YtifjenleoagefaaCgk
import Derived.Test.YtifjenleoagefaaZbx
import Derived.Test.YtifjenleoagefaaZbn
import Derived.Test.YtifjenleoagefaaClo
import Derived.Carry
import Derived.ChangeOld
import Derived.Lib.SmallJoins
import Derived.Lib.QuietBelow
namespace Go.Proofs.Ytifjenleoagefaa
open Go.ChangeShapes Go.WideShapes Go.ChangeAt Go.RowKit Go.Sort
set_option linter.unusedVariables false
set_option linter.unusedSimpArgs false

set_option maxRecDepth 100000 in
set_option maxHeartbeats 6400000 in
theorem FnCheckPath_walk (A : Option Addr) (n c : Nat) (w : World) (hc : n ≤ c) (hl : n ≤ maxLen) (hb : BytesAt w w.heap.size A n) :
    Calls Try.prog 7 #[.slice A n c] w fun e w' => e = .returned (.bool true) ∧ Below w.heap.size w w' := by
  unfold maxLen at hl
  by_cases hbign : 1048576 < n
  · have hb' : (1048576 : Int) < n := by omega
    go_enter Try.func7, Try.ntmps7
    go_wp2
    go_ret
    exact ⟨rfl, Below.refl _ _⟩
  have hbn' : (n : Int) ≤ 1048576 := by omega
  have HB := Lib.hid hb
  clear hb hbign
  go_enter Try.func7, Try.ntmps7
  go_wp2_with fail
  refine (DrawCheckPath_r _ _ _ _ HB.out hc (by omega)).mono ?_
  rintro e w1 ⟨z, Az, cz, x, y, P, d, p, rfl, hz, hp, hpd, hpm, B1⟩
  have nz : z.length ≤ 4194304 := by have := hz.2.2.1; omega
  have rz : rowsIn z 4194304 := rows_big hz.2.2.2 (by decide)
  have hpn : p.length ≤ 4194304 := by omega
  have conI := fun (W : World) (hb : Below w1.heap.size w1 W) => CheckPath_i Az cz z x y P d p W (hz.1.below entR hb) (hp.below hb) nz rz hpn hpd
  have conS := fun (W : World) (hb : Below w1.heap.size w1 W) => CheckPath_s Az cz z x y P d p W (hz.1.below entR hb) (hp.below hb) nz rz hpn hpd
  cases hk : CkF z x y p
  · simp only [hk] at conI conS
    clear hk
    go_wp2_with fail
    refine (conI _ (Below.refl _ _)).mono ?_
    rintro e w2 ⟨rfl, b2⟩
    have B2 := btr B1 b2
    go_wp2_with fail
    refine (conS _ b2).mono ?_
    rintro e w3 ⟨rfl, b3⟩
    have B3 := btr B2 b3
    go_wp2_with fail
    refine (conS _ (btr b2 b3)).mono ?_
    rintro e w4 ⟨rfl, b4⟩
    have B4 := btr B3 b4
    clear conI conS
    go_wp2_with fail
    go_ret
    exact ⟨rfl, B4⟩
  simp only [hk] at conI conS
  have HL := Lib.hid (CkF_law hk)
  have HTK := Lib.hid (fun i (h1 : 1 ≤ i) (h2 : i < p.length) => CkF_take hk h1 h2)
  have h2p : 2 ≤ p.length := (CkF_spec.1 hk).2.1.1
  have conC := fun (W : World) (hb : Below w1.heap.size w1 W) => CertifyPath_i Az cz z x y W (hz.1.below entR hb) nz rz
  simp only [HL.out.2.1] at conC
  have hsl : (PthF z x y).length ≤ p.length := HL.out.2.2
  clear hk
  generalize PthF z x y = F at *
  have HSL := Lib.hid hsl
  clear hsl
  go_wp2_with fail
  refine (conI _ (Below.refl _ _)).mono ?_
  rintro e w2 ⟨rfl, b2⟩
  have B2 := btr B1 b2
  go_wp2_with fail
  refine (conS _ b2).mono ?_
  rintro e w3 ⟨rfl, b3⟩
  have B3 := btr B2 b3
  go_wp2_with fail
  refine (conC _ (btr b2 b3)).mono ?_
  rintro e w4 ⟨A4, c4, rfl, o4, b4⟩
  have B4 := Lib.hid (btr B3 b4)
  have b14 := Lib.hid (btr (btr b2 b3) b4)
  clear conI conS conC o4 b2 b3 b4 B1 B2 B3
  obtain ⟨pb, po, rfl⟩ := hp.open2 (by omega)
  have HP := Lib.hid hp
  have HZ := Lib.hid hz.1
  clear hp hz
  go_wp2
  go_loopw [10] (fun iv wr => ∃ k : Nat, 1 ≤ k ∧ k ≤ p.length ∧ iv = .int .i64 (k : Nat) ∧ Below w4.heap.size w4 wr) (fun iv _ => p.length - (intOf iv).toNat)
  case atStart => exact ⟨1, by omega, by omega, rfl, Below.refl _ _⟩
  case round =>
    obtain ⟨k, hk1, hk2, rfl, hbel⟩ := hrel
    by_cases hlt : k < p.length
    · have hkI : (k : Int) < p.length := by omega
      have hb1 := btr b14.out hbel
      have hc1 := IntsAt.cellG HP.out (k := k) hlt
      have ck := cgrow ((hb1.cell (p := ⟨pb, po + k, none⟩) hc1.1).trans hc1.2)
      have hln : (p.take (k + 1)).length = k + 1 := by rw [List.length_take]; omega
      have hcl := fun (W : World) (hb : Below wr.heap.size wr W) => CheckPath_i Az cz z x (gi p k) (some ⟨pb, po, none⟩) d (p.take (k + 1)) W (HZ.out.below entR (btr hb1 hb)) ((HP.out.takeN (k + 1)).below (btr hb1 hb)) nz rz (by omega) (by omega)
      rw [hln, HTK.out k hk1 hlt] at hcl
      generalize gi p k = v at *
      have hkd : (k : Int) + 1 ≤ d := by omega
      have hk0 : (0 : Int) ≤ (k : Int) + 1 := by omega
      have htn : ((k : Int) + 1).toNat = k + 1 := by omega
      have hwr : IntKind.i64.wrap ((k : Int) + 1) = (k : Int) + 1 := by rw [IntKind.wrap_i64]; omega
      clear hc1 hln
      go_wp2_with fail
      refine wp_region_quiet_below (by kernel_rfl) (by kernel_rfl) ?_
      repeat (go_big_quiet_step ((go_at_call 30; exact Calls.regrown_of (hcl _ (below_regrown _ _ _)))))
      refine wpQuiet_nil ?_
      intro w5 hw5
      obtain ⟨⟨dq, osq⟩, rfl⟩ := hw5
      have hbq := btr hbel (below_regrown _ dq osq)
      clear ck hcl htn hwr hkd hk0
      generalize grow (redrawn _ dq) osq = wq at *
      go_wp2
      go_roundw
      case rel => exact ⟨k + 1, by omega, by omega, by go_num, hbq⟩
      case measure => simp [intOf]; omega
    · obtain rfl : k = p.length := by omega
      have hle : (F.length : Int) ≤ p.length := by have := HSL.out; omega
      have HZ2 := Lib.hid (HZ.out.below entR (btr b14.out hbel))
      have HB5 := Lib.hid (btr B4.out hbel)
      clear hbel HZ b14 B4 HP HTK
      go_wp2_with fail
      refine (Closure_i _ _ z _ HZ2.out nz rz).mono ?_
      rintro e w6 ⟨A6, c6, rfl, o6, b6⟩
      have B6 := btr HB5.out b6
      have a6 : EntsAt w6 A6 (ClosF z) := SlOw.at_ entO o6
      have bl : Below w6.heap.size w6 (w6.alloc (.cells #[.int .i64 x, .int .i64 y] 3)) := bal (Below.refl _ _) _
      have hI : IntsAt (w6.alloc (.cells #[.int .i64 x, .int .i64 y] 3)) (some ⟨w6.heap.size, 0, none⟩) [x, y] := NewI.ints (Blk.newAt rfl)
      go_wp2_with fail
      refine (weightZ (c := c6) (d := 2) 1 HL.out.1 (a6.below entR bl) hI (ClosF_len _) (ClosF_row _) (by simp)).mono ?_
      rintro e w7 ⟨rfl, b7⟩
      have B7 := btr (btr B6 bl) b7
      go_wp2_with fail
      go_ret
      exact ⟨rfl, B7⟩

namespace lawFnCheckPath
theorem own : ownKnob Try.prog.godebug = none := by kernel_rfl
theorem laidOut : laidOutB Try.prog = true := clo_laid
set_option maxRecDepth 100000 in
theorem lifted (os : Os) (started : os.Started) (H : Type) (enc : TypeId × Value → H) :
    ReturnsInHanded {} Try.checked os 7 .any (Rows.fnCheckPathSpec.pre6 enc Try.prog Try.f7 Rows.fnCheckPathRow.domain false) (Rows.fnCheckPathSpec.post enc Try.prog Try.f7 false true false false) := by
  refine returnsInHanded_of_change (C := Try.checked) own started (by kernel_rfl) Try.func7
    (ChangeSpec.witness6 (enc := enc) (C := Try.checked) false ⟨#[], #[.slice none 0 0], []⟩ 8 (by kernel_rfl) (by kernel_rfl) (by kernel_rfl) (by kernel_rfl)) ?_
  intro W base args ds gs before hval0 hW hcnd _
  have hval : ∀ (j : Nat) t v, Try.f7.params[j]? = some t → args[j]? = some v → Value.okWide Try.prog W .any base t v := hval0
  have hW' := hW
  obtain ⟨p, q, hA0, hV, rfl, hfz, hnd⟩ := hW
  have hA : DataW.TrodAll enc Try.prog W 0 (fun _ => true) true Try.f7.params.toList args.toList ds p := hA0
  rw [Try.params7] at hA hval
  obtain ⟨v0, vs0, d0, ds0, p0, q0, hargs, rfl, rfl, h0, r0⟩ := trodAll_cons hA
  obtain ⟨rfl, rfl, rfl⟩ := trodAll_nil r0
  obtain rfl : args = #[v0] := by cases args; simp_all
  obtain ⟨rfl, rfl⟩ := trodVars_none hV
  have k0 := h0
  have lt0 : ∀ x ∈ p0, x.block < W.heap.size := by obtain ⟨m, hm⟩ := k0; exact DataW.trod_lt m _ _ _ hm
  obtain ⟨a0, len0, cap0, rfl⟩ := okWide_slice Try.underlying35 (hval 0 35 v0 rfl rfl)
  obtain ⟨l0, m0, w0⟩ := bytes_of Try.underlying35 Try.underlying5 (by kernel_rfl) h0
  clear hA0 hval0
  refine (FnCheckPath_walk a0 len0 cap0 W l0 m0 w0).mono fun e W' ⟨he, bel⟩ => ?_
  subst he
  exact ⟨_, rfl, _, _, _, [], _, [], hW', trodAll_mk1 (shut_bool Try.underlying4 _), (trodAll_cons_mk (Below.trod laidOut (by kernel_rfl) (of_decide_eq_true (by kernel_rfl)) k0 bel lt0) trodAll_mk0), rfl, bel.frame _, fun h => by cases h⟩
theorem andTT {a b : Bool} (h1 : a = true) (h2 : b = true) : (a && b) = true := by rw [h1, h2]; rfl
set_option maxHeartbeats 8000000 in
theorem closed : joinedFacts Try.prog 7 Try.f7 Rows.fnCheckPathSpec Rows.fnCheckPathRow = true := by
  unfold joinedFacts
  repeat' (with_reducible refine andTT ?_ ?_)
  all_goals (first | (with_reducible exact clo_laid) | (with_reducible exact clo_maps) | (with_reducible exact clo_heard) | (with_reducible exact clo_enter) | ((with_reducible refine clo_plain _ ?_); rfl) | ((with_reducible refine clo_lifts _ ?_); rfl) | (as_aux_lemma => kernel_rfl))

theorem over : Rows.fnCheckPathRow.holds Try.pinned (OpenSpec.ofChange Rows.fnCheckPathSpec) :=
  OpenClaim.holds_of_wide 7 Try.f7 rfl rfl rfl rfl rfl rfl rfl ⟨rfl, rfl, rfl, rfl, rfl⟩ rfl rfl rfl rfl rfl (by kernel_rfl) Try.func7 closed
    (of_decide_eq_true (by kernel_rfl)) (by unfold Func.isWrapper; first | (rw [if_pos (by decide +kernel)]; kernel_rfl) | (rw [if_neg (by decide +kernel)]; exact ⟨rfl, rfl⟩))
    (fun os started H enc _ => lifted os started H enc)

/-- THE STATEMENT. -/
theorem proved : Rows.FnCheckPathSaid := over
end lawFnCheckPath
end Go.Proofs.Ytifjenleoagefaa
