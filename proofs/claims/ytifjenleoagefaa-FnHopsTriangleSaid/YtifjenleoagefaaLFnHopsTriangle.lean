/- The law FnHopsTriangle returns true at every code; no condition. -/
import Derived.Test.YtifjenleoagefaaCgi
import Derived.Test.YtifjenleoagefaaCht
import Derived.Test.YtifjenleoagefaaCho
import Derived.Test.YtifjenleoagefaaGrpE
import Derived.Test.YtifjenleoagefaaCgf
import Derived.Test.YtifjenleoagefaaCgm
import Derived.Test.YtifjenleoagefaaEqZ
import Derived.Test.YtifjenleoagefaaCgn
import Derived.Test.YtifjenleoagefaaZbx
import Derived.Test.YtifjenleoagefaaZbn
import Derived.Test.YtifjenleoagefaaClo
import Derived.Carry
import Derived.ChangeOld
import Derived.Lib.SmallJoins
import Derived.Lib.QuietBelow
namespace Go.Proofs.Ytifjenleoagefaa
open Go.ChangeShapes Go.WideShapes Go.ChangeAt Go.RowKit Go.Sort
set_option linter.unusedVariables false
set_option linter.unusedSimpArgs false

set_option maxRecDepth 100000 in
set_option maxHeartbeats 6400000 in
theorem FnHopsTriangle_walk (A : Option Addr) (n c : Nat) (w : World) (hc : n ≤ c) (hl : n ≤ maxLen) (hb : BytesAt w w.heap.size A n) :
    Calls Try.prog 5 #[.slice A n c] w fun e w' => e = .returned (.bool true) ∧ Below w.heap.size w w' := by
  unfold maxLen at hl
  by_cases hbign : 1048576 < n
  · have hb' : (1048576 : Int) < n := by omega
    go_enter Try.func5, Try.ntmps5
    go_wp2
    go_ret
    exact ⟨rfl, Below.refl _ _⟩
  have hbn' : (n : Int) ≤ 1048576 := by omega
  have HB := Lib.hid hb
  clear hb hbign
  go_enter Try.func5, Try.ntmps5
  go_wp2_with fail
  refine (DrawHops_r _ _ _ _ HB.out hc (by omega)).mono ?_
  rintro e w1 ⟨z, Az, cz, s, rfl, hz, hs, B1⟩
  have nz : z.length ≤ 4194304 := by have := hz.2.2.1; omega
  have rz : rowsIn z 4194304 := rows_big hz.2.2.2 (by decide)
  clear hs
  go_wp2_with fail
  refine (Hops_i Az cz z s w1 hz.1 nz rz).mono ?_
  rintro e w2 ⟨A2, c2, rfl, o2, b2⟩
  have B2 := btr B1 b2
  have a2 : EntsAt w2 A2 (HopsF z s) := SlOw.at_ entO o2
  have k2 := EntsOw.atC o2
  go_wp2_with fail
  refine (Hops_s Az cz z s w2 (hz.1.below entR b2) nz rz).mono ?_
  rintro e w3 ⟨A3, c3, rfl, o3, b3⟩
  have B3 := btr B2 b3
  have a3 : EntsAt w3 A3 (HopsF z s) := SlOw.at_ entO o3
  have hln := HopsF_len z s
  have hrw := HopsF_row z s
  go_wp2_with fail
  refine (equalZ (xs := HopsF z s) (ys := HopsF z s) true (decide_eq_true rfl) (a2.below entR b3) a3 (by omega) (by omega) hrw hrw).mono ?_
  rintro e w4 ⟨rfl, b4⟩
  have B4 := Lib.hid (btr B3 b4)
  have HZ := Lib.hid (hz.1.below entR (btr (btr b2 b3) b4))
  have HH := Lib.hid (k2.below entC (btr b3 b4))
  have HG := Lib.hid (fun i (hi : i < (HopsF z s).length) => hop_get hi)
  clear a2 k2 a3 o2 o3 b2 b3 b4 B1 B2 B3 hz
  generalize HopsF z s = H at *
  go_wp2
  go_loopw [6, 7, 8] (fun iv _ _ wr => ∃ i : Nat, i ≤ H.length ∧ iv = .int .i64 (i : Nat) ∧ Below w4.heap.size w4 wr) (fun iv _ _ _ => H.length - (intOf iv).toNat)
  case atStart => exact ⟨0, by omega, rfl, Below.refl _ _⟩
  case round =>
    obtain ⟨i, hi, rfl, hbel⟩ := hrel
    by_cases hlt : i < H.length
    · obtain ⟨V, hV⟩ : ∃ V : World, V = wr := ⟨_, rfl⟩
      subst hV
      have hltI : (i : Int) < H.length := by omega
      obtain ⟨he, u, n, hrow, hn1, hn2, hedge⟩ := HG.out i hlt
      obtain ⟨b, off, RA, rc, hAe, hbl, hc0, -, hcl, hcm, hri⟩ := EntsC.get HH.out i hlt
      rw [hrow] at hc0 hri
      obtain ⟨rb, ro, rfl⟩ := hri.open2 (by simp)
      have r0 := IntsAt.cellG hri (k := 0) (by simp)
      have r1 := IntsAt.cellG hri (k := 1) (by simp)
      rw [Nat.add_zero] at r0
      have HC := Lib.hid (And.intro hbl (And.intro hc0 (And.intro r0 r1)))
      have HED := Lib.hid hedge
      have HE := Lib.hid he
      have HB0 := Lib.hid hbel
      clear hc0 hri r0 r1 hedge he hrow hcl hcm hbl
      subst hAe
      go_wp2
      go_loopw [7, 8] (fun kv _ wr => ∃ k : Nat, k ≤ z.length ∧ kv = .int .i64 (k : Nat) ∧ Below w4.heap.size w4 wr) (fun kv _ _ => z.length - (intOf kv).toNat)
      case atStart => exact ⟨0, by omega, rfl, hbel⟩
      case round =>
        clear hbel
        obtain ⟨k, hk, rfl, hbel⟩ := hrel
        by_cases hkl : k < z.length
        · have hkI : (k : Int) < z.length := by omega
          obtain ⟨eb, eo, EA, ec, hAe, hel, hq0, -, -, herow⟩ := EntsAt.get HZ.out k hkl
          obtain ⟨a, t, ha, ht, ek, hat⟩ := edge_nth HE.out hkl
          rw [nth_get hkl] at ek
          rw [ek] at hq0 herow
          subst hAe
          obtain ⟨fb, fo, rfl⟩ := herow.open2 (by simp)
          have f0 := IntsAt.cellG herow (k := 0) (by simp)
          have f1 := IntsAt.cellG herow (k := 1) (by simp)
          rw [Nat.add_zero] at f0
          have rE := (hbel.cell (p := ⟨eb, eo + k * 2, none⟩) hel).trans hq0
          have rF := (hbel.cell (p := ⟨fb, fo, none⟩) f0.1).trans f0.2
          have rG := (hbel.cell (p := ⟨fb, fo + 1, none⟩) f0.1).trans f1.2
          have rH := (hbel.cell (p := ⟨b, off + i * 2, none⟩) HC.out.1).trans HC.out.2.1
          have rI := (hbel.cell (p := ⟨rb, ro, none⟩) HC.out.2.2.1.1).trans HC.out.2.2.1.2
          have rJ := (hbel.cell (p := ⟨rb, ro + 1, none⟩) HC.out.2.2.1.1).trans HC.out.2.2.2.2
          simp only [gi, List.getD_cons_zero, List.getD_cons_succ, List.length_cons, List.length_nil, Nat.zero_add, Nat.reduceAdd] at rE rF rG rH rI rJ
          have hrb := HC.out.2.2.1.1
          have hbb := HC.out.1
          have cE := cgrow rE
          have cF := cgrow rF
          have cG := cgrow rG
          have cH := cgrow rH
          have cI := cgrow rI
          have cJ := cgrow rJ
          clear ek hq0 herow f0 f1 rE rF rG rH rI rJ
          by_cases hau : a = u
          rotate_left
          · have hne : ((a : Int) != (u : Int)) = true := by rw [bne_iff_ne]; omega
            clear hau
            go_wp2_with fail
            refine wp_region_quiet_below (by kernel_rfl) (by kernel_rfl) ?_
            repeat (go_big_quiet_step (fail))
            refine wpQuiet_nil ?_
            intro w5 hw5
            obtain ⟨⟨dq, osq⟩, rfl⟩ := hw5
            have hbq := btr hbel (below_regrown _ dq osq)
            clear cE cF cG cH cI cJ
            generalize grow (redrawn _ dq) osq = wq at *
            go_wp2
            go_roundw
            case rel => exact ⟨k + 1, by omega, by go_num, hbq⟩
            case measure => simp [intOf]; omega
          subst hau
          obtain ⟨v, hv1, hv2, hgr⟩ := HED.out t hat
          have hne : ((a : Int) != (a : Int)) = false := by simp
          go_wp2_with fail
          refine wp_region_quiet_below (by kernel_rfl) (by kernel_rfl) ?_
          repeat (go_big_quiet_step (fail))
          refine wpQuiet_nil ?_
          intro w5 hw5
          obtain ⟨⟨dq, osq⟩, rfl⟩ := hw5
          have hbq := btr hbel (below_regrown _ dq osq)
          have sE := cE dq osq
          have sG := cG dq osq
          clear cE cF cG cH cI cJ hbel hne
          generalize grow (redrawn _ dq) osq = wq at *
          have hbl : Below wq.heap.size wq (wq.alloc (.cells #[.int .i64 (t : Nat)] 3)) := bal (Below.refl _ _) _
          have hI : IntsAt (wq.alloc (.cells #[.int .i64 (t : Nat)] 3)) (some ⟨wq.heap.size, 0, none⟩) [((t : Nat) : Int)] := IntsAt.ofBlk (Blk.newAt (t := 3) rfl)
          have hgi := Group_i (some ⟨b, off, none⟩) c2 H (some ⟨wq.heap.size, 0, none⟩) 1 [((t : Nat) : Int)] (wq.alloc (.cells #[.int .i64 (t : Nat)] 3)) (HH.out.below entC (btr hbq hbl)) hI (by omega) hrw (by simp)
          rw [hgr] at hgi
          have hbq2 := Lib.hid (btr hbq hbl)
          clear hI hgr hbl hbq
          go_wp2_with fail
          refine hgi.mono ?_
          rintro e w6 ⟨A6, c6, rfl, o6, b6⟩
          have hb6 := btr hbq2.out b6
          obtain ⟨g, go, GA, gc, hAg, hgl, g0, -, -, grow'⟩ := EntsAt.get (SlOw.at_ entO o6) 0 (by simp)
          simp only [List.getElem_cons_zero] at g0 grow'
          subst hAg
          obtain ⟨pb, po, rfl⟩ := grow'.open2 (by simp)
          have y1 := IntsAt.cellG grow' (k := 1) (by simp)
          simp only [gi, List.getD_cons_zero, List.getD_cons_succ, List.length_cons, List.length_nil, Nat.zero_add, Nat.reduceAdd, Nat.zero_mul, Nat.add_zero] at g0 y1
          have cP := cgrow g0
          have cQ := cgrow y1.2
          have cH := cgrow ((hb6.cell (p := ⟨b, off + i * 2, none⟩) HC.out.1).trans HC.out.2.1)
          have cJ := cgrow ((hb6.cell (p := ⟨rb, ro + 1, none⟩) HC.out.2.2.1.1).trans HC.out.2.2.2.2)
          simp only [gi, List.getD_cons_zero, List.getD_cons_succ, List.length_cons, List.length_nil, Nat.zero_add, Nat.reduceAdd] at cH cJ
          have hgb : decide (n + 1 < v) = false := decide_eq_false (by omega)
          have e3 : IntKind.i64.wrap (n + 1) = n + 1 := by rw [IntKind.wrap_i64]; omega
          clear g0 y1 grow' o6 b6 hgi sE sG
          go_wp2_with fail
          refine wp_region_quiet_below (by kernel_rfl) (by kernel_rfl) ?_
          repeat (go_big_quiet_step (fail))
          refine wpQuiet_nil ?_
          intro w7 hw7
          obtain ⟨⟨dq, osq⟩, rfl⟩ := hw7
          have hbq := btr hb6 (below_regrown _ dq osq)
          clear cP cQ cH cJ e3 hgb
          generalize grow (redrawn _ dq) osq = wq2 at *
          go_wp2
          go_roundw
          case rel => exact ⟨k + 1, by omega, by go_num, hbq⟩
          case measure => simp [intOf]; omega
        · obtain rfl : k = z.length := by omega
          go_wp2
          go_roundw
          case rel => exact ⟨i + 1, by omega, by go_num, hbel⟩
          case measure => simp [intOf]; omega
    · obtain rfl : i = H.length := by omega
      have HR := Lib.hid (btr B4.out hbel)
      go_wp2
      go_ret
      exact ⟨rfl, HR.out⟩

namespace lawFnHopsTriangle
theorem own : ownKnob Try.prog.godebug = none := by kernel_rfl
theorem laidOut : laidOutB Try.prog = true := clo_laid
set_option maxRecDepth 100000 in
theorem lifted (os : Os) (started : os.Started) (H : Type) (enc : TypeId × Value → H) :
    ReturnsInHanded {} Try.checked os 5 .any (Rows.fnHopsTriangleSpec.pre6 enc Try.prog Try.f5 Rows.fnHopsTriangleRow.domain false) (Rows.fnHopsTriangleSpec.post enc Try.prog Try.f5 false true false false) := by
  refine returnsInHanded_of_change (C := Try.checked) own started (by kernel_rfl) Try.func5
    (ChangeSpec.witness6 (enc := enc) (C := Try.checked) false ⟨#[], #[.slice none 0 0], []⟩ 8 (by kernel_rfl) (by kernel_rfl) (by kernel_rfl) (by kernel_rfl)) ?_
  intro W base args ds gs before hval0 hW hcnd _
  have hval : ∀ (j : Nat) t v, Try.f5.params[j]? = some t → args[j]? = some v → Value.okWide Try.prog W .any base t v := hval0
  have hW' := hW
  obtain ⟨p, q, hA0, hV, rfl, hfz, hnd⟩ := hW
  have hA : DataW.TrodAll enc Try.prog W 0 (fun _ => true) true Try.f5.params.toList args.toList ds p := hA0
  rw [Try.params5] at hA hval
  obtain ⟨v0, vs0, d0, ds0, p0, q0, hargs, rfl, rfl, h0, r0⟩ := trodAll_cons hA
  obtain ⟨rfl, rfl, rfl⟩ := trodAll_nil r0
  obtain rfl : args = #[v0] := by cases args; simp_all
  obtain ⟨rfl, rfl⟩ := trodVars_none hV
  have k0 := h0
  have lt0 : ∀ x ∈ p0, x.block < W.heap.size := by obtain ⟨m, hm⟩ := k0; exact DataW.trod_lt m _ _ _ hm
  obtain ⟨a0, len0, cap0, rfl⟩ := okWide_slice Try.underlying35 (hval 0 35 v0 rfl rfl)
  obtain ⟨l0, m0, w0⟩ := bytes_of Try.underlying35 Try.underlying5 (by kernel_rfl) h0
  clear hA0 hval0
  refine (FnHopsTriangle_walk a0 len0 cap0 W l0 m0 w0).mono fun e W' ⟨he, bel⟩ => ?_
  subst he
  exact ⟨_, rfl, _, _, _, [], _, [], hW', trodAll_mk1 (shut_bool Try.underlying4 _), (trodAll_cons_mk (Below.trod laidOut (by kernel_rfl) (of_decide_eq_true (by kernel_rfl)) k0 bel lt0) trodAll_mk0), rfl, bel.frame _, fun h => by cases h⟩
theorem andTT {a b : Bool} (h1 : a = true) (h2 : b = true) : (a && b) = true := by rw [h1, h2]; rfl
set_option maxHeartbeats 8000000 in
theorem closed : joinedFacts Try.prog 5 Try.f5 Rows.fnHopsTriangleSpec Rows.fnHopsTriangleRow = true := by
  unfold joinedFacts
  repeat' (with_reducible refine andTT ?_ ?_)
  all_goals (first | (with_reducible exact clo_laid) | (with_reducible exact clo_maps) | (with_reducible exact clo_heard) | (with_reducible exact clo_enter) | ((with_reducible refine clo_plain _ ?_); rfl) | ((with_reducible refine clo_lifts _ ?_); rfl) | (as_aux_lemma => kernel_rfl))

theorem over : Rows.fnHopsTriangleRow.holds Try.pinned (OpenSpec.ofChange Rows.fnHopsTriangleSpec) :=
  OpenClaim.holds_of_wide 5 Try.f5 rfl rfl rfl rfl rfl rfl rfl ⟨rfl, rfl, rfl, rfl, rfl⟩ rfl rfl rfl rfl rfl (by kernel_rfl) Try.func5 closed
    (of_decide_eq_true (by kernel_rfl)) (by unfold Func.isWrapper; first | (rw [if_pos (by decide +kernel)]; kernel_rfl) | (rw [if_neg (by decide +kernel)]; exact ⟨rfl, rfl⟩))
    (fun os started H enc _ => lifted os started H enc)

/-- THE STATEMENT. -/
theorem proved : Rows.FnHopsTriangleSaid := over
end lawFnHopsTriangle
end Go.Proofs.Ytifjenleoagefaa
