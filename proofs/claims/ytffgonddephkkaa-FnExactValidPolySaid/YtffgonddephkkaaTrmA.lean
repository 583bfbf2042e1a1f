/- HELPER, no statement of the seat: contracts of the functions that copy, measure and compare lists of terms. -/
import Derived.Test.YtffgonddephkkaaTrm
import Derived.Test.YtffgonddephkkaaZba
namespace Go.Proofs.Ytffgonddephkkaa
open Go.RowKit Go.Sort
set_option linter.unusedSimpArgs false
set_option linter.unusedVariables false

set_option maxHeartbeats 400000 in
theorem toTerm_any (RA : Option Addr) (rc : Nat) (xs : List Int) (x : Int) (w : World) (hx : IntsAt w RA xs) (hn : xs.length * 8 ≤ 140737488351232) :
    Calls Try.prog 59 #[.agg #[.int .i64 x, .slice RA xs.length rc]] w fun e w' => ∃ g, e = .returned (.agg #[.int .i64 x, .slice (some ⟨g, 0, none⟩) xs.length xs.length]) ∧ w.heap.size ≤ g ∧ Blk w' g 3 (ints xs) ∧ Below w.heap.size w w' := by
  go_enter Try.func59, Try.ntmps59
  go_wp2_with fail
  have hb0 : Below w.heap.size w (((w.alloc (.cells #[.int .i64 x, .slice RA xs.length rc] 102)).alloc (.cells #[.int .i64 0, .slice none 0 0] 103)).alloc (.cells #[.int .i64 x, .slice none 0 0] 103)) := bal (bal (bal (Below.refl _ _) _) _) _
  refine (toIntS_any _ _ _ _ (hx.below hb0) hn).mono ?_
  rintro e w1 ⟨rfl, hk, hb⟩
  obtain ⟨hc, hf⟩ := bcell hb
  have hz : w.heap.size + 3 ≤ w1.heap.size := by have := hb.size; simpa using this
  have hb1 := btr hb0 hb
  have hk' : Blk w1 (w.heap.size + 3) 3 (ints xs) := by simpa using hk
  have HK := Lib.hid hk'
  have HB := Lib.hid hb1
  clear hk hk' hb1 hb hb0
  go_wp2_with fail
  refine bodyPost_ret (v := .agg #[.int .i64 x, .slice (some ⟨w.heap.size + 3, 0, none⟩) xs.length xs.length]) (by simp [results, Try.results59, go_sem, hc]) rfl ⟨_, rfl, by omega, ?_, ?_⟩
  · exact Blk.far (Blk.far (Blk.far HK.out (by simp) _) (by simp) _) (by simp) _
  · exact bset (bset (bset HB.out (by simp <;> omega) _) (by simp <;> omega) _) (by simp <;> omega) _

theorem varO_new {w w' : World} {g : Nat} {xs : List Int} (hg : w.heap.size ≤ g) (hk : Blk w' g 3 (ints xs)) (hn : xs.length ≤ maxLen) (x : Int) : TrmO w' (news w w') [.int .i64 x, .slice (some ⟨g, 0, none⟩) xs.length xs.length] (xs, x) :=
  TrmO.mk (fun k hk => hk.2) (fun k e => by simp [blk] at e; subst e; exact ⟨hg, hk.lt⟩) (IntsOwn.ofBlk hk (Nat.zero_le _) hn)

set_option maxHeartbeats 800000 in
theorem toTermS_any (A : Option Addr) (c : Nat) (es : List Ent) (w : World) (hx : TrmsAt w A es) (hn : es.length ≤ 4194304) (hr : rowsIn es 4194304) :
    Calls Try.prog 27 #[.slice A es.length c] w fun e w' => e = .returned (.slice (some ⟨w.heap.size, 0, none⟩) es.length es.length) ∧ TrmsOw w' (news w w') (some ⟨w.heap.size, 0, none⟩) es.length es ∧ Below w.heap.size w w' := by
  obtain ⟨i0, hi, hz0, hz1, hz2⟩ := info_parts Try.infoTrm
  have hmk := run_make (P := Try.prog) w 50 103 i0 (.agg #[.int .i64 0, .slice none 0 0]) Try.underlying50 hi hz0 .i64 .i64 es.length es.length (by omega) (by omega) (by rw [hz2]; omega) (by omega)
  simp only [Int.toNat_natCast, hz1] at hmk
  have hcs : ∀ n, (madeCells (Value.agg #[.int .i64 0, .slice none 0 0]).cells (n * 2)).size = n * 2 := fun n => by simp [madeCells]
  generalize madeCells (Value.agg #[.int .i64 0, .slice none 0 0]).cells = mc at hmk hcs
  go_enter Try.func27, Try.ntmps27
  go_wp2
  go_loopw [4] (fun i wr => ∃ k : Nat, k ≤ es.length ∧ i = .int .i64 k ∧ TrmsOw wr (news w wr) (some ⟨w.heap.size, 0, none⟩) es.length (es.take k) ∧ Below w.heap.size w wr) (fun i _ => es.length - (intOf i).toNat)
  case atStart => exact ⟨0, by omega, rfl, ⟨_, _, SlF.made TrmO 2 103 w (mc (es.length * 2)) es.length (by unfold maxLen; omega) (hcs _) ⟨Nat.le_refl _, by simp⟩ (fun k hk => by have := hk.2; simpa using this)⟩, bal (Below.refl _ _) _⟩
  case round =>
    obtain ⟨k, hk, rfl, ⟨css, F, hown⟩, hbel⟩ := hrel
    by_cases hlt : k < es.length
    · obtain ⟨b, off, RA, rc, rfl, hbl, hc0, hc1, -, hrow⟩ := hx.get k hlt
      have q0 := (hbel.cell (p := ⟨b, off + k * 2, none⟩) hbl).trans hc0
      have q1 := (hbel.cell (p := ⟨b, off + k * 2 + 1, none⟩) hbl).trans hc1
      have hrl := hr.get hlt
      have HF := Lib.hid hown
      clear hmk hc0 hc1 hown
      go_wp2_with fail
      refine (toTerm_any _ _ _ _ _ (hrow.below hbel) (by omega)).mono ?_
      rintro e w2 ⟨g, rfl, hg, hblk, hb2⟩
      have hown2 := HF.out.loc trmO (fun k hk => hb2.block k hk.2)
      have hkl : (es.take k).length = k := by simp; omega
      have hrow2 := hown2.row
      rw [hkl] at hrow2
      obtain ⟨u0, hu0⟩ := ownsRow_room hrow2 (k * 2) (by omega)
      obtain ⟨u1, hu1⟩ := ownsRow_room hrow2 (k * 2 + 1) (by omega)
      have f0 := World.ownsRow.frozenAt hrow2 (k * 2)
      have f1 := World.ownsRow.frozenAt hrow2 (k * 2 + 1)
      have hB := btr hbel hb2
      have hel := varO_new (x := es[k].2) hg hblk (by unfold maxLen; omega)
      have hfill := hown2.fill (w' := (w2.setCell ⟨w.heap.size, k * 2, none⟩ (.int .i64 es[k].2)).setCell ⟨w.heap.size, k * 2 + 1, none⟩ (.slice (some ⟨g, 0, none⟩) es[k].1.length es[k].1.length)) (U := news w w2) trmO (by rw [hkl]; exact hlt) hel (fun q h1 h2 => by have := h1.1; have := h2.2; omega) (by rw [hkl]; rfl) (fun q h => by
        have := hbel.size
        have := hb2.size
        rcases h with h | h
        · exact ⟨h.1, by have := h.2; omega⟩
        · exact ⟨by have := h.1; omega, h.2⟩) (fun q h => h.2)
      rw [show es.take k ++ [(es[k].1, es[k].2)] = es.take (k + 1) by rw [List.take_succ_eq_append_getElem hlt]] at hfill
      have HS := Lib.hid hfill
      have HB := Lib.hid hB
      clear hfill hB hown2 hrow2 hel hkl hbel q0 q1 hrow hg hblk hb2
      go_wp2
      go_roundw
      case rel => exact ⟨k + 1, by omega, by go_num, ⟨_, _, HS.out.mono (fun q h => ⟨h.1, by simpa [World.setCell] using h.2⟩) (fun q h => h.2)⟩, bset (bset HB.out (Nat.le_refl _) _) (Nat.le_refl _) _⟩
      case measure => simp [intOf]; omega
    · obtain rfl : k = es.length := by omega
      rw [List.take_length] at hown
      have HO := Lib.hid hown
      have HB := Lib.hid hbel
      clear hown hbel hmk
      go_wp2
      go_ret
      exact ⟨rfl, ⟨_, _, HO.out⟩, HB.out⟩

theorem szTerm_any (RA : Option Addr) (rc n : Nat) (x left : Int) (w : World) (h0 : 0 ≤ left) (h1 : left ≤ 1048576) (hn : n ≤ maxLen) :
    Calls Try.prog 57 #[.agg #[.int .i64 x, .slice RA n rc], .int .i64 left] w fun e w' => e = .returned (.int .i64 (if left < n then -1 else left - n)) ∧ Below w.heap.size w w' := by
  unfold maxLen at hn
  by_cases h : left < n
  · have h' : left - n < 0 := by omega
    go_enter Try.func57, Try.ntmps57
    go_wp2
    go_ret
    exact ⟨ret_int (by simp [h]), bal (Below.refl _ _) _⟩
  · have h' : 0 ≤ left - n := by omega
    go_enter Try.func57, Try.ntmps57
    go_wp2
    go_ret
    exact ⟨ret_int (by simp [h]), bal (Below.refl _ _) _⟩
set_option maxHeartbeats 400000 in
theorem szTermS_any (A : Option Addr) (c : Nat) (es : List Ent) (left : Int) (w : World) (hx : TrmsAt w A es) (h0 : 0 ≤ left) (h1 : left ≤ 1048576) (hn : es.length ≤ maxLen) :
    Calls Try.prog 25 #[.slice A es.length c, .int .i64 left] w fun e w' => e = .returned (.int .i64 (entLeft left es)) ∧ Below w.heap.size w w' := by
  unfold maxLen at hn
  by_cases h : left < es.length
  · have h' : left - es.length < 0 := by omega
    have hr : left < entSz es := by unfold entSz; omega
    have HR := Lib.hid hr
    clear hr
    go_enter Try.func25, Try.ntmps25
    go_wp2
    go_ret
    exact ⟨ret_int (by rw [entLeft, if_pos HR.out]), Below.refl _ _⟩
  have h' : 0 ≤ left - es.length := by omega
  go_enter Try.func25, Try.ntmps25
  go_wp2
  go_loopw [1, 5] (fun q i wr => ∃ k : Nat, k ≤ es.length ∧ i = .int .i64 k ∧ q = .int .i64 (left - es.length - lenSum (es.take k)) ∧ es.length + lenSum (es.take k) ≤ left ∧ Below w.heap.size w wr) (fun _ i _ => es.length - (intOf i).toNat)
  case atStart => exact ⟨0, by omega, rfl, by simp [lenSum], by simp [lenSum]; omega, Below.refl _ _⟩
  case round =>
    obtain ⟨k, hk, rfl, rfl, hq, hbel⟩ := hrel
    by_cases hlt : k < es.length
    · obtain ⟨b, off, RA, rc, rfl, hbl, hc0, hc1, hml, -⟩ := hx.get k hlt
      have q0 := (hbel.cell (p := ⟨b, off + k * 2, none⟩) hbl).trans hc0
      have q1 := (hbel.cell (p := ⟨b, off + k * 2 + 1, none⟩) hbl).trans hc1
      have HT := Lib.hid (lenSum_step hlt)
      have HL := Lib.hid (lenSum_le es (k + 1))
      have hql : 0 ≤ left - es.length - lenSum (es.take k) := by omega
      by_cases hs : left - es.length - lenSum (es.take k) < es[k].1.length
      · have hr : left < entSz es := by have := HT.out; have := HL.out; unfold entSz; omega
        have HR := Lib.hid hr
        clear hr hc0 hc1
        go_wp2_with (go_at_call 57; refine (szTerm_any _ _ _ _ _ _ hql (by omega) hml).mono ?_; rintro e w1 ⟨rfl, hb1⟩; rw [if_pos hs])
        go_ret
        exact ⟨ret_int (by rw [entLeft, if_pos HR.out]), btr hbel hb1⟩
      · clear hc0 hc1
        go_wp2_with (go_at_call 57; refine (szTerm_any _ _ _ _ _ _ hql (by omega) hml).mono ?_; rintro e w1 ⟨rfl, hb1⟩; rw [if_neg hs]; have hge : 0 ≤ left - es.length - lenSum (es.take k) - es[k].1.length := by omega)
        go_roundw
        case rel => exact ⟨k + 1, by omega, by go_num, by rw [HT.out]; go_num, by rw [HT.out]; omega, btr hbel hb1⟩
        case measure => simp [intOf]; omega
    · obtain rfl : k = es.length := by omega
      rw [List.take_length] at hq
      have hr : entSz es ≤ left := by unfold entSz; omega
      have HR := Lib.hid hr
      have HT := Lib.hid (List.take_length (l := es))
      clear hr
      go_wp2
      go_ret
      exact ⟨ret_int (by rw [entLeft, if_neg (Int.not_lt.2 HR.out), HT.out]; unfold entSz; omega), hbel⟩

theorem eqTerm_any (A B : Option Addr) (c d : Nat) (x y : Ent) (w : World) (hx : IntsAt w A x.1) (hy : IntsAt w B y.1) (hn : x.1.length ≤ 4194304) (hm : y.1.length ≤ 4194304) :
    Calls Try.prog 61 #[.agg #[.int .i64 x.2, .slice A x.1.length c], .agg #[.int .i64 y.2, .slice B y.1.length d]] w fun e w' => e = .returned (.bool (eqE x y)) ∧ Below w.heap.size w w' := by
  obtain ⟨xs, p⟩ := x
  obtain ⟨ys, q⟩ := y
  simp only at hx hy hn hm ⊢
  have hb0 : Below w.heap.size w ((w.alloc (.cells #[.int .i64 p, .slice A xs.length c] 103)).alloc (.cells #[.int .i64 q, .slice B ys.length d] 103)) := bal (bal (Below.refl _ _) _) _
  by_cases h2 : p = q
  · have e2 : (p != q) = false := by simp [h2]
    by_cases h1 : xs = ys
    · have e1 : decide (xs = ys) = true := by simp [h1]
      have HR := Lib.hid (show eqE (xs, p) (ys, q) = true by simp [eqE, h1, h2])
      clear h1 h2
      go_enter Try.func61, Try.ntmps61
      go_wp2_with fail
      refine (eqIntS_any _ _ _ _ _ _ _ (hx.below hb0) (hy.below hb0) (by omega) (by omega)).mono ?_
      rintro e w1 ⟨rfl, hb⟩
      have hB := btr hb0 hb
      go_wp2
      go_ret
      exact ⟨ret_bool HR.out.symm, hB⟩
    · have e1 : decide (xs = ys) = false := by simp [h1]
      have HR := Lib.hid (show eqE (xs, p) (ys, q) = false by simp [eqE, h1])
      clear h1 h2
      go_enter Try.func61, Try.ntmps61
      go_wp2_with fail
      refine (eqIntS_any _ _ _ _ _ _ _ (hx.below hb0) (hy.below hb0) (by omega) (by omega)).mono ?_
      rintro e w1 ⟨rfl, hb⟩
      have hB := btr hb0 hb
      go_wp2
      go_ret
      exact ⟨ret_bool HR.out.symm, hB⟩
  · have e2 : (p != q) = true := by simp [h2]
    have HR := Lib.hid (show eqE (xs, p) (ys, q) = false by simp [eqE, h2])
    clear h2
    go_enter Try.func61, Try.ntmps61
    go_wp2
    go_ret
    exact ⟨ret_bool HR.out.symm, hb0⟩

set_option maxHeartbeats 800000 in
theorem eqTermS_any (A B : Option Addr) (c d : Nat) (xs ys : List Ent) (w : World) (hx : TrmsAt w A xs) (hy : TrmsAt w B ys) (hn : xs.length ≤ 4194304) (hm : ys.length ≤ 4194304) (hr : rowsIn xs 4194304) (hs : rowsIn ys 4194304) :
    Calls Try.prog 29 #[.slice A xs.length c, .slice B ys.length d] w fun e w' => e = .returned (.bool (decide (xs = ys))) ∧ Below w.heap.size w w' := by
  by_cases hl : xs.length = ys.length
  · have hb : ((xs.length : Int) != (ys.length : Int)) = false := by simp [hl]
    have HL := Lib.hid hl
    clear hl
    go_enter Try.func29, Try.ntmps29
    go_wp2
    go_loopw [5] (fun i wr => ∃ k : Nat, k ≤ xs.length ∧ i = .int .i64 k ∧ xs.take k = ys.take k ∧ Below w.heap.size w wr) (fun i _ => xs.length - (intOf i).toNat)
    case atStart => exact ⟨0, by omega, rfl, rfl, Below.refl _ _⟩
    case round =>
      obtain ⟨k, hk, rfl, htk, hbel⟩ := hrel
      have HT := Lib.hid htk
      clear htk
      by_cases hlt : k < xs.length
      · have hlt2 : k < ys.length := by have := HL.out; omega
        obtain ⟨b, off, RA, rc, rfl, hbl, hc0, hc1, -, hrow⟩ := hx.get k hlt
        obtain ⟨b2, off2, RB, rd, rfl, hbl2, hd0, hd1, -, hrow2⟩ := hy.get k hlt2
        have q1 := cgrow ((hbel.cell (p := ⟨b, off + k * 2, none⟩) hbl).trans hc0)
        have q2 := cgrow ((hbel.cell (p := ⟨b, off + k * 2 + 1, none⟩) hbl).trans hc1)
        have q3 := cgrow ((hbel.cell (p := ⟨b2, off2 + k * 2, none⟩) hbl2).trans hd0)
        have q4 := cgrow ((hbel.cell (p := ⟨b2, off2 + k * 2 + 1, none⟩) hbl2).trans hd1)
        have hl1 := hr.get hlt
        have hl2 := hs.get hlt2
        clear hc0 hc1 hd0 hd1
        have hcon := fun W' (hW : Below wr.heap.size wr W') => eqTerm_any RA RB rc rd xs[k] ys[k] W' ((hrow.below hbel).below hW) ((hrow2.below hbel).below hW) hl1 hl2
        by_cases he : xs[k] = ys[k]
        · have hne : eqE xs[k] ys[k] = true := by simp [eqE, he]
          have HE := Lib.hid he
          clear he
          go_wp2_with fail
          refine wp_region_quiet_below (by kernel_rfl) (by kernel_rfl) ?_
          repeat (go_big_quiet_step (exact Calls.regrown_of (hcon _ (below_regrown _ _ _))))
          refine wpQuiet_nil ?_
          intro w3 hw3
          obtain ⟨⟨dq, osq⟩, rfl⟩ := hw3
          have hbq := below_regrown wr dq osq
          generalize grow (redrawn wr dq) osq = w4 at hbq
          clear q1 q2 q3 q4 hcon
          go_wp2
          go_roundw
          case rel => exact ⟨k + 1, by omega, by go_num, take_eq_stepE hlt hlt2 HT.out HE.out, btr hbel hbq⟩
          case measure => simp [intOf]; omega
        · have hne : eqE xs[k] ys[k] = false := by simp [eqE, he]
          go_wp2_with fail
          refine wp_region_quiet_below (by kernel_rfl) (by kernel_rfl) ?_
          repeat (go_big_quiet_step (exact Calls.regrown_of (hcon _ (below_regrown _ _ _))))
          refine wpQuiet_nil ?_
          intro w3 hw3
          obtain ⟨⟨dq, osq⟩, rfl⟩ := hw3
          have hbq := below_regrown wr dq osq
          generalize grow (redrawn wr dq) osq = w4 at hbq
          clear q1 q2 q3 q4 hcon
          go_wp2
          go_ret
          exact ⟨ret_bool (by simp; rintro rfl; exact he rfl), btr hbel hbq⟩
      · obtain rfl : k = xs.length := by omega
        have hfin : decide (xs = ys) = true := by
          have h1 := HT.out
          have h2 := HL.out
          rw [List.take_length, h2, List.take_length] at h1
          simp [h1]
        have HF := Lib.hid hfin
        clear hfin
        go_wp2
        go_ret
        exact ⟨ret_bool HF.out.symm, hbel⟩
  · have hb : ((xs.length : Int) != (ys.length : Int)) = true := by simp; omega
    have hfin : decide (xs = ys) = false := by simp; rintro rfl; exact hl rfl
    have HF := Lib.hid hfin
    clear hfin
    go_enter Try.func29, Try.ntmps29
    go_wp2
    go_ret
    exact ⟨ret_bool HF.out.symm, Below.refl _ _⟩
end Go.Proofs.Ytffgonddephkkaa
