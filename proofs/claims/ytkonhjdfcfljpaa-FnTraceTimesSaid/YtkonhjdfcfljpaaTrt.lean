/- HELPER, no statement of the seat: TraceTimes of both sides. -/
import Derived.Test.YtkonhjdfcfljpaaTrtM
import Derived.Test.YtkonhjdfcfljpaaSrtT
import Derived.Test.YtkonhjdfcfljpaaZba
import Derived.Test.YtkonhjdfcfljpaaUph
import Derived.Test.YtkonhjdfcfljpaaGrf
namespace Go.Proofs.Ytkonhjdfcfljpaa
open Go.RowKit Go.Sort
set_option linter.unusedSimpArgs false
set_option linter.unusedVariables false

def uTm (us : List Upd) : List Tm := us.map fun u => u.1.2
def TtF (us : List Upd) : List Tm := cond (trB us) (tmsU (uTm us)) []
theorem TtF_len (us : List Upd) : (TtF us).length ≤ us.length := by
  unfold TtF
  cases trB us
  · simp
  · have := tmsU_len (uTm us)
    simpa [uTm] using this
theorem uTm_take (us : List Upd) (i : Nat) (h : i < us.length) : uTm (us.take (i + 1)) = uTm (us.take i) ++ [us[i].1.2] := by
  unfold uTm
  rw [List.take_succ_eq_append_getElem h, List.map_append]
  rfl
set_option maxRecDepth 100000 in
set_option maxHeartbeats 3200000 in
theorem TraceTimes_i (A : Option Addr) (c : Nat) (us : List Upd) (w : World) (hx : UpdsAt w A us) (hn : us.length ≤ 4194304) (hr : rowsU us 4194304) :
    Calls Try.prog 29 #[.slice A us.length c] w fun e w' => ∃ A' c', e = .returned (.slice A' (TtF us).length c') ∧ TmOwn w' w.heap.size A' c' (TtF us) ∧ Below w.heap.size w w' := by
  have hcon := ValidTrace_i A c us w hx hn hr
  cases hv : trB us
  · simp only [hv] at hcon
    have HR : Hid (TtF us = []) := by unfold TtF; rw [hv]; exact rfl
    clear hv
    go_enter Try.func29, Try.ntmps29
    go_wp2_with fail
    refine hcon.mono ?_
    rintro e w1 ⟨rfl, b1⟩
    have HB := Lib.hid b1
    clear b1
    go_wp2
    go_ret
    exact ⟨none, 0, by rw [HR.out]; rfl, by rw [HR.out]; exact World.ownsRow_nil _ _ _ _, HB.out⟩
  simp only [hv] at hcon
  have HR : Hid (TtF us = tmsU (uTm us)) := by unfold TtF; rw [hv]; exact rfl
  have hul : (uTm us).length = us.length := by simp [uTm]
  obtain ⟨i0, hi, hz0, hz1, hz2⟩ := info_parts Try.infoTime
  clear hv
  go_enter Try.func29, Try.ntmps29
  go_wp2_with fail
  refine hcon.mono ?_
  rintro e w1 ⟨rfl, b1⟩
  have hx1 := hx.below updR b1
  have hmk := run_make (P := Try.prog) w1 30 52 i0 (.agg #[.int .i64 0, .int .i64 0]) Try.underlying30 hi hz0 .i64 .i64 us.length us.length (by omega) (by omega) (by rw [hz2]; omega) (by omega)
  simp only [Int.toNat_natCast, hz1, Value.cells, timeC_made] at hmk
  obtain ⟨g, hg⟩ : ∃ g, g = w1.heap.size := ⟨_, rfl⟩
  have hBm : Blk (w1.alloc (.cells (timeC (List.replicate us.length (0, 0))) 52)) g 52 (timeC (List.replicate us.length (0, 0))) := Blk.newAt hg.symm
  have hbm := bal b1 (.cells (timeC (List.replicate us.length (0, 0))) 52)
  have hwg : w.heap.size ≤ g := by rw [hg]; exact b1.size
  have HG := Lib.hid hg
  have HUL := Lib.hid hul
  clear hcon hul b1
  go_wp2
  rw [← hg]
  clear hg hmk
  go_loopw [4, 5, 14] (fun _ _ i wr => ∃ k : Nat, k ≤ us.length ∧ i = .int .i64 k ∧ Blk wr g 52 (timeC ((uTm us).take k ++ List.replicate (us.length - k) (0, 0))) ∧ Below w.heap.size w wr) (fun _ _ i _ => us.length - (intOf i).toNat)
  case atStart => exact ⟨0, by omega, rfl, by simpa using hBm, hbm⟩
  case round =>
    obtain ⟨k, hk, rfl, hblk, hbel⟩ := hrel
    by_cases hlt : k < us.length
    · obtain ⟨b, off, RA, rc, rfl, hbl, hc0, hc1, hc2, hc3, -, -⟩ := hx.get k hlt
      have q0 := (hbel.cell (p := ⟨b, off + k * 4, none⟩) hbl).trans hc0
      have q1 := (hbel.cell (p := ⟨b, off + k * 4 + 1, none⟩) hbl).trans hc1
      have q2 := (hbel.cell (p := ⟨b, off + k * 4 + 2, none⟩) hbl).trans hc2
      have q3 := (hbel.cell (p := ⟨b, off + k * 4 + 3, none⟩) hbl).trans hc3
      clear hc0 hc1 hc2 hc3
      have hgl := hblk.lt
      have hblk2 := hblk.alloc (.cells #[.slice RA us[k].1.1.length rc, .int .i64 us[k].1.2.1, .int .i64 us[k].1.2.2, .int .i64 us[k].2] 54)
      have hbel2 := bal hbel (.cells #[.slice RA us[k].1.1.length rc, .int .i64 us[k].1.2.1, .int .i64 us[k].1.2.2, .int .i64 us[k].2] 54)
      have hut : k < (uTm us).length := by rw [HUL.out]; exact hlt
      have hcl : ((uTm us).take k ++ List.replicate (us.length - k) (0, 0)).length = us.length := by simp [HUL.out]; omega
      have gg := timeC_get ((uTm us).take k ++ List.replicate (us.length - k) (0, 0)) k (by rw [hcl]; exact hlt)
      have hco := (hblk.cell (k * 2)).trans gg.1
      have hco' := (hblk.cell (k * 2 + 1)).trans gg.2
      have hcp := (hblk2.cell (k * 2)).trans gg.1
      have hcp' := (hblk2.cell (k * 2 + 1)).trans gg.2
      have hfo := hblk.frozen (k * 2)
      have hfo' := hblk.frozen (k * 2 + 1)
      have hfp := hblk2.frozen (k * 2)
      have hfp' := hblk2.frozen (k * 2 + 1)
      have hset := (hblk.set_ (k * 2) (.int .i64 us[k].1.2.1)).set_ (k * 2 + 1) (.int .i64 us[k].1.2.2)
      have eg : (uTm us).getD k (0, 0) = us[k].1.2 := by simp [uTm, hlt]
      have hstep := fill_stepT (uTm us) k hut
      rw [HUL.out, eg] at hstep
      rw [timeC_set _ _ _ _ (by rw [hcl]; exact hlt), hstep] at hset
      have HS := Lib.hid hset
      have HB := Lib.hid hbel
      have hkI : (k : Int) < us.length := by omega
      generalize (((uTm us).take k ++ List.replicate (us.length - k) (0, 0)).getD k (0, 0)).1 = u1 at hco hcp
      generalize (((uTm us).take k ++ List.replicate (us.length - k) (0, 0)).getD k (0, 0)).2 = u2 at hco' hcp'
      have hgne : g ≠ wr.heap.size := by omega
      clear hset hcl hblk hbel hblk2 hbel2 gg eg hstep
      go_wp2
      go_roundw
      case rel => exact ⟨k + 1, by omega, by go_num, HS.out.alloc _, bal (bset (bset HB.out (p := ⟨g, k * 2, none⟩) hwg _) (p := ⟨g, k * 2 + 1, none⟩) hwg _) _⟩
      case measure => simp [intOf]; omega
    · obtain rfl : k = us.length := by omega
      have hown : TmOwn wr w.heap.size (some ⟨g, 0, none⟩) us.length (uTm us) := by
        rw [Nat.sub_self, List.replicate_zero, List.append_nil, List.take_of_length_le (by rw [HUL.out]; exact Nat.le_refl _)] at hblk
        have h2 : (timeC (uTm us)).size = us.length * 2 := by rw [timeC_size, HUL.out]
        refine tmOwn_of hblk hwg (by rw [HUL.out]; exact Nat.le_refl _) (by unfold maxLen; omega) h2 (fun t ht => ?_)
        show (timeC (uTm us))[t]? = _
        exact List.getElem?_toArray
      have HO := Lib.hid hown
      have hsz := hbel.size
      clear hblk hown
      have hsort := sortM wr w.heap.size g us.length (uTm us) HO.out (by rw [HUL.out]; exact hn)
      rw [HUL.out] at hsort
      go_wp2_with fail
      refine hsort.mono ?_
      rintro e w2 ⟨rfl, zs, hp, hso, ho2, g2⟩
      have hzl : zs.length = us.length := by rw [hp.length_eq, HUL.out]
      have hcomp := compactM w2 w.heap.size (some ⟨g, 0, none⟩) us.length zs ho2 (by omega)
      rw [ddN_tms hp hso, hzl] at hcomp
      have hB2 : Below w.heap.size w w2 := g2.below hbel (fun k hk => by rw [hk]; exact hwg)
      clear hsort hp hso hzl ho2 g2 hbel
      go_wp2_with fail
      refine hcomp.mono ?_
      rintro e w3 ⟨rfl, ho3, g3⟩
      have HO3 := Lib.hid ho3
      have HB3 : Hid (Below w.heap.size w w3) := g3.below hB2 (fun k hk => by
        have e : g = k := by simpa [blk] using hk
        exact e ▸ hwg)
      clear hcomp ho3 g3 hB2
      go_wp2
      go_ret
      exact ⟨some ⟨g, 0, none⟩, us.length, by rw [HR.out]; rfl, by rw [HR.out]; exact HO3.out, HB3.out⟩
end Go.Proofs.Ytkonhjdfcfljpaa
