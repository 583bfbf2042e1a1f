/- HELPER, no statement of the seat: the model's ClosureRounds. -/
import Derived.Test.YtageodemjlgdcaaCrd
import Derived.Test.YtageodemjlgdcaaZsm
namespace Go.Proofs.Ytageodemjlgdcaa
open Go.RowKit Go.Sort
set_option linter.unusedSimpArgs false
set_option linter.unusedVariables false
set_option maxHeartbeats 1600000 in
theorem ClosureRounds_s (A : Option Addr) (c : Nat) (es : List Ent) (w : World) (hx : EntsAt w A es) (hn : es.length ≤ 4194304) (hr : rowsIn es 4194304) :
    Calls Try.prog 25 #[.slice A es.length c] w fun e w' => ∃ A' c', e = .returned (.slice A' (RoundsF es).length c') ∧ SlOw ZlO 1 23 w' (news w w') A' c' (RoundsF es) ∧ Below w.heap.size w w' := by
  have hv := validEdges_s A c es w hx hn hr
  cases h1 : edgB es
  · have HT : Hid (RoundsF es = []) := by simp [Hid, RoundsF, h1]
    rw [h1] at hv
    clear h1
    go_enter Try.func25, Try.ntmps25
    go_wp2_with fail
    refine hv.mono ?_
    rintro e w1 ⟨rfl, b1⟩
    clear hv
    have hA0 := SlF.made ZlO 1 23 w1 #[] 0 (by simp [maxLen]) (by simp) (S := fun k => w.heap.size ≤ k ∧ k < w1.heap.size + 1) ⟨b1.size, by simp⟩ (fun k hk => by have := hk.2; simpa using this)
    have HA0 := Lib.hid hA0
    have HB := Lib.hid (bal b1 (.cells #[] 23))
    clear hA0 b1
    go_wp2
    go_ret
    rw [HT.out]
    exact ⟨_, 0, rfl, ⟨_, _, HA0.out.mono (fun k hk => ⟨hk.1, by have := hk.2; simpa using this⟩) (fun k hk => hk.2)⟩, HB.out⟩
  · have hro := relOf_ok h1
    have HT : Hid (RoundsF es = (rds (relOf es)).map prs) := by simp [Hid, RoundsF, h1]
    have hpr := prs_relOf h1
    have hcon := fun (W : World) (hb : Below w.heap.size w W) => closureRounds_r A c (relOf es) W (by rw [hpr]; exact hx.below entR hb) hro
    rw [hpr] at hcon
    rw [h1] at hv
    clear h1 hpr
    go_enter Try.func25, Try.ntmps25
    go_wp2_with fail
    refine hv.mono ?_
    rintro e w1 ⟨rfl, b1⟩
    clear hv
    go_wp2_with fail
    refine (hcon w1 b1).mono ?_
    rintro e w2 ⟨A', c', rfl, ho, b2⟩
    have HO := Lib.hid (SlOw.mono (S' := news w w2) ho (fun k hk => ⟨by have := hk.1; have := b1.size; omega, hk.2⟩) (fun k hk => hk.2))
    have HB := Lib.hid (btr b1 b2)
    clear hcon ho b1 b2
    go_wp2_with fail
    go_ret
    rw [HT.out]
    exact ⟨A', c', by rw [List.length_map]; rfl, HO.out, HB.out⟩
theorem RoundsF_len (es : List Ent) : (RoundsF es).length ≤ 400 := by
  unfold RoundsF; split
  · rename_i h; rw [List.length_map]; exact rds_len (relOf_ok h)
  · simp
theorem RoundsF_in (es : List Ent) : zsIn (RoundsF es) 4194304 := by
  unfold RoundsF; split
  · intro z hz
    obtain ⟨l, _, rfl⟩ := List.mem_map.1 hz
    exact ⟨by have := prs_len l; omega, prs_smallR l⟩
  · exact fun z hz => by cases hz
theorem cntL_max {α : Type} (cnt : α → Nat) (m : Nat) : ∀ l : List α, (∀ x ∈ l, cnt x ≤ m) → cntL cnt l ≤ l.length * m
  | [], _ => by simp [cntL]
  | x :: l, h => by
    have h1 := cntL_max cnt m l (fun y hy => h y (by simp [hy]))
    have h2 := h x (by simp)
    have h3 : cntL cnt (x :: l) = cnt x + cntL cnt l := by simp [cntL]
    rw [h3, List.length_cons, Nat.succ_mul]; omega
theorem RoundsF_cnt (es : List Ent) : (cntL cntZ (RoundsF es) : Int) ≤ 480000 := by
  have h1 := cntL_max cntZ 1200 (RoundsF es) (fun z hz => by
    unfold RoundsF at hz; split at hz
    · obtain ⟨l, _, rfl⟩ := List.mem_map.1 hz
      have h2 := cntL_max cntE 3 (prs l) (fun e he => by have := (prs_row l e he).2; simp [cntE]; omega)
      have h3 := prs_len l
      unfold cntZ; omega
    · cases hz)
  have h2 := RoundsF_len es
  omega
end Go.Proofs.Ytageodemjlgdcaa
