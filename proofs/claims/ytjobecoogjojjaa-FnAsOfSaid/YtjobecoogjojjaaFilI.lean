/- HELPER, no statement of the seat: Filter of both sides. -/
import Derived.Test.YtjobecoogjojjaaFilE
import Derived.Test.YtjobecoogjojjaaZbn
namespace Go.Proofs.Ytjobecoogjojjaa
open Go.RowKit Go.Sort
set_option linter.unusedSimpArgs false
set_option linter.unusedVariables false


/-- What Filter gives. -/
def FilF (z : List Ent) (c k v : Int) : List Ent := if (zsB z && pvB c k v (wid z)) = true then z.filter (fun e => holdP c.toNat k v e.1) else []
theorem FilF_len (z : List Ent) (c k v : Int) : (FilF z c k v).length ≤ 400 := by
  unfold FilF
  split
  · rename_i h
    simp only [Bool.and_eq_true] at h
    exact Nat.le_trans (List.length_filter_le _ _) (zsB_len h.1)
  · simp
theorem FilF_row (z : List Ent) (c k v : Int) : rowsIn (FilF z c k v) 6 := by
  unfold FilF
  split
  · rename_i h
    simp only [Bool.and_eq_true] at h
    exact fun e he => zsB_row h.1 e (List.mem_filter.1 he).1
  · intro e he; cases he
theorem pvB_iff {c k v n : Int} : pvB c k v n = true ↔ (1 ≤ n ∧ n ≤ 6) ∧ (0 ≤ c ∧ c < n) ∧ (1 ≤ k ∧ k ≤ 4) ∧ (-9999 ≤ v ∧ v ≤ 9999) := by
  simp only [pvB, inB, Bool.and_eq_true, decide_eq_true_eq]
  constructor <;> (intro h; omega)

set_option maxRecDepth 100000 in
set_option maxHeartbeats 1600000 in
theorem Filter_i (A : Option Addr) (cc : Nat) (z : List Ent) (c k v : Int) (w : World) (hx : EntsAt w A z) (hn : z.length ≤ 4194304) (hr : rowsIn z 4194304) :
    Calls Try.prog 34 #[.slice A z.length cc, .agg #[.int .i64 c, .int .i64 k, .int .i64 v]] w fun e w' => ∃ A' c', e = .returned (.slice A' (FilF z c k v).length c') ∧ EntsOw w' (news w w') A' c' (FilF z c k v) ∧ Below w.heap.size w w' := by
  have hvz := fun W (h : EntsAt W A z) => ValidZSet_i A cc z W h hn hr
  have hwd := fun W (h : EntsAt W A z) => widthOf_e A cc z W h hn
  have hvp := fun W => ValidPredicate_i c k v (wid z) W
  by_cases h1 : zsB z = true
  · rw [h1] at hvz
    by_cases h2 : pvB c k v (wid z) = true
    · rw [h2] at hvp
      have HR : Hid (FilF z c k v = z.filter (fun e => holdP c.toNat k v e.1)) := by simp [Hid, FilF, h1, h2]
      have HC := Lib.hid (chkF_filter (fun e => holdP c.toNat k v e.1) h1)
      have hlen := zsB_len h1
      have hfl : (z.filter (fun e => holdP c.toNat k v e.1)).length ≤ z.length := List.length_filter_le _ _
      have HFR : Hid (rowsIn (z.filter (fun e => holdP c.toNat k v e.1)) 4194304) := fun e he => hr e (List.mem_filter.1 he).1
      obtain ⟨hw1, hc1, hk1, hv1⟩ := pvB_iff.1 h2
      obtain ⟨m, rfl⟩ : ∃ m : Nat, c = m := ⟨c.toNat, by omega⟩
      have hmm : ∀ e ∈ z, m < e.1.length := fun e he => by have := zsB_wid h1 e he; omega
      have HM := Lib.hid hmm
      simp only [Int.toNat_natCast] at HR HC hfl HFR
      clear h1 h2 hmm
      go_enter Try.func34, Try.ntmps34
      go_wp2_with fail
      refine abs_world (fun W => Below w.heap.size w W ∧ Blk W w.heap.size 49 #[.int .i64 m, .int .i64 k, .int .i64 v]) ⟨bal (Below.refl _ _) _, Blk.newAt rfl⟩ ?_
      rintro W ⟨hB, hkP⟩
      have r0 := cgrow (hkP.cell 0)
      have r1 := cgrow (hkP.cell 1)
      have r2 := cgrow (hkP.cell 2)
      simp at r0 r1 r2
      refine wp_region_quiet_below (by kernel_rfl) (by kernel_rfl) ?_
      repeat (go_big_quiet_step (first | (go_at_call 29; exact Calls.regrown_of (hvz _ ((hx.below entR hB).below entR (below_regrown _ _ _)))) | (go_at_call 101; exact Calls.regrown_of (hwd _ ((hx.below entR hB).below entR (below_regrown _ _ _)))) | (go_at_call 94; exact Calls.regrown_of (hvp _))))
      refine wpQuiet_nil ?_
      intro wq hwq
      obtain ⟨⟨dq, osq⟩, rfl⟩ := hwq
      have hbq := below_regrown W dq osq
      generalize grow (redrawn W dq) osq = W2 at hbq
      have hB2 := btr hB hbq
      have hkP2 := hkP.below hbq
      clear r0 r1 r2 hkP hbq hB hvz hwd hvp
      have c0 := hkP2.cell 0
      have c1 := hkP2.cell 1
      have c2 := hkP2.cell 2
      simp at c0 c1 c2
      go_wp2_with fail
      refine (rowTest_i m k v _ hk1.1 hk1.2).mono ?_
      rintro e W3 ⟨B, C, rfl, hT, b3⟩
      have hB3 := btr hB2 b3
      clear c0 c1 c2
      go_wp2_with fail
      refine (itemsFil_e B C m k v _ _ _ _ (hx.below entR hB3) (by omega) hr hT HM.out hk1.1 hk1.2).mono ?_
      rintro e W4 ⟨A4, c4, rfl, ha4, b4⟩
      have hB4 := btr hB3 b4
      go_wp2_with fail
      refine (copyZSet_i _ _ _ _ ha4 (by omega) HFR.out).mono ?_
      rintro e W5 ⟨A5, c5, rfl, ho5, b5⟩
      have hs := hB4.size
      rw [HC.out] at ho5
      go_wp2_with fail
      go_ret
      exact ⟨A5, c5, by rw [HR.out, HC.out]; rfl, by rw [HR.out]; exact ho5.mono (fun q hq => ⟨by have := hq.1; omega, hq.2⟩) (fun q hq => hq.2), btr hB4 b5⟩
    · have h2' : pvB c k v (wid z) = false := by simpa using h2
      rw [h2'] at hvp
      have HR : Hid (FilF z c k v = []) := by simp [Hid, FilF, h2']
      clear h1 h2 h2'
      go_enter Try.func34, Try.ntmps34
      go_wp2_with fail
      refine abs_world (fun W => Below w.heap.size w W ∧ Blk W w.heap.size 49 #[.int .i64 c, .int .i64 k, .int .i64 v]) ⟨bal (Below.refl _ _) _, Blk.newAt rfl⟩ ?_
      rintro W ⟨hB, hkP⟩
      have r0 := cgrow (hkP.cell 0)
      have r1 := cgrow (hkP.cell 1)
      have r2 := cgrow (hkP.cell 2)
      simp at r0 r1 r2
      refine wp_region_quiet_below (by kernel_rfl) (by kernel_rfl) ?_
      repeat (go_big_quiet_step (first | (go_at_call 29; exact Calls.regrown_of (hvz _ ((hx.below entR hB).below entR (below_regrown _ _ _)))) | (go_at_call 101; exact Calls.regrown_of (hwd _ ((hx.below entR hB).below entR (below_regrown _ _ _)))) | (go_at_call 94; exact Calls.regrown_of (hvp _))))
      refine wpQuiet_nil ?_
      intro wq hwq
      obtain ⟨⟨dq, osq⟩, rfl⟩ := hwq
      have hbq := below_regrown W dq osq
      generalize grow (redrawn W dq) osq = W2 at hbq
      have hB2 := btr hB hbq
      clear r0 r1 r2 hkP hbq hB hvz hwd hvp
      go_wp2
      go_ret
      exact ⟨none, 0, by rw [HR.out]; rfl, by rw [HR.out]; exact SlOw.nil (fun k hk => hk.2), hB2⟩
  · have h1' : zsB z = false := by simpa using h1
    rw [h1'] at hvz
    have HR : Hid (FilF z c k v = []) := by simp [Hid, FilF, h1']
    clear h1 h1'
    go_enter Try.func34, Try.ntmps34
    go_wp2_with fail
    refine abs_world (fun W => Below w.heap.size w W ∧ Blk W w.heap.size 49 #[.int .i64 c, .int .i64 k, .int .i64 v]) ⟨bal (Below.refl _ _) _, Blk.newAt rfl⟩ ?_
    rintro W ⟨hB, hkP⟩
    refine wp_region_quiet_below (by kernel_rfl) (by kernel_rfl) ?_
    repeat (go_big_quiet_step (first | (go_at_call 29; exact Calls.regrown_of (hvz _ ((hx.below entR hB).below entR (below_regrown _ _ _))))))
    refine wpQuiet_nil ?_
    intro wq hwq
    obtain ⟨⟨dq, osq⟩, rfl⟩ := hwq
    have hbq := below_regrown W dq osq
    generalize grow (redrawn W dq) osq = W2 at hbq
    have hB2 := btr hB hbq
    clear hkP hbq hB hvz hwd hvp
    go_wp2
    go_ret
    exact ⟨none, 0, by rw [HR.out]; rfl, by rw [HR.out]; exact SlOw.nil (fun k hk => hk.2), hB2⟩

/-! ### The model's -/
theorem widthOf_s (A : Option Addr) (c : Nat) (z : List Ent) (w : World) (hx : EntsAt w A z) (hp : 0 < z.length) (hr : rowsIn z 4194304) :
    Calls Try.prog 168 #[.slice A z.length c] w fun e w' => e = .returned (.int .i64 (wid z)) ∧ Below w.heap.size w w' := by
  obtain ⟨b, off, RA, rc, rfl, hbl, hc0, -, -, -⟩ := hx.get 0 hp
  simp only [Nat.zero_mul, Nat.add_zero] at hc0
  have hp' : (0 : Int) < z.length := by omega
  have HW := Lib.hid (wid_get hp)
  go_enter Try.func168, Try.ntmps168
  go_wp2
  go_ret
  exact ⟨ret_int (by rw [HW.out]), Below.refl _ _⟩

end Go.Proofs.Ytjobecoogjojjaa
