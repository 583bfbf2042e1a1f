/- HELPER, no statement of the seat: NewView of both sides. -/
import Derived.Test.YtnfffgpjgkhjlaaVwa
namespace Go.Proofs.Ytnfffgpjgkhjlaa
open Go.RowKit Go.Sort
set_option linter.unusedSimpArgs false
set_option linter.unusedVariables false

/-- The view without updates. -/
def nvB : Bt := ([(0, 0)], ([(0, 0)], []))
theorem nvB_len : nvB.1.length ≤ 4194304 ∧ nvB.2.1.length ≤ 4194304 ∧ nvB.2.2.length ≤ 400 ∧ rowsU nvB.2.2 6 := ⟨by decide, by decide, by decide, fun e he => by cases he⟩
set_option maxHeartbeats 1600000 in
theorem NewView_s (w : World) : Calls Try.prog 11 #[] w fun e w' => ∃ L1 d1 U1 d2 T1 d3, e = .returned (.agg #[.slice L1 nvB.1.length d1, .slice U1 nvB.2.1.length d2, .slice T1 nvB.2.2.length d3]) ∧ TimesAt w' L1 nvB.1 ∧ TimesAt w' U1 nvB.2.1 ∧ UpdsAt w' T1 nvB.2.2 ∧ Below w.heap.size w w' := by
  go_enter Try.func11, Try.ntmps11
  go_wp2
  have k1 : Blk ((((w.alloc (.cells #[.slice (some ⟨w.heap.size + 1, 0, none⟩) 1 1, .slice (some ⟨w.heap.size + 1 + 1, 0, none⟩) 1 1, .slice (some ⟨w.heap.size + 1 + 1 + 1, 0, none⟩) 0 0] 31)).alloc (.cells #[.int .i64 0, .int .i64 0] 56)).alloc (.cells #[.int .i64 0, .int .i64 0] 56)).alloc (.cells #[] 67)) (w.heap.size + 1) 56 (timeC [(0, 0)]) := ((Blk.newAt (by simp)).alloc _).alloc _
  have k2 : Blk ((((w.alloc (.cells #[.slice (some ⟨w.heap.size + 1, 0, none⟩) 1 1, .slice (some ⟨w.heap.size + 1 + 1, 0, none⟩) 1 1, .slice (some ⟨w.heap.size + 1 + 1 + 1, 0, none⟩) 0 0] 31)).alloc (.cells #[.int .i64 0, .int .i64 0] 56)).alloc (.cells #[.int .i64 0, .int .i64 0] 56)).alloc (.cells #[] 67)) (w.heap.size + 1 + 1) 56 (timeC [(0, 0)]) := (Blk.newAt (by simp)).alloc _
  exact bodyPost_ret (v := .agg #[.slice (some ⟨w.heap.size + 1, 0, none⟩) 1 1, .slice (some ⟨w.heap.size + 1 + 1, 0, none⟩) 1 1, .slice (some ⟨w.heap.size + 1 + 1 + 1, 0, none⟩) 0 0]) (by simp [results, Try.results11, go_sem]) rfl ⟨_, 1, _, 1, _, 0, rfl, TimesAt.ofBlk k1, TimesAt.ofBlk k2, SlAt.nil, bal (bal (bal (bal (Below.refl _ _) _) _) _) _⟩
set_option maxHeartbeats 1600000 in
theorem NewView_i (w : World) : Calls Try.prog 12 #[] w fun e w' => ∃ L1 d1 U1 d2 T1 d3, e = .returned (.agg #[.slice L1 nvB.1.length d1, .slice U1 nvB.2.1.length d2, .slice T1 nvB.2.2.length d3]) ∧ BatO w' (news w w') [.slice L1 nvB.1.length d1, .slice U1 nvB.2.1.length d2, .slice T1 nvB.2.2.length d3] nvB ∧ Below w.heap.size w w' := by
  go_enter Try.func12, Try.ntmps12
  go_wp2
  have k1 : Blk (((w.alloc (.cells #[.slice (some ⟨w.heap.size + 1, 0, none⟩) 1 1, .slice (some ⟨w.heap.size + 1 + 1, 0, none⟩) 1 1, .slice none 0 0] 31)).alloc (.cells #[.int .i64 0, .int .i64 0] 56)).alloc (.cells #[.int .i64 0, .int .i64 0] 56)) (w.heap.size + 1) 56 (timeC [(0, 0)]) := (Blk.newAt (by simp)).alloc _
  have k2 : Blk (((w.alloc (.cells #[.slice (some ⟨w.heap.size + 1, 0, none⟩) 1 1, .slice (some ⟨w.heap.size + 1 + 1, 0, none⟩) 1 1, .slice none 0 0] 31)).alloc (.cells #[.int .i64 0, .int .i64 0] 56)).alloc (.cells #[.int .i64 0, .int .i64 0] 56)) (w.heap.size + 1 + 1) 56 (timeC [(0, 0)]) := Blk.newAt (by simp)
  have o1 : TmOwn (((w.alloc (.cells #[.slice (some ⟨w.heap.size + 1, 0, none⟩) 1 1, .slice (some ⟨w.heap.size + 1 + 1, 0, none⟩) 1 1, .slice none 0 0] 31)).alloc (.cells #[.int .i64 0, .int .i64 0] 56)).alloc (.cells #[.int .i64 0, .int .i64 0] 56)) 0 (some ⟨w.heap.size + 1, 0, none⟩) 1 [(0, 0)] := TmOwn.ofBlk k1 (Nat.zero_le _) (by simp [maxLen])
  have o2 : TmOwn (((w.alloc (.cells #[.slice (some ⟨w.heap.size + 1, 0, none⟩) 1 1, .slice (some ⟨w.heap.size + 1 + 1, 0, none⟩) 1 1, .slice none 0 0] 31)).alloc (.cells #[.int .i64 0, .int .i64 0] 56)).alloc (.cells #[.int .i64 0, .int .i64 0] 56)) 0 (some ⟨w.heap.size + 1 + 1, 0, none⟩) 1 [(0, 0)] := TmOwn.ofBlk k2 (Nat.zero_le _) (by simp [maxLen])
  exact bodyPost_ret (v := .agg #[.slice (some ⟨w.heap.size + 1, 0, none⟩) 1 1, .slice (some ⟨w.heap.size + 1 + 1, 0, none⟩) 1 1, .slice none 0 0]) (by simp [results, Try.results12, go_sem]) rfl ⟨_, 1, _, 1, _, 0, rfl,
    BatO.mk (lo := [(0, 0)]) (up := [(0, 0)]) (us := []) (S1 := fun q => q = w.heap.size + 1) (S2 := fun q => q = w.heap.size + 1 + 1) (S3 := fun _ => False) (fun q hq => hq.2) ⟨fun q hq => by rw [hq]; exact k1.lt, fun q hq => by simp [blk] at hq; exact hq.symm, o1⟩ ⟨fun q hq => by rw [hq]; exact k2.lt, fun q hq => by simp [blk] at hq; exact hq.symm, o2⟩ (SlOw.nil (fun _ h => h.elim))
      (fun q hq => ⟨⟨by omega, by rw [hq]; exact k1.lt⟩, by omega, fun h => h⟩) (fun q hq => ⟨⟨by omega, by rw [hq]; exact k2.lt⟩, fun h => h⟩) (fun _ h => h.elim), bal (bal (bal (Below.refl _ _) _) _) _⟩
end Go.Proofs.Ytnfffgpjgkhjlaa
