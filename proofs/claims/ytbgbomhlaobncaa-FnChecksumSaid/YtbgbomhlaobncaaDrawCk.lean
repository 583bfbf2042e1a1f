/- HELPER, no statement of the seat: drawn texts. -/
import Derived.Test.YtbgbomhlaobncaaDrg
import Derived.Test.YtbgbomhlaobncaaCri
import Derived.Laws.BytesArg
import Derived.Laws.IdiomStrings
namespace Go.Proofs.Ytbgbomhlaobncaa
open Go.RowKit Go.Sort
set_option linter.unusedSimpArgs false
set_option linter.unusedVariables false

def StrC (l : List ByteArray) : Array Value := (l.map Value.string).toArray
set_option maxHeartbeats 800000 in
theorem of_r (g b : Nat) (A : Option Addr) (n c : Nat) (p : Int) (xs : List ByteArray) (w : World) (hr : Rdr w g A n c p) (hp : p + 1 ≤ 1000000000) (hk : Blk w b 9 (StrC xs)) (hne : b ≠ g) (h0 : 0 < xs.length) (h1 : xs.length ≤ 100) :
    Calls Try.prog 8 #[.pointer (some ⟨g, 0, none⟩), .slice (some ⟨b, 0, none⟩) xs.length xs.length] w fun e w' => ∃ q : ByteArray, e = .returned (.string q) ∧ q ∈ xs ∧ w.grownBy w' (some g) := by
  have HK := Lib.hid hk
  clear hk
  go_enter Try.func8, Try.ntmps8
  go_wp2_with fail
  refine (pick_r _ _ _ _ _ _ _ hr hp (by omega)).mono ?_
  rintro e w1 ⟨q, rfl, q0, q1, r1, g1⟩
  have hq := q1 (by omega)
  obtain ⟨k, rfl⟩ := Int.eq_ofNat_of_zero_le q0
  have hk : k < xs.length := by omega
  have k1 := HK.out.kept g1 hne
  have c1 : w1.cell? ⟨b, k, none⟩ = some (.string xs[k]) := by rw [k1.cell]; simp [StrC, hk]
  have H1 := Lib.hid g1
  have HM := Lib.hid (List.getElem_mem hk)
  clear hr HK q1 r1 g1 k1
  go_wp2_with fail
  go_ret
  exact ⟨xs[k], rfl, HM.out, H1.out⟩
theorem nums_at (w : World) (b off : Nat) : ∀ m, (∀ j, j < m → ∃ z : Int, 0 ≤ z ∧ z ≤ 255 ∧ w.cell? ⟨b, off + j, none⟩ = some (.int .u8 z)) → ∃ xs : List Int, xs.length = m ∧ ∀ i, i < m → w.cell? ⟨b, off + i, none⟩ = some (.int .u8 (xs.getD i 0))
  | 0, _ => ⟨[], rfl, fun i hi => by omega⟩
  | m + 1, h => by
    obtain ⟨xs, hl, hc⟩ := nums_at w b off m (fun j hj => h j (by omega))
    obtain ⟨z, _, _, hz⟩ := h m (by omega)
    refine ⟨xs ++ [z], by simp [hl], fun i hi => ?_⟩
    rcases Nat.lt_or_ge i m with h1 | h1
    · rw [hc i h1]; simp [List.getD, List.getElem?_append_left (show i < xs.length by omega)]
    · have : i = m := by omega
      subst this
      rw [hz]; simp [List.getD, ← hl]
/-- Bytes that came in, as a text. -/
theorem conv_bytes (w : World) (g : Nat) (A : Option Addr) (n m c : Nat) (hb : BytesAt w g A n) (hm : m ≤ n) : ∃ s0 : ByteArray, s0.size = m ∧ (convert 22 9 (.slice A m c)).run Try.prog w = .ok (.string s0) w := by
  rcases Nat.eq_zero_or_pos m with h0 | h0
  · subst h0
    rcases A with _ | a
    · exact ⟨_, rfl, run_convert_bytes_nil w _ _ Try.underlying22 Try.underlying5 0 c _ Try.underlying9⟩
    · exact ⟨_, rfl, run_convert_bytes_back w _ _ _ a c [] Try.underlying22 Try.underlying5 Try.underlying9 (fun j hj => by cases hj)⟩
  · obtain ⟨b, off, rfl, _, hc⟩ := hb (by omega)
    obtain ⟨xs, hl, hx⟩ := nums_at w b off m (fun j hj => hc j (by omega))
    exact ⟨strOfNums xs, by rw [strOfNums_size, hl], run_convert_bytes_arg w _ _ Try.underlying22 Try.underlying5 b off m c xs hl hx _ Try.underlying9⟩
set_option maxRecDepth 100000 in
set_option maxHeartbeats 3200000 in
theorem DrawChecksum_r (A : Option Addr) (n c : Nat) (w : World) (hb : BytesAt w w.heap.size A n) (hc : n ≤ c) (hn : n ≤ 1048576) :
    Calls Try.prog 4 #[.slice A n c] w fun e w' => ∃ s : ByteArray, e = .returned (.string s) ∧ s.size ≤ 100 ∧ Below w.heap.size w w' := by
  have HB := Lib.hid hb
  by_cases h100 : n ≤ 100
  · have hle : (n : Int) ≤ 100 := by omega
    have hmc : (n : Int) ≤ c := by omega
    go_enter Try.func4, Try.ntmps4
    go_wp2_with fail
    refine (newReader_r _ _ _ _ hb hc hn).mono ?_
    rintro e w1 ⟨A1, m1, c1, rfl, r1, b1⟩
    obtain ⟨s0, hs0, hcv⟩ := conv_bytes w1 w.heap.size A n n c (fun hp => by
      obtain ⟨b, off, e, h1, h2⟩ := HB.out hp
      exact ⟨b, off, e, h1, fun j hj => by
        obtain ⟨z, z0, z1, hz⟩ := h2 j hj
        exact ⟨z, z0, z1, (b1.cell (p := ⟨b, off + j, none⟩) h1).trans hz⟩⟩) (by omega)
    have hs1 := r1.1.lt
    have hl4 : Below w1.heap.size w1 (w1.alloc (.cells (StrC [⟨#[]⟩, ⟨#[49, 50, 51, 52, 53, 54, 55, 56, 57]⟩, ⟨#[49, 44, 50, 42, 51, 59]⟩, s0]) 9)) := bal (Below.refl _ _) _
    have hof := of_r w.heap.size w1.heap.size A1 m1 c1 0 [⟨#[]⟩, ⟨#[49, 50, 51, 52, 53, 54, 55, 56, 57]⟩, ⟨#[49, 44, 50, 42, 51, 59]⟩, s0] (w1.alloc (.cells (StrC [⟨#[]⟩, ⟨#[49, 50, 51, 52, 53, 54, 55, 56, 57]⟩, ⟨#[49, 44, 50, 42, 51, 59]⟩, s0]) 9)) (r1.below hl4) (by omega) (Blk.newAt rfl) (by omega) (by simp) (by simp)
    have H1 := Lib.hid (btr b1 hl4)
    clear r1 b1 hl4 hb HB
    go_wp2_with fail
    refine hof.mono ?_
    rintro e w2 ⟨q, rfl, hq, g2⟩
    have HQ : Hid (q.size ≤ 100) := by
      simp only [List.mem_cons, List.not_mem_nil, or_false] at hq
      rcases hq with rfl | rfl | rfl | rfl
      · exact Lib.hid (by decide)
      · exact Lib.hid (by decide)
      · exact Lib.hid (by decide)
      · rw [Hid, hs0]; omega
    have HB2 := Lib.hid (gbelow H1.out g2 (Nat.le_refl _))
    clear hq g2 hof hcv
    go_wp2
    go_ret
    exact ⟨q, rfl, HQ.out, HB2.out⟩
  · have hle : (100 : Int) < n := by omega
    have hle2 : ¬ ((n : Int) ≤ 100) := by omega
    have hmc : (100 : Int) ≤ c := by omega
    go_enter Try.func4, Try.ntmps4
    go_wp2_with fail
    refine (newReader_r _ _ _ _ hb hc hn).mono ?_
    rintro e w1 ⟨A1, m1, c1, rfl, r1, b1⟩
    obtain ⟨s0, hs0, hcv⟩ := conv_bytes w1 w.heap.size A n 100 c (fun hp => by
      obtain ⟨b, off, e, h1, h2⟩ := HB.out hp
      exact ⟨b, off, e, h1, fun j hj => by
        obtain ⟨z, z0, z1, hz⟩ := h2 j hj
        exact ⟨z, z0, z1, (b1.cell (p := ⟨b, off + j, none⟩) h1).trans hz⟩⟩) (by omega)
    have hs1 := r1.1.lt
    have hl4 : Below w1.heap.size w1 (w1.alloc (.cells (StrC [⟨#[]⟩, ⟨#[49, 50, 51, 52, 53, 54, 55, 56, 57]⟩, ⟨#[49, 44, 50, 42, 51, 59]⟩, s0]) 9)) := bal (Below.refl _ _) _
    have hof := of_r w.heap.size w1.heap.size A1 m1 c1 0 [⟨#[]⟩, ⟨#[49, 50, 51, 52, 53, 54, 55, 56, 57]⟩, ⟨#[49, 44, 50, 42, 51, 59]⟩, s0] (w1.alloc (.cells (StrC [⟨#[]⟩, ⟨#[49, 50, 51, 52, 53, 54, 55, 56, 57]⟩, ⟨#[49, 44, 50, 42, 51, 59]⟩, s0]) 9)) (r1.below hl4) (by omega) (Blk.newAt rfl) (by omega) (by simp) (by simp)
    have H1 := Lib.hid (btr b1 hl4)
    clear r1 b1 hl4 hb HB
    go_wp2_with fail
    refine hof.mono ?_
    rintro e w2 ⟨q, rfl, hq, g2⟩
    have HQ : Hid (q.size ≤ 100) := by
      simp only [List.mem_cons, List.not_mem_nil, or_false] at hq
      rcases hq with rfl | rfl | rfl | rfl
      · exact Lib.hid (by decide)
      · exact Lib.hid (by decide)
      · exact Lib.hid (by decide)
      · rw [Hid, hs0]; omega
    have HB2 := Lib.hid (gbelow H1.out g2 (Nat.le_refl _))
    clear hq g2 hof hcv
    go_wp2
    go_ret
    exact ⟨q, rfl, HQ.out, HB2.out⟩
end Go.Proofs.Ytbgbomhlaobncaa
