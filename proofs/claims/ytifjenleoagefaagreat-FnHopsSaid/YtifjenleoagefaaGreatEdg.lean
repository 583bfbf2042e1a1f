/- HELPER, no statement of the seat: edges and facts: both sides. -/
import Derived.Test.YtifjenleoagefaaGreatZbs
namespace Go.Proofs.YtifjenleoagefaaGreat
open Go.RowKit Go.Sort
set_option linter.unusedSimpArgs false
set_option linter.unusedVariables false

def gi (xs : List Int) (k : Nat) : Int := xs.getD k 0
theorem isUpTo_w (n lim : Int) (w : World) : Calls Tryz.prog 50 #[.int .i64 n, .int .i64 lim] w fun e w' => e = .returned (.bool (inB n 0 lim)) ∧ w = w' := by
  by_cases h0 : 0 ≤ n <;> by_cases h1 : n ≤ lim
  all_goals
    go_enter Tryz.func50, Tryz.ntmps50
    go_wp2
    go_ret
    exact ⟨ret_bool (by simp [inB, *] <;> omega), rfl⟩
theorem isVertex_w (n : Int) (w : World) : Calls Tryz.prog 22 #[.int .i64 n] w fun e w' => e = .returned (.bool (inB n 0 19)) ∧ w = w' := by
  go_enter Tryz.func22, Tryz.ntmps22
  go_wp2_with (go_at_call 50; refine (isUpTo_w n 19 _).mono ?_; rintro e w2 ⟨rfl, rfl⟩)
  go_ret
  exact ⟨rfl, rfl⟩
def edgeE (e : Ent) : Bool := decide (e.1.length = 2) && (inB (gi e.1 0) 0 19 && (inB (gi e.1 1) 0 19))
def edgB (z : List Ent) : Bool := setB z && allTo (fun j => edgeE (nth z j)) z.length
set_option maxHeartbeats 1600000 in
theorem ValidEdges_i (A : Option Addr) (c : Nat) (es : List Ent) (w : World) (hx : EntsAt w A es) (hn : es.length ≤ 4194304) (hr : rowsIn es 4194304) :
    Calls Tryz.prog 9 #[.slice A es.length c] w fun e w' => e = .returned (.bool (edgB es)) ∧ Below w.heap.size w w' := by
  have hno : ∀ k (hk : k < es.length), edgeE es[k] = false → Hid (edgB es = false) := fun k hk hs => by
    have : allTo (fun j => edgeE (nth es j)) es.length = false := allTo_bad hk (by rw [nth_get hk]; exact hs)
    simp [Hid, edgB, this]
  have hyes : Hid (allTo (fun j => edgeE (nth es j)) es.length = true → edgB es = setB es) := fun h => by simp [edgB, h]
  have HX := Lib.hid hx
  go_enter Tryz.func9, Tryz.ntmps9
  go_wp2
  go_loopw [4, 7] (fun _ i wr => ∃ k : Nat, k ≤ es.length ∧ i = .int .i64 k ∧ allTo (fun j => edgeE (nth es j)) k = true ∧ Below w.heap.size w wr) (fun _ i _ => es.length - (intOf i).toNat)
  case atStart => exact ⟨0, by omega, rfl, rfl, Below.refl _ _⟩
  case round =>
    obtain ⟨k, hk, rfl, hall, hbel⟩ := hrel
    have HA := Lib.hid hall
    clear hall
    by_cases hlt : k < es.length
    · obtain ⟨b, off, RA, rc, rfl, hbl, hc0, hc1, hml, hrow⟩ := hx.get k hlt
      have q0 := (hbel.cell (p := ⟨b, off + k * 2, none⟩) hbl).trans hc0
      have q1 := (hbel.cell (p := ⟨b, off + k * 2 + 1, none⟩) hbl).trans hc1
      have hb0 : Below w.heap.size w (wr.alloc (.cells #[.slice RA es[k].1.length rc, .int .i64 es[k].2] 33)) := bal hbel _
      have hrl := hr.get hlt
      clear hc0 hc1 hx
      by_cases hl : es[k].1.length = 2
      · have hne : ((es[k].1.length : Int) != 2) = false := by rw [hl]; rfl
        obtain ⟨b2, off2, rfl, hbl2, hcc⟩ := hrow (by omega)
        have p0 : (wr.alloc (.cells #[.slice (some ⟨b2, off2, none⟩) es[k].1.length rc, .int .i64 es[k].2] 33)).cell? ⟨b2, off2, none⟩ = some (.int .i64 (gi es[k].1 0)) := (hb0.cell (p := ⟨b2, off2, none⟩) hbl2).trans (by have := hcc 0 (by omega); simpa [gi] using this)
        have p1 : (wr.alloc (.cells #[.slice (some ⟨b2, off2, none⟩) es[k].1.length rc, .int .i64 es[k].2] 33)).cell? ⟨b2, off2 + 1, none⟩ = some (.int .i64 (gi es[k].1 1)) := (hb0.cell (p := ⟨b2, off2 + 1, none⟩) hbl2).trans (by have := hcc 1 (by omega); simpa [gi] using this)
        have hlt0 : (0 : Int) < es[k].1.length := by omega
        have hlt1 : (1 : Int) < es[k].1.length := by omega
        have HL := Lib.hid hl
        clear hcc hrow hl
        generalize hg0 : gi es[k].1 0 = x0 at p0
        generalize hg1 : gi es[k].1 1 = x1 at p1
        have G0 := Lib.hid hg0
        have G1 := Lib.hid hg1
        clear hg0 hg1
        cases h0 : inB x0 0 19
        · have HR := hno k hlt (by rw [edgeE, G0.out, h0]; simp)
          clear hno hyes HA
          go_wp2_with (go_at_call 22; refine (isVertex_w _ _).mono ?_; rintro e w2 ⟨rfl, rfl⟩; first | rw [h0])
          go_ret
          exact ⟨ret_bool HR.out.symm, hb0⟩
        · cases h1 : inB x1 0 19
          · have HR := hno k hlt (by rw [edgeE, G0.out, h0, G1.out, h1]; simp)
            clear hno hyes HA
            go_wp2_with (go_at_call 22; refine (isVertex_w _ _).mono ?_; rintro e w2 ⟨rfl, rfl⟩; first | rw [h0] | rw [h1])
            go_ret
            exact ⟨ret_bool HR.out.symm, hb0⟩
          · have HS : Hid (edgeE (nth es k) = true) := by rw [Hid, nth_get hlt, edgeE, G0.out, h0, G1.out, h1]; simp [HL.out]
            clear hno hyes
            go_wp2_with (go_at_call 22; refine (isVertex_w _ _).mono ?_; rintro e w2 ⟨rfl, rfl⟩; first | rw [h0] | rw [h1])
            go_roundw
            case rel => exact ⟨k + 1, by omega, by go_num, allTo_step HA.out HS.out, hb0⟩
            case measure => simp [intOf]; omega
      · have hne : ((es[k].1.length : Int) != 2) = true := by simp; omega
        have HR := hno k hlt (by simp [edgeE, hl])
        clear hno hyes HA hl
        go_wp2
        go_ret
        exact ⟨ret_bool HR.out.symm, hb0⟩
    · obtain rfl : k = es.length := by omega
      have HR := Lib.hid (hyes.out HA.out)
      clear hno hyes
      go_wp2_with (go_at_call 32; refine (IsSet_i _ _ _ _ (HX.out.below entR hbel) hn hr).mono ?_; rintro e w1 ⟨rfl, hb⟩)
      go_ret
      exact ⟨ret_bool HR.out.symm, btr hbel hb⟩
set_option maxHeartbeats 1600000 in
theorem validEdges_s (A : Option Addr) (c : Nat) (es : List Ent) (w : World) (hx : EntsAt w A es) (hn : es.length ≤ 4194304) (hr : rowsIn es 4194304) :
    Calls Tryz.prog 28 #[.slice A es.length c] w fun e w' => e = .returned (.bool (edgB es)) ∧ Below w.heap.size w w' := by
  have hno : ∀ k (hk : k < es.length), edgeE es[k] = false → Hid (edgB es = false) := fun k hk hs => by
    have : allTo (fun j => edgeE (nth es j)) es.length = false := allTo_bad hk (by rw [nth_get hk]; exact hs)
    simp [Hid, edgB, this]
  have hyes : Hid (allTo (fun j => edgeE (nth es j)) es.length = true → edgB es = setB es) := fun h => by simp [edgB, h]
  have hv := validZSet_s A c es w hx hn hr
  have hs := fun W (h : EntsAt W A es) => isSet_s A c es W h hn
  have HX := Lib.hid hx
  cases h1 : zsB es
  · rw [h1] at hv
    have HR : Hid (edgB es = false) := by simp [Hid, edgB, setB, h1]
    clear hno hyes hs h1
    go_enter Tryz.func28, Tryz.ntmps28
    go_wp2_with fail
    refine hv.mono ?_
    rintro e w1 ⟨rfl, b1⟩
    clear hv
    go_wp2_with fail
    go_ret
    exact ⟨ret_bool HR.out.symm, b1⟩
  rw [h1] at hv
  have H1 := Lib.hid h1
  clear h1
  cases h2 : oneB es
  · simp only [h2] at hs
    have HR : Hid (edgB es = false) := by simp [Hid, edgB, setB, h2]
    clear hno hyes h2
    go_enter Tryz.func28, Tryz.ntmps28
    go_wp2_with fail
    refine hv.mono ?_
    rintro e w1 ⟨rfl, b1⟩
    clear hv
    go_wp2_with fail
    refine (hs _ (HX.out.below entR b1)).mono ?_
    rintro e w2 ⟨rfl, b2⟩
    clear hs
    go_wp2_with fail
    go_ret
    exact ⟨ret_bool HR.out.symm, btr b1 b2⟩
  simp only [h2] at hs
  have hset : setB es = true := by simp [setB, H1.out, h2]
  have HYES : Hid (allTo (fun j => edgeE (nth es j)) es.length = true → edgB es = true) := fun h => by rw [hyes.out h, hset]
  clear h2 hset
  go_enter Tryz.func28, Tryz.ntmps28
  go_wp2_with fail
  refine hv.mono ?_
  rintro e w1 ⟨rfl, b1⟩
  clear hv
  go_wp2_with fail
  refine (hs _ (HX.out.below entR b1)).mono ?_
  rintro e W ⟨rfl, b2⟩
  have hB := btr b1 b2
  clear hs b1 b2
  go_wp2
  go_loopw [3, 4] (fun i rr wr => ∃ k : Nat, k ≤ es.length ∧ i = .int .i64 k ∧ allTo (fun j => edgeE (nth es j)) k = true ∧ W = wr) (fun i _ _ => es.length - (intOf i).toNat)
  case atStart => exact ⟨0, by omega, rfl, rfl, rfl⟩
  case round =>
    obtain ⟨k, hk, rfl, hall, rfl⟩ := hrel
    have HA := Lib.hid hall
    clear hall
    by_cases hlt : k < es.length
    · obtain ⟨b, off, RA, rc, rfl, hbl, hc0, hc1, hml, hrow⟩ := hx.get k hlt
      have q0 := (hB.cell (p := ⟨b, off + k * 2, none⟩) hbl).trans hc0
      have hbel := hB
      have hrl := hr.get hlt
      have hlt' : (k : Int) < es.length := by omega
      clear hc0 hc1 hx
      by_cases hl : es[k].1.length = 2
      · have hne : ((es[k].1.length : Int) != 2) = false := by rw [hl]; rfl
        obtain ⟨b2, off2, rfl, hbl2, hcc⟩ := hrow (by omega)
        have p0 : (W).cell? ⟨b2, off2, none⟩ = some (.int .i64 (gi es[k].1 0)) := (hB.cell (p := ⟨b2, off2, none⟩) hbl2).trans (by have := hcc 0 (by omega); simpa [gi] using this)
        have p1 : (W).cell? ⟨b2, off2 + 1, none⟩ = some (.int .i64 (gi es[k].1 1)) := (hB.cell (p := ⟨b2, off2 + 1, none⟩) hbl2).trans (by have := hcc 1 (by omega); simpa [gi] using this)
        have hlt0 : (0 : Int) < es[k].1.length := by omega
        have hlt1 : (1 : Int) < es[k].1.length := by omega
        have HL := Lib.hid hl
        clear hcc hrow hl
        generalize hg0 : gi es[k].1 0 = x0 at p0
        generalize hg1 : gi es[k].1 1 = x1 at p1
        have G0 := Lib.hid hg0
        have G1 := Lib.hid hg1
        clear hg0 hg1
        cases h0 : inB x0 0 19
        · have HR := hno k hlt (by rw [edgeE, G0.out, h0]; simp)
          clear hno hyes HA
          go_wp2_with (go_at_call 29; refine (inRange_any _ _ _ _).mono ?_; rintro e w2 ⟨rfl, rfl⟩; first | rw [h0])
          go_ret
          exact ⟨ret_bool HR.out.symm, hbel⟩
        · cases h1 : inB x1 0 19
          · have HR := hno k hlt (by rw [edgeE, G0.out, h0, G1.out, h1]; simp)
            clear hno hyes HA
            go_wp2_with (go_at_call 29; refine (inRange_any _ _ _ _).mono ?_; rintro e w2 ⟨rfl, rfl⟩; first | rw [h0] | rw [h1])
            go_ret
            exact ⟨ret_bool HR.out.symm, hbel⟩
          · have HS : Hid (edgeE (nth es k) = true) := by rw [Hid, nth_get hlt, edgeE, G0.out, h0, G1.out, h1]; simp [HL.out]
            clear hno hyes
            go_wp2_with (go_at_call 29; refine (inRange_any _ _ _ _).mono ?_; rintro e w2 ⟨rfl, rfl⟩; first | rw [h0] | rw [h1])
            go_roundw
            case rel => exact ⟨k + 1, by omega, by go_num, allTo_step HA.out HS.out, by trivial⟩
            case measure => simp [intOf]; omega
      · have hne : ((es[k].1.length : Int) != 2) = true := by simp; omega
        have HR := hno k hlt (by simp [edgeE, hl])
        clear hno hyes HA hl
        go_wp2
        go_ret
        exact ⟨ret_bool HR.out.symm, hbel⟩
    · obtain rfl : k = es.length := by omega
      have HR := Lib.hid (HYES.out HA.out)
      clear hno hyes HYES
      go_wp2
      go_ret
      exact ⟨ret_bool HR.out.symm, hB⟩
def factE (e : Ent) : Bool := decide (e.1.length = 3) && (inB (gi e.1 0) 0 3 && (inB (gi e.1 1) 0 5 && (inB (gi e.1 2) 0 5)))
def facB (z : List Ent) : Bool := setB z && allTo (fun j => factE (nth z j)) z.length
end Go.Proofs.YtifjenleoagefaaGreat
