/- HELPER, no statement of the seat: the program's checker of closures: isReached. -/
import Derived.Test.YtifjenleoagefaaGreatCci
namespace Go.Proofs.YtifjenleoagefaaGreat
open Go.RowKit Go.Sort Go.Shelf
set_option linter.unusedSimpArgs false
set_option linter.unusedVariables false

/-- The checker's block: the edges, then the table. -/
def CkB (w : World) (B : Nat) (r : List Nat) (T : List Int) : Prop := Blk w B 74 (relC r ++ ints T)
theorem CkB.below {w w' : World} {B : Nat} {r : List Nat} {T : List Int} (h : CkB w B r T) (hb : Below w.heap.size w w') : CkB w' B r T := Blk.below h hb
theorem CkB.edge {w : World} {B : Nat} {r : List Nat} {T : List Int} (h : CkB w B r T) (hr : r.length = 20) : ∀ x, x < 20 → w.cell? ⟨B, x, none⟩ = some (.int .u32 ((r.getD x 0 : Nat) : Int)) := fun x hx => by
  have := Blk.cell h x
  rw [this, Array.getElem?_append_left (by rw [relC_size]; omega)]
  exact relC_at (by omega)
theorem CkB.dist {w : World} {B : Nat} {r : List Nat} {T : List Int} (h : CkB w B r T) (hr : r.length = 20) (hT : T.length = 400) {x y : Nat} (hx : x < 20) (hy : y < 20) : w.cell? ⟨B, 20 + x * 20 + y, none⟩ = some (.int .i64 (getT T x y)) := by
  have := Blk.cell h (20 + x * 20 + y)
  rw [this, Array.getElem?_append_right (by rw [relC_size]; omega), relC_size, hr, show 20 + x * 20 + y - 20 = x * 20 + y by omega]
  exact ints_at hT hx hy
theorem CkB.row {w : World} {B : Nat} {r : List Nat} {T : List Int} (h : CkB w B r T) (hr : r.length = 20) (hT : T.length = 400) {x : Nat} (hx : x < 20) : ∀ j v, (rowL T x)[j]? = some v → w.cell? ⟨B, 20 + x * 20 + j, none⟩ = some v := fun j v hv => by
  have hj : j < 20 := by
    have h := (List.getElem?_eq_some_iff.1 hv).1
    rw [rowL_len] at h; exact h
  rw [rowL_at T x hj] at hv
  rw [← hv]
  exact h.dist hr hT hx hj
theorem hasB_nat {r : List Nat} {u v : Nat} (hu : u < 20) (hv : v < 20) : hasB r (u : Int) (v : Int) = hasR r u v := by
  have h1 : inB (u : Int) 0 19 = true := by simp [inB]; omega
  have h2 : inB (v : Int) 0 19 = true := by simp [inB]; omega
  simp [hasB, h1, h2]
def reaK (r : List Nat) (T : List Int) (x y k : Nat) : Bool := (List.range k).any fun w => decide (getT T x w = getT T x y - 1) && hasR r w y
theorem reaK_succ (r : List Nat) (T : List Int) (x y k : Nat) : reaK r T x y (k + 1) = (reaK r T x y k || (decide (getT T x k = getT T x y - 1) && hasR r k y)) := by simp [reaK, List.range_succ]
theorem reaK_mono {r : List Nat} {T : List Int} {x y k : Nat} (hk : k ≤ 20) (h : reaK r T x y k = true) : reaK r T x y 20 = true := by
  unfold reaK at h ⊢
  rw [List.any_eq_true] at h ⊢
  obtain ⟨v, hv, h2⟩ := h
  exact ⟨v, by have := List.mem_range.1 hv; exact List.mem_range.2 (by omega), h2⟩
theorem reaB_eq (r : List Nat) (T : List Int) (x y : Nat) : reaB r T x y = if getT T x y = 1 then hasR r x y else reaK r T x y 20 := rfl
set_option maxRecDepth 100000 in
set_option maxHeartbeats 6400000 in
theorem isReached_w (B : Nat) (r : List Nat) (T : List Int) (x y : Nat) (w : World) (hB : CkB w B r T) (hr : OkR r) (hT : T.length = 400) (hx : x < 20) (hy : y < 20) (hbd : ∀ u v : Nat, u < 20 → v < 20 → 0 ≤ getT T u v ∧ getT T u v ≤ 9999) :
    Calls Tryz.prog 73 #[.pointer (some ⟨B, 0, none⟩), .int .i64 (x : Int), .int .i64 (y : Int)] w fun e w' => e = .returned (.bool (reaB r T x y)) ∧ Below w.heap.size w w' := by
  have hBlt : B < w.heap.size := Blk.lt hB
  have hx' : (x : Int) < 20 := by omega
  have hy' : (y : Int) < 20 := by omega
  have cD := hB.dist hr.len hT hx hy
  have hed := fun (u v : Nat) (hu : u < 20) (hv : v < 20) (W : World) (hb : Below w.heap.size w W) => hasEdge_c B r (u : Int) (v : Int) W (Nat.lt_of_lt_of_le hBlt hb.size) ((hB.below hb).edge hr.len) hr
  have HDEF := Lib.hid (reaB_eq r T x y)
  obtain ⟨hg0, hg1⟩ := hbd x y hx hy
  have HRW := Lib.hid (fun (W : World) (hb : Below w.heap.size w W) => (hB.below hb).row hr.len hT hx)
  have hinf : (Tryz.prog.info? 65).map (·.size) = some (rowL T x).length := by rw [rowL_len]; exact infoD
  have HIX := Lib.hid (fun (y : Nat) (hy : y < 20) W => (run_indexD (rowL T x).toArray y _ hy (by rw [List.getElem?_toArray]; exact rowL_at T x hy) W : (Instr.index 65 (.agg (rowL T x).toArray) (.int .i64 (y : Int))).run Tryz.prog W = .ok (.int .i64 (getT T x y)) W))
  have HSU := Lib.hid (fun k => reaK_succ r T x y k)
  have HMO := Lib.hid (fun k (hk : k ≤ 20) => reaK_mono (r := r) (T := T) (x := x) (y := y) hk)
  generalize hgv : getT T x y = gv at *
  by_cases h1 : gv = 1
  · subst h1
    have hcon := hed x y hx hy w (Below.refl _ _)
    rw [hasB_nat hx hy] at hcon
    have HT : Hid (reaB r T x y = hasR r x y) := by rw [Hid, HDEF.out]; rfl
    generalize hasR r x y = bb at *
    clear hed hinf hgv
    go_enter Tryz.func73, Tryz.ntmps73
    go_wp2_with fail
    refine hcon.mono ?_
    rintro e w2 ⟨rfl, b2⟩
    go_wp2_with fail
    go_ret
    exact ⟨ret_bool HT.out.symm, b2⟩
  · have HT : Hid (reaB r T x y = reaK r T x y 20) := by rw [Hid, HDEF.out, if_neg h1]
    have h1' : (gv == 1) = false := by simpa using h1
    have hrow := HRW.out w (Below.refl _ _)
    have HED := Lib.hid hed
    clear hed hgv h1
    go_enter Tryz.func73, Tryz.ntmps73
    go_wp2_with (refine wpList_load_at rfl 65 _ rfl B (20 + x * 20) rfl (rowL T x) _ hrow underD rfl hinf ?_)
    clear hrow h1' cD
    go_loopw [32] (fun i wr => ∃ k : Nat, k ≤ 20 ∧ i = .int .i64 (k : Nat) ∧ Hid (reaK r T x y k = false) ∧ Below w.heap.size w wr) (fun i _ => 20 - (intOf i).toNat)
    case atStart => exact ⟨0, by omega, rfl, rfl, Below.refl _ _⟩
    case round =>
      obtain ⟨k, hk, rfl, HK, hbel⟩ := hrel
      by_cases hlt : k < 20
      · have hkI : (k : Int) < 20 := by omega
        have hix := HIX.out k hlt
        have hsu := HSU.out k
        have hcon := HED.out k y hlt hy wr hbel
        rw [hasB_nat hlt hy] at hcon
        rw [HK.out, Bool.false_or] at hsu
        obtain ⟨hb0, hb1⟩ := hbd k y hlt hy
        generalize hdk : getT T x k = dk at *
        have HDK := Lib.hid hdk
        clear hdk hb0 hb1
        by_cases he : dk = gv - 1
        · have he' : (dk == gv - 1) = true := by simpa using he
          rw [decide_eq_true he, Bool.true_and] at hsu
          generalize hasR r k y = bb at *
          have HSK := Lib.hid hsu
          clear hsu he
          cases bb
          · go_wp2_with fail
            refine hcon.mono ?_
            rintro e w2 ⟨rfl, b2⟩
            have HB2 := Lib.hid (btr hbel b2)
            clear hcon b2
            go_wp2
            go_roundw
            case rel => exact ⟨k + 1, by omega, by go_num, HSK, HB2.out⟩
            case measure => simp [intOf]; omega
          · have HTT : Hid (reaB r T x y = true) := by rw [Hid, HT.out]; exact HMO.out (k + 1) (by omega) HSK.out
            go_wp2_with fail
            refine hcon.mono ?_
            rintro e w2 ⟨rfl, b2⟩
            have HB2 := Lib.hid (btr hbel b2)
            clear hcon b2
            go_wp2
            go_ret
            exact ⟨ret_bool HTT.out.symm, HB2.out⟩
        · have he' : (dk == gv - 1) = false := by simpa using he
          rw [decide_eq_false he, Bool.false_and] at hsu
          have HSK := Lib.hid hsu
          clear hsu he hcon
          go_wp2
          go_roundw
          case rel => exact ⟨k + 1, by omega, by go_num, HSK, hbel⟩
          case measure => simp [intOf]; omega
      · obtain rfl : k = 20 := by omega
        have HTT : Hid (reaB r T x y = false) := by rw [Hid, HT.out]; exact HK.out
        go_wp2
        go_ret
        exact ⟨ret_bool HTT.out.symm, hbel⟩
end Go.Proofs.YtifjenleoagefaaGreat
