/- HELPER, no statement of the seat: the program's CertifyPath. -/
import Derived.Test.YtifjenleoagefaaSpw
import Derived.Test.YtifjenleoagefaaDin
namespace Go.Proofs.Ytifjenleoagefaa
open Go.RowKit Go.Sort
set_option linter.unusedSimpArgs false
set_option linter.unusedVariables false

theorem abs_list {P : Program} {ops : Array Oper} {Q : Exit → Act → World → Prop} {l : List Oper} {a : Act} {w : World} (K : World → Prop) (h : K w) (k : ∀ w, K w → wpList P ops Q l a w) : wpList P ops Q l a w := k w h
set_option maxRecDepth 100000 in
set_option maxHeartbeats 6400000 in
theorem CertifyPath_i (A : Option Addr) (c : Nat) (es : List Ent) (x y : Int) (w : World) (hx : EntsAt w A es) (hn : es.length ≤ 4194304) (hr : rowsIn es 4194304) :
    Calls Try.prog 12 #[.slice A es.length c, .int .i64 x, .int .i64 y] w fun e w' => ∃ A' c', e = .returned (.tuple #[.slice A' (PthF es x y).length c', .bool (PthB es x y)]) ∧ IntsOwn w' w.heap.size A' c' (PthF es x y) ∧ Below w.heap.size w w' := by
  have hv := ValidEdges_i A c es w hx hn hr
  have no : PthB es x y = false → PthB es x y = false ∧ PthF es x y = [] := fun h => ⟨h, by simp [PthF, h]⟩
  have hvx := fun W => isVertex_w x W
  have hvy := fun W => isVertex_w y W
  cases h1 : edgB es
  · obtain ⟨HB', HF'⟩ := no (by simp [PthB, h1])
    rw [h1] at hv
    rw [HB', HF']
    clear h1 HB' HF' hx no
    go_enter Try.func12, Try.ntmps12
    go_wp2_with fail
    refine hv.mono ?_
    rintro e w1 ⟨rfl, b1⟩
    clear hv
    go_wp2
    exact bodyPost_ret (v := .tuple #[.slice none 0 0, .bool false]) (by simp [results, Try.results12, go_sem]) rfl ⟨none, 0, rfl, IntsOwn.nil, b1⟩
  have HX := Lib.hid hx
  rw [h1] at hv
  cases h2 : inB x 0 19
  · obtain ⟨HB', HF'⟩ := no (by simp [PthB, h1, h2])
    rw [h2] at hvx
    rw [HB', HF']
    clear h1 h2 HB' HF' hx no
    go_enter Try.func12, Try.ntmps12
    go_wp2_with fail
    refine hv.mono ?_
    rintro e w1 ⟨rfl, b1⟩
    clear hv
    go_wp2_with fail
    refine (hvx _).mono ?_
    rintro e wx ⟨rfl, rfl⟩
    go_wp2
    exact bodyPost_ret (v := .tuple #[.slice none 0 0, .bool false]) (by simp [results, Try.results12, go_sem]) rfl ⟨none, 0, rfl, IntsOwn.nil, b1⟩
  cases h3 : inB y 0 19
  · obtain ⟨HB', HF'⟩ := no (by simp [PthB, h1, h2, h3])
    rw [h2] at hvx
    rw [h3] at hvy
    rw [HB', HF']
    clear h1 h2 h3 HB' HF' hx no
    go_enter Try.func12, Try.ntmps12
    go_wp2_with fail
    refine hv.mono ?_
    rintro e w1 ⟨rfl, b1⟩
    clear hv
    go_wp2_with fail
    refine (hvx _).mono ?_
    rintro e wx ⟨rfl, rfl⟩
    go_wp2_with fail
    refine (hvy _).mono ?_
    rintro e wx ⟨rfl, rfl⟩
    go_wp2
    exact bodyPost_ret (v := .tuple #[.slice none 0 0, .bool false]) (by simp [results, Try.results12, go_sem]) rfl ⟨none, 0, rfl, IntsOwn.nil, b1⟩
  have hrx : 0 ≤ x ∧ x < 20 ∧ 0 ≤ y ∧ y < 20 := by
    simp only [inB, decide_eq_true_eq] at h2 h3; omega
  obtain ⟨X, rfl⟩ : ∃ X : Nat, x = X := ⟨x.toNat, by omega⟩
  obtain ⟨Y, rfl⟩ : ∃ Y : Nat, y = Y := ⟨y.toNat, by omega⟩
  have hX : X < 20 := by omega
  have hY : Y < 20 := by omega
  have hX' : (X : Int) < 20 := by omega
  have hY' : (Y : Int) < 20 := by omega
  have hro := relOf_ok h1
  have hdl := distT_len hro
  have hrl := fun W (hb : Below w.heap.size w W) => relationOf_i A c es W (hx.below entR hb) h1
  have hdis := fun W => distances_w (relOf es) W hro
  have hPB : PthB es (X : Int) (Y : Int) = decide (getT (distT (relOf es)) X Y ≠ 0) := by simp [PthB, h1, h2, h3]
  have hPF : PthB es (X : Int) (Y : Int) = true → PthF es (X : Int) (Y : Int) = pathL (relOf es) X Y := fun h => by rw [PthF, if_pos h]; simp
  have hgt := ints_at hdl hX hY
  have hfm := dist_form hro hX hY
  have hok := fun d (h : getT (distT (relOf es)) X Y = ((d + 1 : Nat) : Int)) => posP_ok hro hX hY h
  have hst := fun d (h : getT (distT (relOf es)) X Y = ((d + 1 : Nat) : Int)) k (hk : k < d) => posP_step hro hX hY h hk
  rw [h2] at hvx
  rw [h3] at hvy
  by_cases h0 : getT (distT (relOf es)) X Y = 0
  · obtain ⟨HB', HF'⟩ := no (by rw [hPB, h0]; rfl)
    rw [HB', HF']
    rw [h0] at hgt
    clear h1 h2 h3 HB' HF' hx no hPB hPF hfm hok hst h0 hrx
    generalize relOf es = r at *
    generalize distT r = T at *
    go_enter Try.func12, Try.ntmps12
    go_wp2_with fail
    refine hv.mono ?_
    rintro e w1 ⟨rfl, b1⟩
    clear hv
    go_wp2_with fail
    refine (hvx _).mono ?_
    rintro e wx ⟨rfl, rfl⟩
    go_wp2_with fail
    refine (hvy _).mono ?_
    rintro e wx ⟨rfl, rfl⟩
    go_wp2_with fail
    refine (hrl _ b1).mono ?_
    rintro e w2 ⟨rfl, b2⟩
    have hb2 := btr b1 b2
    clear hrl b1 b2 hvx hvy
    go_wp2_with (first | (refine wpList_store_row rfl 61 _ _ rfl w2.heap.size (relC r) rfl rfl 61 (relC zeroR) (Blk.newAt rfl) (sizeR hro) (by rw [relC_size, relC_size, zeroR_ok.len, hro.len]) (relC_one _) ?_; refine abs_list (fun W => Blk W w2.heap.size 61 (relC r) ∧ Below w.heap.size w W) ⟨(Blk.newAt rfl).row _, brow (bal hb2 _) hb2.size _⟩ ?_; rintro w3 ⟨k3, hb3⟩; have HB2 := Lib.hid hb2; clear hb2) | refine wpList_load_row rfl 61 _ rfl w2.heap.size rfl 61 (relC r) (0, 0) _ k3 underR rfl (sizeR hro) ?_ | (go_at_call 43; refine (hdis _).mono ?_; rintro e w4 ⟨rfl, b4⟩; have k4 := k3.below b4; have hb4 := btr hb3 b4; clear k3 hb3 b4 hdis) | (refine wpList_store_row rfl 65 _ _ rfl w4.heap.size (ints T) rfl rfl 65 (ints zeroT) (show Blk _ w4.heap.size 65 (ints zeroT) by rw [← zcT]; exact Blk.newAt rfl) (sizeDT_ hdl) (by rw [ints_size, ints_size, hdl, zeroT_len]) (ints_one2 _) ?_; refine abs_list (fun W => Blk W w2.heap.size 61 (relC r) ∧ Blk W w4.heap.size 65 (ints T) ∧ Below w.heap.size w W) ⟨(k4.alloc _).rowFar (by have := k4.lt; omega) _, (show Blk _ w4.heap.size 65 (ints zeroT) by rw [← zcT]; exact Blk.newAt rfl).row _, brow (bal hb4 _) hb4.size _⟩ ?_; rintro w5 ⟨k5, kT, hb5⟩; have cT := (kT.cell (X * 20 + Y)).trans hgt; have HB4 := Lib.hid hb4; have HK4 := Lib.hid k4; clear hb4 k4))
    exact bodyPost_ret (v := .tuple #[.slice none 0 0, .bool false]) (by simp [results, Try.results12, go_sem]) rfl ⟨none, 0, rfl, IntsOwn.nil, hb5⟩
  · have HB' : PthB es (X : Int) (Y : Int) = true := by rw [hPB]; simpa using h0
    have HF' := hPF HB'
    obtain ⟨d, hd4, hd⟩ : ∃ d : Nat, d < 400 ∧ getT (distT (relOf es)) X Y = ((d + 1 : Nat) : Int) := by
      rcases hfm with h | h
      · exact absurd h h0
      · exact h
    have hp1 := fun k hk => (hok d hd k hk).1
    have hp2 := fun k hk => And.intro (hst d hd k hk).1 (hst d hd k hk).2.2
    have hPL : pathL (relOf es) X Y = walkP (relOf es) (distT (relOf es)) Y d X d ++ [(Y : Int)] := by simp only [pathL, hd, Int.toNat_natCast, Nat.add_sub_cancel]
    rw [hPL] at HF'
    rw [HB', HF']
    have hsp := fun W => shortestPath_w (relOf es) (distT (relOf es)) X Y d W hro hdl hX hY hd4 hd hp1 hp2
    rw [hd] at hgt
    have hne : ((((d + 1 : Nat) : Int)) == 0) = false := by simp; omega
    clear h1 h2 h3 HB' HF' hx no hPB hPF hfm hok hst h0 hrx hp1 hp2 hPL hd
    generalize relOf es = r at *
    generalize distT r = T at *
    generalize walkP r T Y d X d ++ [(Y : Int)] = xs at *
    generalize ((d + 1 : Nat) : Int) = dv at *
    go_enter Try.func12, Try.ntmps12
    go_wp2_with fail
    refine hv.mono ?_
    rintro e w1 ⟨rfl, b1⟩
    clear hv
    go_wp2_with fail
    refine (hvx _).mono ?_
    rintro e wx ⟨rfl, rfl⟩
    go_wp2_with fail
    refine (hvy _).mono ?_
    rintro e wx ⟨rfl, rfl⟩
    go_wp2_with fail
    refine (hrl _ b1).mono ?_
    rintro e w2 ⟨rfl, b2⟩
    have hb2 := btr b1 b2
    clear hrl b1 b2 hvx hvy
    go_wp2_with (first | (refine wpList_store_row rfl 61 _ _ rfl w2.heap.size (relC r) rfl rfl 61 (relC zeroR) (Blk.newAt rfl) (sizeR hro) (by rw [relC_size, relC_size, zeroR_ok.len, hro.len]) (relC_one _) ?_; refine abs_list (fun W => Blk W w2.heap.size 61 (relC r) ∧ Below w.heap.size w W) ⟨(Blk.newAt rfl).row _, brow (bal hb2 _) hb2.size _⟩ ?_; rintro w3 ⟨k3, hb3⟩; have HB2 := Lib.hid hb2; clear hb2) | refine wpList_load_row rfl 61 _ rfl w2.heap.size rfl 61 (relC r) (0, 0) _ k3 underR rfl (sizeR hro) ?_ | (go_at_call 43; refine (hdis _).mono ?_; rintro e w4 ⟨rfl, b4⟩; have k4 := k3.below b4; have hb4 := btr hb3 b4; clear k3 hb3 b4 hdis) | (refine wpList_store_row rfl 65 _ _ rfl w4.heap.size (ints T) rfl rfl 65 (ints zeroT) (show Blk _ w4.heap.size 65 (ints zeroT) by rw [← zcT]; exact Blk.newAt rfl) (sizeDT_ hdl) (by rw [ints_size, ints_size, hdl, zeroT_len]) (ints_one2 _) ?_; refine abs_list (fun W => Blk W w2.heap.size 61 (relC r) ∧ Blk W w4.heap.size 65 (ints T) ∧ Below w.heap.size w W) ⟨(k4.alloc _).rowFar (by have := k4.lt; omega) _, (show Blk _ w4.heap.size 65 (ints zeroT) by rw [← zcT]; exact Blk.newAt rfl).row _, brow (bal hb4 _) hb4.size _⟩ ?_; rintro w5 ⟨k5, kT, hb5⟩; have cT := (kT.cell (X * 20 + Y)).trans hgt; have HB4 := Lib.hid hb4; have HK4 := Lib.hid k4; clear hb4 k4) | refine wpList_load_row rfl 61 _ rfl w2.heap.size rfl 61 (relC r) (0, 0) _ k5 underR rfl (sizeR hro) ?_ | refine wpList_load_row rfl 65 _ rfl w4.heap.size rfl 65 (ints T) (0, 0) _ kT underDT_ rfl (sizeDT_ hdl) ?_ | (go_at_call 44; refine (hsp _).mono ?_; rintro e w6 ⟨A6, c6, rfl, ho6, b6⟩; have HO6 := Lib.hid (And.intro (IntsOwn.mono ho6 hb5.size) (btr hb5 b6)); clear ho6 b6 cT hb5 k5 kT hsp))
    exact bodyPost_ret (v := .tuple #[.slice A6 xs.length c6, .bool true]) (by simp [results, Try.results12, go_sem]) rfl ⟨A6, c6, rfl, HO6.out.1, HO6.out.2⟩
theorem PthF_len (es : List Ent) (x y : Int) : (PthF es x y).length ≤ 402 := by
  unfold PthF
  split
  · rename_i h
    simp only [PthB, Bool.and_eq_true, decide_eq_true_eq, inB] at h
    obtain ⟨he, hx, hy, _⟩ := h
    have := dist_le (relOf_ok he) (x := x.toNat) (y := y.toNat) (by omega) (by omega)
    rw [pathL, List.length_append, walkP_len]
    simp; omega
  · simp
end Go.Proofs.Ytifjenleoagefaa
