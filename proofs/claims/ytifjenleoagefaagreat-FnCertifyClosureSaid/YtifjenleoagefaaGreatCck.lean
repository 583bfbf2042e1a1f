/- HELPER, no statement of the seat: the program's checker of closures: isContinued. -/
import Derived.Test.YtifjenleoagefaaGreatCcj
import Derived.Test.YtifjenleoagefaaGreatCge
namespace Go.Proofs.YtifjenleoagefaaGreat
open Go.RowKit Go.Sort Go.Shelf
set_option linter.unusedSimpArgs false
set_option linter.unusedVariables false
attribute [local go_sem] Oper.semAt_some

def goodZ (T : List Int) (x y z : Nat) : Bool := decide (getT T x z ≠ 0) && decide (getT T x z ≤ getT T x y + 1)
theorem conB_eq (r : List Nat) (T : List Int) (x y : Nat) : conB r T x y = (vtx (r.getD y 0)).all (goodZ T x y) := rfl
/-- What stands in a round: the boxes, the answer's box. -/
def CtI (w : World) (B : Nat) (x y : Int) (W : World) : Prop :=
  Blk W w.heap.size 88 #[.pointer (some ⟨B, 0, none⟩)] ∧ Blk W (w.heap.size + 1) 3 #[.int .i64 x] ∧ Blk W (w.heap.size + 1 + 1) 3 #[.int .i64 y] ∧ Blk W (w.heap.size + 1 + 1 + 1) 4 #[.bool false] ∧ Below w.heap.size w W
theorem CtI.below {w : World} {B : Nat} {x y : Int} {W W' : World} (h : CtI w B x y W) (hb : Below W.heap.size W W') : CtI w B x y W' :=
  ⟨h.1.below hb, h.2.1.below hb, h.2.2.1.below hb, h.2.2.2.1.below hb, btr h.2.2.2.2 hb⟩
theorem ctI_own {β : Type} (w : World) (B : Nat) (x y : Int) {lo : Nat} (hB : w.heap.size ≤ lo) : OwnFrom lo (fun (_ : β) W => CtI w B x y W) :=
  OwnFrom.and ((ownBlk _ _ (fun _ : β => #[.pointer (some ⟨B, 0, none⟩)])).from _) (OwnFrom.and ((ownBlk _ _ (fun _ : β => #[.int .i64 x])).from _) (OwnFrom.and ((ownBlk _ _ (fun _ : β => #[.int .i64 y])).from _) (OwnFrom.and ((ownBlk _ _ (fun _ : β => #[.bool false])).from _) (ownFrom_below (Nat.le_refl _) hB))))
theorem goodNil {n₀ : Nat} {W : World} : GoodO [] n₀ W ∧ ∀ k, ¬ OwB [] W k := by
  have h : ∀ k, ¬ OwB [] W k := by
    rintro k ⟨B', hB', _⟩
    cases hB'
  exact ⟨⟨fun B' hB' => (nomatch hB'), fun k hk => absurd hk (h k)⟩, h⟩
/-- An iterator over the vertices of a set, in a new box. -/
def VtV (lo a : Nat) (v : Value) (w : World) : Prop := ∃ b, v = .func (.func 57) #[] #[.pointer (some ⟨b, 0, none⟩)] ∧ lo ≤ b ∧ Blk w b 47 #[.int .u32 (a : Int)]
theorem stable_vtV (lo a : Nat) : Stable (VtV lo a) := fun _ _ _ hb ⟨b, e, h1, h2⟩ => ⟨b, e, h1, h2.below hb⟩
set_option maxRecDepth 100000 in
set_option maxHeartbeats 12800000 in
theorem isContinued_w (B : Nat) (r : List Nat) (T : List Int) (x y : Nat) (w : World) (hB : CkB w B r T) (hr : OkR r) (hT : T.length = 400) (hx : x < 20) (hy : y < 20) (hbd : ∀ u v : Nat, u < 20 → v < 20 → 0 ≤ getT T u v ∧ getT T u v ≤ 9999) :
    Calls Tryz.prog 74 #[.pointer (some ⟨B, 0, none⟩), .int .i64 (x : Int), .int .i64 (y : Int)] w fun e w' => e = .returned (.bool (conB r T x y)) ∧ Below w.heap.size w w' := by
  have hBlt : B < w.heap.size := Blk.lt hB
  have hx' : (x : Int) < 20 := by omega
  have hy' : (y : Int) < 20 := by omega
  have ha := hr.at y
  have HDEF := Lib.hid (conB_eq r T x y)
  have HCD := Lib.hid (fun (W : World) (hb : Below w.heap.size w W) (v : Nat) (hv : v < 20) => (hB.below hb).dist hr.len hT hx hv)
  have HCE := Lib.hid (fun (W : World) (hb : Below w.heap.size w W) => (hB.below hb).edge hr.len y hy)
  generalize r.getD y 0 = a at *
  refine (callsIn_wide (n := 9)).1 ?_
  refine callsIn_of_wp_marks Tryz.func74 rfl trivial ?_ rfl
  simp only [Tryz.ntmps74, List.size_toArray, List.length_cons, List.length_nil, Nat.reduceAdd, Nat.reduceSub, Array.replicate_succ, Array.replicate_zero, List.push_toArray, List.append_toArray, List.nil_append, List.cons_append]
  gi_wp2_with fail
  refine abs_worldIn (fun W => CtI w B (x : Int) (y : Int) W) ⟨((((Blk.newAt rfl).alloc _).alloc _).alloc _), (((Blk.newAt (by simp)).alloc _).alloc _), ((Blk.newAt (by simp)).alloc _), Blk.newAt (by simp), bal (bal (bal (bal (Below.refl _ _) _) _) _) _⟩ ?_
  rintro W0 hI0
  have HI := Lib.hid hI0
  have hcE := HCE.out
  clear hI0
  refine wpIn_wide.2 ?_
  refine wp_region_facts [[], [], [0], [0, 2], [0, 2, 3], List.range 5, List.range 6, List.range 7]
    [fun v' _ => v' = .pointer (some ⟨B, 0, none⟩), fun v' _ => v' = .int .i64 (y : Int), fun v' _ => v' = .pointer (some ⟨B, 0, none⟩), fun v' _ => v' = .pointer (some ⟨B, 0, none⟩), fun v' _ => v' = .pointer (some ⟨B, 0, none⟩), fun v' _ => v' = .pointer (some ⟨B, y, none⟩), fun v' _ => v' = .int .u32 (a : Int), VtV W0.heap.size a]
    (by kernel_rfl) (by kernel_rfl) rfl ⟨stable_pure _, stable_pure _, stable_pure _, stable_pure _, stable_pure _, stable_pure _, stable_pure _, stable_vtV _ _, trivial⟩ ?_
  refine wf_stepK [] [] (by kernel_rfl) (by kernel_rfl) (fun wf hb hf => ?_) (fun t0 => ?_)
  · refine ⟨?_⟩
    have z := (HI.out.1.below hb).cell 0
    simp at z
    go_wp2
    exact ⟨rfl, .pointer (some ⟨B, 0, none⟩), by kernel_rfl, Below.refl _ _, rfl⟩
  refine wf_stepK [] [] (by kernel_rfl) (by kernel_rfl) (fun wf hb hf => ?_) (fun t1 => ?_)
  · refine ⟨?_⟩
    have z := (HI.out.2.2.1.below hb).cell 0
    simp at z
    go_wp2
    exact ⟨rfl, .int .i64 (y : Int), by kernel_rfl, Below.refl _ _, rfl⟩
  refine wf_stepK [0] [fun _ => t0 = .pointer (some ⟨B, 0, none⟩)] (by kernel_rfl) (by kernel_rfl) (fun wf hb hf => ?_) (fun t2 => ?_)
  · obtain ⟨rfl, -⟩ := hf
    refine ⟨?_⟩
    go_wp2
    exact ⟨rfl, .pointer (some ⟨B, 0, none⟩), by kernel_rfl, Below.refl _ _, rfl⟩
  refine wf_stepK [2] [fun _ => t2 = .pointer (some ⟨B, 0, none⟩)] (by kernel_rfl) (by kernel_rfl) (fun wf hb hf => ?_) (fun t3 => ?_)
  · obtain ⟨rfl, -⟩ := hf
    refine ⟨?_⟩
    go_wp2
    exact ⟨rfl, .pointer (some ⟨B, 0, none⟩), by kernel_rfl, Below.refl _ _, rfl⟩
  refine wf_stepK [3] [fun _ => t3 = .pointer (some ⟨B, 0, none⟩)] (by kernel_rfl) (by kernel_rfl) (fun wf hb hf => ?_) (fun t4 => ?_)
  · obtain ⟨rfl, -⟩ := hf
    refine ⟨?_⟩
    go_wp2
    exact ⟨rfl, .pointer (some ⟨B, 0, none⟩), by kernel_rfl, Below.refl _ _, rfl⟩
  refine wf_stepK [1, 4] [fun _ => t1 = .int .i64 (y : Int), fun _ => t4 = .pointer (some ⟨B, 0, none⟩)] (by kernel_rfl) (by kernel_rfl) (fun wf hb hf => ?_) (fun t5 => ?_)
  · obtain ⟨rfl, rfl, -⟩ := hf
    refine ⟨?_⟩
    go_wp2
    exact ⟨rfl, .pointer (some ⟨B, y, none⟩), by kernel_rfl, Below.refl _ _, rfl⟩
  refine wf_stepK [5] [fun _ => t5 = .pointer (some ⟨B, y, none⟩)] (by kernel_rfl) (by kernel_rfl) (fun wf hb hf => ?_) (fun t6 => ?_)
  · obtain ⟨rfl, -⟩ := hf
    refine ⟨?_⟩
    have z := hcE wf (btr HI.out.2.2.2.2 hb)
    go_wp2
    exact ⟨rfl, .int .u32 (a : Int), by kernel_rfl, Below.refl _ _, rfl⟩
  refine wf_stepK [6] [fun _ => t6 = .int .u32 (a : Int)] (by kernel_rfl) (by kernel_rfl) (fun wf hb hf => ?_) (fun t7 => ?_)
  · obtain ⟨rfl, -⟩ := hf
    refine ⟨?_⟩
    go_wp2_with (go_at_call 25; refine (vertices_i a _).mono ?_; rintro e w2 ⟨rfl, hV, hb2⟩)
    exact ⟨rfl, _, by kernel_rfl, hb2, wf.heap.size, rfl, hb.size, hV⟩
  refine wf_doneK [7] [VtV W0.heap.size a t7] (by kernel_rfl) (by kernel_rfl) (fun w6 b6 hf => ?_)
  obtain ⟨⟨b, rfl, hbb, hV⟩, -⟩ := hf
  show wpList _ _ _ [] _ _
  refine wpList_frame (by simp [Act.put]; rfl) ?_
  rw [wpList]
  have hI6 := HI.out.below b6
  have hs0 := HI.out.2.2.2.2.size
  have hlt3 := HI.out.2.2.2.1.lt
  have hbl : b < w6.heap.size := hV.lt
  have hs6 := b6.size
  clear hcE b6 HI
  have HI6 := Lib.hid (And.intro hI6 (fun (v : Fin 20) (hv : v ∈ ([] : List (Fin 20))) => (nomatch hv : goodZ T x y v.1 = true)))
  obtain ⟨hG, hno⟩ := goodNil (n₀ := w.heap.size) (W := w6)
  clear hI6
  gi_wp2_with fail
  refine wpIn_rangeFunc_ownH rfl (by omega) (gf := 57) (lb := #[.pointer (some ⟨b, 0, none⟩)]) rfl trivial (fun _ _ => rfl)
    (vertices_stopsP b a w.heap.size w6 [] hV ha hG (hno b) (9 - 1) (by omega)) kpO_t (kpO_b (by omega) (fun B' hB' => nomatch hB')) (Below.refl _ _) (fun _ => rfl)
    (fun pre W => CtI w B (x : Int) (y : Int) W ∧ ∀ v ∈ pre, goodZ T x y v.1 = true)
    (fun cc pre W => cc = .ret ∧ ∃ pre0 v, pre = pre0 ++ [v] ∧ goodZ T x y v.1 = false ∧ CtI w B (x : Int) (y : Int) W)
    (OwnFrom.and (ctI_own w B (x : Int) (y : Int) (by omega)) (ownFrom_pure _ _))
    (fun cc s X' Y' row h hg hr => by
      obtain ⟨h1, pre0, v, h2, h3, h5⟩ := h
      exact ⟨h1, pre0, v, h2, h3, ctI_own (β := Unit) w B (x : Int) (y : Int) (by omega) () X' Y' row h5 hg hr⟩) HI6.out
    (fun v a' W => a' = { tmps := #[.pointer (some ⟨B, 0, none⟩), .int .i64 (x : Int), .int .i64 (y : Int), .pointer (some ⟨w.heap.size, 0, none⟩), .pointer (some ⟨w.heap.size + 1, 0, none⟩), .pointer (some ⟨w.heap.size + 1 + 1, 0, none⟩), .pointer (some ⟨w.heap.size + 1 + 1 + 1, 0, none⟩), .int .i64 ((v.1 : Nat) : Int), undef, t0, t1, t2, t3, t4, t5, t6, .func (.func 57) #[] #[.pointer (some ⟨b, 0, none⟩)], .int .i64 ((v.1 : Nat) : Int), undef, undef, undef, undef, undef, undef, undef, undef, undef, undef, undef, undef, undef, undef, undef, undef, undef, undef, undef, undef, undef, undef, undef], defers := [] })
    (fun v a' _ X' Y' row hs hg hr => hs)
    ?assign ?body ?done ?stop
  case assign =>
    rintro l pre v W K hI hK
    gi_wp2
    exact hK _ _ ((KeepsOthers.refl _).from _) (kpO_below (by have := hI.1.2.2.2.2.size; omega) (Below.refl _ _)) hI rfl
  case body =>
    rintro l pre v a' W hl - hI rfl hlt2
    obtain ⟨hS, hpre⟩ := hI
    have hv20 : v.1 < 20 := v.2
    have hv' : (v.1 : Int) < 20 := by omega
    have hcz := fun (W' : World) (hb : Below W.heap.size W W') => HCD.out W' (btr hS.2.2.2.2 hb) v.1 hv20
    have hcy := fun (W' : World) (hb : Below W.heap.size W W') => HCD.out W' (btr hS.2.2.2.2 hb) y hy
    have HI := Lib.hid hS
    have HIW := Lib.hid hS
    have HP := Lib.hid hpre
    have hsW := hS.2.2.2.2.size
    obtain ⟨hz0, hz1⟩ := hbd x v.1 hx hv20
    obtain ⟨hy0, hy1⟩ := hbd x y hx hy
    have HGD : Hid (goodZ T x y v.1 = (decide (getT T x v.1 ≠ 0) && decide (getT T x v.1 ≤ getT T x y + 1))) := rfl
    clear hS hpre hV hG hno HI6 HCD HCE hbd HDEF
    generalize getT T x v.1 = dz at *
    generalize getT T x y = dy at *
    gi_wp2_with fail
    refine wp_region_factsR [[], [], [], [0], [0, 3], [0, 1, 3, 4], List.range 6, List.range 7, List.range 8]
      [fun v' _ => v' = .pointer (some ⟨B, 0, none⟩), fun v' _ => v' = .int .i64 ((x : Int)), fun v' _ => v' = .int .i64 (((v.1 : Nat) : Int)), fun v' _ => v' = .pointer (some ⟨B, 0, none⟩), fun v' _ => v' = .pointer (some ⟨B, 20, none⟩), fun v' _ => v' = .pointer (some ⟨B, 20 + x * 20, none⟩), fun v' _ => v' = .pointer (some ⟨B, 20 + x * 20 + v.1, none⟩), fun v' _ => v' = .int .i64 (dz), fun v' _ => v' = .int .i64 (dz)]
      (by kernel_rfl) (by kernel_rfl) rfl ⟨stable_pure _, stable_pure _, stable_pure _, stable_pure _, stable_pure _, stable_pure _, stable_pure _, stable_pure _, stable_pure _, trivial⟩ (by kernel_rfl) (fun _ _ h => by first | exact h | cases h) ?_
    refine wf_stepK [] [] (by kernel_rfl) (by kernel_rfl) (fun wf hb hf => ?_) (fun t0 => ?_)
    · refine ⟨?_⟩
      have z0 := (HI.out.1.below hb).cell 0
      simp at z0
      go_wp2
      exact ⟨rfl, .pointer (some ⟨B, 0, none⟩), by kernel_rfl, Below.refl _ _, rfl⟩
    refine wf_stepK [] [] (by kernel_rfl) (by kernel_rfl) (fun wf hb hf => ?_) (fun t1 => ?_)
    · refine ⟨?_⟩
      have z0 := (HI.out.2.1.below hb).cell 0
      simp at z0
      go_wp2
      exact ⟨rfl, .int .i64 ((x : Int)), by kernel_rfl, Below.refl _ _, rfl⟩
    refine wf_stepK [] [] (by kernel_rfl) (by kernel_rfl) (fun wf hb hf => ?_) (fun t2 => ?_)
    · refine ⟨?_⟩
      go_wp2
      exact ⟨rfl, .int .i64 (((v.1 : Nat) : Int)), by kernel_rfl, Below.refl _ _, rfl⟩
    refine wf_stepK [0] [fun _ => t0 = .pointer (some ⟨B, 0, none⟩)] (by kernel_rfl) (by kernel_rfl) (fun wf hb hf => ?_) (fun t3 => ?_)
    · obtain ⟨rfl, -⟩ := hf
      refine ⟨?_⟩
      go_wp2
      exact ⟨rfl, .pointer (some ⟨B, 0, none⟩), by kernel_rfl, Below.refl _ _, rfl⟩
    refine wf_stepK [3] [fun _ => t3 = .pointer (some ⟨B, 0, none⟩)] (by kernel_rfl) (by kernel_rfl) (fun wf hb hf => ?_) (fun t4 => ?_)
    · obtain ⟨rfl, -⟩ := hf
      refine ⟨?_⟩
      go_wp2
      exact ⟨rfl, .pointer (some ⟨B, 20, none⟩), by kernel_rfl, Below.refl _ _, rfl⟩
    refine wf_stepK [1, 4] [fun _ => t1 = .int .i64 ((x : Int)), fun _ => t4 = .pointer (some ⟨B, 20, none⟩)] (by kernel_rfl) (by kernel_rfl) (fun wf hb hf => ?_) (fun t5 => ?_)
    · obtain ⟨rfl, rfl, -⟩ := hf
      refine ⟨?_⟩
      go_wp2
      exact ⟨rfl, .pointer (some ⟨B, 20 + x * 20, none⟩), by kernel_rfl, Below.refl _ _, rfl⟩
    refine wf_stepK [2, 5] [fun _ => t2 = .int .i64 (((v.1 : Nat) : Int)), fun _ => t5 = .pointer (some ⟨B, 20 + x * 20, none⟩)] (by kernel_rfl) (by kernel_rfl) (fun wf hb hf => ?_) (fun t6 => ?_)
    · obtain ⟨rfl, rfl, -⟩ := hf
      refine ⟨?_⟩
      go_wp2
      exact ⟨rfl, .pointer (some ⟨B, 20 + x * 20 + v.1, none⟩), by kernel_rfl, Below.refl _ _, rfl⟩
    refine wf_stepK [6] [fun _ => t6 = .pointer (some ⟨B, 20 + x * 20 + v.1, none⟩)] (by kernel_rfl) (by kernel_rfl) (fun wf hb hf => ?_) (fun t7 => ?_)
    · obtain ⟨rfl, -⟩ := hf
      refine ⟨?_⟩
      have z0 := hcz wf hb
      go_wp2
      exact ⟨rfl, .int .i64 (dz), by kernel_rfl, Below.refl _ _, rfl⟩
    refine wf_stepK [7] [fun _ => t7 = .int .i64 (dz)] (by kernel_rfl) (by kernel_rfl) (fun wf hb hf => ?_) (fun t8 => ?_)
    · obtain ⟨rfl, -⟩ := hf
      refine ⟨?_⟩
      go_wp2
      exact ⟨rfl, .int .i64 (dz), by kernel_rfl, Below.refl _ _, rfl⟩
    refine wf_doneK [8] [fun _ => t8 = .int .i64 (dz)] (by kernel_rfl) (by kernel_rfl) (fun w8 b8 hf => ?_)
    obtain ⟨rfl, -⟩ := hf
    show wpList _ _ _ [] _ _
    refine wpList_frame (by simp [Act.put]; rfl) ?_
    rw [wpList]
    have hcy9 := fun (W' : World) (hb : Below w8.heap.size w8 W') => hcy W' (btr b8 hb)
    have HI9 := Lib.hid (HI.out.below b8)
    have HKF := Lib.hid (keepsFrom_grown (B := w6.heap.size) (GrownS.ofBelow (S := fun _ => False) b8) (fun _ _ h => h.elim))
    have HB8 := Lib.hid b8
    have hs8 := b8.size
    clear hcz hcy b8
    gi_wp2_with fail
    by_cases hz : dz = 0
    · have hz' : (dz == 0) = true := by simpa using hz
      have HGF : Hid (goodZ T x y v.1 = false) := by rw [Hid, HGD.out, decide_eq_false (by simpa using hz)]; rfl
      clear hz HGD
      have HI := HI9
      have hcy := hcy9
      refine wp_region_factsR [[], [0], [0, 1], [0, 1, 2], [0, 1, 2], [0, 1, 2], [0, 1, 2], [0, 1, 2, 4], [0, 1, 2, 4, 7], [0, 1, 2, 4, 5, 7, 8], [0, 1, 2, 4, 5, 6, 7, 8, 9], [0, 1, 2, 4, 5, 6, 7, 8, 9, 10], [0, 1, 2, 4, 5, 6, 7, 8, 9, 10, 11], List.range 13, List.range 14]
        [fun v' _ => v' = .int .i64 (dz), fun v' _ => v' = .bool true, fun v' _ => v' = .bool true, fun v' _ => v' = undef, fun v' _ => v' = undef, fun v' _ => v' = undef, fun v' _ => v' = undef, fun v' _ => v' = undef, fun v' _ => v' = undef, fun v' _ => v' = undef, fun v' _ => v' = undef, fun v' _ => v' = undef, fun v' _ => v' = undef, fun v' _ => v' = undef, fun v' _ => v' = .bool true]
        (by kernel_rfl) (by kernel_rfl) rfl ⟨stable_pure _, stable_pure _, stable_pure _, stable_pure _, stable_pure _, stable_pure _, stable_pure _, stable_pure _, stable_pure _, stable_pure _, stable_pure _, stable_pure _, stable_pure _, stable_pure _, stable_pure _, trivial⟩ (by kernel_rfl) (fun _ _ h => by first | exact h | cases h) ?_
      refine wf_stepK [] [] (by kernel_rfl) (by kernel_rfl) (fun wf hb hf => ?_) (fun t0 => ?_)
      · refine ⟨?_⟩
        go_wp2
        exact ⟨rfl, .int .i64 (dz), by kernel_rfl, Below.refl _ _, rfl⟩
      refine wf_stepK [0] [fun _ => t0 = .int .i64 (dz)] (by kernel_rfl) (by kernel_rfl) (fun wf hb hf => ?_) (fun t1 => ?_)
      · obtain ⟨rfl, -⟩ := hf
        refine ⟨?_⟩
        go_wp2
        exact ⟨rfl, .bool true, by kernel_rfl, Below.refl _ _, rfl⟩
      refine wf_stepK [1] [fun _ => t1 = .bool true] (by kernel_rfl) (by kernel_rfl) (fun wf hb hf => ?_) (fun t2 => ?_)
      · obtain ⟨rfl, -⟩ := hf
        refine ⟨?_⟩
        go_wp2
        exact ⟨rfl, .bool true, by kernel_rfl, Below.refl _ _, rfl⟩
      refine wf_stepK [2] [fun _ => t2 = .bool true] (by kernel_rfl) (by kernel_rfl) (fun wf hb hf => ?_) (fun t3 => ?_)
      · obtain ⟨rfl, -⟩ := hf
        exact WfOp.no (by kernel_rfl) rfl
      refine wf_stepK [2] [fun _ => t2 = .bool true] (by kernel_rfl) (by kernel_rfl) (fun wf hb hf => ?_) (fun t4 => ?_)
      · obtain ⟨rfl, -⟩ := hf
        exact WfOp.no (by kernel_rfl) rfl
      refine wf_stepK [2] [fun _ => t2 = .bool true] (by kernel_rfl) (by kernel_rfl) (fun wf hb hf => ?_) (fun t5 => ?_)
      · obtain ⟨rfl, -⟩ := hf
        exact WfOp.no (by kernel_rfl) rfl
      refine wf_stepK [2] [fun _ => t2 = .bool true] (by kernel_rfl) (by kernel_rfl) (fun wf hb hf => ?_) (fun t6 => ?_)
      · obtain ⟨rfl, -⟩ := hf
        exact WfOp.no (by kernel_rfl) rfl
      refine wf_stepK [2, 4] [fun _ => t2 = .bool true, fun _ => t4 = undef] (by kernel_rfl) (by kernel_rfl) (fun wf hb hf => ?_) (fun t7 => ?_)
      · obtain ⟨rfl, rfl, -⟩ := hf
        exact WfOp.no (by kernel_rfl) rfl
      refine wf_stepK [2, 7] [fun _ => t2 = .bool true, fun _ => t7 = undef] (by kernel_rfl) (by kernel_rfl) (fun wf hb hf => ?_) (fun t8 => ?_)
      · obtain ⟨rfl, rfl, -⟩ := hf
        exact WfOp.no (by kernel_rfl) rfl
      refine wf_stepK [2, 5, 8] [fun _ => t2 = .bool true, fun _ => t5 = undef, fun _ => t8 = undef] (by kernel_rfl) (by kernel_rfl) (fun wf hb hf => ?_) (fun t9 => ?_)
      · obtain ⟨rfl, rfl, rfl, -⟩ := hf
        exact WfOp.no (by kernel_rfl) rfl
      refine wf_stepK [2, 6, 9] [fun _ => t2 = .bool true, fun _ => t6 = undef, fun _ => t9 = undef] (by kernel_rfl) (by kernel_rfl) (fun wf hb hf => ?_) (fun t10 => ?_)
      · obtain ⟨rfl, rfl, rfl, -⟩ := hf
        exact WfOp.no (by kernel_rfl) rfl
      refine wf_stepK [2, 10] [fun _ => t2 = .bool true, fun _ => t10 = undef] (by kernel_rfl) (by kernel_rfl) (fun wf hb hf => ?_) (fun t11 => ?_)
      · obtain ⟨rfl, rfl, -⟩ := hf
        exact WfOp.no (by kernel_rfl) rfl
      refine wf_stepK [2, 11] [fun _ => t2 = .bool true, fun _ => t11 = undef] (by kernel_rfl) (by kernel_rfl) (fun wf hb hf => ?_) (fun t12 => ?_)
      · obtain ⟨rfl, rfl, -⟩ := hf
        exact WfOp.no (by kernel_rfl) rfl
      refine wf_stepK [2, 3, 12] [fun _ => t2 = .bool true, fun _ => t3 = undef, fun _ => t12 = undef] (by kernel_rfl) (by kernel_rfl) (fun wf hb hf => ?_) (fun t13 => ?_)
      · obtain ⟨rfl, rfl, rfl, -⟩ := hf
        exact WfOp.no (by kernel_rfl) rfl
      refine wf_stepK [2, 13] [fun _ => t2 = .bool true, fun _ => t13 = undef] (by kernel_rfl) (by kernel_rfl) (fun wf hb hf => ?_) (fun t14 => ?_)
      · obtain ⟨rfl, rfl, -⟩ := hf
        refine ⟨?_⟩
        go_wp2
        exact ⟨rfl, .bool true, by kernel_rfl, Below.refl _ _, rfl⟩
      refine wf_doneK [14] [fun _ => t14 = .bool true] (by kernel_rfl) (by kernel_rfl) (fun w9 b9 hf => ?_)
      obtain ⟨rfl, -⟩ := hf
      show wpList _ _ _ [] _ _
      refine wpList_frame (by simp [Act.put]; rfl) ?_
      rw [wpList]
      have hS9 := HI.out.below b9
      have hg9 : GrownS W (w9.setCell ⟨w.heap.size + 1 + 1 + 1, 0, none⟩ (.bool false)) (fun k => k = w.heap.size + 1 + 1 + 1) := (GrownS.ofBelow (S := fun k => k = w.heap.size + 1 + 1 + 1) (btr HB8.out b9)).set_ (p := ⟨w.heap.size + 1 + 1 + 1, 0, none⟩) rfl _
      have hkf : KeepsFrom w6.heap.size W (w9.setCell ⟨w.heap.size + 1 + 1 + 1, 0, none⟩ (.bool false)) := keepsFrom_grown hg9 (fun k o hk ho => by subst hk; exact blk_cells HIW.out.2.2.2.1 o ho)
      have hnew : CtI w B (x : Int) (y : Int) (w9.setCell ⟨w.heap.size + 1 + 1 + 1, 0, none⟩ (.bool false)) := ⟨hS9.1.far (by simp; omega) _, hS9.2.1.far (by simp) _, hS9.2.2.1.far (by simp) _, hS9.2.2.2.1.set_ 0 _, bset hS9.2.2.2.2 (by simp; omega) _⟩
      have HNEW := Lib.hid (And.intro hkf hnew)
      have cX := hS9.2.2.2.1.cell 0
      have fX := hS9.2.2.2.1.frozen 0
      simp at cX
      clear hS9 hg9 hkf hnew hcy b9
      gi_wp2
      exact ⟨HNEW.out.1, rfl, pre, v, rfl, HGF.out, HNEW.out.2⟩
    · have hz' : (dz == 0) = false := by simpa using hz
      by_cases hg : dy + 1 < dz
      · have HGF : Hid (goodZ T x y v.1 = false) := by rw [Hid, HGD.out, decide_eq_false (show ¬ dz ≤ dy + 1 by omega), Bool.and_false]
        clear hz HGD
        have HI := HI9
        have hcy := hcy9
        refine wp_region_factsR [[], [0], [0, 1], [0, 1, 2], [0, 1, 2], [0, 1, 2], [0, 1, 2], [0, 1, 2, 4], [0, 1, 2, 4, 7], [0, 1, 2, 4, 5, 7, 8], [0, 1, 2, 4, 5, 6, 7, 8, 9], [0, 1, 2, 4, 5, 6, 7, 8, 9, 10], [0, 1, 2, 4, 5, 6, 7, 8, 9, 10, 11], List.range 13, List.range 14]
          [fun v' _ => v' = .int .i64 (dz), fun v' _ => v' = .bool false, fun v' _ => v' = .bool false, fun v' _ => v' = .int .i64 (dz), fun v' _ => v' = .pointer (some ⟨B, 0, none⟩), fun v' _ => v' = .int .i64 ((x : Int)), fun v' _ => v' = .int .i64 ((y : Int)), fun v' _ => v' = .pointer (some ⟨B, 0, none⟩), fun v' _ => v' = .pointer (some ⟨B, 20, none⟩), fun v' _ => v' = .pointer (some ⟨B, 20 + x * 20, none⟩), fun v' _ => v' = .pointer (some ⟨B, 20 + x * 20 + y, none⟩), fun v' _ => v' = .int .i64 (dy), fun v' _ => v' = .int .i64 (dy + 1), fun v' _ => v' = .bool true, fun v' _ => v' = .bool true]
          (by kernel_rfl) (by kernel_rfl) rfl ⟨stable_pure _, stable_pure _, stable_pure _, stable_pure _, stable_pure _, stable_pure _, stable_pure _, stable_pure _, stable_pure _, stable_pure _, stable_pure _, stable_pure _, stable_pure _, stable_pure _, stable_pure _, trivial⟩ (by kernel_rfl) (fun _ _ h => by first | exact h | cases h) ?_
        refine wf_stepK [] [] (by kernel_rfl) (by kernel_rfl) (fun wf hb hf => ?_) (fun t0 => ?_)
        · refine ⟨?_⟩
          go_wp2
          exact ⟨rfl, .int .i64 (dz), by kernel_rfl, Below.refl _ _, rfl⟩
        refine wf_stepK [0] [fun _ => t0 = .int .i64 (dz)] (by kernel_rfl) (by kernel_rfl) (fun wf hb hf => ?_) (fun t1 => ?_)
        · obtain ⟨rfl, -⟩ := hf
          refine ⟨?_⟩
          go_wp2
          exact ⟨rfl, .bool false, by kernel_rfl, Below.refl _ _, rfl⟩
        refine wf_stepK [1] [fun _ => t1 = .bool false] (by kernel_rfl) (by kernel_rfl) (fun wf hb hf => ?_) (fun t2 => ?_)
        · obtain ⟨rfl, -⟩ := hf
          refine ⟨?_⟩
          go_wp2
          exact ⟨rfl, .bool false, by kernel_rfl, Below.refl _ _, rfl⟩
        refine wf_stepK [2] [fun _ => t2 = .bool false] (by kernel_rfl) (by kernel_rfl) (fun wf hb hf => ?_) (fun t3 => ?_)
        · obtain ⟨rfl, -⟩ := hf
          refine WfOp.yes (by kernel_rfl) ?_
          dsimp only
          go_wp2
          exact ⟨rfl, .int .i64 (dz), by kernel_rfl, Below.refl _ _, rfl⟩
        refine wf_stepK [2] [fun _ => t2 = .bool false] (by kernel_rfl) (by kernel_rfl) (fun wf hb hf => ?_) (fun t4 => ?_)
        · obtain ⟨rfl, -⟩ := hf
          refine WfOp.yes (by kernel_rfl) ?_
          dsimp only
          have z0 := (HI.out.1.below hb).cell 0
          simp at z0
          go_wp2
          exact ⟨rfl, .pointer (some ⟨B, 0, none⟩), by kernel_rfl, Below.refl _ _, rfl⟩
        refine wf_stepK [2] [fun _ => t2 = .bool false] (by kernel_rfl) (by kernel_rfl) (fun wf hb hf => ?_) (fun t5 => ?_)
        · obtain ⟨rfl, -⟩ := hf
          refine WfOp.yes (by kernel_rfl) ?_
          dsimp only
          have z0 := (HI.out.2.1.below hb).cell 0
          simp at z0
          go_wp2
          exact ⟨rfl, .int .i64 ((x : Int)), by kernel_rfl, Below.refl _ _, rfl⟩
        refine wf_stepK [2] [fun _ => t2 = .bool false] (by kernel_rfl) (by kernel_rfl) (fun wf hb hf => ?_) (fun t6 => ?_)
        · obtain ⟨rfl, -⟩ := hf
          refine WfOp.yes (by kernel_rfl) ?_
          dsimp only
          have z0 := (HI.out.2.2.1.below hb).cell 0
          simp at z0
          go_wp2
          exact ⟨rfl, .int .i64 ((y : Int)), by kernel_rfl, Below.refl _ _, rfl⟩
        refine wf_stepK [2, 4] [fun _ => t2 = .bool false, fun _ => t4 = .pointer (some ⟨B, 0, none⟩)] (by kernel_rfl) (by kernel_rfl) (fun wf hb hf => ?_) (fun t7 => ?_)
        · obtain ⟨rfl, rfl, -⟩ := hf
          refine WfOp.yes (by kernel_rfl) ?_
          dsimp only
          go_wp2
          exact ⟨rfl, .pointer (some ⟨B, 0, none⟩), by kernel_rfl, Below.refl _ _, rfl⟩
        refine wf_stepK [2, 7] [fun _ => t2 = .bool false, fun _ => t7 = .pointer (some ⟨B, 0, none⟩)] (by kernel_rfl) (by kernel_rfl) (fun wf hb hf => ?_) (fun t8 => ?_)
        · obtain ⟨rfl, rfl, -⟩ := hf
          refine WfOp.yes (by kernel_rfl) ?_
          dsimp only
          go_wp2
          exact ⟨rfl, .pointer (some ⟨B, 20, none⟩), by kernel_rfl, Below.refl _ _, rfl⟩
        refine wf_stepK [2, 5, 8] [fun _ => t2 = .bool false, fun _ => t5 = .int .i64 ((x : Int)), fun _ => t8 = .pointer (some ⟨B, 20, none⟩)] (by kernel_rfl) (by kernel_rfl) (fun wf hb hf => ?_) (fun t9 => ?_)
        · obtain ⟨rfl, rfl, rfl, -⟩ := hf
          refine WfOp.yes (by kernel_rfl) ?_
          dsimp only
          go_wp2
          exact ⟨rfl, .pointer (some ⟨B, 20 + x * 20, none⟩), by kernel_rfl, Below.refl _ _, rfl⟩
        refine wf_stepK [2, 6, 9] [fun _ => t2 = .bool false, fun _ => t6 = .int .i64 ((y : Int)), fun _ => t9 = .pointer (some ⟨B, 20 + x * 20, none⟩)] (by kernel_rfl) (by kernel_rfl) (fun wf hb hf => ?_) (fun t10 => ?_)
        · obtain ⟨rfl, rfl, rfl, -⟩ := hf
          refine WfOp.yes (by kernel_rfl) ?_
          dsimp only
          go_wp2
          exact ⟨rfl, .pointer (some ⟨B, 20 + x * 20 + y, none⟩), by kernel_rfl, Below.refl _ _, rfl⟩
        refine wf_stepK [2, 10] [fun _ => t2 = .bool false, fun _ => t10 = .pointer (some ⟨B, 20 + x * 20 + y, none⟩)] (by kernel_rfl) (by kernel_rfl) (fun wf hb hf => ?_) (fun t11 => ?_)
        · obtain ⟨rfl, rfl, -⟩ := hf
          refine WfOp.yes (by kernel_rfl) ?_
          dsimp only
          have z0 := hcy wf hb
          go_wp2
          exact ⟨rfl, .int .i64 (dy), by kernel_rfl, Below.refl _ _, rfl⟩
        refine wf_stepK [2, 11] [fun _ => t2 = .bool false, fun _ => t11 = .int .i64 (dy)] (by kernel_rfl) (by kernel_rfl) (fun wf hb hf => ?_) (fun t12 => ?_)
        · obtain ⟨rfl, rfl, -⟩ := hf
          refine WfOp.yes (by kernel_rfl) ?_
          dsimp only
          go_wp2
          exact ⟨rfl, .int .i64 (dy + 1), by kernel_rfl, Below.refl _ _, rfl⟩
        refine wf_stepK [2, 3, 12] [fun _ => t2 = .bool false, fun _ => t3 = .int .i64 (dz), fun _ => t12 = .int .i64 (dy + 1)] (by kernel_rfl) (by kernel_rfl) (fun wf hb hf => ?_) (fun t13 => ?_)
        · obtain ⟨rfl, rfl, rfl, -⟩ := hf
          refine WfOp.yes (by kernel_rfl) ?_
          dsimp only
          go_wp2
          exact ⟨rfl, .bool true, by kernel_rfl, Below.refl _ _, rfl⟩
        refine wf_stepK [2, 13] [fun _ => t2 = .bool false, fun _ => t13 = .bool true] (by kernel_rfl) (by kernel_rfl) (fun wf hb hf => ?_) (fun t14 => ?_)
        · obtain ⟨rfl, rfl, -⟩ := hf
          refine ⟨?_⟩
          go_wp2
          exact ⟨rfl, .bool true, by kernel_rfl, Below.refl _ _, rfl⟩
        refine wf_doneK [14] [fun _ => t14 = .bool true] (by kernel_rfl) (by kernel_rfl) (fun w9 b9 hf => ?_)
        obtain ⟨rfl, -⟩ := hf
        show wpList _ _ _ [] _ _
        refine wpList_frame (by simp [Act.put]; rfl) ?_
        rw [wpList]
        have hS9 := HI.out.below b9
        have hg9 : GrownS W (w9.setCell ⟨w.heap.size + 1 + 1 + 1, 0, none⟩ (.bool false)) (fun k => k = w.heap.size + 1 + 1 + 1) := (GrownS.ofBelow (S := fun k => k = w.heap.size + 1 + 1 + 1) (btr HB8.out b9)).set_ (p := ⟨w.heap.size + 1 + 1 + 1, 0, none⟩) rfl _
        have hkf : KeepsFrom w6.heap.size W (w9.setCell ⟨w.heap.size + 1 + 1 + 1, 0, none⟩ (.bool false)) := keepsFrom_grown hg9 (fun k o hk ho => by subst hk; exact blk_cells HIW.out.2.2.2.1 o ho)
        have hnew : CtI w B (x : Int) (y : Int) (w9.setCell ⟨w.heap.size + 1 + 1 + 1, 0, none⟩ (.bool false)) := ⟨hS9.1.far (by simp; omega) _, hS9.2.1.far (by simp) _, hS9.2.2.1.far (by simp) _, hS9.2.2.2.1.set_ 0 _, bset hS9.2.2.2.2 (by simp; omega) _⟩
        have HNEW := Lib.hid (And.intro hkf hnew)
        have cX := hS9.2.2.2.1.cell 0
        have fX := hS9.2.2.2.1.frozen 0
        simp at cX
        clear hS9 hg9 hkf hnew hcy b9
        gi_wp2
        exact ⟨HNEW.out.1, rfl, pre, v, rfl, HGF.out, HNEW.out.2⟩
      · have HGT : Hid (goodZ T x y v.1 = true) := by rw [Hid, HGD.out, decide_eq_true (show dz ≤ dy + 1 by omega), decide_eq_true hz]; rfl
        clear hz HGD
        have HI := HI9
        have hcy := hcy9
        refine wp_region_factsR [[], [0], [0, 1], [0, 1, 2], [0, 1, 2], [0, 1, 2], [0, 1, 2], [0, 1, 2, 4], [0, 1, 2, 4, 7], [0, 1, 2, 4, 5, 7, 8], [0, 1, 2, 4, 5, 6, 7, 8, 9], [0, 1, 2, 4, 5, 6, 7, 8, 9, 10], [0, 1, 2, 4, 5, 6, 7, 8, 9, 10, 11], List.range 13, List.range 14]
          [fun v' _ => v' = .int .i64 (dz), fun v' _ => v' = .bool false, fun v' _ => v' = .bool false, fun v' _ => v' = .int .i64 (dz), fun v' _ => v' = .pointer (some ⟨B, 0, none⟩), fun v' _ => v' = .int .i64 ((x : Int)), fun v' _ => v' = .int .i64 ((y : Int)), fun v' _ => v' = .pointer (some ⟨B, 0, none⟩), fun v' _ => v' = .pointer (some ⟨B, 20, none⟩), fun v' _ => v' = .pointer (some ⟨B, 20 + x * 20, none⟩), fun v' _ => v' = .pointer (some ⟨B, 20 + x * 20 + y, none⟩), fun v' _ => v' = .int .i64 (dy), fun v' _ => v' = .int .i64 (dy + 1), fun v' _ => v' = .bool false, fun v' _ => v' = .bool false]
          (by kernel_rfl) (by kernel_rfl) rfl ⟨stable_pure _, stable_pure _, stable_pure _, stable_pure _, stable_pure _, stable_pure _, stable_pure _, stable_pure _, stable_pure _, stable_pure _, stable_pure _, stable_pure _, stable_pure _, stable_pure _, stable_pure _, trivial⟩ (by kernel_rfl) (fun _ _ h => by first | exact h | cases h) ?_
        refine wf_stepK [] [] (by kernel_rfl) (by kernel_rfl) (fun wf hb hf => ?_) (fun t0 => ?_)
        · refine ⟨?_⟩
          go_wp2
          exact ⟨rfl, .int .i64 (dz), by kernel_rfl, Below.refl _ _, rfl⟩
        refine wf_stepK [0] [fun _ => t0 = .int .i64 (dz)] (by kernel_rfl) (by kernel_rfl) (fun wf hb hf => ?_) (fun t1 => ?_)
        · obtain ⟨rfl, -⟩ := hf
          refine ⟨?_⟩
          go_wp2
          exact ⟨rfl, .bool false, by kernel_rfl, Below.refl _ _, rfl⟩
        refine wf_stepK [1] [fun _ => t1 = .bool false] (by kernel_rfl) (by kernel_rfl) (fun wf hb hf => ?_) (fun t2 => ?_)
        · obtain ⟨rfl, -⟩ := hf
          refine ⟨?_⟩
          go_wp2
          exact ⟨rfl, .bool false, by kernel_rfl, Below.refl _ _, rfl⟩
        refine wf_stepK [2] [fun _ => t2 = .bool false] (by kernel_rfl) (by kernel_rfl) (fun wf hb hf => ?_) (fun t3 => ?_)
        · obtain ⟨rfl, -⟩ := hf
          refine WfOp.yes (by kernel_rfl) ?_
          dsimp only
          go_wp2
          exact ⟨rfl, .int .i64 (dz), by kernel_rfl, Below.refl _ _, rfl⟩
        refine wf_stepK [2] [fun _ => t2 = .bool false] (by kernel_rfl) (by kernel_rfl) (fun wf hb hf => ?_) (fun t4 => ?_)
        · obtain ⟨rfl, -⟩ := hf
          refine WfOp.yes (by kernel_rfl) ?_
          dsimp only
          have z0 := (HI.out.1.below hb).cell 0
          simp at z0
          go_wp2
          exact ⟨rfl, .pointer (some ⟨B, 0, none⟩), by kernel_rfl, Below.refl _ _, rfl⟩
        refine wf_stepK [2] [fun _ => t2 = .bool false] (by kernel_rfl) (by kernel_rfl) (fun wf hb hf => ?_) (fun t5 => ?_)
        · obtain ⟨rfl, -⟩ := hf
          refine WfOp.yes (by kernel_rfl) ?_
          dsimp only
          have z0 := (HI.out.2.1.below hb).cell 0
          simp at z0
          go_wp2
          exact ⟨rfl, .int .i64 ((x : Int)), by kernel_rfl, Below.refl _ _, rfl⟩
        refine wf_stepK [2] [fun _ => t2 = .bool false] (by kernel_rfl) (by kernel_rfl) (fun wf hb hf => ?_) (fun t6 => ?_)
        · obtain ⟨rfl, -⟩ := hf
          refine WfOp.yes (by kernel_rfl) ?_
          dsimp only
          have z0 := (HI.out.2.2.1.below hb).cell 0
          simp at z0
          go_wp2
          exact ⟨rfl, .int .i64 ((y : Int)), by kernel_rfl, Below.refl _ _, rfl⟩
        refine wf_stepK [2, 4] [fun _ => t2 = .bool false, fun _ => t4 = .pointer (some ⟨B, 0, none⟩)] (by kernel_rfl) (by kernel_rfl) (fun wf hb hf => ?_) (fun t7 => ?_)
        · obtain ⟨rfl, rfl, -⟩ := hf
          refine WfOp.yes (by kernel_rfl) ?_
          dsimp only
          go_wp2
          exact ⟨rfl, .pointer (some ⟨B, 0, none⟩), by kernel_rfl, Below.refl _ _, rfl⟩
        refine wf_stepK [2, 7] [fun _ => t2 = .bool false, fun _ => t7 = .pointer (some ⟨B, 0, none⟩)] (by kernel_rfl) (by kernel_rfl) (fun wf hb hf => ?_) (fun t8 => ?_)
        · obtain ⟨rfl, rfl, -⟩ := hf
          refine WfOp.yes (by kernel_rfl) ?_
          dsimp only
          go_wp2
          exact ⟨rfl, .pointer (some ⟨B, 20, none⟩), by kernel_rfl, Below.refl _ _, rfl⟩
        refine wf_stepK [2, 5, 8] [fun _ => t2 = .bool false, fun _ => t5 = .int .i64 ((x : Int)), fun _ => t8 = .pointer (some ⟨B, 20, none⟩)] (by kernel_rfl) (by kernel_rfl) (fun wf hb hf => ?_) (fun t9 => ?_)
        · obtain ⟨rfl, rfl, rfl, -⟩ := hf
          refine WfOp.yes (by kernel_rfl) ?_
          dsimp only
          go_wp2
          exact ⟨rfl, .pointer (some ⟨B, 20 + x * 20, none⟩), by kernel_rfl, Below.refl _ _, rfl⟩
        refine wf_stepK [2, 6, 9] [fun _ => t2 = .bool false, fun _ => t6 = .int .i64 ((y : Int)), fun _ => t9 = .pointer (some ⟨B, 20 + x * 20, none⟩)] (by kernel_rfl) (by kernel_rfl) (fun wf hb hf => ?_) (fun t10 => ?_)
        · obtain ⟨rfl, rfl, rfl, -⟩ := hf
          refine WfOp.yes (by kernel_rfl) ?_
          dsimp only
          go_wp2
          exact ⟨rfl, .pointer (some ⟨B, 20 + x * 20 + y, none⟩), by kernel_rfl, Below.refl _ _, rfl⟩
        refine wf_stepK [2, 10] [fun _ => t2 = .bool false, fun _ => t10 = .pointer (some ⟨B, 20 + x * 20 + y, none⟩)] (by kernel_rfl) (by kernel_rfl) (fun wf hb hf => ?_) (fun t11 => ?_)
        · obtain ⟨rfl, rfl, -⟩ := hf
          refine WfOp.yes (by kernel_rfl) ?_
          dsimp only
          have z0 := hcy wf hb
          go_wp2
          exact ⟨rfl, .int .i64 (dy), by kernel_rfl, Below.refl _ _, rfl⟩
        refine wf_stepK [2, 11] [fun _ => t2 = .bool false, fun _ => t11 = .int .i64 (dy)] (by kernel_rfl) (by kernel_rfl) (fun wf hb hf => ?_) (fun t12 => ?_)
        · obtain ⟨rfl, rfl, -⟩ := hf
          refine WfOp.yes (by kernel_rfl) ?_
          dsimp only
          go_wp2
          exact ⟨rfl, .int .i64 (dy + 1), by kernel_rfl, Below.refl _ _, rfl⟩
        refine wf_stepK [2, 3, 12] [fun _ => t2 = .bool false, fun _ => t3 = .int .i64 (dz), fun _ => t12 = .int .i64 (dy + 1)] (by kernel_rfl) (by kernel_rfl) (fun wf hb hf => ?_) (fun t13 => ?_)
        · obtain ⟨rfl, rfl, rfl, -⟩ := hf
          refine WfOp.yes (by kernel_rfl) ?_
          dsimp only
          go_wp2
          exact ⟨rfl, .bool false, by kernel_rfl, Below.refl _ _, rfl⟩
        refine wf_stepK [2, 13] [fun _ => t2 = .bool false, fun _ => t13 = .bool false] (by kernel_rfl) (by kernel_rfl) (fun wf hb hf => ?_) (fun t14 => ?_)
        · obtain ⟨rfl, rfl, -⟩ := hf
          refine ⟨?_⟩
          go_wp2
          exact ⟨rfl, .bool false, by kernel_rfl, Below.refl _ _, rfl⟩
        refine wf_doneK [14] [fun _ => t14 = .bool false] (by kernel_rfl) (by kernel_rfl) (fun w9 b9 hf => ?_)
        obtain ⟨rfl, -⟩ := hf
        show wpList _ _ _ [] _ _
        refine wpList_frame (by simp [Act.put]; rfl) ?_
        rw [wpList]
        have HNEW := Lib.hid (And.intro (keepsFrom_grown (B := w6.heap.size) (GrownS.ofBelow (S := fun _ => False) (btr HB8.out b9)) (fun _ _ h => h.elim)) (And.intro (kpO_below (Bs := []) hsW (btr HB8.out b9)) (And.intro (HI9.out.below b9) (fun z (hz : z ∈ pre ++ [v]) => (by
          rcases List.mem_append.1 hz with h | h
          · exact HP.out z h
          · rw [List.mem_singleton] at h; subst h; exact HGT.out : goodZ T x y z.1 = true)))))
        clear hcy b9
        gi_wp2
        exact HNEW.out
  case done =>
    rintro D ys W hD rfl hI hK
    have HT : Hid (conB r T x y = true) := by
      rw [Hid, HDEF.out, List.all_eq_true]
      intro z hz
      rw [← vtxF_val] at hz
      obtain ⟨v, hv, rfl⟩ := List.mem_map.1 hz
      exact hI.2 v hv
    obtain ⟨h1, h2, h3, h4, h5⟩ := hI.1
    have hDW := (Array.getElem?_eq_some_iff.1 hK).1
    have hM : MarksAt [D] w.heap.size (W.setCell ⟨w.heap.size + 1 + 1 + 1, 0, none⟩ (.bool true)) := ((MarksAt.nil _ _).cons hK (by omega) (fun x hx => by cases hx)).cell h4 0 _
    have HM := Lib.hid hM
    have k4 := h4.set_ 0 (.bool true)
    have HB4 := Lib.hid (And.intro k4 (bset h5 (by simp; omega) (.bool true) : Below w.heap.size w (W.setCell ⟨w.heap.size + 1 + 1 + 1, 0, none⟩ (.bool true))))
    have cX := h4.cell 0
    have fX := h4.frozen 0
    simp at cX
    clear hM k4 h1 h2 h3 h4 h5 hI hK hV hG hno
    gi_wp2_with fail
    refine leaves_marks [D] _ HM.out (fun w' hw' => ?_)
    have c4 := (hw'.blk HB4.out.1).cell 0
    simp at c4
    exact ⟨.bool true, by simp [results, Tryz.results74, go_sem, c4], ret_bool HT.out.symm, hw'.below HB4.out.2⟩
  case stop =>
    rintro D cc pre W hD ⟨k', hk', hbit, rfl⟩ ⟨rfl, pre0, v, e, hv, hI⟩ hK
    obtain ⟨e1, e2⟩ := List.append_inj' e rfl
    injection e2 with e2
    subst e1; subst e2
    have HT : Hid (conB r T x y = false) := by
      rw [Hid, HDEF.out]
      cases h : (vtx a).all (goodZ T x y)
      · rfl
      · rw [List.all_eq_true] at h
        have := h k' (mem_vtx.2 ⟨hk', hbit⟩)
        simp only at hv
        rw [hv] at this; cases this
    obtain ⟨h1, h2, h3, h4, h5⟩ := hI
    have HM := Lib.hid ((MarksAt.nil w.heap.size W).cons hK (by omega) (fun x hx => by cases hx))
    have HB4 := Lib.hid (And.intro h4 h5)
    clear h1 h2 h3 h4 h5 hK hV hG hno
    gi_wp2_with fail
    refine leaves_marks [D] _ HM.out (fun w' hw' => ?_)
    have c4 := (hw'.blk HB4.out.1).cell 0
    simp at c4
    exact ⟨.bool false, by simp [results, Tryz.results74, go_sem, c4], ret_bool HT.out.symm, hw'.below HB4.out.2⟩
end Go.Proofs.YtifjenleoagefaaGreat
