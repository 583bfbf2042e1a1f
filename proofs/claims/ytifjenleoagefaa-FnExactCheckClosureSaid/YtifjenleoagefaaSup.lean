/- HELPER, no statement of the seat: the model's supported. -/
import Derived.Test.YtifjenleoagefaaCtm
import Derived.Test.YtifjenleoagefaaRs
namespace Go.Proofs.Ytifjenleoagefaa
open Go.RowKit Go.Sort Go.Shelf
set_option linter.unusedSimpArgs false
set_option linter.unusedVariables false

/-- v is a new list of these three numbers. -/
def New3 (base : Nat) (x y z : Int) (v : Value) (w : World) : Prop := ∃ G, v = .slice (some ⟨G, 0, none⟩) 3 3 ∧ base ≤ G ∧ Blk w G 3 #[.int .i64 x, .int .i64 y, .int .i64 z]
theorem stable_new3 (base : Nat) (x y z : Int) : Stable (New3 base x y z) := fun _ _ _ hb ⟨G, e, h, k⟩ => ⟨G, e, h, k.below hb⟩
theorem New3.ints {w : World} {G : Nat} {x y z : Int} (h : Blk w G 3 #[.int .i64 x, .int .i64 y, .int .i64 z]) : IntsAt w (some ⟨G, 0, none⟩) [x, y, z] := fun _ => ⟨G, 0, rfl, h.lt, fun j hj => by
  have hc := h.cell j
  match j, hj with
  | 0, _ => simpa using hc
  | 1, _ => simpa using hc
  | 2, _ => simpa using hc⟩
def supK (es ds : List Ent) (xs : List Int) (k : Nat) : Bool := (List.range k).any fun w => decide (0 < wOf ds [gi xs 0, (w : Int), gi xs 2 - 1]) && decide (0 < wOf es [(w : Int), gi xs 1])
theorem supK_succ (es ds : List Ent) (xs : List Int) (k : Nat) : supK es ds xs (k + 1) = (supK es ds xs k || (decide (0 < wOf ds [gi xs 0, (k : Int), gi xs 2 - 1]) && decide (0 < wOf es [(k : Int), gi xs 1]))) := by simp [supK, List.range_succ]
theorem supK_mono {es ds : List Ent} {xs : List Int} {k : Nat} (hk : k ≤ 20) (h : supK es ds xs k = true) : supK es ds xs 20 = true := by
  unfold supK at h ⊢
  rw [List.any_eq_true] at h ⊢
  obtain ⟨v, hv, h2⟩ := h
  exact ⟨v, by have := List.mem_range.1 hv; exact List.mem_range.2 (by omega), h2⟩
set_option maxRecDepth 100000 in
set_option maxHeartbeats 6400000 in
theorem supported_s (A : Option Addr) (c : Nat) (es : List Ent) (D : Option Addr) (d : Nat) (ds : List Ent) (rb ro rc : Nat) (xs : List Int) (w : World) (hx : EntsAt w A es) (hy : EntsAt w D ds) (hz : IntsAt w (some ⟨rb, ro, none⟩) xs) (h3 : xs.length = 3) (hrc : 3 ≤ rc) (hlo : 1 ≤ gi xs 2) (hhi : gi xs 2 ≤ 9999)
    (hn : es.length ≤ 4194304) (hr : rowsIn es 4194304) (hm : ds.length ≤ 4194304) (hrd : rowsIn ds 4194304) :
    Calls Try.prog 50 #[.slice A es.length c, .slice D ds.length d, .slice (some ⟨rb, ro, none⟩) 3 rc] w fun e w' => e = .returned (.bool (supB es ds xs)) ∧ Below w.heap.size w w' := by
  have c0 := IntsAt.cellG hz (k := 0) (by omega)
  have c1 := IntsAt.cellG hz (k := 1) (by omega)
  have c2 := IntsAt.cellG hz (k := 2) (by omega)
  rw [Nat.add_zero] at c0
  have hit : IntsAt w (some ⟨rb, ro, none⟩) [gi xs 0, gi xs 1] := fun _ => ⟨rb, ro, rfl, c0.1, fun j hj => by
    match j, hj with
    | 0, _ => simpa using c0.2
    | 1, _ => simpa using c1.2⟩
  have ht2 : xs.take 2 = [gi xs 0, gi xs 1] := by rw [row3 h3]; rfl
  have HDEF : Hid (supB es ds xs = if gi xs 2 = 1 then decide (0 < wOf es [gi xs 0, gi xs 1]) else supK es ds xs 20) := by rw [Hid, ← ht2]; rfl
  have HSU := Lib.hid (fun k => supK_succ es ds xs k)
  have HMO := Lib.hid (fun k (hk : k ≤ 20) => supK_mono (es := es) (ds := ds) (xs := xs) hk)
  have hrc2 : 2 ≤ rc := by omega
  have q0 := c0.2
  have q1 := c1.2
  have q2 := c2.2
  have hrbl := c0.1
  have HX := Lib.hid hx
  have HY := Lib.hid hy
  clear c0 c1 c2 hx hy hz ht2
  generalize gi xs 0 = x0 at *
  generalize gi xs 1 = x1 at *
  generalize gi xs 2 = x2 at *
  by_cases h1 : x2 = 1
  · subst h1
    have HT : Hid (supB es ds xs = decide (0 < wOf es [x0, x1])) := by rw [Hid, HDEF.out, if_pos rfl]
    have hcon := weightOf_s A c es (some ⟨rb, ro, none⟩) rc [x0, x1] w HX.out hit hn hr (by simp)
    rw [show ([x0, x1] : List Int).length = 2 from rfl] at hcon
    generalize wOf es [x0, x1] = z at *
    clear HSU HMO HDEF hit HX HY
    go_enter Try.func50, Try.ntmps50
    go_wp2_with fail
    refine hcon.mono ?_
    rintro e w1 ⟨rfl, b1⟩
    clear hcon
    go_wp2
    go_ret
    exact ⟨ret_bool HT.out.symm, b1⟩
  have hne : (x2 == 1) = false := by simpa using h1
  have HT : Hid (supB es ds xs = supK es ds xs 20) := by rw [Hid, HDEF.out, if_neg h1]
  clear HDEF hit h1
  go_enter Try.func50, Try.ntmps50
  go_wp2
  have HQ0 := Lib.hid (And.intro q0 (And.intro q1 (And.intro q2 hrbl)))
  clear q0 q1 q2 hrbl
  go_loopw [7] (fun i wr => ∃ k : Nat, k ≤ 20 ∧ i = .int .i64 (k : Nat) ∧ Hid (supK es ds xs k = false) ∧ Below w.heap.size w wr) (fun i _ => 20 - (intOf i).toNat)
  case atStart => exact ⟨0, by omega, rfl, rfl, Below.refl _ _⟩
  case round =>
    obtain ⟨k, hk, rfl, HK, hbel⟩ := hrel
    by_cases hlt : k < 20
    · have hkI : (k : Int) ≤ 19 := by omega
      have q0 := (hbel.cell (p := ⟨rb, ro, none⟩) HQ0.out.2.2.2).trans HQ0.out.1
      have q1 := (hbel.cell (p := ⟨rb, ro + 1, none⟩) HQ0.out.2.2.2).trans HQ0.out.2.1
      have q2 := (hbel.cell (p := ⟨rb, ro + 2, none⟩) HQ0.out.2.2.2).trans HQ0.out.2.2.1
      have hrbl := Nat.lt_of_lt_of_le HQ0.out.2.2.2 hbel.size
      have hsu := HSU.out k
      rw [HK.out, Bool.false_or] at hsu
      obtain ⟨zd, HZD⟩ : ∃ z, Hid (wOf ds [x0, (k : Nat), x2 - 1] = z) := ⟨_, rfl⟩
      obtain ⟨ze, HZE⟩ : ∃ z, Hid (wOf es [(k : Nat), x1] = z) := ⟨_, rfl⟩
      rw [HZD.out, HZE.out] at hsu
      by_cases hp : 0 < zd
      rotate_left
      · have HN : Hid (supK es ds xs (k + 1) = false) := by rw [Hid, hsu, decide_eq_false hp]; rfl
        have HP := Lib.hid hp
        clear hp hsu HZE HK HSU HMO HT
        go_wp2_with fail
        refine wp_region_facts [[], [], [1], [1, 2], [], [], [5], [5, 6], [5, 6, 7], [1, 2, 3, 4, 5, 6, 7, 8], List.range 10, List.range 11, List.range 12, List.range 13, List.range 13, List.range 13, [0, 1, 2, 3, 4, 5, 6, 7, 8, 9, 10, 11, 12, 15], [0, 1, 2, 3, 4, 5, 6, 7, 8, 9, 10, 11, 12, 15, 16], [0, 1, 2, 3, 4, 5, 6, 7, 8, 9, 10, 11, 12, 14, 15, 16, 17], List.range 19, List.range 20]
          [fun v' _ => v' = .slice D ds.length d, fun v' _ => v' = .slice (some ⟨rb, ro, none⟩) 3 rc, fun v' _ => v' = .pointer (some ⟨rb, ro, none⟩), fun v' _ => v' = .int .i64 (x0), fun v' _ => v' = .int .i64 ((k : Nat)), fun v' _ => v' = .slice (some ⟨rb, ro, none⟩) 3 rc, fun v' _ => v' = .pointer (some ⟨rb, ro + 2, none⟩), fun v' _ => v' = .int .i64 (x2), fun v' _ => v' = .int .i64 (x2 - 1), New3 wr.heap.size x0 (k : Nat) (x2 - 1), fun v' _ => v' = .int .i64 (zd), fun v' _ => v' = .bool false, fun v' _ => v' = .bool false, fun v' _ => v' = undef, fun v' _ => v' = undef, fun v' _ => v' = undef, fun v' _ => v' = undef, fun v' _ => v' = undef, fun v' _ => v' = undef, fun v' _ => v' = undef, fun v' _ => v' = undef]
          (by kernel_rfl) (by kernel_rfl) rfl ⟨stable_pure _, stable_pure _, stable_pure _, stable_pure _, stable_pure _, stable_pure _, stable_pure _, stable_pure _, stable_pure _, stable_new3 _ _ _ _, stable_pure _, stable_pure _, stable_pure _, stable_pure _, stable_pure _, stable_pure _, stable_pure _, stable_pure _, stable_pure _, stable_pure _, stable_pure _, trivial⟩ ?_
        refine wf_stepK [] [] (by kernel_rfl) (by kernel_rfl) (fun wf hb hf => ?_) (fun t0 => ?_)
        · refine ⟨?_⟩
          go_wp2
          exact ⟨rfl, .slice D ds.length d, by kernel_rfl, Below.refl _ _, rfl⟩
        refine wf_stepK [] [] (by kernel_rfl) (by kernel_rfl) (fun wf hb hf => ?_) (fun t1 => ?_)
        · refine ⟨?_⟩
          go_wp2
          exact ⟨rfl, .slice (some ⟨rb, ro, none⟩) 3 rc, by kernel_rfl, Below.refl _ _, rfl⟩
        refine wf_stepK [1] [fun _ => t1 = .slice (some ⟨rb, ro, none⟩) 3 rc] (by kernel_rfl) (by kernel_rfl) (fun wf hb hf => ?_) (fun t2 => ?_)
        · obtain ⟨rfl, -⟩ := hf
          refine ⟨?_⟩
          go_wp2
          exact ⟨rfl, .pointer (some ⟨rb, ro, none⟩), by kernel_rfl, Below.refl _ _, rfl⟩
        refine wf_stepK [2] [fun _ => t2 = .pointer (some ⟨rb, ro, none⟩)] (by kernel_rfl) (by kernel_rfl) (fun wf hb hf => ?_) (fun t3 => ?_)
        · obtain ⟨rfl, -⟩ := hf
          refine ⟨?_⟩
          have z0 := (hb.cell (p := ⟨rb, ro, none⟩) hrbl).trans q0
          go_wp2
          exact ⟨rfl, .int .i64 (x0), by kernel_rfl, Below.refl _ _, rfl⟩
        refine wf_stepK [] [] (by kernel_rfl) (by kernel_rfl) (fun wf hb hf => ?_) (fun t4 => ?_)
        · refine ⟨?_⟩
          go_wp2
          exact ⟨rfl, .int .i64 ((k : Nat)), by kernel_rfl, Below.refl _ _, rfl⟩
        refine wf_stepK [] [] (by kernel_rfl) (by kernel_rfl) (fun wf hb hf => ?_) (fun t5 => ?_)
        · refine ⟨?_⟩
          go_wp2
          exact ⟨rfl, .slice (some ⟨rb, ro, none⟩) 3 rc, by kernel_rfl, Below.refl _ _, rfl⟩
        refine wf_stepK [5] [fun _ => t5 = .slice (some ⟨rb, ro, none⟩) 3 rc] (by kernel_rfl) (by kernel_rfl) (fun wf hb hf => ?_) (fun t6 => ?_)
        · obtain ⟨rfl, -⟩ := hf
          refine ⟨?_⟩
          go_wp2
          exact ⟨rfl, .pointer (some ⟨rb, ro + 2, none⟩), by kernel_rfl, Below.refl _ _, rfl⟩
        refine wf_stepK [6] [fun _ => t6 = .pointer (some ⟨rb, ro + 2, none⟩)] (by kernel_rfl) (by kernel_rfl) (fun wf hb hf => ?_) (fun t7 => ?_)
        · obtain ⟨rfl, -⟩ := hf
          refine ⟨?_⟩
          have z0 := (hb.cell (p := ⟨rb, ro + 2, none⟩) hrbl).trans q2
          go_wp2
          exact ⟨rfl, .int .i64 (x2), by kernel_rfl, Below.refl _ _, rfl⟩
        refine wf_stepK [7] [fun _ => t7 = .int .i64 (x2)] (by kernel_rfl) (by kernel_rfl) (fun wf hb hf => ?_) (fun t8 => ?_)
        · obtain ⟨rfl, -⟩ := hf
          refine ⟨?_⟩
          go_wp2
          exact ⟨rfl, .int .i64 (x2 - 1), by kernel_rfl, Below.refl _ _, rfl⟩
        refine wf_stepK [3, 4, 8] [fun _ => t3 = .int .i64 (x0), fun _ => t4 = .int .i64 ((k : Nat)), fun _ => t8 = .int .i64 (x2 - 1)] (by kernel_rfl) (by kernel_rfl) (fun wf hb hf => ?_) (fun t9 => ?_)
        · obtain ⟨rfl, rfl, rfl, -⟩ := hf
          refine ⟨?_⟩
          go_wp2
          exact ⟨rfl, .slice (some ⟨wf.heap.size, 0, none⟩) 3 3, by kernel_rfl, bal (Below.refl _ _) _, _, rfl, hb.size, Blk.newAt rfl⟩
        refine wf_stepK [0, 9] [fun _ => t0 = .slice D ds.length d, New3 wr.heap.size x0 (k : Nat) (x2 - 1) t9] (by kernel_rfl) (by kernel_rfl) (fun wf hb hf => ?_) (fun t10 => ?_)
        · obtain ⟨rfl, ⟨G, rfl, hGl, hG⟩, -⟩ := hf
          refine ⟨?_⟩
          have hI := New3.ints hG
          have hcon := weightOf_s D d ds (some ⟨G, 0, none⟩) 3 [x0, (k : Nat), x2 - 1] _ (HY.out.below entR (btr hbel hb)) hI hm hrd (by simp)
          rw [HZD.out] at hcon
          go_wp2_with fail
          refine hcon.mono ?_
          rintro e w2 ⟨rfl, b2⟩
          go_wp2
          exact ⟨rfl, .int .i64 (zd), by kernel_rfl, b2, rfl⟩
        refine wf_stepK [10] [fun _ => t10 = .int .i64 (zd)] (by kernel_rfl) (by kernel_rfl) (fun wf hb hf => ?_) (fun t11 => ?_)
        · obtain ⟨rfl, -⟩ := hf
          refine ⟨?_⟩
          go_wp2
          exact ⟨rfl, .bool (decide (0 < zd)), by kernel_rfl, Below.refl _ _, congrArg Value.bool (decide_eq_false (Int.not_lt.2 HP.out))⟩
        refine wf_stepK [11] [fun _ => t11 = .bool false] (by kernel_rfl) (by kernel_rfl) (fun wf hb hf => ?_) (fun t12 => ?_)
        · obtain ⟨rfl, -⟩ := hf
          refine ⟨?_⟩
          go_wp2
          exact ⟨rfl, .bool false, by kernel_rfl, Below.refl _ _, rfl⟩
        refine wf_stepK [12] [fun _ => t12 = .bool false] (by kernel_rfl) (by kernel_rfl) (fun wf hb hf => ?_) (fun t13 => ?_)
        · obtain ⟨rfl, -⟩ := hf
          exact WfOp.no (by kernel_rfl) rfl
        refine wf_stepK [12] [fun _ => t12 = .bool false] (by kernel_rfl) (by kernel_rfl) (fun wf hb hf => ?_) (fun t14 => ?_)
        · obtain ⟨rfl, -⟩ := hf
          exact WfOp.no (by kernel_rfl) rfl
        refine wf_stepK [12] [fun _ => t12 = .bool false] (by kernel_rfl) (by kernel_rfl) (fun wf hb hf => ?_) (fun t15 => ?_)
        · obtain ⟨rfl, -⟩ := hf
          exact WfOp.no (by kernel_rfl) rfl
        refine wf_stepK [12, 15] [fun _ => t12 = .bool false, fun _ => t15 = undef] (by kernel_rfl) (by kernel_rfl) (fun wf hb hf => ?_) (fun t16 => ?_)
        · obtain ⟨rfl, rfl, -⟩ := hf
          exact WfOp.no (by kernel_rfl) rfl
        refine wf_stepK [12, 16] [fun _ => t12 = .bool false, fun _ => t16 = undef] (by kernel_rfl) (by kernel_rfl) (fun wf hb hf => ?_) (fun t17 => ?_)
        · obtain ⟨rfl, rfl, -⟩ := hf
          exact WfOp.no (by kernel_rfl) rfl
        refine wf_stepK [12, 14, 17] [fun _ => t12 = .bool false, fun _ => t14 = undef, fun _ => t17 = undef] (by kernel_rfl) (by kernel_rfl) (fun wf hb hf => ?_) (fun t18 => ?_)
        · obtain ⟨rfl, rfl, rfl, -⟩ := hf
          exact WfOp.no (by kernel_rfl) rfl
        refine wf_stepK [12, 13, 18] [fun _ => t12 = .bool false, fun _ => t13 = undef, fun _ => t18 = undef] (by kernel_rfl) (by kernel_rfl) (fun wf hb hf => ?_) (fun t19 => ?_)
        · obtain ⟨rfl, rfl, rfl, -⟩ := hf
          exact WfOp.no (by kernel_rfl) rfl
        refine wf_stepK [12, 19] [fun _ => t12 = .bool false, fun _ => t19 = undef] (by kernel_rfl) (by kernel_rfl) (fun wf hb hf => ?_) (fun t20 => ?_)
        · obtain ⟨rfl, rfl, -⟩ := hf
          exact WfOp.no (by kernel_rfl) rfl
        refine wf_doneK [12, 20] [fun _ => t12 = .bool false, fun _ => t20 = undef] (by kernel_rfl) (by kernel_rfl) (fun w9 b9 hf => ?_)
        obtain ⟨rfl, rfl, -⟩ := hf
        show wpList _ _ _ [_] _ _
        refine wpList_frame (by simp [Act.put]; rfl) ?_
        have hb9 := btr hbel b9
        clear q0 q1 q2 hrbl
        go_wp2
        go_roundw
        case rel => exact ⟨k + 1, by omega, by go_num, HN, hb9⟩
        case measure => simp [intOf]; omega
      have HP := Lib.hid hp
      by_cases hq : 0 < ze
      rotate_left
      · have HN : Hid (supK es ds xs (k + 1) = false) := by rw [Hid, hsu, decide_eq_false hq, Bool.and_false]
        have HQ := Lib.hid hq
        clear hp hq hsu HK HSU HMO HT
        go_wp2_with fail
        refine wp_region_facts [[], [], [1], [1, 2], [], [], [5], [5, 6], [5, 6, 7], [1, 2, 3, 4, 5, 6, 7, 8], List.range 10, List.range 11, List.range 12, List.range 13, List.range 13, List.range 13, [0, 1, 2, 3, 4, 5, 6, 7, 8, 9, 10, 11, 12, 15], [0, 1, 2, 3, 4, 5, 6, 7, 8, 9, 10, 11, 12, 15, 16], [0, 1, 2, 3, 4, 5, 6, 7, 8, 9, 10, 11, 12, 14, 15, 16, 17], List.range 19, List.range 20]
          [fun v' _ => v' = .slice D ds.length d, fun v' _ => v' = .slice (some ⟨rb, ro, none⟩) 3 rc, fun v' _ => v' = .pointer (some ⟨rb, ro, none⟩), fun v' _ => v' = .int .i64 (x0), fun v' _ => v' = .int .i64 ((k : Nat)), fun v' _ => v' = .slice (some ⟨rb, ro, none⟩) 3 rc, fun v' _ => v' = .pointer (some ⟨rb, ro + 2, none⟩), fun v' _ => v' = .int .i64 (x2), fun v' _ => v' = .int .i64 (x2 - 1), New3 wr.heap.size x0 (k : Nat) (x2 - 1), fun v' _ => v' = .int .i64 (zd), fun v' _ => v' = .bool true, fun v' _ => v' = .bool true, fun v' _ => v' = .slice A es.length c, fun v' _ => v' = .int .i64 ((k : Nat)), fun v' _ => v' = .slice (some ⟨rb, ro, none⟩) 3 rc, fun v' _ => v' = .pointer (some ⟨rb, ro + 1, none⟩), fun v' _ => v' = .int .i64 (x1), NewI wr.heap.size (k : Nat) x1, fun v' _ => v' = .int .i64 (ze), fun v' _ => v' = .bool false]
          (by kernel_rfl) (by kernel_rfl) rfl ⟨stable_pure _, stable_pure _, stable_pure _, stable_pure _, stable_pure _, stable_pure _, stable_pure _, stable_pure _, stable_pure _, stable_new3 _ _ _ _, stable_pure _, stable_pure _, stable_pure _, stable_pure _, stable_pure _, stable_pure _, stable_pure _, stable_pure _, stable_newI _ _ _, stable_pure _, stable_pure _, trivial⟩ ?_
        refine wf_stepK [] [] (by kernel_rfl) (by kernel_rfl) (fun wf hb hf => ?_) (fun t0 => ?_)
        · refine ⟨?_⟩
          go_wp2
          exact ⟨rfl, .slice D ds.length d, by kernel_rfl, Below.refl _ _, rfl⟩
        refine wf_stepK [] [] (by kernel_rfl) (by kernel_rfl) (fun wf hb hf => ?_) (fun t1 => ?_)
        · refine ⟨?_⟩
          go_wp2
          exact ⟨rfl, .slice (some ⟨rb, ro, none⟩) 3 rc, by kernel_rfl, Below.refl _ _, rfl⟩
        refine wf_stepK [1] [fun _ => t1 = .slice (some ⟨rb, ro, none⟩) 3 rc] (by kernel_rfl) (by kernel_rfl) (fun wf hb hf => ?_) (fun t2 => ?_)
        · obtain ⟨rfl, -⟩ := hf
          refine ⟨?_⟩
          go_wp2
          exact ⟨rfl, .pointer (some ⟨rb, ro, none⟩), by kernel_rfl, Below.refl _ _, rfl⟩
        refine wf_stepK [2] [fun _ => t2 = .pointer (some ⟨rb, ro, none⟩)] (by kernel_rfl) (by kernel_rfl) (fun wf hb hf => ?_) (fun t3 => ?_)
        · obtain ⟨rfl, -⟩ := hf
          refine ⟨?_⟩
          have z0 := (hb.cell (p := ⟨rb, ro, none⟩) hrbl).trans q0
          go_wp2
          exact ⟨rfl, .int .i64 (x0), by kernel_rfl, Below.refl _ _, rfl⟩
        refine wf_stepK [] [] (by kernel_rfl) (by kernel_rfl) (fun wf hb hf => ?_) (fun t4 => ?_)
        · refine ⟨?_⟩
          go_wp2
          exact ⟨rfl, .int .i64 ((k : Nat)), by kernel_rfl, Below.refl _ _, rfl⟩
        refine wf_stepK [] [] (by kernel_rfl) (by kernel_rfl) (fun wf hb hf => ?_) (fun t5 => ?_)
        · refine ⟨?_⟩
          go_wp2
          exact ⟨rfl, .slice (some ⟨rb, ro, none⟩) 3 rc, by kernel_rfl, Below.refl _ _, rfl⟩
        refine wf_stepK [5] [fun _ => t5 = .slice (some ⟨rb, ro, none⟩) 3 rc] (by kernel_rfl) (by kernel_rfl) (fun wf hb hf => ?_) (fun t6 => ?_)
        · obtain ⟨rfl, -⟩ := hf
          refine ⟨?_⟩
          go_wp2
          exact ⟨rfl, .pointer (some ⟨rb, ro + 2, none⟩), by kernel_rfl, Below.refl _ _, rfl⟩
        refine wf_stepK [6] [fun _ => t6 = .pointer (some ⟨rb, ro + 2, none⟩)] (by kernel_rfl) (by kernel_rfl) (fun wf hb hf => ?_) (fun t7 => ?_)
        · obtain ⟨rfl, -⟩ := hf
          refine ⟨?_⟩
          have z0 := (hb.cell (p := ⟨rb, ro + 2, none⟩) hrbl).trans q2
          go_wp2
          exact ⟨rfl, .int .i64 (x2), by kernel_rfl, Below.refl _ _, rfl⟩
        refine wf_stepK [7] [fun _ => t7 = .int .i64 (x2)] (by kernel_rfl) (by kernel_rfl) (fun wf hb hf => ?_) (fun t8 => ?_)
        · obtain ⟨rfl, -⟩ := hf
          refine ⟨?_⟩
          go_wp2
          exact ⟨rfl, .int .i64 (x2 - 1), by kernel_rfl, Below.refl _ _, rfl⟩
        refine wf_stepK [3, 4, 8] [fun _ => t3 = .int .i64 (x0), fun _ => t4 = .int .i64 ((k : Nat)), fun _ => t8 = .int .i64 (x2 - 1)] (by kernel_rfl) (by kernel_rfl) (fun wf hb hf => ?_) (fun t9 => ?_)
        · obtain ⟨rfl, rfl, rfl, -⟩ := hf
          refine ⟨?_⟩
          go_wp2
          exact ⟨rfl, .slice (some ⟨wf.heap.size, 0, none⟩) 3 3, by kernel_rfl, bal (Below.refl _ _) _, _, rfl, hb.size, Blk.newAt rfl⟩
        refine wf_stepK [0, 9] [fun _ => t0 = .slice D ds.length d, New3 wr.heap.size x0 (k : Nat) (x2 - 1) t9] (by kernel_rfl) (by kernel_rfl) (fun wf hb hf => ?_) (fun t10 => ?_)
        · obtain ⟨rfl, ⟨G, rfl, hGl, hG⟩, -⟩ := hf
          refine ⟨?_⟩
          have hI := New3.ints hG
          have hcon := weightOf_s D d ds (some ⟨G, 0, none⟩) 3 [x0, (k : Nat), x2 - 1] _ (HY.out.below entR (btr hbel hb)) hI hm hrd (by simp)
          rw [HZD.out] at hcon
          go_wp2_with fail
          refine hcon.mono ?_
          rintro e w2 ⟨rfl, b2⟩
          go_wp2
          exact ⟨rfl, .int .i64 (zd), by kernel_rfl, b2, rfl⟩
        refine wf_stepK [10] [fun _ => t10 = .int .i64 (zd)] (by kernel_rfl) (by kernel_rfl) (fun wf hb hf => ?_) (fun t11 => ?_)
        · obtain ⟨rfl, -⟩ := hf
          refine ⟨?_⟩
          go_wp2
          exact ⟨rfl, .bool (decide (0 < zd)), by kernel_rfl, Below.refl _ _, congrArg Value.bool (decide_eq_true HP.out)⟩
        refine wf_stepK [11] [fun _ => t11 = .bool true] (by kernel_rfl) (by kernel_rfl) (fun wf hb hf => ?_) (fun t12 => ?_)
        · obtain ⟨rfl, -⟩ := hf
          refine ⟨?_⟩
          go_wp2
          exact ⟨rfl, .bool true, by kernel_rfl, Below.refl _ _, rfl⟩
        refine wf_stepK [12] [fun _ => t12 = .bool true] (by kernel_rfl) (by kernel_rfl) (fun wf hb hf => ?_) (fun t13 => ?_)
        · obtain ⟨rfl, -⟩ := hf
          refine WfOp.yes (by kernel_rfl) ?_
          dsimp only
          go_wp2
          exact ⟨rfl, .slice A es.length c, by kernel_rfl, Below.refl _ _, rfl⟩
        refine wf_stepK [12] [fun _ => t12 = .bool true] (by kernel_rfl) (by kernel_rfl) (fun wf hb hf => ?_) (fun t14 => ?_)
        · obtain ⟨rfl, -⟩ := hf
          refine WfOp.yes (by kernel_rfl) ?_
          dsimp only
          go_wp2
          exact ⟨rfl, .int .i64 ((k : Nat)), by kernel_rfl, Below.refl _ _, rfl⟩
        refine wf_stepK [12] [fun _ => t12 = .bool true] (by kernel_rfl) (by kernel_rfl) (fun wf hb hf => ?_) (fun t15 => ?_)
        · obtain ⟨rfl, -⟩ := hf
          refine WfOp.yes (by kernel_rfl) ?_
          dsimp only
          go_wp2
          exact ⟨rfl, .slice (some ⟨rb, ro, none⟩) 3 rc, by kernel_rfl, Below.refl _ _, rfl⟩
        refine wf_stepK [12, 15] [fun _ => t12 = .bool true, fun _ => t15 = .slice (some ⟨rb, ro, none⟩) 3 rc] (by kernel_rfl) (by kernel_rfl) (fun wf hb hf => ?_) (fun t16 => ?_)
        · obtain ⟨rfl, rfl, -⟩ := hf
          refine WfOp.yes (by kernel_rfl) ?_
          dsimp only
          go_wp2
          exact ⟨rfl, .pointer (some ⟨rb, ro + 1, none⟩), by kernel_rfl, Below.refl _ _, rfl⟩
        refine wf_stepK [12, 16] [fun _ => t12 = .bool true, fun _ => t16 = .pointer (some ⟨rb, ro + 1, none⟩)] (by kernel_rfl) (by kernel_rfl) (fun wf hb hf => ?_) (fun t17 => ?_)
        · obtain ⟨rfl, rfl, -⟩ := hf
          refine WfOp.yes (by kernel_rfl) ?_
          dsimp only
          have z0 := (hb.cell (p := ⟨rb, ro + 1, none⟩) hrbl).trans q1
          go_wp2
          exact ⟨rfl, .int .i64 (x1), by kernel_rfl, Below.refl _ _, rfl⟩
        refine wf_stepK [12, 14, 17] [fun _ => t12 = .bool true, fun _ => t14 = .int .i64 ((k : Nat)), fun _ => t17 = .int .i64 (x1)] (by kernel_rfl) (by kernel_rfl) (fun wf hb hf => ?_) (fun t18 => ?_)
        · obtain ⟨rfl, rfl, rfl, -⟩ := hf
          refine WfOp.yes (by kernel_rfl) ?_
          dsimp only
          go_wp2
          exact ⟨rfl, .slice (some ⟨wf.heap.size, 0, none⟩) 2 2, by kernel_rfl, bal (Below.refl _ _) _, _, rfl, hb.size, Blk.newAt rfl⟩
        refine wf_stepK [12, 13, 18] [fun _ => t12 = .bool true, fun _ => t13 = .slice A es.length c, NewI wr.heap.size (k : Nat) x1 t18] (by kernel_rfl) (by kernel_rfl) (fun wf hb hf => ?_) (fun t19 => ?_)
        · obtain ⟨rfl, rfl, ⟨G, rfl, hGl, hG⟩, -⟩ := hf
          refine WfOp.yes (by kernel_rfl) ?_
          dsimp only
          have hI := NewI.ints hG
          have hcon := weightOf_s A c es (some ⟨G, 0, none⟩) 2 [(k : Nat), x1] _ (HX.out.below entR (btr hbel hb)) hI hn hr (by simp)
          rw [HZE.out] at hcon
          go_wp2_with fail
          refine hcon.mono ?_
          rintro e w2 ⟨rfl, b2⟩
          go_wp2
          exact ⟨rfl, .int .i64 (ze), by kernel_rfl, b2, rfl⟩
        refine wf_stepK [12, 19] [fun _ => t12 = .bool true, fun _ => t19 = .int .i64 (ze)] (by kernel_rfl) (by kernel_rfl) (fun wf hb hf => ?_) (fun t20 => ?_)
        · obtain ⟨rfl, rfl, -⟩ := hf
          refine WfOp.yes (by kernel_rfl) ?_
          dsimp only
          go_wp2
          exact ⟨rfl, .bool (decide (0 < ze)), by kernel_rfl, Below.refl _ _, congrArg Value.bool (decide_eq_false (Int.not_lt.2 HQ.out))⟩
        refine wf_doneK [12, 20] [fun _ => t12 = .bool true, fun _ => t20 = .bool false] (by kernel_rfl) (by kernel_rfl) (fun w9 b9 hf => ?_)
        obtain ⟨rfl, rfl, -⟩ := hf
        show wpList _ _ _ [_] _ _
        refine wpList_frame (by simp [Act.put]; rfl) ?_
        have hb9 := btr hbel b9
        clear q0 q1 q2 hrbl
        go_wp2
        go_roundw
        case rel => exact ⟨k + 1, by omega, by go_num, HN, hb9⟩
        case measure => simp [intOf]; omega
      · have HR : Hid (supB es ds xs = true) := by rw [Hid, HT.out]; exact HMO.out (k + 1) (by omega) (by rw [hsu, decide_eq_true hp, decide_eq_true hq]; rfl)
        have HQ := Lib.hid hq
        clear hp hq hsu HK HSU HMO HT
        go_wp2_with fail
        refine wp_region_facts [[], [], [1], [1, 2], [], [], [5], [5, 6], [5, 6, 7], [1, 2, 3, 4, 5, 6, 7, 8], List.range 10, List.range 11, List.range 12, List.range 13, List.range 13, List.range 13, [0, 1, 2, 3, 4, 5, 6, 7, 8, 9, 10, 11, 12, 15], [0, 1, 2, 3, 4, 5, 6, 7, 8, 9, 10, 11, 12, 15, 16], [0, 1, 2, 3, 4, 5, 6, 7, 8, 9, 10, 11, 12, 14, 15, 16, 17], List.range 19, List.range 20]
          [fun v' _ => v' = .slice D ds.length d, fun v' _ => v' = .slice (some ⟨rb, ro, none⟩) 3 rc, fun v' _ => v' = .pointer (some ⟨rb, ro, none⟩), fun v' _ => v' = .int .i64 (x0), fun v' _ => v' = .int .i64 ((k : Nat)), fun v' _ => v' = .slice (some ⟨rb, ro, none⟩) 3 rc, fun v' _ => v' = .pointer (some ⟨rb, ro + 2, none⟩), fun v' _ => v' = .int .i64 (x2), fun v' _ => v' = .int .i64 (x2 - 1), New3 wr.heap.size x0 (k : Nat) (x2 - 1), fun v' _ => v' = .int .i64 (zd), fun v' _ => v' = .bool true, fun v' _ => v' = .bool true, fun v' _ => v' = .slice A es.length c, fun v' _ => v' = .int .i64 ((k : Nat)), fun v' _ => v' = .slice (some ⟨rb, ro, none⟩) 3 rc, fun v' _ => v' = .pointer (some ⟨rb, ro + 1, none⟩), fun v' _ => v' = .int .i64 (x1), NewI wr.heap.size (k : Nat) x1, fun v' _ => v' = .int .i64 (ze), fun v' _ => v' = .bool true]
          (by kernel_rfl) (by kernel_rfl) rfl ⟨stable_pure _, stable_pure _, stable_pure _, stable_pure _, stable_pure _, stable_pure _, stable_pure _, stable_pure _, stable_pure _, stable_new3 _ _ _ _, stable_pure _, stable_pure _, stable_pure _, stable_pure _, stable_pure _, stable_pure _, stable_pure _, stable_pure _, stable_newI _ _ _, stable_pure _, stable_pure _, trivial⟩ ?_
        refine wf_stepK [] [] (by kernel_rfl) (by kernel_rfl) (fun wf hb hf => ?_) (fun t0 => ?_)
        · refine ⟨?_⟩
          go_wp2
          exact ⟨rfl, .slice D ds.length d, by kernel_rfl, Below.refl _ _, rfl⟩
        refine wf_stepK [] [] (by kernel_rfl) (by kernel_rfl) (fun wf hb hf => ?_) (fun t1 => ?_)
        · refine ⟨?_⟩
          go_wp2
          exact ⟨rfl, .slice (some ⟨rb, ro, none⟩) 3 rc, by kernel_rfl, Below.refl _ _, rfl⟩
        refine wf_stepK [1] [fun _ => t1 = .slice (some ⟨rb, ro, none⟩) 3 rc] (by kernel_rfl) (by kernel_rfl) (fun wf hb hf => ?_) (fun t2 => ?_)
        · obtain ⟨rfl, -⟩ := hf
          refine ⟨?_⟩
          go_wp2
          exact ⟨rfl, .pointer (some ⟨rb, ro, none⟩), by kernel_rfl, Below.refl _ _, rfl⟩
        refine wf_stepK [2] [fun _ => t2 = .pointer (some ⟨rb, ro, none⟩)] (by kernel_rfl) (by kernel_rfl) (fun wf hb hf => ?_) (fun t3 => ?_)
        · obtain ⟨rfl, -⟩ := hf
          refine ⟨?_⟩
          have z0 := (hb.cell (p := ⟨rb, ro, none⟩) hrbl).trans q0
          go_wp2
          exact ⟨rfl, .int .i64 (x0), by kernel_rfl, Below.refl _ _, rfl⟩
        refine wf_stepK [] [] (by kernel_rfl) (by kernel_rfl) (fun wf hb hf => ?_) (fun t4 => ?_)
        · refine ⟨?_⟩
          go_wp2
          exact ⟨rfl, .int .i64 ((k : Nat)), by kernel_rfl, Below.refl _ _, rfl⟩
        refine wf_stepK [] [] (by kernel_rfl) (by kernel_rfl) (fun wf hb hf => ?_) (fun t5 => ?_)
        · refine ⟨?_⟩
          go_wp2
          exact ⟨rfl, .slice (some ⟨rb, ro, none⟩) 3 rc, by kernel_rfl, Below.refl _ _, rfl⟩
        refine wf_stepK [5] [fun _ => t5 = .slice (some ⟨rb, ro, none⟩) 3 rc] (by kernel_rfl) (by kernel_rfl) (fun wf hb hf => ?_) (fun t6 => ?_)
        · obtain ⟨rfl, -⟩ := hf
          refine ⟨?_⟩
          go_wp2
          exact ⟨rfl, .pointer (some ⟨rb, ro + 2, none⟩), by kernel_rfl, Below.refl _ _, rfl⟩
        refine wf_stepK [6] [fun _ => t6 = .pointer (some ⟨rb, ro + 2, none⟩)] (by kernel_rfl) (by kernel_rfl) (fun wf hb hf => ?_) (fun t7 => ?_)
        · obtain ⟨rfl, -⟩ := hf
          refine ⟨?_⟩
          have z0 := (hb.cell (p := ⟨rb, ro + 2, none⟩) hrbl).trans q2
          go_wp2
          exact ⟨rfl, .int .i64 (x2), by kernel_rfl, Below.refl _ _, rfl⟩
        refine wf_stepK [7] [fun _ => t7 = .int .i64 (x2)] (by kernel_rfl) (by kernel_rfl) (fun wf hb hf => ?_) (fun t8 => ?_)
        · obtain ⟨rfl, -⟩ := hf
          refine ⟨?_⟩
          go_wp2
          exact ⟨rfl, .int .i64 (x2 - 1), by kernel_rfl, Below.refl _ _, rfl⟩
        refine wf_stepK [3, 4, 8] [fun _ => t3 = .int .i64 (x0), fun _ => t4 = .int .i64 ((k : Nat)), fun _ => t8 = .int .i64 (x2 - 1)] (by kernel_rfl) (by kernel_rfl) (fun wf hb hf => ?_) (fun t9 => ?_)
        · obtain ⟨rfl, rfl, rfl, -⟩ := hf
          refine ⟨?_⟩
          go_wp2
          exact ⟨rfl, .slice (some ⟨wf.heap.size, 0, none⟩) 3 3, by kernel_rfl, bal (Below.refl _ _) _, _, rfl, hb.size, Blk.newAt rfl⟩
        refine wf_stepK [0, 9] [fun _ => t0 = .slice D ds.length d, New3 wr.heap.size x0 (k : Nat) (x2 - 1) t9] (by kernel_rfl) (by kernel_rfl) (fun wf hb hf => ?_) (fun t10 => ?_)
        · obtain ⟨rfl, ⟨G, rfl, hGl, hG⟩, -⟩ := hf
          refine ⟨?_⟩
          have hI := New3.ints hG
          have hcon := weightOf_s D d ds (some ⟨G, 0, none⟩) 3 [x0, (k : Nat), x2 - 1] _ (HY.out.below entR (btr hbel hb)) hI hm hrd (by simp)
          rw [HZD.out] at hcon
          go_wp2_with fail
          refine hcon.mono ?_
          rintro e w2 ⟨rfl, b2⟩
          go_wp2
          exact ⟨rfl, .int .i64 (zd), by kernel_rfl, b2, rfl⟩
        refine wf_stepK [10] [fun _ => t10 = .int .i64 (zd)] (by kernel_rfl) (by kernel_rfl) (fun wf hb hf => ?_) (fun t11 => ?_)
        · obtain ⟨rfl, -⟩ := hf
          refine ⟨?_⟩
          go_wp2
          exact ⟨rfl, .bool (decide (0 < zd)), by kernel_rfl, Below.refl _ _, congrArg Value.bool (decide_eq_true HP.out)⟩
        refine wf_stepK [11] [fun _ => t11 = .bool true] (by kernel_rfl) (by kernel_rfl) (fun wf hb hf => ?_) (fun t12 => ?_)
        · obtain ⟨rfl, -⟩ := hf
          refine ⟨?_⟩
          go_wp2
          exact ⟨rfl, .bool true, by kernel_rfl, Below.refl _ _, rfl⟩
        refine wf_stepK [12] [fun _ => t12 = .bool true] (by kernel_rfl) (by kernel_rfl) (fun wf hb hf => ?_) (fun t13 => ?_)
        · obtain ⟨rfl, -⟩ := hf
          refine WfOp.yes (by kernel_rfl) ?_
          dsimp only
          go_wp2
          exact ⟨rfl, .slice A es.length c, by kernel_rfl, Below.refl _ _, rfl⟩
        refine wf_stepK [12] [fun _ => t12 = .bool true] (by kernel_rfl) (by kernel_rfl) (fun wf hb hf => ?_) (fun t14 => ?_)
        · obtain ⟨rfl, -⟩ := hf
          refine WfOp.yes (by kernel_rfl) ?_
          dsimp only
          go_wp2
          exact ⟨rfl, .int .i64 ((k : Nat)), by kernel_rfl, Below.refl _ _, rfl⟩
        refine wf_stepK [12] [fun _ => t12 = .bool true] (by kernel_rfl) (by kernel_rfl) (fun wf hb hf => ?_) (fun t15 => ?_)
        · obtain ⟨rfl, -⟩ := hf
          refine WfOp.yes (by kernel_rfl) ?_
          dsimp only
          go_wp2
          exact ⟨rfl, .slice (some ⟨rb, ro, none⟩) 3 rc, by kernel_rfl, Below.refl _ _, rfl⟩
        refine wf_stepK [12, 15] [fun _ => t12 = .bool true, fun _ => t15 = .slice (some ⟨rb, ro, none⟩) 3 rc] (by kernel_rfl) (by kernel_rfl) (fun wf hb hf => ?_) (fun t16 => ?_)
        · obtain ⟨rfl, rfl, -⟩ := hf
          refine WfOp.yes (by kernel_rfl) ?_
          dsimp only
          go_wp2
          exact ⟨rfl, .pointer (some ⟨rb, ro + 1, none⟩), by kernel_rfl, Below.refl _ _, rfl⟩
        refine wf_stepK [12, 16] [fun _ => t12 = .bool true, fun _ => t16 = .pointer (some ⟨rb, ro + 1, none⟩)] (by kernel_rfl) (by kernel_rfl) (fun wf hb hf => ?_) (fun t17 => ?_)
        · obtain ⟨rfl, rfl, -⟩ := hf
          refine WfOp.yes (by kernel_rfl) ?_
          dsimp only
          have z0 := (hb.cell (p := ⟨rb, ro + 1, none⟩) hrbl).trans q1
          go_wp2
          exact ⟨rfl, .int .i64 (x1), by kernel_rfl, Below.refl _ _, rfl⟩
        refine wf_stepK [12, 14, 17] [fun _ => t12 = .bool true, fun _ => t14 = .int .i64 ((k : Nat)), fun _ => t17 = .int .i64 (x1)] (by kernel_rfl) (by kernel_rfl) (fun wf hb hf => ?_) (fun t18 => ?_)
        · obtain ⟨rfl, rfl, rfl, -⟩ := hf
          refine WfOp.yes (by kernel_rfl) ?_
          dsimp only
          go_wp2
          exact ⟨rfl, .slice (some ⟨wf.heap.size, 0, none⟩) 2 2, by kernel_rfl, bal (Below.refl _ _) _, _, rfl, hb.size, Blk.newAt rfl⟩
        refine wf_stepK [12, 13, 18] [fun _ => t12 = .bool true, fun _ => t13 = .slice A es.length c, NewI wr.heap.size (k : Nat) x1 t18] (by kernel_rfl) (by kernel_rfl) (fun wf hb hf => ?_) (fun t19 => ?_)
        · obtain ⟨rfl, rfl, ⟨G, rfl, hGl, hG⟩, -⟩ := hf
          refine WfOp.yes (by kernel_rfl) ?_
          dsimp only
          have hI := NewI.ints hG
          have hcon := weightOf_s A c es (some ⟨G, 0, none⟩) 2 [(k : Nat), x1] _ (HX.out.below entR (btr hbel hb)) hI hn hr (by simp)
          rw [HZE.out] at hcon
          go_wp2_with fail
          refine hcon.mono ?_
          rintro e w2 ⟨rfl, b2⟩
          go_wp2
          exact ⟨rfl, .int .i64 (ze), by kernel_rfl, b2, rfl⟩
        refine wf_stepK [12, 19] [fun _ => t12 = .bool true, fun _ => t19 = .int .i64 (ze)] (by kernel_rfl) (by kernel_rfl) (fun wf hb hf => ?_) (fun t20 => ?_)
        · obtain ⟨rfl, rfl, -⟩ := hf
          refine WfOp.yes (by kernel_rfl) ?_
          dsimp only
          go_wp2
          exact ⟨rfl, .bool (decide (0 < ze)), by kernel_rfl, Below.refl _ _, congrArg Value.bool (decide_eq_true HQ.out)⟩
        refine wf_doneK [12, 20] [fun _ => t12 = .bool true, fun _ => t20 = .bool true] (by kernel_rfl) (by kernel_rfl) (fun w9 b9 hf => ?_)
        obtain ⟨rfl, rfl, -⟩ := hf
        show wpList _ _ _ [_] _ _
        refine wpList_frame (by simp [Act.put]; rfl) ?_
        have hb9 := btr hbel b9
        clear q0 q1 q2 hrbl
        go_wp2
        go_ret
        exact ⟨ret_bool HR.out.symm, hb9⟩
    · obtain rfl : k = 20 := by omega
      have HR : Hid (supB es ds xs = false) := by rw [Hid, HT.out, HK.out]
      go_wp2
      go_ret
      exact ⟨ret_bool HR.out.symm, hbel⟩
end Go.Proofs.Ytifjenleoagefaa
