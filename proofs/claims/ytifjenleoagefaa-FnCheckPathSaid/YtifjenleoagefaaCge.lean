/- HELPER, no statement of the seat: several texts in one file. -/
import Derived.Test.YtifjenleoagefaaRc
import Derived.Test.YtifjenleoagefaaCgh
import Derived.Test.YtifjenleoagefaaCgc
import Derived.Test.YtifjenleoagefaaCgg
/- HELPER, no statement of the seat: the vertices of a set, one by one; where the loop stops, it is told which came before. -/
namespace Go.Proofs.Ytifjenleoagefaa
open Go.RowKit Go.Sort Go.Shelf
set_option linter.unusedSimpArgs false
set_option linter.unusedVariables false
attribute [local go_sem] Oper.semAt_some

set_option maxRecDepth 100000 in
set_option maxHeartbeats 3200000 in
theorem vertices_stopsP (Bs : Nat) (a : Nat) (n₀ : Nat) (w0 : World) (Bl : List Nat) (hBs : Blk w0 Bs 59 #[.int .u32 (a : Int)]) (ha : a < 1048576) (hgd : GoodO Bl n₀ w0) (hno : ¬ OwB Bl w0 Bs) :
    ∀ n, 1 ≤ n → SeqStopsK Fence.wide n Try.prog 92 #[.pointer (some ⟨Bs, 0, none⟩)] encN (KpO Bl n₀) (fun ys => ys = vtxF a) (fun pre => ∃ k, ∃ hk : k < 20, a.testBit k = true ∧ pre = vTo a k ++ [⟨k, hk⟩]) (vtxF a).length w0 := by
  intro n h1 l J Jx W hW' hJ hJx hY h0
  have hW : KpV Bl n₀ Bs a W := KpV.below ⟨hBs, hgd, hno⟩ hW'
  clear hgd hW' hBs hno
  refine callsIn_of_wp Try.func92 rfl trivial ?_ rfl
  simp only [Try.ntmps92, List.size_toArray, List.length_cons, List.length_nil, Nat.reduceAdd, Nat.reduceSub, Array.replicate_succ, Array.replicate_zero, List.push_toArray, List.append_toArray, List.nil_append, List.cons_append]
  gi_wp2
  gi_loopw [4] (fun i wr => ∃ k : Nat, k ≤ 20 ∧ i = .int .i64 k ∧ J (vTo a k) wr ∧ KpV Bl n₀ Bs a wr) (fun i _ => 20 - (intOf i).toNat)
  case atStart => exact ⟨0, Nat.zero_le _, rfl, h0, hW⟩
  case round =>
    obtain ⟨k, hk, rfl, hJs, hbel⟩ := hrel
    by_cases hlt : k < 20
    · have hb0 := hbel.1.cell 0
      simp at hb0
      have hlt' : (k : Int) < 20 := by omega
      have hset := setOfVertex_w k hlt
      cases hbit : a.testBit k
      · have hand := and_no (show a < 4294967296 by omega) hlt hbit
        have HV := Lib.hid (vTo_no hlt hbit)
        have HB := Lib.hid hbel
        have HJ := Lib.hid hJs
        clear hbit hbel hJs
        have c0 := cgrow hb0
        have hsb := fun W => (hset W).mono (fun e w' (h : e = _ ∧ W = w') => (⟨h.1, h.2 ▸ Below.refl _ _⟩ : e = _ ∧ Below W.heap.size W w'))
        gi_wp2_with fail
        refine wpIn_region_quiet_below rfl (by kernel_rfl) (by kernel_rfl) ?_
        repeat (gi_big_quiet_step (fail))
        refine Go.BigFrame.wpQuietIn_want (askedIn_wide _ _ _ _) (by kernel_rfl) (fun K hK => ?_)
        gi_big_quiet_op
        apply Exists.intro
        refine ⟨fun _ => ?_, ?_⟩
        · gi_at_call 80
          exact CallsIn.regrown_of (callsIn_wide.2 (hsb _))
        refine hK _ ?_
        repeat (gi_big_quiet_step (fail))
        refine Go.BigFrame.wpQuietIn_skip (askedIn_wide _ _ _ _) (by kernel_rfl) (wpQuietIn_frame (by simp [Act.put]; rfl) ?_)
        repeat (gi_big_quiet_step (fail))
        refine wpQuietIn_nil ?_
        rintro wq ⟨p, rfl⟩
        have HJ2 := Lib.hid (abides_below hJ HJ.out (below_regrown wr p.d p.os))
        have HB2 := Lib.hid (HB.out.below (below_regrown wr p.d p.os))
        clear c0 hb0 hand hset hsb HJ HB
        generalize grow (redrawn wr p.d) p.os = wq at *
        gi_wp2
        go_roundw
        case rel => exact ⟨k + 1, by omega, by simp, by rw [HV.out]; exact HJ2.out, HB2.out⟩
        case measure => simp [intOf]; omega
      · have hand := and_yes (show a < 4294967296 by omega) hlt hbit
        have hne := bitOf_ne k
        obtain ⟨fn, tmps, assign, body, hy, hR⟩ := hY (vTo a k) ⟨k, hlt⟩ wr.drew (abides_below hJ hJs (Below.refl _ _).drew) (vTo_lt hbit hlt)
        have HBIT := Lib.hid hbit
        have HV := Lib.hid (vTo_yes hlt hbit)
        have HB := Lib.hid hbel
        clear hbit hbel hJs
        gi_wp2_with fail
        have hR2 := hR.mono (fun e W3 (h : (e = _ ∧ _ ∧ _) ∨ (e = _ ∧ _)) => (h.elim (fun h => ⟨true, h.1, .inl ⟨rfl, h.2⟩⟩) (fun h => ⟨false, h.1, .inr ⟨rfl, h.2⟩⟩) : ∃ b : Bool, e = .returned (.bool b) ∧ (b = true ∧ J (vTo a k ++ [⟨k, hlt⟩]) W3 ∧ KpO Bl n₀ wr.drew W3 ∨ b = false ∧ Jx (vTo a k ++ [⟨k, hlt⟩]) W3)))
        clear hR
        gi_region_with (first | (refine ⟨trivial, ?_⟩; gi_at_call 80; refine (callsIn_wide.2 (hset _)).mono ?_; rintro e w2 ⟨rfl, rfl⟩) | (refine hR2.mono ?_; rintro e W3 ⟨bb, rfl, hbb⟩))
        all_goals
          rcases hbb with ⟨rfl, hJ3, hk3⟩ | ⟨rfl, hJx3⟩
          · have HJ3 := Lib.hid hJ3
            have HK3 := Lib.hid hk3
            clear hJ3 hk3
            gi_wp2
            go_roundw
            case rel => exact ⟨k + 1, by omega, by simp, by rw [HV.out]; exact HJ3.out, (HB.out.below (Below.refl _ _).drew).kp HK3.out⟩
            case measure => simp [intOf]; omega
          · gi_wp2
            refine bodyPost_ret (results_none rfl _ _ _) rfl ?_
            exact ⟨⟨_, rfl⟩, .inr ⟨_, ⟨k, hlt, HBIT.out, rfl⟩, hJx3⟩⟩
    · obtain rfl : k = 20 := by omega
      rw [vTo_end] at hJs
      gi_wp2
      go_end0
      exact ⟨⟨_, rfl⟩, .inl ⟨_, rfl, hJs⟩⟩
end Go.Proofs.Ytifjenleoagefaa

/- HELPER, no statement of the seat: the program's shortestPath: a range over an iterator that is left by break, inside a loop. -/
namespace Go.Proofs.Ytifjenleoagefaa
open Go.RowKit Go.Sort Go.Shelf
set_option linter.unusedSimpArgs false
set_option linter.unusedVariables false
attribute [local go_sem] Oper.semAt_some

theorem goodV {B n₀ : Nat} {W : World} {t : TypeId} {x : Int} (h : Blk W B t #[.int .i64 x]) (hn : n₀ ≤ B) : GoodO [B] n₀ W ∧ ∀ k, OwB [B] W k → k = B := by
  have hr : ∀ k, ¬ RowOf W B k := by
    rintro k ⟨n, c, T, e⟩
    rw [show W.heap[B]? = _ from h] at e
    injection e with e
    injection e with e
    have := congrArg (fun a : Array Value => a[0]?) e
    simp at this
  have ho : ∀ k, OwB [B] W k → k = B := by
    rintro k ⟨B', hB', rfl | h'⟩
    · simpa using hB'
    · simp at hB'; subst hB'; exact absurd h' (hr k)
  refine ⟨⟨fun B' hB' => ?_, fun k hk => ?_⟩, ho⟩
  · simp at hB'; subst hB'; exact ⟨hn, h.lt⟩
  · rw [ho k hk]; exact ⟨hn, h.lt⟩
/-- What stands in a turn: the boxes, the path so far. -/
def SpI (w : World) (ds : List Nat) (bL : Nat) (r : List Nat) (T : List Int) (x y left : Int) (A : Option Addr) (c : Nat) (xs : List Int) (W : World) : Prop :=
  MarksAt ds w.heap.size W ∧ Blk W w.heap.size 61 (relC r) ∧ Blk W (w.heap.size + 1) 65 (ints T) ∧ Blk W (w.heap.size + 1 + 1) 3 #[.int .i64 x] ∧ Blk W (w.heap.size + 1 + 1 + 1) 3 #[.int .i64 y] ∧ Blk W bL 3 #[.int .i64 left] ∧ IntsOwn W (w.heap.size + 1 + 1 + 1 + 1) A c xs ∧ Below w.heap.size w W
theorem SpI.below {w : World} {ds : List Nat} {bL : Nat} {r : List Nat} {T : List Int} {x y left : Int} {A : Option Addr} {c : Nat} {xs : List Int} {W W' : World} (h : SpI w ds bL r T x y left A c xs W) (hb : Below W.heap.size W W') : SpI w ds bL r T x y left A c xs W' :=
  ⟨h.1.below hb, h.2.1.below hb, h.2.2.1.below hb, h.2.2.2.1.below hb, h.2.2.2.2.1.below hb, h.2.2.2.2.2.1.below hb, h.2.2.2.2.2.2.1.below hb, btr h.2.2.2.2.2.2.2 hb⟩
theorem intsOwn_own {β : Type} (base : Nat) (A : Option Addr) (c : Nat) (xs : List Int) : Own (fun (_ : β) W => IntsOwn W base A c xs) := by
  rintro s X Y row h hg hrow
  refine IntsOwn.kept h hg (fun a ha e => ?_)
  obtain ⟨o, ho, hc⟩ := hrow _ e
  rw [row_cells h _ o (by rw [ha]; rfl) ho] at hc
  cases hc
theorem spI_own {β : Type} (w : World) (ds : List Nat) (bL : Nat) (r : List Nat) (T : List Int) (x y left : β → Int) (A : Option Addr) (c : Nat) (xs : List Int) {B : Nat} (hB : w.heap.size ≤ B) (hd : ∀ D ∈ ds, D < B) : OwnFrom B (fun s W => SpI w ds bL r T (x s) (y s) (left s) A c xs W) :=
  OwnFrom.and (marks_own hd) (OwnFrom.and ((ownBlk _ _ (fun _ : β => relC r)).from _) (OwnFrom.and ((ownBlk _ _ (fun _ : β => ints T)).from _) (OwnFrom.and ((ownBlk _ _ (fun s : β => #[.int .i64 (x s)])).from _) (OwnFrom.and ((ownBlk _ _ (fun s : β => #[.int .i64 (y s)])).from _) (OwnFrom.and ((ownBlk _ _ (fun s : β => #[.int .i64 (left s)])).from _) (OwnFrom.and ((intsOwn_own _ A c xs).from _) (ownFrom_below (Nat.le_refl _) hB)))))))
theorem kpO_cellV {W : World} {g n₀ : Nat} {t : TypeId} {a b : Int} (h : Blk W g t #[.int .i64 a]) (hn : n₀ ≤ g) : KpO [g] n₀ W (W.drew.setCell ⟨g, 0, none⟩ (.int .i64 b)) ∧ ∀ B, KeepsFrom B W (W.drew.setCell ⟨g, 0, none⟩ (.int .i64 b)) := by
  have hW' : Blk (W.drew.setCell ⟨g, 0, none⟩ (.int .i64 b)) g t #[.int .i64 b] := h.drew.set_ 0 _
  obtain ⟨g1, o1⟩ := goodV (n₀ := n₀) h hn
  obtain ⟨g2, o2⟩ := goodV (n₀ := n₀) hW' hn
  have hg := grown_cell W g 0 (.int .i64 b)
  refine ⟨kpO_grown hg (Nat.le_trans hn (Nat.le_of_lt h.lt)) (fun k hk => ⟨by rw [hk]; exact hn, fun _ => ⟨g, by simp, .inl hk⟩⟩) (fun k hk _ => ⟨g, by simp, .inl (o2 k hk)⟩) (fun _ => g2), fun B => keepsFrom_grown hg (fun k o hk ho => ?_)⟩
  subst hk
  exact blk_cells h o ho
theorem mem_vTo {a k : Nat} {y : Fin 20} : y ∈ vTo a k ↔ y.1 < k ∧ a.testBit y.1 = true := by
  unfold vTo
  rw [List.mem_filter]
  refine and_congr_left (fun _ => ?_)
  constructor
  · intro h
    obtain ⟨i, hi, e⟩ := List.getElem_of_mem h
    rw [List.length_take] at hi
    rw [List.getElem_take] at e
    simp at e
    rw [← e]; simp; omega
  · intro h
    refine List.mem_iff_getElem.2 ⟨y.1, by simp; omega, ?_⟩
    rw [List.getElem_take]; simp
theorem abs_worldIn {F : Fence} {n : Nat} {P : Program} {Q : Exit → Act → World → Prop} {c : Code} {a : Act} {w : World} (K : World → Prop) (h : K w) (k : ∀ w, K w → c.wpIn F n P Q a w) : c.wpIn F n P Q a w := k w h
theorem litPath {w : World} {x : Int} {b : Nat} (h : w.heap.size = b) : IntsOwn (w.alloc (.cells #[.int .i64 x] 3)) b (some ⟨b, 0, none⟩) 1 [x] := by
  subst h
  exact World.ownsRow_lit (base := w.heap.size) (size := 1) (e := 3) w #[.int .i64 x] 1 (Nat.le_refl _) (by simp [maxLen]) (by simp)
theorem intsOwn_off {w w' : World} {b base : Nat} {A : Option Addr} {c : Nat} {xs : List Int} (h : IntsOwn w base A c xs) (ho : MarkOff b w w') : IntsOwn w' base A c xs := by
  refine ⟨h.1, ?_⟩
  rcases h.2 with h2 | ⟨g, cap, cur, e, hb, hg, h3⟩
  · exact .inl h2
  · exact .inr ⟨g, cap, cur, e, hb, ho.cells g _ hg rfl, h3⟩
def slN : Value → Nat
  | .slice _ n _ => n
  | _ => 0
set_option maxRecDepth 100000 in
set_option maxHeartbeats 6400000 in
theorem shortestPath_w (r : List Nat) (T : List Int) (X Y d : Nat) (w : World) (hr : OkR r) (hT : T.length = 400) (hX : X < 20) (hY : Y < 20) (hd : d < 400) (hdd : getT T X Y = ((d + 1 : Nat) : Int))
    (hpo : ∀ k, k ≤ d → posP r T Y d X k < 20) (hps : ∀ k, k < d → isN r T Y (d - k) (posP r T Y d X k) (posP r T Y d X (k + 1)) = true ∧ ∀ j, j < posP r T Y d X (k + 1) → isN r T Y (d - k) (posP r T Y d X k) j = false) :
    Calls Try.prog 44 #[.agg (relC r), .agg (ints T), .int .i64 (X : Int), .int .i64 (Y : Int)] w fun e w' => ∃ A c, e = .returned (.slice A (walkP r T Y d X d ++ [(Y : Int)]).length c) ∧ IntsOwn w' w.heap.size A c (walkP r T Y d X d ++ [(Y : Int)]) ∧ Below w.heap.size w w' := by
  obtain ⟨i0, hi0, hz0, hz1, hz2⟩ := info_parts Try.infoInt
  have hxy := ints_at hT hX hY
  rw [hdd] at hxy
  have hsub : ((d + 1 : Nat) : Int) - 1 = (d : Int) := by omega
  have HPO := Lib.hid hpo
  have HPS := Lib.hid hps
  have hX' : (X : Int) < 20 := by omega
  have hY' : (Y : Int) < 20 := by omega
  clear hdd hpo hps
  refine (callsIn_wide (n := 9)).1 ?_
  refine callsIn_of_wp_marks Try.func44 rfl trivial ?_ rfl
  simp only [Try.ntmps44, List.size_toArray, List.length_cons, List.length_nil, Nat.reduceAdd, Nat.reduceSub, Array.replicate_succ, Array.replicate_zero, List.push_toArray, List.append_toArray, List.nil_append, List.cons_append]
  gi_wp2_with fail
  refine abs_worldIn (fun W => Blk W w.heap.size 61 (relC r) ∧ Blk W (w.heap.size + 1) 65 (ints T) ∧ Blk W (w.heap.size + 1 + 1) 3 #[.int .i64 (X : Int)] ∧ Blk W (w.heap.size + 1 + 1 + 1) 3 #[.int .i64 (Y : Int)] ∧ IntsOwn W (w.heap.size + 1 + 1 + 1 + 1) (some ⟨w.heap.size + 1 + 1 + 1 + 1, 0, none⟩) 1 (walkP r T Y d X 0) ∧ W.heap.size = w.heap.size + 1 + 1 + 1 + 1 + 1 ∧ Below w.heap.size w W)
    ⟨((((Blk.newAt rfl).alloc _).alloc _).alloc _).alloc _, (((Blk.newAt (by simp)).alloc _).alloc _).alloc _, ((Blk.newAt (by simp)).alloc _).alloc _, (Blk.newAt (by simp)).alloc _, litPath (by simp), by simp, bal (bal (bal (bal (bal (Below.refl _ _) _) _) _) _) _⟩ ?_
  rintro W0 ⟨k0, k1, k2, k3, ko, hsz, hbW⟩
  have hwr : IntKind.i64.wrap (d : Int) = (d : Int) := IntWalk.i64_in _ (by omega)
  refine wpIn_wide.2 ?_
  refine wp_region_facts [[], [], [0], [0, 1, 2], List.range 4, List.range 5, []]
    [fun v' _ => v' = .int .i64 (X : Int), fun v' _ => v' = .int .i64 (Y : Int), fun v' _ => v' = .pointer (some ⟨w.heap.size + 1, X * 20, none⟩), fun v' _ => v' = .pointer (some ⟨w.heap.size + 1, X * 20 + Y, none⟩), fun v' _ => v' = .int .i64 ((d : Int) + 1), fun v' _ => v' = .int .i64 (d : Int), AtBlk W0.heap.size 3 #[.int .i64 0]]
    (by kernel_rfl) (by kernel_rfl) rfl ⟨stable_pure _, stable_pure _, stable_pure _, stable_pure _, stable_pure _, stable_pure _, stable_atBlk _ _ _, trivial⟩ ?_
  refine wf_stepK [] [] (by kernel_rfl) (by kernel_rfl) (fun wf hb hf => ?_) (fun t0 => ?_)
  · refine ⟨?_⟩
    have z := (k2.below hb).cell 0
    simp at z
    go_wp2
    exact ⟨rfl, _, by kernel_rfl, Below.refl _ _, rfl⟩
  refine wf_stepK [] [] (by kernel_rfl) (by kernel_rfl) (fun wf hb hf => ?_) (fun t1 => ?_)
  · refine ⟨?_⟩
    have z := (k3.below hb).cell 0
    simp at z
    go_wp2
    exact ⟨rfl, _, by kernel_rfl, Below.refl _ _, rfl⟩
  refine wf_stepK [0] [fun _ => t0 = .int .i64 (X : Int)] (by kernel_rfl) (by kernel_rfl) (fun wf hb hf => ?_) (fun t2 => ?_)
  · obtain ⟨rfl, -⟩ := hf
    refine ⟨?_⟩
    go_wp2
    exact ⟨rfl, .pointer (some ⟨w.heap.size + 1, X * 20, none⟩), by kernel_rfl, Below.refl _ _, rfl⟩
  refine wf_stepK [1, 2] [fun _ => t1 = .int .i64 (Y : Int), fun _ => t2 = .pointer (some ⟨w.heap.size + 1, X * 20, none⟩)] (by kernel_rfl) (by kernel_rfl) (fun wf hb hf => ?_) (fun t3 => ?_)
  · obtain ⟨rfl, rfl, -⟩ := hf
    refine ⟨?_⟩
    go_wp2
    exact ⟨rfl, .pointer (some ⟨w.heap.size + 1, X * 20 + Y, none⟩), by kernel_rfl, Below.refl _ _, rfl⟩
  refine wf_stepK [3] [fun _ => t3 = .pointer (some ⟨w.heap.size + 1, X * 20 + Y, none⟩)] (by kernel_rfl) (by kernel_rfl) (fun wf hb hf => ?_) (fun t4 => ?_)
  · obtain ⟨rfl, -⟩ := hf
    refine ⟨?_⟩
    have z := ((k1.below hb).cell (X * 20 + Y)).trans hxy
    go_wp2
    exact ⟨rfl, .int .i64 ((d : Int) + 1), by kernel_rfl, Below.refl _ _, rfl⟩
  refine wf_stepK [4] [fun _ => t4 = .int .i64 ((d : Int) + 1)] (by kernel_rfl) (by kernel_rfl) (fun wf hb hf => ?_) (fun t5 => ?_)
  · obtain ⟨rfl, -⟩ := hf
    refine ⟨?_⟩
    go_wp2
    exact ⟨rfl, .int .i64 (d : Int), by kernel_rfl, Below.refl _ _, rfl⟩
  refine wf_stepK [] [] (by kernel_rfl) (by kernel_rfl) (fun wf hb hf => ?_) (fun t6 => ?_)
  · refine ⟨?_⟩
    go_wp2
    exact ⟨rfl, .pointer (some ⟨wf.heap.size, 0, none⟩), by kernel_rfl, bal (Below.refl _ _) _, wf.heap.size, rfl, (by have := hb.size; omega), Blk.newAt rfl⟩
  refine wf_doneK [5, 6] [fun _ => t5 = .int .i64 (d : Int), AtBlk W0.heap.size 3 #[.int .i64 0] t6] (by kernel_rfl) (by kernel_rfl) (fun w6 b6 hf => ?_)
  obtain ⟨rfl, ⟨bL, rfl, hbb, hBb⟩, -⟩ := hf
  show wpList _ _ _ [_] _ _
  refine wpList_frame (by simp [Act.put]; rfl) ?_
  clear hwr
  refine wpList_abs (fun W => SpI w [] bL r T (X : Int) (Y : Int) (d : Int) (some ⟨w.heap.size + 1 + 1 + 1 + 1, 0, none⟩) 1 (walkP r T Y d X 0) W) ?_ ?_
  · have hb0 := Below.size b6
    have HB := Lib.hid (⟨MarksAt.nil _ _, (k0.below b6).far (by simp; omega) _, (k1.below b6).far (by simp; omega) _, (k2.below b6).far (by simp; omega) _, (k3.below b6).far (by simp; omega) _, hBb.set_ 0 _, IntsOwn.kept (ko.below b6) (grownBy_setCell' _ _ _) (fun a ha e => by injection ha with ha; subst ha; injection e with e; simp at e; omega), bset (btr hbW b6) (by simp; omega) _⟩ : SpI w [] bL r T (X : Int) (Y : Int) (d : Int) (some ⟨w.heap.size + 1 + 1 + 1 + 1, 0, none⟩) 1 (walkP r T Y d X 0) (w6.setCell ⟨bL, 0, none⟩ (.int .i64 (d : Int))))
    have c6 := hBb.cell 0
    have f6 := hBb.frozen 0
    simp at c6
    clear k0 k1 k2 k3 ko hbW hBb b6
    go_wp2
    exact ⟨rfl, rfl, HB.out⟩
  rintro wD hD
  have hbL : w.heap.size + 1 + 1 + 1 + 1 < bL := by omega
  clear k0 k1 k2 k3 ko hbW hBb b6 hxy hbb hsz
  gi_wp2_with fail
  refine wpIn_loop (fun a' wr => ∃ (ds : List Nat) (k bL n : Nat) (A : Option Addr) (c : Nat) (u11 u12 u13 u14 u15 u16 u17 u18 u19 u20 u21 u22 u23 u24 u25 u26 u27 u28 u29 u30 u31 u32 u33 u34 u35 u36 u37 u38 u39 u40 u41 u42 u43 u44 u45 : Value), a' = { tmps := #[.agg (relC r), .agg (ints T), .int .i64 (X : Int), .int .i64 (Y : Int), .pointer (some ⟨w.heap.size, 0, none⟩), .pointer (some ⟨w.heap.size + 1, 0, none⟩), .pointer (some ⟨w.heap.size + 1 + 1, 0, none⟩), .pointer (some ⟨w.heap.size + 1 + 1 + 1, 0, none⟩), .slice none 0 0, .slice A n c, .pointer (some ⟨bL, 0, none⟩), u11, u12, u13, u14, u15, u16, u17, u18, u19, u20, u21, u22, u23, u24, u25, u26, u27, u28, u29, u30, u31, u32, u33, u34, u35, u36, u37, u38, u39, u40, u41, u42, u43, u44, u45], defers := markL ds } ∧ n = (walkP r T Y d X k).length ∧ k ≤ d ∧ w.heap.size + 1 + 1 + 1 + 1 < bL ∧ blk A ≠ some bL ∧ SpI w ds bL r T (posP r T Y d X k : Int) (Y : Int) ((d - k : Nat) : Int) A c (walkP r T Y d X k) wr) (fun a' _ => 402 - slN (a'.tmps.getD 9 undef)) ?_ ?_
  · exact ⟨[], 0, bL, _, _, _, _, _, _, _, _, _, _, _, _, _, _, _, _, _, _, _, _, _, _, _, _, _, _, _, _, _, _, _, _, _, _, _, _, _, _, rfl, rfl, by omega, hbL, fun e => by injection e with e; simp at e; omega, hD⟩
  · rintro _ wr ⟨ds, k, bL, _, A, c, u11, u12, u13, u14, u15, u16, u17, u18, u19, u20, u21, u22, u23, u24, u25, u26, u27, u28, u29, u30, u31, u32, u33, u34, u35, u36, u37, u38, u39, u40, u41, u42, u43, u44, u45, rfl, rfl, hk, hbL, hAL, hI⟩
    have HWL := Lib.hid (walkP_len r T Y d X k)
    by_cases hkd : k < d
    · have hx20 := HPO.out k (by omega)
      obtain ⟨hn1, hn2⟩ := HPS.out k hkd
      have hp20 := HPO.out (k + 1) (by omega)
      have HSN := Lib.hid (walkP_succ r T Y d X k)
      have hgt : (0 : Int) < ((d - k : Nat) : Int) := by omega
      have hlu : ((d - k : Nat) : Int) ≤ 400 := by omega
      have HL1 : Hid (((d - k : Nat) : Int) - 1 = ((d - (k + 1) : Nat) : Int)) := by rw [Hid]; omega
      have ha := hr.at (posP r T Y d X k)
      have HN1 : Hid ((r.getD (posP r T Y d X k) 0).testBit (posP r T Y d X (k + 1)) = true ∧ getT T (posP r T Y d X (k + 1)) Y = ((d - k : Nat) : Int)) := by
        simp only [isN, hasR, Bool.and_eq_true, decide_eq_true_eq] at hn1; exact hn1
      have HN2 : Hid (∀ j, j < posP r T Y d X (k + 1) → (r.getD (posP r T Y d X k) 0).testBit j = true → getT T j Y ≠ ((d - k : Nat) : Int)) := fun j hj h1 h2 => by
        have := hn2 j hj
        simp only [isN, hasR, h1, h2, decide_true, Bool.and_self] at this
        cases this
      clear hn1 hn2
      generalize hpk1 : posP r T Y d X (k + 1) = p1 at *
      generalize hpk : posP r T Y d X k = x at *
      have HPK := Lib.hid hpk1
      clear hpk1 hpk
      generalize hxs : walkP r T Y d X k = xs at *
      have HXS := Lib.hid hxs
      clear hxs
      have hx' : (x : Int) < 20 := by omega
      have hcr := (hI.2.1.cell x).trans (relC_at (by rw [hr.len]; exact hx20))
      have cx := hI.2.2.2.1.cell 0
      have cL := hI.2.2.2.2.2.1.cell 0
      simp at cx cL
      generalize r.getD x 0 = a at *
      generalize hleft : ((d - k : Nat) : Int) = left at *
      have HLF := Lib.hid hleft
      have HI := Lib.hid hI
      clear hleft hI
      gi_wp2_with (refine ⟨trivial, ?_⟩; gi_at_call 57; refine (callsIn_wide.2 (vertices_i a _)).mono ?_; rintro e w2 ⟨rfl, hV, hb2⟩)
      have hV1 : Blk w2 wr.heap.size 59 #[.int .u32 (a : Int)] := by simpa using hV
      have hs2 : wr.heap.size < w2.heap.size := hV1.lt
      have hI2 := HI.out.below hb2
      have hbLl := HI.out.2.2.2.2.2.1.lt
      have hML := HI.out.1.lt
      have hsw := HI.out.2.2.2.2.2.2.2.size
      obtain ⟨hG, hOw⟩ := goodV (n₀ := w.heap.size) hI2.2.2.2.1 (by omega)
      have hno : ¬ OwB [w.heap.size + 1 + 1] w2 wr.heap.size := fun ho => by have := hOw _ ho; omega
      have HI2 := Lib.hid (And.intro hI2 (fun (y : Fin 20) (hy : y ∈ ([] : List (Fin 20))) => (nomatch hy : getT T y.1 Y ≠ left)))
      have HX := Lib.hid hI2.2.2.2.1
      clear hV hI2 hOw cx cL hcr hb2 HI
      refine wpIn_rangeFunc_ownH rfl (by omega) (gf := 92) (lb := #[.pointer (some ⟨wr.heap.size, 0, none⟩)]) rfl trivial (fun _ _ => rfl)
        (vertices_stopsP wr.heap.size a w.heap.size w2 [w.heap.size + 1 + 1] hV1 ha hG hno (9 - 1) (by omega)) kpO_t (kpO_b (by omega) (by simp; omega)) (Below.refl _ _) (fun _ => rfl)
        (fun pre W => SpI w ds bL r T (x : Int) (Y : Int) left A c xs W ∧ ∀ y ∈ pre, getT T y.1 Y ≠ left)
        (fun cc pre W => cc = .exit 2 ∧ ∃ pre0 v, pre = pre0 ++ [v] ∧ (∀ y ∈ pre0, getT T y.1 Y ≠ left) ∧ getT T v.1 Y = left ∧ SpI w ds bL r T (v.1 : Int) (Y : Int) left A c xs W)
        (OwnFrom.and (spI_own w ds bL r T (fun _ => (x : Int)) (fun _ => (Y : Int)) (fun _ => left) A c xs (by omega) (fun D hD => by have := hML D hD; omega)) (ownFrom_pure _ _))
        (fun cc s X' Y' row h hg hr => by
          obtain ⟨h1, pre0, v, h2, h3, h4, h5⟩ := h
          exact ⟨h1, pre0, v, h2, h3, h4, spI_own (β := Unit) w ds bL r T (fun _ => (v.1 : Int)) (fun _ => (Y : Int)) (fun _ => left) A c xs (by omega) (fun D hD => by have := hML D hD; omega) () X' Y' row h5 hg hr⟩) HI2.out
        (fun y a' W => a' = { tmps := #[.agg (relC r), .agg (ints T), .int .i64 (X : Int), .int .i64 (Y : Int), .pointer (some ⟨w.heap.size, 0, none⟩), .pointer (some ⟨w.heap.size + 1, 0, none⟩), .pointer (some ⟨w.heap.size + 1 + 1, 0, none⟩), .pointer (some ⟨w.heap.size + 1 + 1 + 1, 0, none⟩), .slice none 0 0, .slice A xs.length c, .pointer (some ⟨bL, 0, none⟩), .int .i64 ((y.1 : Nat) : Int), u12, u13, u14, u15, u16, u17, u18, u19, .int .i64 left, .bool true, u22, u23, .int .i64 (x : Int), .pointer (some ⟨w.heap.size, x, none⟩), .int .u32 (a : Int), .func (.func 92) #[] #[.pointer (some ⟨wr.heap.size, 0, none⟩)], .int .i64 ((y.1 : Nat) : Int), u29, u30, u31, u32, u33, u34, u35, u36, u37, u38, u39, u40, u41, u42, u43, u44, u45], defers := [] })
        (fun y a' _ X' Y' row hs hg hr => hs)
        ?assign ?body ?done ?stop
      case assign =>
        rintro l pre y W K hI hK
        gi_wp2
        exact hK _ _ ((KeepsOthers.refl _).from _) (kpO_below (by have := hI.1.2.2.2.2.2.2.2.size; omega) (Below.refl _ _)) hI rfl
      case body =>
        rintro l pre y a' W hl - hI rfl hlt2
        obtain ⟨hS, hpre⟩ := hI
        have hy20 : y.1 < 20 := y.2
        have hy' : (y.1 : Int) < 20 := by omega
        have hcT := (fun W' (hb : Below W.heap.size W W') => ((hS.2.2.1.below hb).cell (y.1 * 20 + Y)).trans (ints_at hT hy20 hY))
        have HS := Lib.hid hS
        have HP := Lib.hid hpre
        have hsW := hS.2.2.2.2.2.2.2.size
        clear hS hpre
        generalize hgT : getT T y.1 Y = gv at *
        have HGT := Lib.hid hgT
        clear hgT
        gi_wp2_with fail
        by_cases hg : gv = left
        · have HG := Lib.hid hg
          subst hg
          refine wp_region_factsR [[], [], [0], [0, 1, 2], List.range 4, [], List.range 6]
            [fun v' _ => v' = .int .i64 ((y.1 : Nat) : Int), fun v' _ => v' = .int .i64 (Y : Int), fun v' _ => v' = .pointer (some ⟨w.heap.size + 1, y.1 * 20, none⟩), fun v' _ => v' = .pointer (some ⟨w.heap.size + 1, y.1 * 20 + Y, none⟩), fun v' _ => v' = .int .i64 gv, fun v' _ => v' = .int .i64 gv, fun v' _ => v' = .bool true]
            (by kernel_rfl) (by kernel_rfl) rfl ⟨stable_pure _, stable_pure _, stable_pure _, stable_pure _, stable_pure _, stable_pure _, stable_pure _, trivial⟩ (by kernel_rfl) (fun _ _ h => by first | exact h | cases h) ?_
          refine wf_stepK [] [] (by kernel_rfl) (by kernel_rfl) (fun wf hb hf => ?_) (fun t0 => ?_)
          · refine ⟨?_⟩
            go_wp2
            exact ⟨rfl, .int .i64 ((y.1 : Nat) : Int), by kernel_rfl, Below.refl _ _, rfl⟩
          refine wf_stepK [] [] (by kernel_rfl) (by kernel_rfl) (fun wf hb hf => ?_) (fun t1 => ?_)
          · refine ⟨?_⟩
            have z := (HS.out.2.2.2.2.1.below hb).cell 0
            simp at z
            go_wp2
            exact ⟨rfl, .int .i64 (Y : Int), by kernel_rfl, Below.refl _ _, rfl⟩
          refine wf_stepK [0] [fun _ => t0 = .int .i64 ((y.1 : Nat) : Int)] (by kernel_rfl) (by kernel_rfl) (fun wf hb hf => ?_) (fun t2 => ?_)
          · obtain ⟨rfl, -⟩ := hf
            refine ⟨?_⟩
            go_wp2
            exact ⟨rfl, .pointer (some ⟨w.heap.size + 1, y.1 * 20, none⟩), by kernel_rfl, Below.refl _ _, rfl⟩
          refine wf_stepK [1, 2] [fun _ => t1 = .int .i64 (Y : Int), fun _ => t2 = .pointer (some ⟨w.heap.size + 1, y.1 * 20, none⟩)] (by kernel_rfl) (by kernel_rfl) (fun wf hb hf => ?_) (fun t3 => ?_)
          · obtain ⟨rfl, rfl, -⟩ := hf
            refine ⟨?_⟩
            go_wp2
            exact ⟨rfl, .pointer (some ⟨w.heap.size + 1, y.1 * 20 + Y, none⟩), by kernel_rfl, Below.refl _ _, rfl⟩
          refine wf_stepK [3] [fun _ => t3 = .pointer (some ⟨w.heap.size + 1, y.1 * 20 + Y, none⟩)] (by kernel_rfl) (by kernel_rfl) (fun wf hb hf => ?_) (fun t4 => ?_)
          · obtain ⟨rfl, -⟩ := hf
            refine ⟨?_⟩
            have z := hcT wf hb
            go_wp2
            exact ⟨rfl, .int .i64 gv, by kernel_rfl, Below.refl _ _, rfl⟩
          refine wf_stepK [] [] (by kernel_rfl) (by kernel_rfl) (fun wf hb hf => ?_) (fun t5 => ?_)
          · refine ⟨?_⟩
            have z := (HS.out.2.2.2.2.2.1.below hb).cell 0
            simp at z
            go_wp2
            exact ⟨rfl, .int .i64 gv, by kernel_rfl, Below.refl _ _, rfl⟩
          refine wf_stepK [4, 5] [fun _ => t4 = .int .i64 gv, fun _ => t5 = .int .i64 gv] (by kernel_rfl) (by kernel_rfl) (fun wf hb hf => ?_) (fun t6 => ?_)
          · obtain ⟨rfl, rfl, -⟩ := hf
            refine ⟨?_⟩
            go_wp2
            exact ⟨rfl, .bool true, by kernel_rfl, Below.refl _ _, rfl⟩
          refine wf_doneK [6] [fun _ => t6 = .bool true] (by kernel_rfl) (by kernel_rfl) (fun w8 b8 hf => ?_)
          obtain ⟨rfl, -⟩ := hf
          show wpList _ _ _ [] _ _
          refine wpList_frame (by simp [Act.put]; rfl) ?_
          rw [wpList]
          have hS8 := HS.out.below b8
          have hg8 : GrownS W (w8.setCell ⟨w.heap.size + 1 + 1, 0, none⟩ (.int .i64 ((y.1 : Nat) : Int))) (fun k => k = w.heap.size + 1 + 1) := (GrownS.ofBelow (S := fun k => k = w.heap.size + 1 + 1) b8).set_ (p := ⟨w.heap.size + 1 + 1, 0, none⟩) rfl _
          have hkf : KeepsFrom w2.heap.size W (w8.setCell ⟨w.heap.size + 1 + 1, 0, none⟩ (.int .i64 ((y.1 : Nat) : Int))) := keepsFrom_grown hg8 (fun k o hk ho => by subst hk; exact blk_cells HS.out.2.2.2.1 o ho)
          have hnew : SpI w ds bL r T ((y.1 : Nat) : Int) (Y : Int) gv A c xs (w8.setCell ⟨w.heap.size + 1 + 1, 0, none⟩ (.int .i64 ((y.1 : Nat) : Int))) := by
            obtain ⟨m1, m2, m3, m4, m5, m6, m7, m8⟩ := hS8
            exact ⟨m1.cell m4 _ _, m2.far (by simp; omega) _, m3.far (by simp) _, m4.set_ 0 _, m5.far (by simp) _, m6.far (by simp; omega) _, IntsOwn.kept m7 (grownBy_setCell' _ _ _) (fun a ha e => by
              have hf := m7.form
              rcases hf with ⟨h0, _⟩ | ⟨g, h0, h1, h2⟩
              · rw [ha] at h0; cases h0
              · rw [ha] at h0; injection h0 with h0; subst h0; injection e with e; simp at e; omega), bset m8 (by simp; omega) _⟩
          have HNEW := Lib.hid (And.intro hkf hnew)
          have cX := hS8.2.2.2.1.cell 0
          have fX := hS8.2.2.2.1.frozen 0
          simp at cX
          clear hS8 hg8 hkf hnew HX hcT b8
          gi_wp2
          exact ⟨HNEW.out.1, rfl, pre, y, rfl, HP.out, HGT.out, HNEW.out.2⟩
        · have HG := Lib.hid hg
          clear hg
          refine wp_region_factsR [[], [], [0], [0, 1, 2], List.range 4, [], List.range 6]
            [fun v' _ => v' = .int .i64 ((y.1 : Nat) : Int), fun v' _ => v' = .int .i64 (Y : Int), fun v' _ => v' = .pointer (some ⟨w.heap.size + 1, y.1 * 20, none⟩), fun v' _ => v' = .pointer (some ⟨w.heap.size + 1, y.1 * 20 + Y, none⟩), fun v' _ => v' = .int .i64 gv, fun v' _ => v' = .int .i64 left, fun v' _ => v' = .bool false]
            (by kernel_rfl) (by kernel_rfl) rfl ⟨stable_pure _, stable_pure _, stable_pure _, stable_pure _, stable_pure _, stable_pure _, stable_pure _, trivial⟩ (by kernel_rfl) (fun _ _ h => by first | exact h | cases h) ?_
          refine wf_stepK [] [] (by kernel_rfl) (by kernel_rfl) (fun wf hb hf => ?_) (fun t0 => ?_)
          · refine ⟨?_⟩
            go_wp2
            exact ⟨rfl, .int .i64 ((y.1 : Nat) : Int), by kernel_rfl, Below.refl _ _, rfl⟩
          refine wf_stepK [] [] (by kernel_rfl) (by kernel_rfl) (fun wf hb hf => ?_) (fun t1 => ?_)
          · refine ⟨?_⟩
            have z := (HS.out.2.2.2.2.1.below hb).cell 0
            simp at z
            go_wp2
            exact ⟨rfl, .int .i64 (Y : Int), by kernel_rfl, Below.refl _ _, rfl⟩
          refine wf_stepK [0] [fun _ => t0 = .int .i64 ((y.1 : Nat) : Int)] (by kernel_rfl) (by kernel_rfl) (fun wf hb hf => ?_) (fun t2 => ?_)
          · obtain ⟨rfl, -⟩ := hf
            refine ⟨?_⟩
            go_wp2
            exact ⟨rfl, .pointer (some ⟨w.heap.size + 1, y.1 * 20, none⟩), by kernel_rfl, Below.refl _ _, rfl⟩
          refine wf_stepK [1, 2] [fun _ => t1 = .int .i64 (Y : Int), fun _ => t2 = .pointer (some ⟨w.heap.size + 1, y.1 * 20, none⟩)] (by kernel_rfl) (by kernel_rfl) (fun wf hb hf => ?_) (fun t3 => ?_)
          · obtain ⟨rfl, rfl, -⟩ := hf
            refine ⟨?_⟩
            go_wp2
            exact ⟨rfl, .pointer (some ⟨w.heap.size + 1, y.1 * 20 + Y, none⟩), by kernel_rfl, Below.refl _ _, rfl⟩
          refine wf_stepK [3] [fun _ => t3 = .pointer (some ⟨w.heap.size + 1, y.1 * 20 + Y, none⟩)] (by kernel_rfl) (by kernel_rfl) (fun wf hb hf => ?_) (fun t4 => ?_)
          · obtain ⟨rfl, -⟩ := hf
            refine ⟨?_⟩
            have z := hcT wf hb
            go_wp2
            exact ⟨rfl, .int .i64 gv, by kernel_rfl, Below.refl _ _, rfl⟩
          refine wf_stepK [] [] (by kernel_rfl) (by kernel_rfl) (fun wf hb hf => ?_) (fun t5 => ?_)
          · refine ⟨?_⟩
            have z := (HS.out.2.2.2.2.2.1.below hb).cell 0
            simp at z
            go_wp2
            exact ⟨rfl, .int .i64 left, by kernel_rfl, Below.refl _ _, rfl⟩
          refine wf_stepK [4, 5] [fun _ => t4 = .int .i64 gv, fun _ => t5 = .int .i64 left] (by kernel_rfl) (by kernel_rfl) (fun wf hb hf => ?_) (fun t6 => ?_)
          · obtain ⟨rfl, rfl, -⟩ := hf
            refine ⟨?_⟩
            have hg1 : (gv == left) = false := by simpa using HG.out
            go_wp2
            exact ⟨rfl, .bool false, by kernel_rfl, Below.refl _ _, rfl⟩
          refine wf_doneK [6] [fun _ => t6 = .bool false] (by kernel_rfl) (by kernel_rfl) (fun w8 b8 hf => ?_)
          obtain ⟨rfl, -⟩ := hf
          show wpList _ _ _ [] _ _
          refine wpList_frame (by simp [Act.put]; rfl) ?_
          rw [wpList]
          have HNEW := Lib.hid (And.intro (keepsFrom_grown (B := w2.heap.size) (GrownS.ofBelow (S := fun _ => False) b8) (fun _ _ h => h.elim)) (And.intro (kpO_below (Bs := [w.heap.size + 1 + 1]) hsW b8) (And.intro (HS.out.below b8) (fun z (hz : z ∈ pre ++ [y]) => (by
            rcases List.mem_append.1 hz with h | h
            · exact HP.out z h
            · rw [List.mem_singleton] at h; subst h; rw [HGT.out]; exact HG.out : getT T z.1 Y ≠ left)))))
          clear HX hcT b8
          gi_wp2
          exact HNEW.out
      case done =>
        rintro D ys W hD rfl hI hK
        exact absurd HN1.out.2 (hI.2 ⟨p1, hp20⟩ (List.mem_filter.2 ⟨List.mem_finRange _, HN1.out.1⟩))
      case stop =>
        rintro D cc pre W hD ⟨k', hk', hbit, rfl⟩ ⟨rfl, pre0, v, e, hp0, hv, hS⟩ hK
        obtain ⟨e1, e2⟩ := List.append_inj' e rfl
        injection e2 with e2
        subst e1; subst e2
        have hkp : k' = p1 := by
          rcases Nat.lt_trichotomy k' p1 with h | h | h
          · exact absurd hv (HN2.out k' h hbit)
          · exact h
          · exact absurd HN1.out.2 (hp0 ⟨p1, hp20⟩ (mem_vTo.2 ⟨h, HN1.out.1⟩))
        subst hkp
        simp only at hS
        have hM2 := hS.1.cons hK (by omega) (fun x hx => by have := hML x hx; omega)
        have hrow := hS.2.2.2.2.2.2.1
        have hlt := hS.2.2.2.2.2.1.lt
        have hcellA := row_cells hrow
        have hW1 := bal (Below.refl W.heap.size W) (.cells #[.int .i64 (k' : Int)] 3)
        have hrowlt := (fun q hq => World.ownsRow.lt hrow q hq)
        have cX := hS.2.2.2.1.cell 0
        simp at cX
        have HS := Lib.hid (And.intro hS (And.intro hM2 hcellA))
        have HRL := Lib.hid hrowlt
        have hrow1 := hrow.below hW1
        have hxsl : xs.length ≤ 401 := by have := HWL.out; omega
        have hbw := hS.2.2.2.2.2.2.2.size
        clear hS hM2 hcellA hW1 hrowlt hrow HX HI2 e hp0 hv hK hG hno hV1 ha
        gi_wp2_with (gi_at_builtin; go_loud (refine wpListIn_append_own_at _ rfl _ _ 24 rfl (w.heap.size + 1 + 1 + 1 + 1) 3 i0 (.int .i64 0) 1 8 Try.underlying24 hi0 hz0 hz1 hz2 rfl (by decide) _ _ _ rfl hrow1 ⟨W.heap.size, 0, none⟩ 1 1 [.int .i64 (k' : Int)] rfl rfl (intZ_src1 (k' : Int) _ rfl) (intZ_one1 _) (by unfold maxLen; omega) (by omega) (by simp; omega) ?_))
        intro v' w6 hown' hgrow _ hloc
        obtain ⟨A6, c6, rfl⟩ := own_slice hown'
        obtain ⟨⟨m1, m2, m3, m4, m5, m6, m7, m8⟩, hM2, hcA⟩ := HS.out
        have hrow6 : IntsOwn w6 (w.heap.size + 1 + 1 + 1 + 1) A6 c6 (walkP r T Y d X (k + 1)) := by
          rw [HSN.out]
          have : w6.ownsRow (w.heap.size + 1 + 1 + 1 + 1) 3 1 (.slice A6 (xs ++ [(k' : Int)]).length c6) (xs ++ [(k' : Int)]).length ((xs ++ [(k' : Int)]).map (Value.int .i64)) := by simpa using hown'
          exact this
        have hrb : ∀ q, (Value.slice A xs.length c).ownBlock = some q → w.heap.size + 1 + 1 + 1 + 1 ≤ q := fun q hq => (HRL.out q hq).1
        have hbr : ∀ (g : Nat) (t : TypeId) (cs : Array Value), Blk W g t cs → g < w.heap.size + 1 + 1 + 1 + 1 ∨ some g = some bL → Blk w6 g t cs := fun g t cs hb hc => by
          refine (hgrow.block g (by simp; have := hb.lt; omega) (fun e => ?_)).trans (hb.alloc _)
          rcases hc with hc | hc
          · have := hrb g e.symm; omega
          · rw [ownBlock_slice] at e; exact hAL (e.symm.trans hc)
        have n2 := hbr _ _ _ m2 (.inl (by omega))
        have n3 := hbr _ _ _ m3 (.inl (by omega))
        have n4 := hbr _ _ _ m4 (.inl (by omega))
        have n5 := hbr _ _ _ m5 (.inl (by omega))
        have n6 := hbr _ _ _ m6 (.inr rfl)
        have n1 : MarksAt (D :: ds) w.heap.size w6 := ⟨hM2.1, fun x hx => ⟨(hM2.2 x hx).1, by
          have hx1 := hM2.lt x hx
          refine (hgrow.block x (by simp; omega) (fun e => ?_)).trans ((Below.heap_alloc W _ x hx1).trans (hM2.2 x hx).2)
          rw [ownBlock_slice] at e
          have := hcA x _ e.symm (hM2.2 x hx).2
          cases this⟩⟩
        have n8 : Below w.heap.size w w6 := (bal m8 _).grown hgrow (by simp; omega) (fun q hq => by have := hrb q hq; omega)
        have hA6 : ∀ q, blk A6 = some q → q < w6.heap.size := fun q hq => (World.ownsRow.lt hown' q (by rw [ownBlock_slice]; exact hq)).2
        have HLN : Hid (xs.length + 1 = (walkP r T Y d X (k + 1)).length) := by rw [Hid, HSN.out]; simp
        have cL6 := n6.cell 0
        simp at cL6
        have HSP : Hid (∀ (o : Int), SpI w (D :: ds) w6.heap.size r T (k' : Int) (Y : Int) o A6 c6 (walkP r T Y d X (k + 1)) (w6.alloc (.cells #[.int .i64 o] 3))) := fun o => ⟨n1.below (bal (Below.refl _ _) _), n2.alloc _, n3.alloc _, n4.alloc _, n5.alloc _, Blk.newAt rfl, hrow6.below (bal (Below.refl _ _) _), bal n8 _⟩
        have HA6 := Lib.hid hA6
        have hs6 := n8.size
        have hs7 : w.heap.size + 1 + 1 + 1 + 1 < w6.heap.size := by have := n6.lt; omega
        clear m1 m2 m3 m4 m5 m6 m7 m8 hM2 hcA hrow6 hrb hbr n1 n2 n3 n4 n5 n6 n8 hA6 hown' hgrow hloc hrow1
        gi_wp2_with fail
        refine ⟨⟨D :: ds, k + 1, w6.heap.size, _, A6, c6, _, _, _, _, _, _, _, _, _, _, _, _, _, _, _, _, _, _, _, _, _, _, _, _, _, _, _, _, _, _, _, _, _, _, _, rfl, HLN.out, by omega, by omega, fun e => by have := HA6.out _ e; omega, ?_⟩, ?_⟩
        · rw [HPK.out, ← HL1.out]; exact HSP.out _
        · simp [slN]; omega
    · obtain rfl : k = d := by omega
      have hl0 : ((k - k : Nat) : Int) = 0 := by omega
      generalize hxs : walkP r T Y k X k = xs at *
      have HXS := Lib.hid hxs
      have hxsl : xs.length ≤ 401 := by have := HWL.out; omega
      clear hxs
      obtain ⟨m1, m2, m3, m4, m5, m6, m7, m8⟩ := hI
      have hlt := m6.lt
      have cY := m5.cell 0
      have cL := m6.cell 0
      simp at cY cL
      have hcA := row_cells m7
      have hW1 := bal (Below.refl wr.heap.size wr) (.cells #[.int .i64 (Y : Int)] 3)
      have hrow1 := m7.below hW1
      have hbw := m8.size
      have HS := Lib.hid (And.intro m1 (And.intro m7 (And.intro m8 hcA)))
      clear m1 m2 m3 m4 m5 m6 m7 m8 hcA hW1
      gi_wp2_with (gi_at_builtin; refine wpListIn_append_own_at _ rfl _ _ 24 rfl (w.heap.size + 1 + 1 + 1 + 1) 3 i0 (.int .i64 0) 1 8 Try.underlying24 hi0 hz0 hz1 hz2 rfl (by decide) _ _ _ rfl hrow1 ⟨wr.heap.size, 0, none⟩ 1 1 [.int .i64 (Y : Int)] rfl rfl (intZ_src1 (Y : Int) _ rfl) (intZ_one1 _) (by unfold maxLen; omega) (by omega) (by simp; omega) ?_)
      intro v' w6 hown' hgrow _ hloc
      obtain ⟨A6, c6, rfl⟩ := own_slice hown'
      obtain ⟨m1, m7, m8, hcA⟩ := HS.out
      have hrow6 : IntsOwn w6 (w.heap.size + 1 + 1 + 1 + 1) A6 c6 (xs ++ [(Y : Int)]) := by
        have : w6.ownsRow (w.heap.size + 1 + 1 + 1 + 1) 3 1 (.slice A6 (xs ++ [(Y : Int)]).length c6) (xs ++ [(Y : Int)]).length ((xs ++ [(Y : Int)]).map (Value.int .i64)) := by simpa using hown'
        exact this
      have hrb : ∀ q, (Value.slice A xs.length c).ownBlock = some q → w.heap.size + 1 + 1 + 1 + 1 ≤ q := fun q hq => (World.ownsRow.lt m7 q hq).1
      have n1 : MarksAt ds w.heap.size w6 := ⟨m1.1, fun x hx => ⟨(m1.2 x hx).1, by
        have hx1 := m1.lt x hx
        refine (hgrow.block x (by simp; omega) (fun e => ?_)).trans ((Below.heap_alloc wr _ x hx1).trans (m1.2 x hx).2)
        rw [ownBlock_slice] at e
        have := hcA x _ e.symm (m1.2 x hx).2
        cases this⟩⟩
      have n8 : Below w.heap.size w w6 := (bal m8 _).grown hgrow (by simp; omega) (fun q hq => by have := hrb q hq; omega)
      have HN := Lib.hid (And.intro n1 (And.intro n8 hrow6))
      clear m1 m7 m8 hcA hrow6 hrb n1 n8 hown' hgrow hloc hrow1
      gi_wp2_with fail
      refine leaves_marks ds _ HN.out.1 (fun w' hw' => ?_)
      refine ⟨_, results_tmp rfl _ _ _, A6, c6, by rw [HXS.out]; simp, ?_, hw'.below HN.out.2.1⟩
      rw [HXS.out]
      exact IntsOwn.mono (base := w.heap.size + 1 + 1 + 1 + 1) (intsOwn_off HN.out.2.2 hw') (by omega)
end Go.Proofs.Ytifjenleoagefaa

/- HELPER, no statement of the seat: the program's CertifyPath. -/
namespace Go.Proofs.Ytifjenleoagefaa
open Go.RowKit Go.Sort
set_option linter.unusedSimpArgs false
set_option linter.unusedVariables false

theorem abs_list {P : Program} {ops : Array Oper} {Q : Exit → Act → World → Prop} {l : List Oper} {a : Act} {w : World} (K : World → Prop) (h : K w) (k : ∀ w, K w → wpList P ops Q l a w) : wpList P ops Q l a w := k w h
set_option maxRecDepth 100000 in
set_option maxHeartbeats 6400000 in
theorem CertifyPath_i (A : Option Addr) (c : Nat) (es : List Ent) (x y : Int) (w : World) (hx : EntsAt w A es) (hn : es.length ≤ 4194304) (hr : rowsIn es 4194304) :
    Calls Try.prog 12 #[.slice A es.length c, .int .i64 x, .int .i64 y] w fun e w' => ∃ A' c', e = .returned (.tuple #[.slice A' (PthF es x y).length c', .bool (PthB es x y)]) ∧ IntsOwn w' w.heap.size A' c' (PthF es x y) ∧ Below w.heap.size w w' := by
  have hv := ValidEdges_i A c es w hx hn hr
  have no : PthB es x y = false → PthB es x y = false ∧ PthF es x y = [] := fun h => ⟨h, by simp [PthF, h]⟩
  have hvx := fun W => isVertex_w x W
  have hvy := fun W => isVertex_w y W
  cases h1 : edgB es
  · obtain ⟨HB', HF'⟩ := no (by simp [PthB, h1])
    rw [h1] at hv
    rw [HB', HF']
    clear h1 HB' HF' hx no
    go_enter Try.func12, Try.ntmps12
    go_wp2_with fail
    refine hv.mono ?_
    rintro e w1 ⟨rfl, b1⟩
    clear hv
    go_wp2
    exact bodyPost_ret (v := .tuple #[.slice none 0 0, .bool false]) (by simp [results, Try.results12, go_sem]) rfl ⟨none, 0, rfl, IntsOwn.nil, b1⟩
  have HX := Lib.hid hx
  rw [h1] at hv
  cases h2 : inB x 0 19
  · obtain ⟨HB', HF'⟩ := no (by simp [PthB, h1, h2])
    rw [h2] at hvx
    rw [HB', HF']
    clear h1 h2 HB' HF' hx no
    go_enter Try.func12, Try.ntmps12
    go_wp2_with fail
    refine hv.mono ?_
    rintro e w1 ⟨rfl, b1⟩
    clear hv
    go_wp2_with fail
    refine (hvx _).mono ?_
    rintro e wx ⟨rfl, rfl⟩
    go_wp2
    exact bodyPost_ret (v := .tuple #[.slice none 0 0, .bool false]) (by simp [results, Try.results12, go_sem]) rfl ⟨none, 0, rfl, IntsOwn.nil, b1⟩
  cases h3 : inB y 0 19
  · obtain ⟨HB', HF'⟩ := no (by simp [PthB, h1, h2, h3])
    rw [h2] at hvx
    rw [h3] at hvy
    rw [HB', HF']
    clear h1 h2 h3 HB' HF' hx no
    go_enter Try.func12, Try.ntmps12
    go_wp2_with fail
    refine hv.mono ?_
    rintro e w1 ⟨rfl, b1⟩
    clear hv
    go_wp2_with fail
    refine (hvx _).mono ?_
    rintro e wx ⟨rfl, rfl⟩
    go_wp2_with fail
    refine (hvy _).mono ?_
    rintro e wx ⟨rfl, rfl⟩
    go_wp2
    exact bodyPost_ret (v := .tuple #[.slice none 0 0, .bool false]) (by simp [results, Try.results12, go_sem]) rfl ⟨none, 0, rfl, IntsOwn.nil, b1⟩
  have hrx : 0 ≤ x ∧ x < 20 ∧ 0 ≤ y ∧ y < 20 := by
    simp only [inB, decide_eq_true_eq] at h2 h3; omega
  obtain ⟨X, rfl⟩ : ∃ X : Nat, x = X := ⟨x.toNat, by omega⟩
  obtain ⟨Y, rfl⟩ : ∃ Y : Nat, y = Y := ⟨y.toNat, by omega⟩
  have hX : X < 20 := by omega
  have hY : Y < 20 := by omega
  have hX' : (X : Int) < 20 := by omega
  have hY' : (Y : Int) < 20 := by omega
  have hro := relOf_ok h1
  have hdl := distT_len hro
  have hrl := fun W (hb : Below w.heap.size w W) => relationOf_i A c es W (hx.below entR hb) h1
  have hdis := fun W => distances_w (relOf es) W hro
  have hPB : PthB es (X : Int) (Y : Int) = decide (getT (distT (relOf es)) X Y ≠ 0) := by simp [PthB, h1, h2, h3]
  have hPF : PthB es (X : Int) (Y : Int) = true → PthF es (X : Int) (Y : Int) = pathL (relOf es) X Y := fun h => by rw [PthF, if_pos h]; simp
  have hgt := ints_at hdl hX hY
  have hfm := dist_form hro hX hY
  have hok := fun d (h : getT (distT (relOf es)) X Y = ((d + 1 : Nat) : Int)) => posP_ok hro hX hY h
  have hst := fun d (h : getT (distT (relOf es)) X Y = ((d + 1 : Nat) : Int)) k (hk : k < d) => posP_step hro hX hY h hk
  rw [h2] at hvx
  rw [h3] at hvy
  by_cases h0 : getT (distT (relOf es)) X Y = 0
  · obtain ⟨HB', HF'⟩ := no (by rw [hPB, h0]; rfl)
    rw [HB', HF']
    rw [h0] at hgt
    clear h1 h2 h3 HB' HF' hx no hPB hPF hfm hok hst h0 hrx
    generalize relOf es = r at *
    generalize distT r = T at *
    go_enter Try.func12, Try.ntmps12
    go_wp2_with fail
    refine hv.mono ?_
    rintro e w1 ⟨rfl, b1⟩
    clear hv
    go_wp2_with fail
    refine (hvx _).mono ?_
    rintro e wx ⟨rfl, rfl⟩
    go_wp2_with fail
    refine (hvy _).mono ?_
    rintro e wx ⟨rfl, rfl⟩
    go_wp2_with fail
    refine (hrl _ b1).mono ?_
    rintro e w2 ⟨rfl, b2⟩
    have hb2 := btr b1 b2
    clear hrl b1 b2 hvx hvy
    go_wp2_with (first | (refine wpList_store_row rfl 61 _ _ rfl w2.heap.size (relC r) rfl rfl 61 (relC zeroR) (Blk.newAt rfl) (sizeR hro) (by rw [relC_size, relC_size, zeroR_ok.len, hro.len]) (relC_one _) ?_; refine abs_list (fun W => Blk W w2.heap.size 61 (relC r) ∧ Below w.heap.size w W) ⟨(Blk.newAt rfl).row _, brow (bal hb2 _) hb2.size _⟩ ?_; rintro w3 ⟨k3, hb3⟩; have HB2 := Lib.hid hb2; clear hb2) | refine wpList_load_row rfl 61 _ rfl w2.heap.size rfl 61 (relC r) (0, 0) _ k3 underR rfl (sizeR hro) ?_ | (go_at_call 43; refine (hdis _).mono ?_; rintro e w4 ⟨rfl, b4⟩; have k4 := k3.below b4; have hb4 := btr hb3 b4; clear k3 hb3 b4 hdis) | (refine wpList_store_row rfl 65 _ _ rfl w4.heap.size (ints T) rfl rfl 65 (ints zeroT) (show Blk _ w4.heap.size 65 (ints zeroT) by rw [← zcT]; exact Blk.newAt rfl) (sizeDT_ hdl) (by rw [ints_size, ints_size, hdl, zeroT_len]) (ints_one2 _) ?_; refine abs_list (fun W => Blk W w2.heap.size 61 (relC r) ∧ Blk W w4.heap.size 65 (ints T) ∧ Below w.heap.size w W) ⟨(k4.alloc _).rowFar (by have := k4.lt; omega) _, (show Blk _ w4.heap.size 65 (ints zeroT) by rw [← zcT]; exact Blk.newAt rfl).row _, brow (bal hb4 _) hb4.size _⟩ ?_; rintro w5 ⟨k5, kT, hb5⟩; have cT := (kT.cell (X * 20 + Y)).trans hgt; have HB4 := Lib.hid hb4; have HK4 := Lib.hid k4; clear hb4 k4))
    exact bodyPost_ret (v := .tuple #[.slice none 0 0, .bool false]) (by simp [results, Try.results12, go_sem]) rfl ⟨none, 0, rfl, IntsOwn.nil, hb5⟩
  · have HB' : PthB es (X : Int) (Y : Int) = true := by rw [hPB]; simpa using h0
    have HF' := hPF HB'
    obtain ⟨d, hd4, hd⟩ : ∃ d : Nat, d < 400 ∧ getT (distT (relOf es)) X Y = ((d + 1 : Nat) : Int) := by
      rcases hfm with h | h
      · exact absurd h h0
      · exact h
    have hp1 := fun k hk => (hok d hd k hk).1
    have hp2 := fun k hk => And.intro (hst d hd k hk).1 (hst d hd k hk).2.2
    have hPL : pathL (relOf es) X Y = walkP (relOf es) (distT (relOf es)) Y d X d ++ [(Y : Int)] := by simp only [pathL, hd, Int.toNat_natCast, Nat.add_sub_cancel]
    rw [hPL] at HF'
    rw [HB', HF']
    have hsp := fun W => shortestPath_w (relOf es) (distT (relOf es)) X Y d W hro hdl hX hY hd4 hd hp1 hp2
    rw [hd] at hgt
    have hne : ((((d + 1 : Nat) : Int)) == 0) = false := by simp; omega
    clear h1 h2 h3 HB' HF' hx no hPB hPF hfm hok hst h0 hrx hp1 hp2 hPL hd
    generalize relOf es = r at *
    generalize distT r = T at *
    generalize walkP r T Y d X d ++ [(Y : Int)] = xs at *
    generalize ((d + 1 : Nat) : Int) = dv at *
    go_enter Try.func12, Try.ntmps12
    go_wp2_with fail
    refine hv.mono ?_
    rintro e w1 ⟨rfl, b1⟩
    clear hv
    go_wp2_with fail
    refine (hvx _).mono ?_
    rintro e wx ⟨rfl, rfl⟩
    go_wp2_with fail
    refine (hvy _).mono ?_
    rintro e wx ⟨rfl, rfl⟩
    go_wp2_with fail
    refine (hrl _ b1).mono ?_
    rintro e w2 ⟨rfl, b2⟩
    have hb2 := btr b1 b2
    clear hrl b1 b2 hvx hvy
    go_wp2_with (first | (refine wpList_store_row rfl 61 _ _ rfl w2.heap.size (relC r) rfl rfl 61 (relC zeroR) (Blk.newAt rfl) (sizeR hro) (by rw [relC_size, relC_size, zeroR_ok.len, hro.len]) (relC_one _) ?_; refine abs_list (fun W => Blk W w2.heap.size 61 (relC r) ∧ Below w.heap.size w W) ⟨(Blk.newAt rfl).row _, brow (bal hb2 _) hb2.size _⟩ ?_; rintro w3 ⟨k3, hb3⟩; have HB2 := Lib.hid hb2; clear hb2) | refine wpList_load_row rfl 61 _ rfl w2.heap.size rfl 61 (relC r) (0, 0) _ k3 underR rfl (sizeR hro) ?_ | (go_at_call 43; refine (hdis _).mono ?_; rintro e w4 ⟨rfl, b4⟩; have k4 := k3.below b4; have hb4 := btr hb3 b4; clear k3 hb3 b4 hdis) | (refine wpList_store_row rfl 65 _ _ rfl w4.heap.size (ints T) rfl rfl 65 (ints zeroT) (show Blk _ w4.heap.size 65 (ints zeroT) by rw [← zcT]; exact Blk.newAt rfl) (sizeDT_ hdl) (by rw [ints_size, ints_size, hdl, zeroT_len]) (ints_one2 _) ?_; refine abs_list (fun W => Blk W w2.heap.size 61 (relC r) ∧ Blk W w4.heap.size 65 (ints T) ∧ Below w.heap.size w W) ⟨(k4.alloc _).rowFar (by have := k4.lt; omega) _, (show Blk _ w4.heap.size 65 (ints zeroT) by rw [← zcT]; exact Blk.newAt rfl).row _, brow (bal hb4 _) hb4.size _⟩ ?_; rintro w5 ⟨k5, kT, hb5⟩; have cT := (kT.cell (X * 20 + Y)).trans hgt; have HB4 := Lib.hid hb4; have HK4 := Lib.hid k4; clear hb4 k4) | refine wpList_load_row rfl 61 _ rfl w2.heap.size rfl 61 (relC r) (0, 0) _ k5 underR rfl (sizeR hro) ?_ | refine wpList_load_row rfl 65 _ rfl w4.heap.size rfl 65 (ints T) (0, 0) _ kT underDT_ rfl (sizeDT_ hdl) ?_ | (go_at_call 44; refine (hsp _).mono ?_; rintro e w6 ⟨A6, c6, rfl, ho6, b6⟩; have HO6 := Lib.hid (And.intro (IntsOwn.mono ho6 hb5.size) (btr hb5 b6)); clear ho6 b6 cT hb5 k5 kT hsp))
    exact bodyPost_ret (v := .tuple #[.slice A6 xs.length c6, .bool true]) (by simp [results, Try.results12, go_sem]) rfl ⟨A6, c6, rfl, HO6.out.1, HO6.out.2⟩
theorem PthF_len (es : List Ent) (x y : Int) : (PthF es x y).length ≤ 402 := by
  unfold PthF
  split
  · rename_i h
    simp only [PthB, Bool.and_eq_true, decide_eq_true_eq, inB] at h
    obtain ⟨he, hx, hy, _⟩ := h
    have := dist_le (relOf_ok he) (x := x.toNat) (y := y.toNat) (by omega) (by omega)
    rw [pathL, List.length_append, walkP_len]
    simp; omega
  · simp
end Go.Proofs.Ytifjenleoagefaa
