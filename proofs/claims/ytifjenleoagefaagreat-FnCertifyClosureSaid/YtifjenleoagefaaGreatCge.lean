/- HELPER, no statement of the seat: several texts in one file. -/
import Derived.Test.YtifjenleoagefaaGreatRc
import Derived.Test.YtifjenleoagefaaGreatCgh
import Derived.Test.YtifjenleoagefaaGreatCgc
import Derived.Test.YtifjenleoagefaaGreatCgg
/- HELPER, no statement of the seat: the vertices of a set, one by one; where the loop stops, it is told which came before. -/
namespace Go.Proofs.YtifjenleoagefaaGreat
open Go.RowKit Go.Sort Go.Shelf
set_option linter.unusedSimpArgs false
set_option linter.unusedVariables false
attribute [local go_sem] Oper.semAt_some

set_option maxRecDepth 100000 in
set_option maxHeartbeats 3200000 in
theorem vertices_stopsP (Bs : Nat) (a : Nat) (n₀ : Nat) (w0 : World) (Bl : List Nat) (hBs : Blk w0 Bs 47 #[.int .u32 (a : Int)]) (ha : a < 1048576) (hgd : GoodO Bl n₀ w0) (hno : ¬ OwB Bl w0 Bs) :
    ∀ n, 1 ≤ n → SeqStopsK Fence.wide n Tryz.prog 57 #[.pointer (some ⟨Bs, 0, none⟩)] encN (KpO Bl n₀) (fun ys => ys = vtxF a) (fun pre => ∃ k, ∃ hk : k < 20, a.testBit k = true ∧ pre = vTo a k ++ [⟨k, hk⟩]) (vtxF a).length w0 := by
  intro n h1 l J Jx W hW' hJ hJx hY h0
  have hW : KpV Bl n₀ Bs a W := KpV.below ⟨hBs, hgd, hno⟩ hW'
  clear hgd hW' hBs hno
  refine callsIn_of_wp Tryz.func57 rfl trivial ?_ rfl
  simp only [Tryz.ntmps57, List.size_toArray, List.length_cons, List.length_nil, Nat.reduceAdd, Nat.reduceSub, Array.replicate_succ, Array.replicate_zero, List.push_toArray, List.append_toArray, List.nil_append, List.cons_append]
  gi_wp2
  gi_loopw [4] (fun i wr => ∃ k : Nat, k ≤ 20 ∧ i = .int .i64 k ∧ J (vTo a k) wr ∧ KpV Bl n₀ Bs a wr) (fun i _ => 20 - (intOf i).toNat)
  case atStart => exact ⟨0, Nat.zero_le _, rfl, h0, hW⟩
  case round =>
    obtain ⟨k, hk, rfl, hJs, hbel⟩ := hrel
    by_cases hlt : k < 20
    · have hb0 := hbel.1.cell 0
      simp at hb0
      have hlt' : (k : Int) < 20 := by omega
      have hset := setOfVertex_w k hlt
      cases hbit : a.testBit k
      · have hand := and_no (show a < 4294967296 by omega) hlt hbit
        have HV := Lib.hid (vTo_no hlt hbit)
        have HB := Lib.hid hbel
        have HJ := Lib.hid hJs
        clear hbit hbel hJs
        have c0 := cgrow hb0
        have hsb := fun W => (hset W).mono (fun e w' (h : e = _ ∧ W = w') => (⟨h.1, h.2 ▸ Below.refl _ _⟩ : e = _ ∧ Below W.heap.size W w'))
        gi_wp2_with fail
        refine wpIn_region_quiet_below rfl (by kernel_rfl) (by kernel_rfl) ?_
        repeat (gi_big_quiet_step (fail))
        refine Go.BigFrame.wpQuietIn_want (askedIn_wide _ _ _ _) (by kernel_rfl) (fun K hK => ?_)
        gi_big_quiet_op
        apply Exists.intro
        refine ⟨fun _ => ?_, ?_⟩
        · gi_at_call 51
          exact CallsIn.regrown_of (callsIn_wide.2 (hsb _))
        refine hK _ ?_
        repeat (gi_big_quiet_step (fail))
        refine Go.BigFrame.wpQuietIn_skip (askedIn_wide _ _ _ _) (by kernel_rfl) (wpQuietIn_frame (by simp [Act.put]; rfl) ?_)
        repeat (gi_big_quiet_step (fail))
        refine wpQuietIn_nil ?_
        rintro wq ⟨p, rfl⟩
        have HJ2 := Lib.hid (abides_below hJ HJ.out (below_regrown wr p.d p.os))
        have HB2 := Lib.hid (HB.out.below (below_regrown wr p.d p.os))
        clear c0 hb0 hand hset hsb HJ HB
        generalize grow (redrawn wr p.d) p.os = wq at *
        gi_wp2
        go_roundw
        case rel => exact ⟨k + 1, by omega, by simp, by rw [HV.out]; exact HJ2.out, HB2.out⟩
        case measure => simp [intOf]; omega
      · have hand := and_yes (show a < 4294967296 by omega) hlt hbit
        have hne := bitOf_ne k
        obtain ⟨fn, tmps, assign, body, hy, hR⟩ := hY (vTo a k) ⟨k, hlt⟩ wr.drew (abides_below hJ hJs (Below.refl _ _).drew) (vTo_lt hbit hlt)
        have HBIT := Lib.hid hbit
        have HV := Lib.hid (vTo_yes hlt hbit)
        have HB := Lib.hid hbel
        clear hbit hbel hJs
        gi_wp2_with fail
        have hR2 := hR.mono (fun e W3 (h : (e = _ ∧ _ ∧ _) ∨ (e = _ ∧ _)) => (h.elim (fun h => ⟨true, h.1, .inl ⟨rfl, h.2⟩⟩) (fun h => ⟨false, h.1, .inr ⟨rfl, h.2⟩⟩) : ∃ b : Bool, e = .returned (.bool b) ∧ (b = true ∧ J (vTo a k ++ [⟨k, hlt⟩]) W3 ∧ KpO Bl n₀ wr.drew W3 ∨ b = false ∧ Jx (vTo a k ++ [⟨k, hlt⟩]) W3)))
        clear hR
        gi_region_with (first | (refine ⟨trivial, ?_⟩; gi_at_call 51; refine (callsIn_wide.2 (hset _)).mono ?_; rintro e w2 ⟨rfl, rfl⟩) | (refine hR2.mono ?_; rintro e W3 ⟨bb, rfl, hbb⟩))
        all_goals
          rcases hbb with ⟨rfl, hJ3, hk3⟩ | ⟨rfl, hJx3⟩
          · have HJ3 := Lib.hid hJ3
            have HK3 := Lib.hid hk3
            clear hJ3 hk3
            gi_wp2
            go_roundw
            case rel => exact ⟨k + 1, by omega, by simp, by rw [HV.out]; exact HJ3.out, (HB.out.below (Below.refl _ _).drew).kp HK3.out⟩
            case measure => simp [intOf]; omega
          · gi_wp2
            refine bodyPost_ret (results_none rfl _ _ _) rfl ?_
            exact ⟨⟨_, rfl⟩, .inr ⟨_, ⟨k, hlt, HBIT.out, rfl⟩, hJx3⟩⟩
    · obtain rfl : k = 20 := by omega
      rw [vTo_end] at hJs
      gi_wp2
      go_end0
      exact ⟨⟨_, rfl⟩, .inl ⟨_, rfl, hJs⟩⟩
end Go.Proofs.YtifjenleoagefaaGreat

/- HELPER, no statement of the seat: the program's shortestPath: a range over an iterator that is left by break, inside a loop. -/
namespace Go.Proofs.YtifjenleoagefaaGreat
open Go.RowKit Go.Sort Go.Shelf
set_option linter.unusedSimpArgs false
set_option linter.unusedVariables false
attribute [local go_sem] Oper.semAt_some

theorem goodV {B n₀ : Nat} {W : World} {t : TypeId} {x : Int} (h : Blk W B t #[.int .i64 x]) (hn : n₀ ≤ B) : GoodO [B] n₀ W ∧ ∀ k, OwB [B] W k → k = B := by
  have hr : ∀ k, ¬ RowOf W B k := by
    rintro k ⟨n, c, T, e⟩
    rw [show W.heap[B]? = _ from h] at e
    injection e with e
    injection e with e
    have := congrArg (fun a : Array Value => a[0]?) e
    simp at this
  have ho : ∀ k, OwB [B] W k → k = B := by
    rintro k ⟨B', hB', rfl | h'⟩
    · simpa using hB'
    · simp at hB'; subst hB'; exact absurd h' (hr k)
  refine ⟨⟨fun B' hB' => ?_, fun k hk => ?_⟩, ho⟩
  · simp at hB'; subst hB'; exact ⟨hn, h.lt⟩
  · rw [ho k hk]; exact ⟨hn, h.lt⟩
/-- What stands in a turn: the boxes, the path so far. -/
def SpI (w : World) (ds : List Nat) (bL : Nat) (r : List Nat) (T : List Int) (x y left : Int) (A : Option Addr) (c : Nat) (xs : List Int) (W : World) : Prop :=
  MarksAt ds w.heap.size W ∧ Blk W w.heap.size 49 (relC r) ∧ Blk W (w.heap.size + 1) 67 (ints T) ∧ Blk W (w.heap.size + 1 + 1) 3 #[.int .i64 x] ∧ Blk W (w.heap.size + 1 + 1 + 1) 3 #[.int .i64 y] ∧ Blk W bL 3 #[.int .i64 left] ∧ IntsOwn W (w.heap.size + 1 + 1 + 1 + 1) A c xs ∧ Below w.heap.size w W
theorem SpI.below {w : World} {ds : List Nat} {bL : Nat} {r : List Nat} {T : List Int} {x y left : Int} {A : Option Addr} {c : Nat} {xs : List Int} {W W' : World} (h : SpI w ds bL r T x y left A c xs W) (hb : Below W.heap.size W W') : SpI w ds bL r T x y left A c xs W' :=
  ⟨h.1.below hb, h.2.1.below hb, h.2.2.1.below hb, h.2.2.2.1.below hb, h.2.2.2.2.1.below hb, h.2.2.2.2.2.1.below hb, h.2.2.2.2.2.2.1.below hb, btr h.2.2.2.2.2.2.2 hb⟩
theorem intsOwn_own {β : Type} (base : Nat) (A : Option Addr) (c : Nat) (xs : List Int) : Own (fun (_ : β) W => IntsOwn W base A c xs) := by
  rintro s X Y row h hg hrow
  refine IntsOwn.kept h hg (fun a ha e => ?_)
  obtain ⟨o, ho, hc⟩ := hrow _ e
  rw [row_cells h _ o (by rw [ha]; rfl) ho] at hc
  cases hc
theorem spI_own {β : Type} (w : World) (ds : List Nat) (bL : Nat) (r : List Nat) (T : List Int) (x y left : β → Int) (A : Option Addr) (c : Nat) (xs : List Int) {B : Nat} (hB : w.heap.size ≤ B) (hd : ∀ D ∈ ds, D < B) : OwnFrom B (fun s W => SpI w ds bL r T (x s) (y s) (left s) A c xs W) :=
  OwnFrom.and (marks_own hd) (OwnFrom.and ((ownBlk _ _ (fun _ : β => relC r)).from _) (OwnFrom.and ((ownBlk _ _ (fun _ : β => ints T)).from _) (OwnFrom.and ((ownBlk _ _ (fun s : β => #[.int .i64 (x s)])).from _) (OwnFrom.and ((ownBlk _ _ (fun s : β => #[.int .i64 (y s)])).from _) (OwnFrom.and ((ownBlk _ _ (fun s : β => #[.int .i64 (left s)])).from _) (OwnFrom.and ((intsOwn_own _ A c xs).from _) (ownFrom_below (Nat.le_refl _) hB)))))))
theorem kpO_cellV {W : World} {g n₀ : Nat} {t : TypeId} {a b : Int} (h : Blk W g t #[.int .i64 a]) (hn : n₀ ≤ g) : KpO [g] n₀ W (W.drew.setCell ⟨g, 0, none⟩ (.int .i64 b)) ∧ ∀ B, KeepsFrom B W (W.drew.setCell ⟨g, 0, none⟩ (.int .i64 b)) := by
  have hW' : Blk (W.drew.setCell ⟨g, 0, none⟩ (.int .i64 b)) g t #[.int .i64 b] := h.drew.set_ 0 _
  obtain ⟨g1, o1⟩ := goodV (n₀ := n₀) h hn
  obtain ⟨g2, o2⟩ := goodV (n₀ := n₀) hW' hn
  have hg := grown_cell W g 0 (.int .i64 b)
  refine ⟨kpO_grown hg (Nat.le_trans hn (Nat.le_of_lt h.lt)) (fun k hk => ⟨by rw [hk]; exact hn, fun _ => ⟨g, by simp, .inl hk⟩⟩) (fun k hk _ => ⟨g, by simp, .inl (o2 k hk)⟩) (fun _ => g2), fun B => keepsFrom_grown hg (fun k o hk ho => ?_)⟩
  subst hk
  exact blk_cells h o ho
theorem mem_vTo {a k : Nat} {y : Fin 20} : y ∈ vTo a k ↔ y.1 < k ∧ a.testBit y.1 = true := by
  unfold vTo
  rw [List.mem_filter]
  refine and_congr_left (fun _ => ?_)
  constructor
  · intro h
    obtain ⟨i, hi, e⟩ := List.getElem_of_mem h
    rw [List.length_take] at hi
    rw [List.getElem_take] at e
    simp at e
    rw [← e]; simp; omega
  · intro h
    refine List.mem_iff_getElem.2 ⟨y.1, by simp; omega, ?_⟩
    rw [List.getElem_take]; simp
theorem abs_worldIn {F : Fence} {n : Nat} {P : Program} {Q : Exit → Act → World → Prop} {c : Code} {a : Act} {w : World} (K : World → Prop) (h : K w) (k : ∀ w, K w → c.wpIn F n P Q a w) : c.wpIn F n P Q a w := k w h
theorem litPath {w : World} {x : Int} {b : Nat} (h : w.heap.size = b) : IntsOwn (w.alloc (.cells #[.int .i64 x] 3)) b (some ⟨b, 0, none⟩) 1 [x] := by
  subst h
  exact World.ownsRow_lit (base := w.heap.size) (size := 1) (e := 3) w #[.int .i64 x] 1 (Nat.le_refl _) (by simp [maxLen]) (by simp)
theorem intsOwn_off {w w' : World} {b base : Nat} {A : Option Addr} {c : Nat} {xs : List Int} (h : IntsOwn w base A c xs) (ho : MarkOff b w w') : IntsOwn w' base A c xs := by
  refine ⟨h.1, ?_⟩
  rcases h.2 with h2 | ⟨g, cap, cur, e, hb, hg, h3⟩
  · exact .inl h2
  · exact .inr ⟨g, cap, cur, e, hb, ho.cells g _ hg rfl, h3⟩
def slN : Value → Nat
  | .slice _ n _ => n
  | _ => 0
end Go.Proofs.YtifjenleoagefaaGreat

/- HELPER, no statement of the seat: the program's CertifyPath. -/
namespace Go.Proofs.YtifjenleoagefaaGreat
open Go.RowKit Go.Sort
set_option linter.unusedSimpArgs false
set_option linter.unusedVariables false

theorem abs_list {P : Program} {ops : Array Oper} {Q : Exit → Act → World → Prop} {l : List Oper} {a : Act} {w : World} (K : World → Prop) (h : K w) (k : ∀ w, K w → wpList P ops Q l a w) : wpList P ops Q l a w := k w h
theorem PthF_len (es : List Ent) (x y : Int) : (PthF es x y).length ≤ 402 := by
  unfold PthF
  split
  · rename_i h
    simp only [PthB, Bool.and_eq_true, decide_eq_true_eq, inB] at h
    obtain ⟨he, hx, hy, _⟩ := h
    have := dist_le (relOf_ok he) (x := x.toNat) (y := y.toNat) (by omega) (by omega)
    rw [pathL, List.length_append, walkP_len]
    simp; omega
  · simp
end Go.Proofs.YtifjenleoagefaaGreat
