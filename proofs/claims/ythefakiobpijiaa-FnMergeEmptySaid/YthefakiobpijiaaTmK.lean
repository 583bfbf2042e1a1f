/- HELPER, no statement of the seat: marks on lists of times. -/
import Derived.Test.YthefakiobpijiaaTms
import Derived.Test.YthefakiobpijiaaFrontL
import Derived.Test.YthefakiobpijiaaCap
namespace Go.Proofs.Ythefakiobpijiaa
open Go.RowKit Go.Sort
set_option linter.unusedSimpArgs false
set_option linter.unusedVariables false

/-- A row of times of its own, with the blocks that it lies in. -/
structure TmOwS (w : World) (S : Fp) (A : Option Addr) (c : Nat) (xs : List Tm) : Prop where
  lt : ∀ k, S k → k < w.heap.size
  top : ∀ k, blk A = some k → S k
  own : TmOwn w 0 A c xs
section
variable {w w' : World} {S T : Fp} {A : Option Addr} {c : Nat} {xs : List Tm}
theorem TmOwS.loc (h : TmOwS w S A c xs) (q : ∀ k, S k → w'.heap[k]? = w.heap[k]?) : TmOwS w' S A c xs :=
  ⟨fun k hk => lt_of_heap (q k hk) (h.lt k hk), h.top, h.own.loc (fun k hk => q k (h.top k hk))⟩
theorem TmOwS.below (h : TmOwS w S A c xs) (hb : Below w.heap.size w w') : TmOwS w' S A c xs := h.loc (fun k hk => hb.block k (h.lt k hk))
theorem TmOwS.kept (h : TmOwS w S A c xs) (hg : GrownS w w' T) (hd : ∀ k, S k → ¬ T k) : TmOwS w' S A c xs := h.loc (fun k hk => hg.block k (h.lt k hk) (hd k hk))
theorem TmOwn.ofBlk {base g : Nat} (h : Blk w g 117 (timeC xs)) (hb : base ≤ g) (hn : xs.length ≤ maxLen) : TmOwn w base (some ⟨g, 0, none⟩) xs.length xs := by
  have h1 : (timeC xs).size = xs.length * 2 := timeC_size xs
  have h2 : timeL xs = (timeC xs).toList.take (xs.length * 2) := by
    have e : timeC xs = (timeL xs).toArray := rfl
    have h3 := timeL_len xs
    rw [e]
    simp [← h3]
  exact ⟨timeL_len xs, .inr ⟨g, xs.length, timeC xs, rfl, hb, h, Nat.le_refl _, hn, by omega, h2.symm⟩⟩
theorem TmOwS.ofBlk {w0 : World} (h : Blk w w0.heap.size 117 (timeC xs)) (hn : xs.length ≤ maxLen) : TmOwS w (news w0 w) (some ⟨w0.heap.size, 0, none⟩) xs.length xs :=
  ⟨fun k hk => hk.2, fun k hk => by simp [blk] at hk; subst hk; exact ⟨Nat.le_refl _, h.lt⟩, TmOwn.ofBlk h (Nat.zero_le _) hn⟩
end
def marksT (k : Int) (n : Nat) : List Tm := (List.range n).map fun (j : Nat) => (k + 2 * (j : Int), k + 2 * (j : Int) + 1)
theorem marksT_length (k : Int) (n : Nat) : (marksT k n).length = n := by simp [marksT]
theorem timeL_set (l : List Tm) (x y : Int) {k : Nat} (hk : k < l.length) : ((timeL l).set (k * 2) (.int .i64 x)).set (k * 2 + 1) (.int .i64 y) = timeL (l.set k (x, y)) := by
  have h := congrArg Array.toList (timeC_set l x y k hk)
  have e : ∀ m, timeC m = (timeL m).toArray := fun _ => rfl
  rw [e, e] at h
  simpa using h
theorem markT_step (xs : List Tm) (k : Int) (j : Nat) (hj : j < xs.length) : (marksT k j ++ xs.drop j).set j (k + 2 * (j : Int), k + 2 * (j : Int) + 1) = marksT k (j + 1) ++ xs.drop (j + 1) := by
  rw [List.set_append_right _ _ (by simp [marksT]), show j - (marksT k j).length = 0 by simp [marksT], List.drop_eq_getElem_cons hj, List.set_cons_zero]
  simp [marksT, List.range_succ]
set_option maxHeartbeats 1600000 in
theorem markTimeS_any (S : Fp) (A : Option Addr) (c : Nat) (xs : List Tm) (k : Int) (w : World) (hx : TmOwS w S A c xs) (hn : xs.length ≤ 4194304) (hk0 : 0 ≤ k) (hk1 : k ≤ 4611686018427387904) :
    Calls Try.prog 91 #[.slice A xs.length c, .int .i64 k] w fun e w' => e = .returned (.int .i64 (k + 2 * (xs.length : Int))) ∧ TmOwS w' S A c (marksT k xs.length) ∧ GrownS w w' S := by
  rcases ownsRow_form hx.own with ⟨rfl, rfl, h0⟩ | ⟨g, rfl, _, hlt, _⟩
  · have h0' : xs = [] := List.eq_nil_of_length_eq_zero h0
    subst h0'
    clear h0
    have HX := Lib.hid hx
    clear hx
    go_enter Try.func91, Try.ntmps91
    go_wp2
    refine wp_loop_rounds 1 ?_
    rw [rounds_succ]
    go_wp2
    go_ret
    exact ⟨ret_intT (by simp), by simpa [marksT] using HX.out, GrownS.refl _ _⟩
  · have hSg : S g := hx.top g rfl
    have HX := Lib.hid hx
    clear hx
    go_enter Try.func91, Try.ntmps91
    go_wp2
    go_loopw [1, 5] (fun q i wr => ∃ j : Nat, j ≤ xs.length ∧ i = .int .i64 j ∧ q = .int .i64 (k + 2 * (j : Int)) ∧ wr.ownsRow 0 117 2 (.slice (some ⟨g, 0, none⟩) xs.length c) xs.length (timeL (marksT k j ++ xs.drop j)) ∧ GrownS w wr S) (fun _ i _ => xs.length - (intOf i).toNat)
    case atStart => exact ⟨0, by omega, rfl, by simp, (by have h := HX.out.own; unfold TmOwn at h; simpa [marksT] using h), GrownS.refl _ _⟩
    case round =>
      obtain ⟨j, hj, rfl, rfl, hown, hgr⟩ := hrel
      by_cases hjl : j < xs.length
      · have hll : (marksT k j ++ xs.drop j).length = xs.length := by simp [marksT]; omega
        have hce := World.ownsRow.cellAt hown (j * 2) (by omega)
        have hce1 := World.ownsRow.cellAt hown (j * 2 + 1) (by omega)
        have hg2 := timeL_get (marksT k j ++ xs.drop j) j (by omega)
        rw [hg2.1] at hce
        rw [hg2.2] at hce1
        have hfr := World.ownsRow.frozenAt hown (j * 2)
        have hfr1 := World.ownsRow.frozenAt hown (j * 2 + 1)
        have hst := (World.ownsRow.stored (World.ownsRow.stored hown (j * 2) (.int .i64 (k + 2 * (j : Int)))).1 (j * 2 + 1) (.int .i64 (k + 2 * (j : Int) + 1))).1
        rw [timeL_set _ _ _ (by omega), markT_step xs k j hjl] at hst
        have HS := Lib.hid hst
        have HG := Lib.hid hgr
        clear hst hown hgr hg2 hll
        go_wp2
        go_roundw
        case rel => exact ⟨j + 1, by omega, by go_num, by go_num, HS.out, (HG.out.set_ (p := ⟨g, j * 2, none⟩) hSg _).set_ (p := ⟨g, j * 2 + 1, none⟩) hSg _⟩
        case measure => simp [intOf]; omega
      · obtain rfl : j = xs.length := by omega
        have hl := marksT_length k xs.length
        have HO : Hid (TmOwS wr S (some ⟨g, 0, none⟩) c (marksT k xs.length)) := by
          refine ⟨fun q hq => Nat.lt_of_lt_of_le (HX.out.lt q hq) hgr.size, HX.out.top, ?_⟩
          rw [TmOwn, hl]
          simpa using hown
        have HG := Lib.hid hgr
        clear hown hgr
        go_wp2
        go_ret
        exact ⟨rfl, HO.out, HG.out⟩
end Go.Proofs.Ythefakiobpijiaa
