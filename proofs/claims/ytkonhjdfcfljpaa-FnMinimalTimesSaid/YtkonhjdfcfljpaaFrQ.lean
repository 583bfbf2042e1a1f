/- HELPER, no statement of the seat: the iterators of times: slices.Values; the joins of two antichains. -/
import Derived.Test.YtkonhjdfcfljpaaFrN
namespace Go.Proofs.Ytkonhjdfcfljpaa
open Go.RowKit Go.Sort Go.Shelf
set_option linter.unusedSimpArgs false
set_option linter.unusedVariables false
attribute [local go_sem] Oper.semAt_some

theorem Values_i (A : Option Addr) (n c : Nat) (w : World) :
    Calls Try.prog 95 #[.slice A n c] w fun e w' => e = .returned (.func (.func 134) #[] #[.pointer (some ⟨w.heap.size, 0, none⟩)]) ∧ Blk w' w.heap.size 30 #[.slice A n c] ∧ Below w.heap.size w w' := by
  go_enter Try.func95, Try.ntmps95
  go_wp2
  go_ret
  exact ⟨rfl, Blk.newAt rfl, bal (Below.refl _ _) _⟩
set_option maxRecDepth 100000 in
set_option maxHeartbeats 2000000 in
theorem values_stops (Bs : Nat) (A : Option Addr) (c : Nat) (xs : List Tm) (w : World) (hBs : Blk w Bs 30 #[.slice A xs.length c]) (hx : TimesAt w A xs) (hn : xs.length ≤ 4194304)  (Bl : List Nat) :
    ∀ w0, Below w.heap.size w w0 → GoodO Bl w.heap.size w0 → ∀ n, 1 ≤ n → SeqStopsK Fence.wide n Try.prog 134 #[.pointer (some ⟨Bs, 0, none⟩)] encT (KpO Bl w.heap.size) (fun ys => ys = xs) (fun _ => True) xs.length w0 := by
  intro w0 hw0 hgd n h1 l J Jx W hW' hJ hJx hY h0
  have hW : Below w.heap.size w W := btr hw0 hW'
  clear hgd hW' hw0
  have hb0 := (hBs.below hW).cell 0
  simp at hb0
  refine callsIn_of_wp Try.func134 rfl trivial ?_ rfl
  simp only [Try.ntmps134, List.size_toArray, List.length_cons, List.length_nil, Nat.reduceAdd, Nat.reduceSub, Array.replicate_succ, Array.replicate_zero, List.push_toArray, List.append_toArray, List.nil_append, List.cons_append]
  gi_wp2
  gi_loopw [7] (fun i wr => ∃ k : Nat, k ≤ xs.length ∧ i = .int .i64 k ∧ J (xs.take k) wr ∧ Below w.heap.size w wr) (fun i _ => xs.length - (intOf i).toNat)
  case atStart => exact ⟨0, Nat.zero_le _, rfl, by simpa using h0, hW⟩
  case round =>
    obtain ⟨k, hk, rfl, hJs, hbel⟩ := hrel
    by_cases hlt : k < xs.length
    · obtain ⟨b, off, rfl, hbl, hc⟩ := hx (by omega)
      have q1 := (hbel.cell (p := ⟨b, off + k * 2, none⟩) hbl).trans (hc k hlt).1
      have q2 := (hbel.cell (p := ⟨b, off + k * 2 + 1, none⟩) hbl).trans (hc k hlt).2
      rw [getD_lt _ hlt] at q1 q2
      clear hc
      obtain ⟨fn, tmps, assign, body, hy, hR⟩ := hY (xs.take k) xs[k] (wr.alloc (.cells #[.int .i64 xs[k].1, .int .i64 xs[k].2] 52)) (abides_below hJ hJs (bal (Below.refl _ _) _)) (by rw [List.length_take]; omega)
      have HT : Hid (xs.take (k + 1) = xs.take k ++ [xs[k]]) := List.take_succ_eq_append_getElem hlt
      have hba : Below w.heap.size w (wr.alloc (.cells #[.int .i64 xs[k].1, .int .i64 xs[k].2] 52)) := bal hbel _
      gi_wp2
      refine hR.mono ?_
      rintro e W3 (⟨rfl, hJ3, hk3⟩ | ⟨rfl, hJx3⟩)
      · gi_wp2
        go_roundw
        case rel => exact ⟨k + 1, by omega, by simp, by rw [HT.out]; exact hJ3, hba.trans hk3.1⟩
        case measure => simp [intOf]; omega
      · gi_wp2
        refine bodyPost_ret (results_none rfl _ _ _) rfl ?_
        exact ⟨⟨_, rfl⟩, .inr ⟨_, trivial, hJx3⟩⟩
    · obtain rfl : k = xs.length := by omega
      rw [List.take_length] at hJs
      gi_wp2
      go_end0
      exact ⟨⟨_, rfl⟩, .inl ⟨_, rfl, hJs⟩⟩

/-- The joins of the pairs, in their order. -/
def joinT (a b : Tm) : Tm := (max a.1 b.1, max a.2 b.2)
def joinsT (f g : List Tm) : List Tm := f.flatMap fun a => g.map (joinT a)
theorem joinsT_len (f g : List Tm) : (joinsT f g).length = f.length * g.length := by
  induction f with
  | nil => simp [joinsT]
  | cons a f ih =>
    have : joinsT (a :: f) g = g.map (joinT a) ++ joinsT f g := by simp [joinsT]
    rw [this, List.length_append, ih, List.length_map, List.length_cons, Nat.add_mul, Nat.one_mul, Nat.add_comm]
def joinsTo (f g : List Tm) (i k : Nat) : List Tm := joinsT (f.take i) g ++ ((g.take k).map (joinT (tg f i)))
theorem joinsTo_step (f g : List Tm) (i k : Nat) (hk : k < g.length) : joinsTo f g i (k + 1) = joinsTo f g i k ++ [joinT (tg f i) g[k]] := by
  unfold joinsTo
  rw [List.take_succ_eq_append_getElem hk, List.map_append, List.append_assoc]
  rfl
theorem joinsTo_next (f g : List Tm) (i : Nat) (hi : i < f.length) : joinsTo f g i g.length = joinsTo f g (i + 1) 0 := by
  unfold joinsTo
  rw [List.take_succ_eq_append_getElem hi, List.take_length, tg_lt hi]
  simp only [joinsT, List.flatMap_append, List.take_zero, List.map_nil, List.append_nil, List.flatMap_cons, List.flatMap_nil]
theorem joinsTo_end (f g : List Tm) : joinsTo f g f.length 0 = joinsT f g := by simp [joinsTo]
theorem joinsTo_len (f g : List Tm) (i k : Nat) (hi : i < f.length) (hk : k < g.length) : (joinsTo f g i k).length < (joinsT f g).length := by
  unfold joinsTo
  rw [List.length_append, joinsT_len, joinsT_len, List.length_map, List.length_take, List.length_take, Nat.min_eq_left (by omega), Nat.min_eq_left (by omega)]
  have h1 : (i + 1) * g.length ≤ f.length * g.length := Nat.mul_le_mul_right _ (by omega)
  rw [Nat.add_mul, Nat.one_mul] at h1
  omega
theorem joins_i (A B : Option Addr) (n c m d : Nat) (w : World) :
    Calls Try.prog 98 #[.slice A n c, .slice B m d] w fun e w' => e = .returned (.func (.func 137) #[] #[.pointer (some ⟨w.heap.size, 0, none⟩), .pointer (some ⟨w.heap.size + 1, 0, none⟩)]) ∧ Blk w' w.heap.size 106 #[.slice A n c] ∧ Blk w' (w.heap.size + 1) 106 #[.slice B m d] ∧ Below w.heap.size w w' := by
  go_enter Try.func98, Try.ntmps98
  go_wp2
  go_ret
  exact ⟨rfl, (Blk.newAt rfl).alloc _, Blk.newAt (by simp), bal (bal (Below.refl _ _) _) _⟩
set_option maxRecDepth 100000 in
set_option maxHeartbeats 6400000 in
theorem joins_stops (Bf Bg : Nat) (A B : Option Addr) (c d : Nat) (f g : List Tm) (w : World) (hBf : Blk w Bf 106 #[.slice A f.length c]) (hBg : Blk w Bg 106 #[.slice B g.length d]) (hf : TimesAt w A f) (hg : TimesAt w B g) (hn : f.length ≤ 4194304) (hm : g.length ≤ 4194304) (Bl : List Nat) :
    ∀ w0, Below w.heap.size w w0 → GoodO Bl w.heap.size w0 → ∀ n, 1 ≤ n → SeqStopsK Fence.wide n Try.prog 137 #[.pointer (some ⟨Bf, 0, none⟩), .pointer (some ⟨Bg, 0, none⟩)] encT (KpO Bl w.heap.size) (fun ys => ys = joinsT f g) (fun _ => True) (joinsT f g).length w0 := by
  intro w0 hw0 hgd n h1 l J Jx W hW' hJ hJx hY h0
  have hW : Below w.heap.size w W := btr hw0 hW'
  have hGW : GoodO Bl w.heap.size W := hgd.below hW'
  clear hgd hW' hw0
  have hb0 := (hBf.below hW).cell 0
  simp at hb0
  refine callsIn_of_wp Try.func137 rfl trivial ?_ rfl
  simp only [Try.ntmps137, List.size_toArray, List.length_cons, List.length_nil, Nat.reduceAdd, Nat.reduceSub, Array.replicate_succ, Array.replicate_zero, List.push_toArray, List.append_toArray, List.nil_append, List.cons_append]
  gi_wp2
  gi_loopw [10] (fun i wr => ∃ k : Nat, k ≤ f.length ∧ i = .int .i64 k ∧ J (joinsTo f g k 0) wr ∧ Below w.heap.size w wr ∧ GoodO Bl w.heap.size wr) (fun i _ => f.length - (intOf i).toNat)
  case atStart => exact ⟨0, Nat.zero_le _, rfl, by simpa [joinsTo, joinsT] using h0, hW, hGW⟩
  case round =>
    obtain ⟨k, hk, rfl, hJs, hbel, hgood⟩ := hrel
    by_cases hlt : k < f.length
    · obtain ⟨b, off, rfl, hbl, hc⟩ := hf (by omega)
      have q1 := (hbel.cell (p := ⟨b, off + k * 2, none⟩) hbl).trans (hc k hlt).1
      have q2 := (hbel.cell (p := ⟨b, off + k * 2 + 1, none⟩) hbl).trans (hc k hlt).2
      change _ = some (Value.int .i64 (tg f k).1) at q1
      change _ = some (Value.int .i64 (tg f k).2) at q2
      have hkF : Blk (wr.alloc (.cells #[.int .i64 (tg f k).1, .int .i64 (tg f k).2] 52)) wr.heap.size 52 #[.int .i64 (tg f k).1, .int .i64 (tg f k).2] := Blk.newAt rfl
      have hba0 : Below wr.heap.size wr (wr.alloc (.cells #[.int .i64 (tg f k).1, .int .i64 (tg f k).2] 52)) := bal (Below.refl _ _) _
      have hJ1 := abides_below hJ hJs hba0
      have hba := btr hbel hba0
      have hg1 := hgood.below hba0
      have hno := owB_fresh hgood hba0 (Nat.le_refl wr.heap.size)
      have hg0 := (hBg.below hba).cell 0
      simp at hg0
      obtain ⟨FB, hFB⟩ : ∃ FB, FB = wr.heap.size := ⟨_, rfl⟩
      have HN := Lib.hid (joinsTo_next f g k hlt)
      clear hc
      gi_wp2
      rw [← hFB] at hkF hno ⊢
      clear hFB hJs hbel hgood hba0 q1 q2 hg0
      obtain ⟨Wo, hWo⟩ : ∃ Wo, Wo = wr.alloc (.cells #[.int .i64 (tg f k).1, .int .i64 (tg f k).2] 52) := ⟨_, rfl⟩
      rw [← hWo] at hkF hno hJ1 hba hg1 ⊢
      clear hWo
      obtain ⟨V, rfl⟩ : ∃ V : World, V = wr := ⟨_, rfl⟩
      gi_loopw [16] (fun i wr => ∃ j : Nat, j ≤ g.length ∧ i = .int .i64 j ∧ J (joinsTo f g k j) wr ∧ Below w.heap.size w wr ∧ GoodO Bl w.heap.size wr ∧ Blk wr FB 52 #[.int .i64 (tg f k).1, .int .i64 (tg f k).2] ∧ ¬ OwB Bl wr FB) (fun i _ => g.length - (intOf i).toNat)
      case atStart => exact ⟨0, Nat.zero_le _, rfl, hJ1, hba, hg1, hkF, hno⟩
      case round =>
        obtain ⟨j, hj, rfl, hJs, hbel, hgood, hkF, hno⟩ := hrel
        by_cases hlj : j < g.length
        · obtain ⟨b2, off2, rfl, hbl2, hc⟩ := hg (by omega)
          have q1 := (hbel.cell (p := ⟨b2, off2 + j * 2, none⟩) hbl2).trans (hc j hlj).1
          have q2 := (hbel.cell (p := ⟨b2, off2 + j * 2 + 1, none⟩) hbl2).trans (hc j hlj).2
          rw [getD_lt _ hlj] at q1 q2
          have hba0 : Below wr.heap.size wr (wr.alloc (.cells #[.int .i64 g[j].1, .int .i64 g[j].2] 52)) := bal (Below.refl _ _) _
          have f0 := (hkF.below hba0).cell 0
          have f1 := (hkF.below hba0).cell 1
          simp at f0 f1
          have hlen := joinsTo_len f g k j hlt hlj
          have HS := Lib.hid (joinsTo_step f g k j hlj)
          clear hc
          gi_wp2_with (refine ⟨trivial, ?_⟩; gi_at_call 138; refine (callsIn_wide.2 (timeJoin_i _ _ _ _ _)).mono ?_; rintro e w2 ⟨rfl, hb2⟩; obtain ⟨fn, tmps, assign, body, hy, hR⟩ := hY (joinsTo f g k j) (joinT (tg f k) g[j]) w2 (abides_below hJ hJs (btr hba0 hb2)) hlen; simp only [encT, joinT] at hy)
          refine hR.mono ?_
          have hbb := btr hba0 hb2
          rintro e W3 (⟨rfl, hJ3, hk3⟩ | ⟨rfl, hJx3⟩)
          · have hx3 := hk3.blk (hgood.below hbb) (hkF.below hbb) (fun ho => hno ((owB_same (fun B hB => hbb.block B (hgood.1 B hB).2) FB).1 ho))
            have HX3 := Lib.hid hx3
            clear hx3 hR hy
            gi_wp2
            go_roundw
            case rel => exact ⟨j + 1, by omega, by simp, by rw [HS.out]; exact hJ3, (btr hbel hbb).trans hk3.1, HX3.out.2.1, HX3.out.1, HX3.out.2.2⟩
            case measure => simp [intOf]; omega
          · gi_wp2
            refine bodyPost_ret (results_none rfl _ _ _) rfl ?_
            exact ⟨⟨_, rfl⟩, .inr ⟨_, trivial, hJx3⟩⟩
        · obtain rfl : j = g.length := by omega
          rw [HN.out] at hJs
          gi_wp2
          go_roundw
          case rel => exact ⟨k + 1, by omega, by simp, hJs, hbel, hgood⟩
          case measure => simp [intOf]; omega
    · obtain rfl : k = f.length := by omega
      rw [joinsTo_end] at hJs
      gi_wp2
      go_end0
      exact ⟨⟨_, rfl⟩, .inl ⟨_, rfl, hJs⟩⟩
end Go.Proofs.Ytkonhjdfcfljpaa
