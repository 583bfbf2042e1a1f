/- HELPER, no statement of the seat: several texts in one file. -/
import Derived.Test.YthefakiobpijiaaDrh
import Derived.Test.YthefakiobpijiaaMee
/- HELPER, no statement of the seat: the generators of lists of updates and of traces: whatever the code, they give short lists with small weights. -/
namespace Go.Proofs.Ythefakiobpijiaa
open Go.RowKit Go.Sort
set_option linter.unusedSimpArgs false
set_option linter.unusedVariables false

section
variable {w w' : World} {g : Nat}
theorem updsG {S : Fp} {B : Option Addr} {d : Nat} {z : List Upd} (h : UpdsOw w S B d z) (hg : w.grownBy w' (some g)) (hS : ∀ k, S k → g < k) : UpdsOw w' S B d z :=
  h.loc updO (fun k hk => hg.block k (h.lt k hk) (fun e => by injection e with e; have := hS k hk; omega))
end
/-- One more update, out of a box, beside whatever else has turned. -/
theorem SlF.pushG {w1 w2 : World} {S : Fp} {b1 base : Nat} {A : Option Addr} {c : Nat} {es : List Upd} {css : List (List Value)} {F : Nat → Fp} {v' : Value} {RA : Option Addr} {rc : Nat} {xs : List Int} {p q x : Int}
    (h : SlF UpdO 4 119 w1 S A c es css F) (hS : ∀ k, S k → k < b1) (hb : b1 ≤ w1.heap.size) (ho : IntsOwn w1 b1 RA rc xs)
    (hrow : w2.ownsRow base 119 4 v' (es.length + 1) (css.flatten ++ [.slice RA xs.length rc, .int .i64 p, .int .i64 q, .int .i64 x]))
    (hg : (w1.alloc (.cells #[.slice RA xs.length rc, .int .i64 p, .int .i64 q, .int .i64 x] 119)).grownBy w2 (blk A)) (hl : ∀ k, v'.ownBlock = some k → blk A = some k ∨ w1.heap.size + 1 ≤ k) :
    ∃ A' c', v' = .slice A' (es.length + 1) c' ∧ UpdsOw w2 (fun k => S k ∨ (b1 ≤ k ∧ k < w2.heap.size)) A' c' (es ++ [((xs, (p, q)), x)]) ∧ GrownS w1 w2 S := by
  obtain ⟨A', c', rfl⟩ := own_slice hrow
  rw [ownBlock_slice] at hl
  have hs2 := hg.size
  simp at hs2
  have hel : UpdO w1 (fun k => b1 ≤ k ∧ k < w1.heap.size) [.slice RA xs.length rc, .int .i64 p, .int .i64 q, .int .i64 x] ((xs, (p, q)), x) := UpdO.mk (fun k hk => hk.2) (fun k hk => by
    rcases ownsRow_form ho with ⟨e, _⟩ | ⟨g, e, hg1, hg2, _⟩
    · rw [e] at hk; cases hk
    · rw [e] at hk; simp [blk] at hk; subst hk; exact ⟨hg1, hg2⟩) (ho.mono (Nat.zero_le _))
  have hb2 : ∀ k, k < w1.heap.size → blk A ≠ some k → w2.heap[k]? = w1.heap[k]? := fun k hk hn => (hg.block k (by simp; omega) (fun e => hn e.symm)).trans (Below.heap_alloc _ _ _ hk)
  have hlt2 : ∀ k, blk A' = some k → k < w2.heap.size := fun k hk => (World.ownsRow.lt hrow k (by rw [ownBlock_slice]; exact hk)).2
  refine ⟨A', c', rfl, ⟨_, _, h.push updO hel (fun k h1 h2 => by have := h1.1; have := hS k h2; omega) (ownsRow_base0 hrow) hb2 (fun k hk => ?_) (fun k hk => ?_) (fun k hk => ?_)⟩, (GrownS.ofBelow (bal (Below.refl _ _) _)).trans (GrownS.ofGrown hg (fun q hq => h.top q hq))⟩
  · rcases hl k hk with h | h
    · exact .inl h
    · right; omega
  · rcases hk with hk | hk | hk
    · exact .inl hk
    · exact .inr ⟨hk.1, by have := hk.2; omega⟩
    · rcases hl k hk with h' | h'
      · exact .inl (h.top k h')
      · exact .inr ⟨by omega, hlt2 k hk⟩
  · rcases hk with hk | hk
    · have := h.lt k hk; omega
    · exact hk.2

/-- A short list of updates, and the reader asked at most t times more. -/
def UD (w : World) (g : Nat) (A : Option Addr) (n c : Nat) (p : Int) (t : Int) (m : Nat) (e : Ending) (w' : World) : Prop :=
  ∃ (z : List Upd) (A' : Option Addr) (c' : Nat) (q : Int), e = .returned (.slice A' z.length c') ∧ UpdsOw w' (news w w') A' c' z ∧ z.length ≤ m ∧ rowsU z 7 ∧ wIn z 2 ∧ p ≤ q ∧ q ≤ p + t ∧ Rdr w' g A n c q ∧ w.grownBy w' (some g)
theorem rowsU_snoc {z : List Upd} {n : Nat} (h : rowsU z n) {u : Upd} (hu : u.1.1.length ≤ n) : rowsU (z ++ [u]) n := fun e he => by
  rcases List.mem_append.1 he with he | he
  · exact h e he
  · simp at he; subst he; exact hu
theorem wInU_snoc {z : List Upd} {b : Int} (h : wIn z b) {u : Upd} (hu : -b ≤ u.2 ∧ u.2 ≤ b) : wIn (z ++ [u]) b := fun e he => by
  rcases List.mem_append.1 he with he | he
  · exact h e he
  · simp at he; subst he; exact hu
set_option maxRecDepth 100000 in
set_option maxHeartbeats 3200000 in
theorem randomUpdates_r (g : Nat) (A : Option Addr) (n c : Nat) (p : Int) (m t : Nat) (w : World) (hr : Rdr w g A n c p) (hp : p + 220 ≤ 1000000000) (hm : m ≤ 7) (ht : t ≤ 20) :
    Calls Try.prog 66 #[.pointer (some ⟨g, 0, none⟩), .int .i64 (m : Int), .int .i64 (t : Int)] w (UD w g A n c p 210 t) := by
  obtain ⟨i0, hi, hz0, hz1, hz2⟩ := info_parts Try.infoUpd
  have hlt := hr.1.lt
  have hmade := SlF.made UpdO 4 119 w #[] 0 (by simp [maxLen]) (by simp) (S := news w (w.alloc (.cells #[] 119))) ⟨Nat.le_refl _, by simp⟩ (fun k hk => by have := hk.2; simpa using this)
  have HM : Hid (UpdsOw (w.alloc (.cells #[] 119)) (news w (w.alloc (.cells #[] 119))) (some ⟨w.heap.size, 0, none⟩) 0 []) := ⟨_, _, hmade⟩
  have H0 : Hid (Rdr (w.alloc (.cells #[] 119)) g A n c p ∧ w.grownBy (w.alloc (.cells #[] 119)) (some g)) := ⟨hr.alloc _, World.grownBy_alloc _ _ _⟩
  clear hr hmade
  go_enter Try.func66, Try.ntmps66
  go_wp2_with fail
  refine (pick_r _ _ _ _ _ _ _ H0.out.1 (by omega) (by omega)).mono ?_
  rintro e w1 ⟨j0, rfl, a0, a1, r1, g1⟩
  have ha1 := a1 (by omega)
  obtain ⟨j1, rfl⟩ := Int.eq_ofNat_of_zero_le a0
  have hs0 : w.heap.size < w1.heap.size := by have := g1.size; simp at this; omega
  have H1 : Hid (UpdsOw w1 (news w w1) (some ⟨w.heap.size, 0, none⟩) 0 [] ∧ w.grownBy w1 (some g) ∧ Rdr w1 g A n c (p + 1)) :=
    ⟨(updsG HM.out g1 (fun k hk => by have := hk.1; omega)).mono (fun k hk => ⟨hk.1, by have := hk.2; simp at this; omega⟩) (fun k hk => hk.2), H0.out.2.trans g1, r1⟩
  clear HM H0 a1 r1 g1
  go_wp2_with fail
  go_loopw [7, 8] (fun v i wr => ∃ (k : Nat) (A' : Option Addr) (c' : Nat) (z : List Upd) (q : Int), i = .int .i64 (k : Nat) ∧ v = .slice A' z.length c' ∧ z.length + k ≤ t ∧ Hid (rowsU z 7 ∧ wIn z 2 ∧ UpdsOw wr (news w wr) A' c' z) ∧ p ≤ q ∧ q + k * 10 ≤ p + 205 ∧ Rdr wr g A n c q ∧ w.grownBy wr (some g)) (fun _ i _ => (intOf i).toNat)
  case atStart => exact ⟨j1, _, 0, [], p + 1, rfl, rfl, by simp; omega, ⟨(fun e he => by cases he), (fun e he => by cases he), H1.out.1⟩, by omega, by omega, H1.out.2.2, H1.out.2.1⟩
  case round =>
    obtain ⟨k, A', c', z, q, rfl, rfl, hzk, HZ, hq0, hq1, hrd, hgr⟩ := hrel
    by_cases hk : 0 < k
    · have hk' : (0 : Int) < k := by omega
      have HG := Lib.hid hgr
      have hsr := hgr.size
      clear hgr
      go_wp2_with fail
      refine (randomRow_r _ _ _ _ _ m _ hrd (by omega) (by omega)).mono ?_
      rintro e w2 ⟨xs, B, d, rfl, hxl, hxo, r2, g2⟩
      have hxm : xs.length ≤ 7 := by omega
      have hs2 := g2.size
      clear hxl
      go_wp2_with fail
      refine (randomTime_r _ _ _ _ _ _ r2 (by omega)).mono ?_
      rintro e w3 ⟨tx, ty, q3, rfl, hq3, hq4, r3, g3⟩
      have hs3 := g3.size
      have hB : Blk (w3.alloc (.cells #[.int .i64 1, .int .i64 1, .int .i64 2, .int .i64 (-1)] 3)) w3.heap.size 3 (ints [1, 1, 2, -1]) := Blk.newAt rfl
      go_wp2_with fail
      refine (oneL_r g w3.heap.size A n c _ [1, 1, 2, -1] _ (r3.alloc _) (by omega) hB (by omega) (by decide) (by decide)).mono ?_
      rintro e w4 ⟨x, rfl, hx, r4, g4⟩
      have hx2 : -2 ≤ x ∧ x ≤ 2 := by simp at hx; omega
      have g34 : w2.grownBy w4 (some g) := (gal g3 _).trans g4
      have g24 : wr.grownBy w4 (some g) := g2.trans g34
      have hs4 := g24.size
      have hxo4 : IntsOwn w4 wr.heap.size B d xs := ownG hxo g34 (by omega)
      obtain ⟨css, F, hF⟩ := HZ.out.2.2
      have hF4 : SlF UpdO 4 119 w4 (news w wr) A' c' z css F := hF.loc updO (fun k hk => g24.block k hk.2 (fun e => by injection e with e; have := hk.1; omega))
      have HF := Lib.hid hF4
      have HX := Lib.hid hxo4
      have HR := Lib.hid r4
      have HGG := Lib.hid (HG.out.trans g24)
      have hrow4 := hF4.row
      clear hB hx g2 g3 g4 g34 g24 r2 r3 r4 hrd hxo hF hF4 hxo4
      go_wp2_with (at_builtin; refine wpList_append_src _ rfl _ _ 24 rfl 0 119 i0 (.agg #[.slice none 0 0, .int .i64 0, .int .i64 0, .int .i64 0]) 4 48 Try.underlying24 hi hz0 hz1 hz2 rfl (by decide) _ _ _ rfl (hrow4.alloc _) (some ⟨w4.heap.size, 0, none⟩) 1 1 [.slice B xs.length d, .int .i64 tx, .int .i64 ty, .int .i64 x] rfl rfl (fun h => by cases h) upd_srcs upd_ones (by unfold maxLen; omega) (by omega) (by simp) ?_)
      intro v' w5 hown' hgrow hloc
      rw [ownBlock_slice] at hgrow hloc
      obtain ⟨A5, c5, rfl, ho5, hg5⟩ := HF.out.pushG (b1 := wr.heap.size) (fun k hk => hk.2) (by omega) HX.out hown' hgrow hloc
      have hs5 := hg5.size
      have HRR : Hid ((rowsU (z ++ [((xs, (tx, ty)), x)]) 7 ∧ wIn (z ++ [((xs, (tx, ty)), x)]) 2 ∧ UpdsOw w5 (news w w5) A5 c5 (z ++ [((xs, (tx, ty)), x)])) ∧ Rdr w5 g A n c (q3 + 1) ∧ w.grownBy w5 (some g)) := by
        refine ⟨⟨rowsU_snoc HZ.out.1 hxm, wInU_snoc HZ.out.2.1 hx2, ho5.mono (fun k hk => ?_) (fun k hk => hk.2)⟩, HR.out.keptS hg5 (fun k hk => by have := hk.1; omega), gS HGG.out hg5 (fun k hk => hk.1)⟩
        rcases hk with hk | hk
        · exact ⟨hk.1, by have := hk.2; omega⟩
        · exact ⟨by have := hk.1; omega, hk.2⟩
      have hlz : (z ++ [((xs, (tx, ty)), x)]).length = z.length + 1 := by simp
      clear hown' hgrow hloc ho5 hg5 HF HX HR HG HGG HZ hrow4
      go_wp2
      go_roundw
      case rel => exact ⟨k - 1, A5, c5, z ++ [((xs, (tx, ty)), x)], q3 + 1, by go_num, by rw [hlz], by omega, HRR.out.1, by omega, by omega, HRR.out.2.1, HRR.out.2.2⟩
      case measure => simp [intOf]; omega
    · obtain rfl : k = 0 := by omega
      have HG := Lib.hid hgr
      clear hgr
      go_wp2
      go_ret
      exact ⟨z, A', c', q, rfl, HZ.out.2.2, by omega, HZ.out.1, HZ.out.2.1, hq0, by omega, hrd, HG.out⟩

/-- A short list of updates, made since w. -/
def TA (w : World) (z : List Upd) (A : Option Addr) (c : Nat) (w' : World) : Prop := UpdsOw w' (news w w') A c z ∧ z.length ≤ 40 ∧ rowsU z 10 ∧ wIn z 4000000
theorem TA.below {w w1 w2 : World} {z : List Upd} {A : Option Addr} {c : Nat} (h : TA w z A c w1) (hb : Below w1.heap.size w1 w2) : TA w z A c w2 :=
  ⟨(h.1.below updO hb).mono (fun k hk => ⟨hk.1, Nat.lt_of_lt_of_le hk.2 hb.size⟩) (fun k hk => hk.2), h.2⟩
theorem TA.kept {w w1 w2 : World} {g : Nat} {z : List Upd} {A : Option Addr} {c : Nat} (h : TA w z A c w1) (hg : w1.grownBy w2 (some g)) (hlt : g < w.heap.size) : TA w z A c w2 :=
  ⟨(updsG h.1 hg (fun k hk => by have := hk.1; omega)).mono (fun k hk => ⟨hk.1, Nat.lt_of_lt_of_le hk.2 hg.size⟩) (fun k hk => hk.2), h.2⟩
theorem TA.back {w w0 w1 : World} {z : List Upd} {A : Option Addr} {c : Nat} (h : TA w0 z A c w1) (hs : w.heap.size ≤ w0.heap.size) : TA w z A c w1 :=
  ⟨h.1.mono (fun k hk => ⟨Nat.le_trans hs hk.1, hk.2⟩) (fun k hk => hk.2), h.2⟩
def TAny (w : World) (g : Nat) (A : Option Addr) (n c : Nat) (p t : Int) (e : Ending) (w' : World) : Prop :=
  ∃ (z : List Upd) (A' : Option Addr) (c' : Nat) (q : Int), e = .returned (.slice A' z.length c') ∧ TA w z A' c' w' ∧ p ≤ q ∧ q ≤ p + t ∧ Rdr w' g A n c q ∧ w.grownBy w' (some g)
theorem rowsU_set {z : List Upd} {k b b' : Nat} {x : Upd} (h : rowsU z b) (hb : b ≤ b') (hx : x.1.1.length ≤ b') : rowsU (z.set k x) b' := fun e he => by
  rcases List.mem_or_eq_of_mem_set he with he | rfl
  · have := h e he; omega
  · exact hx
theorem wInU_set {z : List Upd} {k : Nat} {b b' : Int} {x : Upd} (h : wIn z b) (hb : b ≤ b') (hx : -b' ≤ x.2 ∧ x.2 ≤ b') : wIn (z.set k x) b' := fun e he => by
  rcases List.mem_or_eq_of_mem_set he with he | rfl
  · have := h e he; omega
  · exact hx
theorem drT_len (z : List Upd) : (chkT z).length ≤ z.length := by
  unfold chkT
  split
  · exact Nat.le_refl _
  · simp
theorem drT_row (z : List Upd) : rowsU (chkT z) 6 := by
  unfold chkT
  split
  · rename_i h; exact trB_row h
  · intro e he; cases he
theorem drT_wt (z : List Upd) : wIn (chkT z) 1000000 := by
  unfold chkT
  split
  · rename_i h
    exact fun e he => (sumU_parts (trB_sum h e he)).2.1
  · intro e he; cases he
end Go.Proofs.Ythefakiobpijiaa

/- HELPER, no statement of the seat: the generator of traces. -/
namespace Go.Proofs.Ythefakiobpijiaa
open Go.RowKit Go.Sort
set_option linter.unusedSimpArgs false
set_option linter.unusedVariables false

theorem addLU_le (b : List Upd) : ∀ a : List Upd, (AddLU a b).length ≤ a.length + b.length := by
  induction b with
  | nil => intro a; simp [AddLU]
  | cons x b ih =>
    intro a
    have h1 := ih (insK ltU a x.1 x.2)
    have h2 := insK_length (lt := ltU) a x.1 x.2
    show (AddLU (insK ltU a x.1 x.2) b).length ≤ _
    simp only [List.length_cons]
    omega
theorem consL_le (l : List Upd) : (chkT (nz (NormLU l))).length ≤ l.length := by
  have h1 := drT_len (nz (NormLU l))
  have h2 : (nz (NormLU l)).length ≤ (NormLU l).length := List.length_filter_le _ _
  have h3 := addLU_le l []
  have h4 : (NormLU l).length = (AddLU [] l).length := rfl
  simp only [List.length_nil] at h3
  omega
theorem updForm {w : World} {S : Fp} {cs : List Value} {u : Upd} (h : UpdO w S cs u) : ∃ RA rc, cs = [.slice RA u.1.1.length rc, .int .i64 u.1.2.1, .int .i64 u.1.2.2, .int .i64 u.2] ∧ (∀ k, blk RA = some k → S k) ∧ IntsOwn w 0 RA rc u.1.1 := by
  obtain ⟨hl, c1, c2, S1, S2, rfl, i1, i2, d, ⟨hl1, d1, d2, T1, T2, rfl, j1, j2, e, ⟨hl3, A, c, rfl, hS, h⟩, ⟨_, f1, f2, U1, U2, rfl, _, _, _, h1, h2⟩⟩, h3⟩ := h
  rw [h1.1, h2.1, h3.1]
  exact ⟨A, c, rfl, fun k hk => i1 k (j1 k (hS k hk)), h⟩

end Go.Proofs.Ythefakiobpijiaa

/- HELPER, no statement of the seat: the generators of the arguments of the laws on traces. -/
namespace Go.Proofs.Ythefakiobpijiaa
open Go.RowKit Go.Sort
set_option linter.unusedSimpArgs false
set_option linter.unusedVariables false

theorem TA.far {w w1 : World} {z : List Upd} {A : Option Addr} {c : Nat} (h : TA w z A c w1) {p : Addr} (hp : p.block < w.heap.size) (u : Value) : TA w z A c (w1.setCell p u) :=
  ⟨(SlOw.loc updO h.1 (fun k hk => Below.heap_setCell w1 p u k (by have := hk.1; omega))).mono (fun k hk => ⟨hk.1, by have := hk.2; simpa [World.setCell] using this⟩) (fun k hk => by have := hk.2; simpa [World.setCell] using this), h.2⟩
def TrTm (w : World) (e : Ending) (w' : World) : Prop := ∃ (z : List Upd) (A' : Option Addr) (c' : Nat) (x y : Int), e = .returned (.tuple #[.slice A' z.length c', .agg #[.int .i64 x, .int .i64 y]]) ∧ TA w z A' c' w' ∧ Below w.heap.size w w'
/-! ### A time -/
def OneTm (w : World) (e : Ending) (w' : World) : Prop := ∃ x y : Int, e = .returned (.agg #[.int .i64 x, .int .i64 y]) ∧ Below w.heap.size w w'
end Go.Proofs.Ythefakiobpijiaa
