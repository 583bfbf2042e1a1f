/- HELPER, no statement of the seat: several texts in one file. -/
import Derived.Test.YtkonhjdfcfljpaaDrh
import Derived.Test.YtkonhjdfcfljpaaConsS
/- HELPER, no statement of the seat: the generators of lists of updates and of traces: whatever the code, they give short lists with small weights. -/
namespace Go.Proofs.Ytkonhjdfcfljpaa
open Go.RowKit Go.Sort
set_option linter.unusedSimpArgs false
set_option linter.unusedVariables false

section
variable {w w' : World} {g : Nat}
theorem updsG {S : Fp} {B : Option Addr} {d : Nat} {z : List Upd} (h : UpdsOw w S B d z) (hg : w.grownBy w' (some g)) (hS : ∀ k, S k → g < k) : UpdsOw w' S B d z :=
  h.loc updO (fun k hk => hg.block k (h.lt k hk) (fun e => by injection e with e; have := hS k hk; omega))
end
/-- One more update, out of a box, beside whatever else has turned. -/
theorem SlF.pushG {w1 w2 : World} {S : Fp} {b1 base : Nat} {A : Option Addr} {c : Nat} {es : List Upd} {css : List (List Value)} {F : Nat → Fp} {v' : Value} {RA : Option Addr} {rc : Nat} {xs : List Int} {p q x : Int}
    (h : SlF UpdO 4 54 w1 S A c es css F) (hS : ∀ k, S k → k < b1) (hb : b1 ≤ w1.heap.size) (ho : IntsOwn w1 b1 RA rc xs)
    (hrow : w2.ownsRow base 54 4 v' (es.length + 1) (css.flatten ++ [.slice RA xs.length rc, .int .i64 p, .int .i64 q, .int .i64 x]))
    (hg : (w1.alloc (.cells #[.slice RA xs.length rc, .int .i64 p, .int .i64 q, .int .i64 x] 54)).grownBy w2 (blk A)) (hl : ∀ k, v'.ownBlock = some k → blk A = some k ∨ w1.heap.size + 1 ≤ k) :
    ∃ A' c', v' = .slice A' (es.length + 1) c' ∧ UpdsOw w2 (fun k => S k ∨ (b1 ≤ k ∧ k < w2.heap.size)) A' c' (es ++ [((xs, (p, q)), x)]) ∧ GrownS w1 w2 S := by
  obtain ⟨A', c', rfl⟩ := own_slice hrow
  rw [ownBlock_slice] at hl
  have hs2 := hg.size
  simp at hs2
  have hel : UpdO w1 (fun k => b1 ≤ k ∧ k < w1.heap.size) [.slice RA xs.length rc, .int .i64 p, .int .i64 q, .int .i64 x] ((xs, (p, q)), x) := UpdO.mk (fun k hk => hk.2) (fun k hk => by
    rcases ownsRow_form ho with ⟨e, _⟩ | ⟨g, e, hg1, hg2, _⟩
    · rw [e] at hk; cases hk
    · rw [e] at hk; simp [blk] at hk; subst hk; exact ⟨hg1, hg2⟩) (ho.mono (Nat.zero_le _))
  have hb2 : ∀ k, k < w1.heap.size → blk A ≠ some k → w2.heap[k]? = w1.heap[k]? := fun k hk hn => (hg.block k (by simp; omega) (fun e => hn e.symm)).trans (Below.heap_alloc _ _ _ hk)
  have hlt2 : ∀ k, blk A' = some k → k < w2.heap.size := fun k hk => (World.ownsRow.lt hrow k (by rw [ownBlock_slice]; exact hk)).2
  refine ⟨A', c', rfl, ⟨_, _, h.push updO hel (fun k h1 h2 => by have := h1.1; have := hS k h2; omega) (ownsRow_base0 hrow) hb2 (fun k hk => ?_) (fun k hk => ?_) (fun k hk => ?_)⟩, (GrownS.ofBelow (bal (Below.refl _ _) _)).trans (GrownS.ofGrown hg (fun q hq => h.top q hq))⟩
  · rcases hl k hk with h | h
    · exact .inl h
    · right; omega
  · rcases hk with hk | hk | hk
    · exact .inl hk
    · exact .inr ⟨hk.1, by have := hk.2; omega⟩
    · rcases hl k hk with h' | h'
      · exact .inl (h.top k h')
      · exact .inr ⟨by omega, hlt2 k hk⟩
  · rcases hk with hk | hk
    · have := h.lt k hk; omega
    · exact hk.2

/-- A short list of updates, and the reader asked at most t times more. -/
def UD (w : World) (g : Nat) (A : Option Addr) (n c : Nat) (p : Int) (t : Int) (m : Nat) (e : Ending) (w' : World) : Prop :=
  ∃ (z : List Upd) (A' : Option Addr) (c' : Nat) (q : Int), e = .returned (.slice A' z.length c') ∧ UpdsOw w' (news w w') A' c' z ∧ z.length ≤ m ∧ rowsU z 7 ∧ wIn z 2 ∧ p ≤ q ∧ q ≤ p + t ∧ Rdr w' g A n c q ∧ w.grownBy w' (some g)
theorem rowsU_snoc {z : List Upd} {n : Nat} (h : rowsU z n) {u : Upd} (hu : u.1.1.length ≤ n) : rowsU (z ++ [u]) n := fun e he => by
  rcases List.mem_append.1 he with he | he
  · exact h e he
  · simp at he; subst he; exact hu
theorem wInU_snoc {z : List Upd} {b : Int} (h : wIn z b) {u : Upd} (hu : -b ≤ u.2 ∧ u.2 ≤ b) : wIn (z ++ [u]) b := fun e he => by
  rcases List.mem_append.1 he with he | he
  · exact h e he
  · simp at he; subst he; exact hu
set_option maxRecDepth 100000 in
set_option maxHeartbeats 3200000 in
theorem randomUpdates_r (g : Nat) (A : Option Addr) (n c : Nat) (p : Int) (m t : Nat) (w : World) (hr : Rdr w g A n c p) (hp : p + 220 ≤ 1000000000) (hm : m ≤ 7) (ht : t ≤ 20) :
    Calls Try.prog 127 #[.pointer (some ⟨g, 0, none⟩), .int .i64 (m : Int), .int .i64 (t : Int)] w (UD w g A n c p 210 t) := by
  obtain ⟨i0, hi, hz0, hz1, hz2⟩ := info_parts Try.infoUpd
  have hlt := hr.1.lt
  have hmade := SlF.made UpdO 4 54 w #[] 0 (by simp [maxLen]) (by simp) (S := news w (w.alloc (.cells #[] 54))) ⟨Nat.le_refl _, by simp⟩ (fun k hk => by have := hk.2; simpa using this)
  have HM : Hid (UpdsOw (w.alloc (.cells #[] 54)) (news w (w.alloc (.cells #[] 54))) (some ⟨w.heap.size, 0, none⟩) 0 []) := ⟨_, _, hmade⟩
  have H0 : Hid (Rdr (w.alloc (.cells #[] 54)) g A n c p ∧ w.grownBy (w.alloc (.cells #[] 54)) (some g)) := ⟨hr.alloc _, World.grownBy_alloc _ _ _⟩
  clear hr hmade
  go_enter Try.func127, Try.ntmps127
  go_wp2_with fail
  refine (pick_r _ _ _ _ _ _ _ H0.out.1 (by omega) (by omega)).mono ?_
  rintro e w1 ⟨j0, rfl, a0, a1, r1, g1⟩
  have ha1 := a1 (by omega)
  obtain ⟨j1, rfl⟩ := Int.eq_ofNat_of_zero_le a0
  have hs0 : w.heap.size < w1.heap.size := by have := g1.size; simp at this; omega
  have H1 : Hid (UpdsOw w1 (news w w1) (some ⟨w.heap.size, 0, none⟩) 0 [] ∧ w.grownBy w1 (some g) ∧ Rdr w1 g A n c (p + 1)) :=
    ⟨(updsG HM.out g1 (fun k hk => by have := hk.1; omega)).mono (fun k hk => ⟨hk.1, by have := hk.2; simp at this; omega⟩) (fun k hk => hk.2), H0.out.2.trans g1, r1⟩
  clear HM H0 a1 r1 g1
  go_wp2_with fail
  go_loopw [7, 8] (fun v i wr => ∃ (k : Nat) (A' : Option Addr) (c' : Nat) (z : List Upd) (q : Int), i = .int .i64 (k : Nat) ∧ v = .slice A' z.length c' ∧ z.length + k ≤ t ∧ Hid (rowsU z 7 ∧ wIn z 2 ∧ UpdsOw wr (news w wr) A' c' z) ∧ p ≤ q ∧ q + k * 10 ≤ p + 205 ∧ Rdr wr g A n c q ∧ w.grownBy wr (some g)) (fun _ i _ => (intOf i).toNat)
  case atStart => exact ⟨j1, _, 0, [], p + 1, rfl, rfl, by simp; omega, ⟨(fun e he => by cases he), (fun e he => by cases he), H1.out.1⟩, by omega, by omega, H1.out.2.2, H1.out.2.1⟩
  case round =>
    obtain ⟨k, A', c', z, q, rfl, rfl, hzk, HZ, hq0, hq1, hrd, hgr⟩ := hrel
    by_cases hk : 0 < k
    · have hk' : (0 : Int) < k := by omega
      have HG := Lib.hid hgr
      have hsr := hgr.size
      clear hgr
      go_wp2_with fail
      refine (randomRow_r _ _ _ _ _ m _ hrd (by omega) (by omega)).mono ?_
      rintro e w2 ⟨xs, B, d, rfl, hxl, hxo, r2, g2⟩
      have hxm : xs.length ≤ 7 := by omega
      have hs2 := g2.size
      clear hxl
      go_wp2_with fail
      refine (randomTime_r _ _ _ _ _ _ r2 (by omega)).mono ?_
      rintro e w3 ⟨tx, ty, q3, rfl, hq3, hq4, r3, g3⟩
      have hs3 := g3.size
      have hB : Blk (w3.alloc (.cells #[.int .i64 1, .int .i64 1, .int .i64 2, .int .i64 (-1)] 3)) w3.heap.size 3 (ints [1, 1, 2, -1]) := Blk.newAt rfl
      go_wp2_with fail
      refine (oneL_r g w3.heap.size A n c _ [1, 1, 2, -1] _ (r3.alloc _) (by omega) hB (by omega) (by decide) (by decide)).mono ?_
      rintro e w4 ⟨x, rfl, hx, r4, g4⟩
      have hx2 : -2 ≤ x ∧ x ≤ 2 := by simp at hx; omega
      have g34 : w2.grownBy w4 (some g) := (gal g3 _).trans g4
      have g24 : wr.grownBy w4 (some g) := g2.trans g34
      have hs4 := g24.size
      have hxo4 : IntsOwn w4 wr.heap.size B d xs := ownG hxo g34 (by omega)
      obtain ⟨css, F, hF⟩ := HZ.out.2.2
      have hF4 : SlF UpdO 4 54 w4 (news w wr) A' c' z css F := hF.loc updO (fun k hk => g24.block k hk.2 (fun e => by injection e with e; have := hk.1; omega))
      have HF := Lib.hid hF4
      have HX := Lib.hid hxo4
      have HR := Lib.hid r4
      have HGG := Lib.hid (HG.out.trans g24)
      have hrow4 := hF4.row
      clear hB hx g2 g3 g4 g34 g24 r2 r3 r4 hrd hxo hF hF4 hxo4
      go_wp2_with (at_builtin; refine wpList_append_src _ rfl _ _ 28 rfl 0 54 i0 (.agg #[.slice none 0 0, .int .i64 0, .int .i64 0, .int .i64 0]) 4 48 Try.underlying28 hi hz0 hz1 hz2 rfl (by decide) _ _ _ rfl (hrow4.alloc _) (some ⟨w4.heap.size, 0, none⟩) 1 1 [.slice B xs.length d, .int .i64 tx, .int .i64 ty, .int .i64 x] rfl rfl (fun h => by cases h) upd_srcs upd_ones (by unfold maxLen; omega) (by omega) (by simp) ?_)
      intro v' w5 hown' hgrow hloc
      rw [ownBlock_slice] at hgrow hloc
      obtain ⟨A5, c5, rfl, ho5, hg5⟩ := HF.out.pushG (b1 := wr.heap.size) (fun k hk => hk.2) (by omega) HX.out hown' hgrow hloc
      have hs5 := hg5.size
      have HRR : Hid ((rowsU (z ++ [((xs, (tx, ty)), x)]) 7 ∧ wIn (z ++ [((xs, (tx, ty)), x)]) 2 ∧ UpdsOw w5 (news w w5) A5 c5 (z ++ [((xs, (tx, ty)), x)])) ∧ Rdr w5 g A n c (q3 + 1) ∧ w.grownBy w5 (some g)) := by
        refine ⟨⟨rowsU_snoc HZ.out.1 hxm, wInU_snoc HZ.out.2.1 hx2, ho5.mono (fun k hk => ?_) (fun k hk => hk.2)⟩, HR.out.keptS hg5 (fun k hk => by have := hk.1; omega), gS HGG.out hg5 (fun k hk => hk.1)⟩
        rcases hk with hk | hk
        · exact ⟨hk.1, by have := hk.2; omega⟩
        · exact ⟨by have := hk.1; omega, hk.2⟩
      have hlz : (z ++ [((xs, (tx, ty)), x)]).length = z.length + 1 := by simp
      clear hown' hgrow hloc ho5 hg5 HF HX HR HG HGG HZ hrow4
      go_wp2
      go_roundw
      case rel => exact ⟨k - 1, A5, c5, z ++ [((xs, (tx, ty)), x)], q3 + 1, by go_num, by rw [hlz], by omega, HRR.out.1, by omega, by omega, HRR.out.2.1, HRR.out.2.2⟩
      case measure => simp [intOf]; omega
    · obtain rfl : k = 0 := by omega
      have HG := Lib.hid hgr
      clear hgr
      go_wp2
      go_ret
      exact ⟨z, A', c', q, rfl, HZ.out.2.2, by omega, HZ.out.1, HZ.out.2.1, hq0, by omega, hrd, HG.out⟩

/-- A short list of updates, made since w. -/
def TA (w : World) (z : List Upd) (A : Option Addr) (c : Nat) (w' : World) : Prop := UpdsOw w' (news w w') A c z ∧ z.length ≤ 40 ∧ rowsU z 10 ∧ wIn z 4000000
theorem TA.below {w w1 w2 : World} {z : List Upd} {A : Option Addr} {c : Nat} (h : TA w z A c w1) (hb : Below w1.heap.size w1 w2) : TA w z A c w2 :=
  ⟨(h.1.below updO hb).mono (fun k hk => ⟨hk.1, Nat.lt_of_lt_of_le hk.2 hb.size⟩) (fun k hk => hk.2), h.2⟩
theorem TA.kept {w w1 w2 : World} {g : Nat} {z : List Upd} {A : Option Addr} {c : Nat} (h : TA w z A c w1) (hg : w1.grownBy w2 (some g)) (hlt : g < w.heap.size) : TA w z A c w2 :=
  ⟨(updsG h.1 hg (fun k hk => by have := hk.1; omega)).mono (fun k hk => ⟨hk.1, Nat.lt_of_lt_of_le hk.2 hg.size⟩) (fun k hk => hk.2), h.2⟩
theorem TA.back {w w0 w1 : World} {z : List Upd} {A : Option Addr} {c : Nat} (h : TA w0 z A c w1) (hs : w.heap.size ≤ w0.heap.size) : TA w z A c w1 :=
  ⟨h.1.mono (fun k hk => ⟨Nat.le_trans hs hk.1, hk.2⟩) (fun k hk => hk.2), h.2⟩
def TAny (w : World) (g : Nat) (A : Option Addr) (n c : Nat) (p t : Int) (e : Ending) (w' : World) : Prop :=
  ∃ (z : List Upd) (A' : Option Addr) (c' : Nat) (q : Int), e = .returned (.slice A' z.length c') ∧ TA w z A' c' w' ∧ p ≤ q ∧ q ≤ p + t ∧ Rdr w' g A n c q ∧ w.grownBy w' (some g)
theorem rowsU_set {z : List Upd} {k b b' : Nat} {x : Upd} (h : rowsU z b) (hb : b ≤ b') (hx : x.1.1.length ≤ b') : rowsU (z.set k x) b' := fun e he => by
  rcases List.mem_or_eq_of_mem_set he with he | rfl
  · have := h e he; omega
  · exact hx
theorem wInU_set {z : List Upd} {k : Nat} {b b' : Int} {x : Upd} (h : wIn z b) (hb : b ≤ b') (hx : -b' ≤ x.2 ∧ x.2 ≤ b') : wIn (z.set k x) b' := fun e he => by
  rcases List.mem_or_eq_of_mem_set he with he | rfl
  · have := h e he; omega
  · exact hx
theorem drT_len (z : List Upd) : (chkT z).length ≤ z.length := by
  unfold chkT
  split
  · exact Nat.le_refl _
  · simp
theorem drT_row (z : List Upd) : rowsU (chkT z) 6 := by
  unfold chkT
  split
  · rename_i h; exact trB_row h
  · intro e he; cases he
theorem drT_wt (z : List Upd) : wIn (chkT z) 1000000 := by
  unfold chkT
  split
  · rename_i h
    exact fun e he => (sumU_parts (trB_sum h e he)).2.1
  · intro e he; cases he
end Go.Proofs.Ytkonhjdfcfljpaa

/- HELPER, no statement of the seat: the generator of traces. -/
namespace Go.Proofs.Ytkonhjdfcfljpaa
open Go.RowKit Go.Sort
set_option linter.unusedSimpArgs false
set_option linter.unusedVariables false

theorem addLU_le (b : List Upd) : ∀ a : List Upd, (AddLU a b).length ≤ a.length + b.length := by
  induction b with
  | nil => intro a; simp [AddLU]
  | cons x b ih =>
    intro a
    have h1 := ih (insK ltU a x.1 x.2)
    have h2 := insK_length (lt := ltU) a x.1 x.2
    show (AddLU (insK ltU a x.1 x.2) b).length ≤ _
    simp only [List.length_cons]
    omega
theorem consL_le (l : List Upd) : (chkT (nz (NormLU l))).length ≤ l.length := by
  have h1 := drT_len (nz (NormLU l))
  have h2 : (nz (NormLU l)).length ≤ (NormLU l).length := List.length_filter_le _ _
  have h3 := addLU_le l []
  have h4 : (NormLU l).length = (AddLU [] l).length := rfl
  simp only [List.length_nil] at h3
  omega
theorem updForm {w : World} {S : Fp} {cs : List Value} {u : Upd} (h : UpdO w S cs u) : ∃ RA rc, cs = [.slice RA u.1.1.length rc, .int .i64 u.1.2.1, .int .i64 u.1.2.2, .int .i64 u.2] ∧ (∀ k, blk RA = some k → S k) ∧ IntsOwn w 0 RA rc u.1.1 := by
  obtain ⟨hl, c1, c2, S1, S2, rfl, i1, i2, d, ⟨hl1, d1, d2, T1, T2, rfl, j1, j2, e, ⟨hl3, A, c, rfl, hS, h⟩, ⟨_, f1, f2, U1, U2, rfl, _, _, _, h1, h2⟩⟩, h3⟩ := h
  rw [h1.1, h2.1, h3.1]
  exact ⟨A, c, rfl, fun k hk => i1 k (j1 k (hS k hk)), h⟩

set_option maxRecDepth 100000 in
set_option maxHeartbeats 6400000 in
theorem anyTrace_r (g : Nat) (A : Option Addr) (n c : Nat) (p : Int) (m : Nat) (w : World) (hr : Rdr w g A n c p) (hp : p + 300 ≤ 1000000000) (hm : m ≤ 7) :
    Calls Try.prog 85 #[.pointer (some ⟨g, 0, none⟩), .int .i64 (m : Int)] w (TAny w g A n c p 230) := by
  have hlt := hr.1.lt
  go_enter Try.func85, Try.ntmps85
  go_wp2_with fail
  refine (randomUpdates_r g A n c p m 9 w hr (by omega) hm (by omega)).mono ?_
  rintro e w1 ⟨z0, A1, c1, q1, rfl, ho1, hl1, hr1, hw1, hq1, hq2, r1, g1⟩
  have hs1 := g1.size
  have hat1 : UpdsAt w1 A1 z0 := SlOw.at_ updO ho1
  have hl2 := consL_le z0
  have hr2 := drT_row (nz (NormLU z0))
  have hw2 := drT_wt (nz (NormLU z0))
  have hcon := consolidate_w A1 c1 z0 w1 hat1 (by omega) (fun e he => by have := hr1 e he; omega) (hw1.mono (by omega))
  have HG1 := Lib.hid g1
  have HR1 := Lib.hid r1
  clear ho1 hat1 hr1 hw1 hr g1 r1
  go_wp2_with fail
  refine hcon.mono ?_
  clear hcon
  generalize chkT (nz (NormLU z0)) = z at *
  rintro e w2 ⟨B, d, rfl, ho2, b2⟩
  have hs2 := b2.size
  have hl9 : z.length ≤ 9 := by omega
  have ho2' : UpdsOw w2 (news w w2) B d z := ho2.mono (fun k hk => ⟨by have := hk.1; omega, hk.2⟩) (fun k hk => hk.2)
  have HG := Lib.hid (gB HG1.out b2)
  have HR := Lib.hid (HR1.out.below b2)
  have HRW := Lib.hid hr2
  have HW := Lib.hid hw2
  clear HG1 HR1 hr2 hw2 ho2
  rcases Nat.eq_zero_or_pos z.length with h0 | hpos
  · have hb : ¬ 0 < z.length := by omega
    have HRR : Hid (TAny w g A n c p 230 (.returned (.slice B z.length d)) w2) :=
      ⟨z, B, d, q1, rfl, ⟨ho2', by omega, fun e he => by have := HRW.out e he; omega, HW.out.mono (by omega)⟩, hq1, by omega, HR.out, HG.out⟩
    clear HG HR HRW HW ho2' h0
    go_wp2
    go_ret
    exact HRR.out
  · have hb : (0 : Int) < z.length := by omega
    obtain ⟨css, F, hF⟩ := ho2'
    obtain ⟨G, rfl, hSG, hGl, -, -⟩ : ∃ G, B = some ⟨G, 0, none⟩ ∧ news w w2 G ∧ G < w2.heap.size ∧ z.length ≤ d ∧ d ≤ maxLen := by
      rcases hF.form with ⟨_, _, h⟩ | h
      · rw [h] at hpos; simp at hpos
      · exact h
    have hclen := hF.clen
    have HF := Lib.hid hF
    clear hF
    go_wp2_with fail
    refine (pick_r _ _ _ _ _ _ _ HR.out (by omega) (by omega)).mono ?_
    rintro e w3 ⟨k0, rfl, a0, a1, r3, g3⟩
    have ha1 := a1 (by omega)
    obtain ⟨k, rfl⟩ := Int.eq_ofNat_of_zero_le a0
    have hk : k < z.length := by omega
    go_wp2_with fail
    refine (pick_r _ _ _ _ _ _ _ r3 (by omega) (by omega)).mono ?_
    rintro e w4 ⟨j, rfl, b0, b1, r4, g4⟩
    have hg4 := g3.trans g4
    have hs4 := hg4.size
    have h1 : k < css.length := by omega
    have hF4 : SlF UpdO 4 54 w4 (news w w2) (some ⟨G, 0, none⟩) d z css F := HF.out.loc updO (fun q hq => hg4.block q hq.2 (fun e => by injection e with e; have := hq.1; omega))
    obtain ⟨RA, rc, hcs, hS0, hrow0⟩ := updForm (hF4.elt k h1 hk)
    have hc0 : w4.cell? ⟨G, k * 4, none⟩ = some (.slice RA z[k].1.1.length rc) := by
      have := hF4.cell k h1 0 (by decide)
      rw [Nat.add_zero] at this
      rw [this, hcs]; rfl
    have hc1 : w4.cell? ⟨G, k * 4 + 1, none⟩ = some (.int .i64 z[k].1.2.1) := by rw [hF4.cell k h1 1 (by decide), hcs]; rfl
    have hc2 : w4.cell? ⟨G, k * 4 + 2, none⟩ = some (.int .i64 z[k].1.2.2) := by rw [hF4.cell k h1 2 (by decide), hcs]; rfl
    have hc3 : w4.cell? ⟨G, k * 4 + 3, none⟩ = some (.int .i64 z[k].2) := by rw [hF4.cell k h1 3 (by decide), hcs]; rfl
    have hf0 := hF4.frozen (k * 4)
    have hf1 := hF4.frozen (k * 4 + 1)
    have hf2 := hF4.frozen (k * 4 + 2)
    have hf3 := hF4.frozen (k * 4 + 3)
    have hG4 : G < w4.heap.size := by omega
    have hwG : w.heap.size ≤ G := hSG.1
    have hgG : g < G := by omega
    have hzk := HRW.out _ (List.getElem_mem hk)
    have hzw := HW.out _ (List.getElem_mem hk)
    have H4 := Lib.hid (And.intro hF4 (And.intro r4 (HG.out.trans hg4)))
    have HI := Lib.hid hrow0.at_
    have hclt : (0 : Int) ≤ (k : Int) := by omega
    have hklt : (k : Int) < z.length := by omega
    clear HR HG HF a1 r3 g3 b1 r4 g4 hF4 hg4 hcs hS0 hrow0 ha1
    by_cases hj0 : j = 0
    · -- the weight
      subst hj0
      have hB : Blk (w4.alloc (.cells #[.int .i64 0, .int .i64 1000001] 3)) w4.heap.size 3 (ints [0, 1000001]) := Blk.newAt rfl
      have hgl := H4.out.2.1.1.lt
      clear hc0 hc1 hc2 hc3 hf0 hf1 hf2 hf3
      go_wp2_with fail
      refine (oneL_r g w4.heap.size A n c _ [0, 1000001] _ (H4.out.2.1.alloc _) (by omega) hB (by omega) (by decide) (by decide)).mono ?_
      rintro e w5 ⟨x, rfl, hx, r5, g5⟩
      have hx2 : -4000000 ≤ x ∧ x ≤ 4000000 := by simp at hx; omega
      have g45 : w4.grownBy w5 (some g) := (World.grownBy_alloc _ _ _).trans g5
      have hF5 : SlF UpdO 4 54 w5 (news w w2) (some ⟨G, 0, none⟩) d z css F := H4.out.1.loc updO (fun q hq => g45.block q (by have := hq.2; omega) (fun e => by injection e with e; have := hq.1; omega))
      obtain ⟨RA5, rc5, hcs, hS0, hrow0⟩ := updForm (hF5.elt k h1 hk)
      have hc3 : w5.cell? ⟨G, k * 4 + 3, none⟩ = some (.int .i64 z[k].2) := by rw [hF5.cell k h1 3 (by decide), hcs]; rfl
      have hf3 := hF5.frozen (k * 4 + 3)
      have hx3 : UpdO w5 (F k) ((css[k]).set 3 (.int .i64 x)) ((z[k].1.1, (z[k].1.2.1, z[k].1.2.2)), x) := by
        rw [hcs]
        exact UpdO.mk (fun q hq => hF5.lt q (hF5.sub k q hq).1) hS0 hrow0
      have hst := hF5.store updO hk h1 (i := 3) (by decide) (.int .i64 x) hx3
      have hs5 := g45.size
      have HRR : Hid (TAny w g A n c p 230 (.returned (.slice (some ⟨G, 0, none⟩) z.length d)) (w5.setCell ⟨G, k * 4 + 3, none⟩ (.int .i64 x))) := by
        refine ⟨z.set k ((z[k].1.1, (z[k].1.2.1, z[k].1.2.2)), x), some ⟨G, 0, none⟩, d, _, by rw [List.length_set], ⟨⟨_, _, hst.mono (fun q hq => ⟨hq.1, by have := hq.2; simp [World.setCell]; omega⟩) (fun q hq => hq.2)⟩, by rw [List.length_set]; omega, rowsU_set HRW.out (by omega) (by simp only; omega), wInU_set HW.out (by omega) hx2⟩, ?_, ?_, r5.far (by simp; omega) _, gset (H4.out.2.2.trans g45) (by simp; omega) _⟩ <;> omega
      clear hB hx r5 g5 g45 hF5 hcs hS0 hrow0 hx3 hst H4 HRW HW HI
      go_wp2
      go_ret
      exact HRR.out
    · have e0 : (j == 0) = false := by rw [beq_eq_false_iff_ne]; exact hj0
      by_cases hj1 : j = 1
      · -- the time
        subst hj1
        have hgl := H4.out.2.1.1.lt
        clear hc0 hc1 hc2 hc3 hf0 hf1 hf2 hf3 hj0
        go_wp2_with fail
        refine (anyTime_r g A n c _ _ H4.out.2.1 (by omega)).mono ?_
        rintro e w5 ⟨x, y, q5, rfl, hq5, hq6, r5, g45⟩
        have hF5 : SlF UpdO 4 54 w5 (news w w2) (some ⟨G, 0, none⟩) d z css F := H4.out.1.loc updO (fun q hq => g45.block q (by have := hq.2; omega) (fun e => by injection e with e; have := hq.1; omega))
        obtain ⟨RA5, rc5, hcs, hS0, hrow0⟩ := updForm (hF5.elt k h1 hk)
        have hc1 : w5.cell? ⟨G, k * 4 + 1, none⟩ = some (.int .i64 z[k].1.2.1) := by rw [hF5.cell k h1 1 (by decide), hcs]; rfl
        have hc2 : w5.cell? ⟨G, k * 4 + 2, none⟩ = some (.int .i64 z[k].1.2.2) := by rw [hF5.cell k h1 2 (by decide), hcs]; rfl
        have hf1 := hF5.frozen (k * 4 + 1)
        have hf2 := hF5.frozen (k * 4 + 2)
        have hx3 : UpdO w5 (F k) ((css[k]).set 1 (.int .i64 x)) ((z[k].1.1, (x, z[k].1.2.2)), z[k].2) := by
          rw [hcs]
          exact UpdO.mk (fun q hq => hF5.lt q (hF5.sub k q hq).1) hS0 hrow0
        have hst := hF5.store updO hk h1 (i := 1) (by decide) (.int .i64 x) hx3
        have hk2 : k < (z.set k ((z[k].1.1, (x, z[k].1.2.2)), z[k].2)).length := by rw [List.length_set]; exact hk
        have h2 : k < (css.set k ((css[k]).set 1 (.int .i64 x))).length := by rw [List.length_set]; exact h1
        obtain ⟨RA6, rc6, hcs6, hS6, hrow6⟩ := updForm (hst.elt k h2 hk2)
        have hx4 : UpdO (w5.setCell ⟨G, k * 4 + 1, none⟩ (.int .i64 x)) (F k) (((css.set k ((css[k]).set 1 (.int .i64 x)))[k]).set 2 (.int .i64 y)) ((z[k].1.1, (x, y)), z[k].2) := by
          rw [hcs6]
          simp only [List.getElem_set_self] at hS6 hrow6 ⊢
          exact UpdO.mk (fun q hq => hst.lt q (hst.sub k q hq).1) hS6 hrow6
        have hst2 := hst.store updO hk2 h2 (i := 2) (by decide) (.int .i64 y) hx4
        have hs5 := g45.size
        have HRR : Hid (TAny w g A n c p 230 (.returned (.slice (some ⟨G, 0, none⟩) z.length d)) ((w5.setCell ⟨G, k * 4 + 1, none⟩ (.int .i64 x)).setCell ⟨G, k * 4 + 2, none⟩ (.int .i64 y))) := by
          refine ⟨(z.set k ((z[k].1.1, (x, z[k].1.2.2)), z[k].2)).set k ((z[k].1.1, (x, y)), z[k].2), some ⟨G, 0, none⟩, d, q5, by rw [List.length_set, List.length_set], ⟨⟨_, _, hst2.mono (fun q hq => ⟨hq.1, by have := hq.2; simp [World.setCell]; omega⟩) (fun q hq => hq.2)⟩, by rw [List.length_set, List.length_set]; omega, rowsU_set (rowsU_set HRW.out (Nat.le_refl 6) (by simp only; omega)) (by omega) (by simp only; omega), wInU_set (wInU_set HW.out (Int.le_refl _) (by simp only; omega)) (by omega) (by simp only; omega)⟩, ?_, ?_, (r5.far (by simp; omega) _).far (by simp; omega) _, gset (gset (H4.out.2.2.trans g45) (by simp; omega) _) (by simp; omega) _⟩ <;> omega
        clear r5 g45 hF5 hcs hS0 hrow0 hx3 hst hcs6 hS6 hrow6 hx4 hst2 H4 HRW HW HI
        go_wp2
        go_ret
        exact HRR.out
      · have e1 : (j == 1) = false := by rw [beq_eq_false_iff_ne]; exact hj1
        by_cases hj2 : j = 2
        · -- one column more
          subst hj2
          obtain ⟨i0, hi, hz0, hz1, hz2⟩ := info_parts Try.infoInt
          clear hc1 hc2 hc3 hf1 hf2 hf3 hj0 hj1
          go_wp2_with fail
          refine (copyInts_s _ _ _ _ HI.out (by omega)).mono ?_
          rintro e w5 ⟨A5, c5, rfl, ho5, b5⟩
          have hs5 := b5.size
          have HO5 : Hid (w5.ownsRow w4.heap.size 3 1 (.slice A5 z[k].1.1.length c5) z[k].1.1.length (z[k].1.1.map (Value.int .i64))) := ho5
          clear ho5
          go_wp2_with (at_builtin; refine wpList_append_src _ rfl _ _ 26 rfl w4.heap.size 3 i0 (.int .i64 0) 1 8 Try.underlying26 hi hz0 hz1 hz2 rfl (by decide) _ _ _ rfl (HO5.out.alloc _) (some ⟨w5.heap.size, 0, none⟩) 1 1 [.int .i64 1] rfl rfl (fun h => by cases h) (intZ_srcs _) (intZ_ones _) (by unfold maxLen; omega) (by omega) (by simp; omega) ?_)
          intro v' w6 hown' hgrow hloc
          obtain ⟨A6, c6, rfl⟩ := own_slice hown'
          have hrow : ∀ q, (Value.slice A5 z[k].1.1.length c5).ownBlock = some q → w4.heap.size ≤ q := fun q hq => (World.ownsRow.lt HO5.out q hq).1
          have hb6 : Below w4.heap.size w4 w6 := (bal b5 _).grown hgrow (by simp; omega) hrow
          have hrow6 : IntsOwn w6 w4.heap.size A6 c6 (z[k].1.1 ++ [1]) := by
            have : w6.ownsRow w4.heap.size 3 1 (.slice A6 (z[k].1.1 ++ [1]).length c6) (z[k].1.1 ++ [1]).length ((z[k].1.1 ++ [1]).map (Value.int .i64)) := by simpa using hown'
            exact this
          have hc6 := (hb6.cell (p := ⟨G, k * 4, none⟩) hG4).trans hc0
          have hf6 := (hb6.frozen (p := ⟨G, k * 4, none⟩) hG4).trans hf0
          have HRR : Hid (TAny w g A n c p 230 (.returned (.slice (some ⟨G, 0, none⟩) z.length d)) (w6.setCell ⟨G, k * 4, none⟩ (.slice A6 (z[k].1.1.length + 1) c6))) := by
            have hs6 := hb6.size
            have hF6 : SlF UpdO 4 54 w6 (news w w2) (some ⟨G, 0, none⟩) d z css F := H4.out.1.loc updO (fun q hq => hb6.block q (by have := hq.2; omega))
            obtain ⟨RA7, rc7, hcs, hS0, hrow0⟩ := updForm (hF6.elt k h1 hk)
            have hx : UpdO w6 (fun q => w4.heap.size ≤ q ∧ q < w6.heap.size) ((css[k]).set 0 (.slice A6 (z[k].1.1 ++ [1]).length c6)) ((z[k].1.1 ++ [1], (z[k].1.2.1, z[k].1.2.2)), z[k].2) := by
              rw [hcs]
              exact UpdO.mk (fun q hq => hq.2) (fun q e => by
                rcases hrow6.form with ⟨h1, _⟩ | ⟨g', h1, h2, h3⟩
                · rw [h1] at e; cases e
                · rw [h1] at e; simp [blk] at e; subst e; exact ⟨h2, h3⟩) (hrow6.mono (Nat.zero_le _))
            have hsw := hF6.swap updO hk h1 (i := 0) (by decide) (.slice A6 (z[k].1.1 ++ [1]).length c6) (U := news w w6) hx (fun q hq e => by have := e.2; have := hq.1; omega) (fun q hq => by
              rcases hq with hq | hq
              · exact ⟨hq.1, by have := hq.2; omega⟩
              · exact ⟨by have := hq.1; have := H4.out.2.2.size; omega, hq.2⟩) (fun q hq => hq.2)
            rw [Nat.add_zero] at hsw
            have hll : (z[k].1.1 ++ [1]).length = z[k].1.1.length + 1 := by simp
            rw [hll] at hsw
            refine ⟨z.set k ((z[k].1.1 ++ [1], (z[k].1.2.1, z[k].1.2.2)), z[k].2), some ⟨G, 0, none⟩, d, _, by rw [List.length_set], ⟨⟨_, _, hsw.mono (fun q hq => ⟨hq.1, by have := hq.2; simp [World.setCell]; omega⟩) (fun q hq => hq.2)⟩, by rw [List.length_set]; omega, rowsU_set HRW.out (by omega) (by simp; omega), wInU_set HW.out (by omega) (by simp only; omega)⟩, ?_, ?_, (H4.out.2.1.below hb6).far (by simp; omega) _, gset (gB H4.out.2.2 hb6) (by simp; have := hSG.1; omega) _⟩ <;> omega
          clear hown' hgrow hloc hrow hb6 hrow6 b5 HO5 hc0 hf0 H4 HRW HW HI
          go_wp2
          go_ret
          exact HRR.out
        · have e2 : (j == 2) = false := by rw [beq_eq_false_iff_ne]; exact hj2
          have HRR : Hid (TAny w g A n c p 230 (.returned (.slice (some ⟨G, 0, none⟩) z.length d)) w4) :=
            ⟨z, _, d, _, rfl, ⟨⟨_, _, H4.out.1.mono (fun q hq => ⟨hq.1, by have := hq.2; omega⟩) (fun q hq => hq.2)⟩, by omega, fun e he => by have := HRW.out e he; omega, HW.out.mono (by omega)⟩, by omega, by omega, H4.out.2.1, H4.out.2.2⟩
          clear hc0 hc1 hc2 hc3 hf0 hf1 hf2 hf3 hj0 hj1 hj2 H4 HRW HW HI
          go_wp2
          go_ret
          exact HRR.out
end Go.Proofs.Ytkonhjdfcfljpaa

/- HELPER, no statement of the seat: the generators of the arguments of the laws on traces. -/
namespace Go.Proofs.Ytkonhjdfcfljpaa
open Go.RowKit Go.Sort
set_option linter.unusedSimpArgs false
set_option linter.unusedVariables false

theorem TA.far {w w1 : World} {z : List Upd} {A : Option Addr} {c : Nat} (h : TA w z A c w1) {p : Addr} (hp : p.block < w.heap.size) (u : Value) : TA w z A c (w1.setCell p u) :=
  ⟨(SlOw.loc updO h.1 (fun k hk => Below.heap_setCell w1 p u k (by have := hk.1; omega))).mono (fun k hk => ⟨hk.1, by have := hk.2; simpa [World.setCell] using this⟩) (fun k hk => by have := hk.2; simpa [World.setCell] using this), h.2⟩
def TrTm (w : World) (e : Ending) (w' : World) : Prop := ∃ (z : List Upd) (A' : Option Addr) (c' : Nat) (x y : Int), e = .returned (.tuple #[.slice A' z.length c', .agg #[.int .i64 x, .int .i64 y]]) ∧ TA w z A' c' w' ∧ Below w.heap.size w w'
/-! ### A time -/
def OneTm (w : World) (e : Ending) (w' : World) : Prop := ∃ x y : Int, e = .returned (.agg #[.int .i64 x, .int .i64 y]) ∧ Below w.heap.size w w'
set_option maxHeartbeats 1600000 in
theorem DrawValidTime_r (A : Option Addr) (n c : Nat) (w : World) (hb : BytesAt w w.heap.size A n) (hc : n ≤ c) (hn : n ≤ 1048576) :
    Calls Try.prog 46 #[.slice A n c] w (OneTm w) := by
  have h0 : BytesAt (w.alloc (.cells #[.int .i64 0, .int .i64 0] 52)) (w.alloc (.cells #[.int .i64 0, .int .i64 0] 52)).heap.size A n := fun hp => by
    obtain ⟨b, off, e, h1, h2⟩ := (hb.below (bal (Below.refl _ _) (.cells #[.int .i64 0, .int .i64 0] 52)) (Nat.le_refl _)) hp
    exact ⟨b, off, e, by simp; omega, h2⟩
  have hk : Blk (w.alloc (.cells #[.int .i64 0, .int .i64 0] 52)) w.heap.size 52 #[.int .i64 0, .int .i64 0] := Blk.newAt rfl
  have hB0 : Below w.heap.size w (w.alloc (.cells #[.int .i64 0, .int .i64 0] 52)) := bal (Below.refl _ _) _
  have H0 := Lib.hid (And.intro h0 (And.intro hk hB0))
  clear h0 hk hB0 hb
  go_enter Try.func46, Try.ntmps46
  go_wp2_with fail
  refine (newReader_r _ _ _ _ H0.out.1 hc hn).mono ?_
  rintro e w1 ⟨A1, m1, c1, rfl, r1, b1⟩
  have r1 : Rdr w1 (w.heap.size + 1) A1 m1 c1 0 := by simpa using r1
  have H1 := Lib.hid (And.intro r1 (And.intro (H0.out.2.1.below b1) (btr H0.out.2.2 b1)))
  clear H0 b1 r1
  go_wp2_with fail
  refine (anyTime_r (w.heap.size + 1) A1 m1 c1 _ _ H1.out.1 (by omega)).mono ?_
  rintro e w4 ⟨x, y, q4, rfl, hq3, hq4, r4, g4⟩
  have hs4 := g4.size
  have k4 := H1.out.2.1.kept g4 (by omega)
  have c4 := k4.cell
  have f4 := k4.frozen
  have H4 := Lib.hid (And.intro k4 (gbelow H1.out.2.2 g4 (by omega)))
  clear H1 r4 g4 k4 hq3 hq4
  go_wp2_with fail
  have K := (H4.out.1.set_ 0 (.int .i64 x)).set_ 1 (.int .i64 y)
  have s0 := K.cell 0
  have s1 := K.cell 1
  simp at s0 s1
  exact bodyPost_ret (v := .agg #[.int .i64 x, .int .i64 y]) (by simp [results, Try.results46, go_sem, s0, s1]) rfl
    ⟨x, y, rfl, bset (bset H4.out.2 (by simp) _) (by simp) _⟩
end Go.Proofs.Ytkonhjdfcfljpaa
