/- HELPER, no statement of the seat: the generators of rows and of Z-sets: whatever the code, they give short lists of entries with small weights. -/
import Derived.Test.YtjlpkfcdkmcjnaaDrawU
import Derived.Test.YtjlpkfcdkmcjnaaAddZ
namespace Go.Proofs.Ytjlpkfcdkmcjnaa
open Go.RowKit Go.Sort
set_option linter.unusedSimpArgs false
set_option linter.unusedVariables false

section
variable {w w' w2 : World} {g n c : Nat} {A : Option Addr} {p : Int}
theorem Rdr.keptG {row : Option Nat} (h : Rdr w g A n c p) (hg : w.grownBy w' row) (hr : ∀ k, row = some k → g < k) : Rdr w' g A n c p :=
  ⟨(hg.block g h.1.lt (fun e => by have := hr _ e.symm; omega)).trans h.1, h.2.1.kept hg (fun k e => by have := hr k e; omega) (Nat.le_of_lt h.1.lt), h.2.2⟩
theorem Rdr.keptS {S : Fp} (h : Rdr w g A n c p) (hg : GrownS w w' S) (hS : ∀ k, S k → g < k) : Rdr w' g A n c p := by
  refine ⟨(hg.block g h.1.lt (fun e => by have := hS _ e; omega)).trans h.1, fun hn => ?_, h.2.2⟩
  obtain ⟨b, off, e, hb, hc⟩ := h.2.1 hn
  refine ⟨b, off, e, hb, fun j hj => ?_⟩
  obtain ⟨z, h0, h1, h2⟩ := hc j hj
  have hlt := h.1.lt
  exact ⟨z, h0, h1, (World.cell?_of_block (a := ⟨b, off + j, none⟩) (hg.block b (by omega) (fun e => by have := hS _ e; omega))).trans h2⟩
theorem gS {S : Fp} (h : w.grownBy w' (some g)) (hg : GrownS w' w2 S) (hS : ∀ k, S k → w.heap.size ≤ k) : w.grownBy w2 (some g) :=
  ⟨hg.os.trans h.os, hg.tape.trans h.tape, hg.output.trans h.output, Nat.le_trans h.size hg.size, fun k hk hn => (hg.block k (Nat.lt_of_lt_of_le hk h.size) (fun e => by have := hS k e; omega)).trans (h.block k hk hn)⟩
theorem gG {row : Option Nat} (h : w.grownBy w' (some g)) (hg : w'.grownBy w2 row) (hS : ∀ k, row = some k → w.heap.size ≤ k) : w.grownBy w2 (some g) :=
  gS h (GrownS.ofGrown (S := fun k => row = some k) hg (fun k e => e)) hS
theorem gB (h : w.grownBy w' (some g)) (hb : Below w'.heap.size w' w2) : w.grownBy w2 (some g) := h.trans (gbel hb)
theorem ownG {base sz m : Nat} {E : TypeId} {B : Option Addr} {d : Nat} {vs : List Value} (h : w.ownsRow base E sz (.slice B m d) m vs) (hg : w.grownBy w' (some g)) (hlt : g < base) : w'.ownsRow base E sz (.slice B m d) m vs :=
  ownsRow_loc h (fun k hk => by
    have := World.ownsRow.lt h k (by rw [ownBlock_slice]; exact hk)
    exact hg.block k this.2 (fun e => by injection e with e; omega))
theorem entsG {S : Fp} {B : Option Addr} {d : Nat} {z : List Ent} (h : EntsOw w S B d z) (hg : w.grownBy w' (some g)) (hS : ∀ k, S k → g < k) : EntsOw w' S B d z :=
  h.loc entO (fun k hk => hg.block k (h.lt k hk) (fun e => by injection e with e; have := hS k hk; omega))
end

theorem intZ_srcs {w1 : World} {E : TypeId} (x : Int) : ∀ a, some (⟨w1.heap.size, 0, none⟩ : Addr) = some a → ∀ j u, [Value.int .i64 x][j]? = some u → (w1.alloc (.cells #[.int .i64 x] E)).cell? (a.add j) = some u := by
  intro a e j u hu
  injection e with e
  subst e
  match j, hu with
  | 0, hu => simp at hu; subst hu; simp [Addr.add]
theorem intZ_ones (x : Int) : ∀ u ∈ [Value.int .i64 x], u.oneCell' = true := by
  intro u hu
  simp at hu
  subst hu
  rfl

/-! ### One of some numbers -/
def OneL (w : World) (g : Nat) (A : Option Addr) (n c : Nat) (p : Int) (xs : List Int) (e : Ending) (w' : World) : Prop := ∃ q : Int, e = .returned (.int .i64 q) ∧ q ∈ xs ∧ Rdr w' g A n c (p + 1) ∧ w.grownBy w' (some g)
set_option maxHeartbeats 800000 in
theorem oneL_r (g b : Nat) (A : Option Addr) (n c : Nat) (p : Int) (xs : List Int) (w : World) (hr : Rdr w g A n c p) (hp : p + 1 ≤ 1000000000) (hk : Blk w b 3 (ints xs)) (hne : b ≠ g) (h0 : 0 < xs.length) (h1 : xs.length ≤ 100) :
    Calls Try.prog 117 #[.pointer (some ⟨g, 0, none⟩), .slice (some ⟨b, 0, none⟩) xs.length xs.length] w (OneL w g A n c p xs) := by
  have HK := Lib.hid hk
  clear hk
  go_enter Try.func117, Try.ntmps117
  go_wp2_with fail
  refine (pick_r _ _ _ _ _ _ _ hr hp (by omega)).mono ?_
  rintro e w1 ⟨q, rfl, q0, q1, r1, g1⟩
  have hq := q1 (by omega)
  obtain ⟨k, rfl⟩ := Int.eq_ofNat_of_zero_le q0
  have hk : k < xs.length := by omega
  have k1 := HK.out.kept g1 hne
  have c1 : w1.cell? ⟨b, k, none⟩ = some (.int .i64 xs[k]) := by rw [k1.cell]; simp [ints, hk]
  have H1 := Lib.hid (And.intro r1 g1)
  have HM := Lib.hid (List.getElem_mem hk)
  clear hr HK q1 r1 g1 k1
  go_wp2_with fail
  go_ret
  exact ⟨xs[k], rfl, HM.out, H1.out.1, H1.out.2⟩

/-! ### Rows -/
def RowD (w : World) (g : Nat) (A : Option Addr) (n c : Nat) (p : Int) (m : Nat) (e : Ending) (w' : World) : Prop :=
  ∃ (xs : List Int) (A' : Option Addr) (c' : Nat), e = .returned (.slice A' xs.length c') ∧ xs.length = m ∧ IntsOwn w' w.heap.size A' c' xs ∧ Rdr w' g A n c (p + m) ∧ w.grownBy w' (some g)
set_option maxRecDepth 100000 in
set_option maxHeartbeats 1600000 in
theorem randomRow_r (g : Nat) (A : Option Addr) (n c : Nat) (p : Int) (m : Nat) (w : World) (hr : Rdr w g A n c p) (hp : p + m ≤ 1000000000) (hm : m ≤ 100) :
    Calls Try.prog 156 #[.pointer (some ⟨g, 0, none⟩), .int .i64 (m : Int)] w (RowD w g A n c p m) := by
  obtain ⟨i0, hi, hz0, hz1, hz2⟩ := info_parts Try.infoInt
  have hlt := hr.1.lt
  have H0 : Hid (Rdr (w.alloc (.cells #[] 3)) g A n c p ∧ w.grownBy (w.alloc (.cells #[] 3)) (some g)) := ⟨hr.alloc _, World.grownBy_alloc _ _ _⟩
  clear hr
  go_enter Try.func156, Try.ntmps156
  go_wp2
  go_loopw [5, 6] (fun v i wr => ∃ (k : Nat) (A' : Option Addr) (c' : Nat) (xs : List Int), k ≤ m ∧ xs.length = k ∧ i = .int .i64 (k : Nat) ∧ v = .slice A' k c' ∧ wr.ownsRow w.heap.size 3 1 (.slice A' k c') k (xs.map (Value.int .i64)) ∧ Rdr wr g A n c (p + k) ∧ w.grownBy wr (some g)) (fun _ i _ => m - (intOf i).toNat)
  case atStart => exact ⟨0, _, _, [], by omega, rfl, rfl, rfl, World.ownsRow_lit (base := w.heap.size) (size := 1) (e := 3) w #[] 0 (Nat.le_refl _) (by simp [maxLen]) (by simp), by simpa using H0.out.1, H0.out.2⟩
  case round =>
    obtain ⟨k, A', c', xs, hk, hxl, rfl, rfl, hown, hrd, hgr⟩ := hrel
    have HL := Lib.hid hxl
    clear hxl
    by_cases hlt2 : k < m
    · have hlt' : (k : Int) < m := by omega
      have HG := Lib.hid hgr
      have HO := Lib.hid hown
      clear hgr hown
      go_wp2_with fail
      refine (pick_r _ _ _ _ _ _ _ hrd (by omega) (by omega)).mono ?_
      rintro e w1 ⟨q, rfl, q0, q1, r1, g1⟩
      have hown1 := ownG HO.out g1 hlt
      have hg1 := HG.out.trans g1
      have hs1 : w.heap.size ≤ w1.heap.size := hg1.size
      clear HO HG hrd q1 g1
      go_wp2_with (at_builtin; refine wpList_append_src _ rfl _ _ 32 rfl w.heap.size 3 i0 (.int .i64 0) 1 8 Try.underlying32 hi hz0 hz1 hz2 rfl (by decide) _ _ _ rfl (hown1.alloc _) (some ⟨w1.heap.size, 0, none⟩) 1 1 [.int .i64 q] rfl rfl (fun h => by cases h) (intZ_srcs _) (intZ_ones _) (by unfold maxLen; omega) (by omega) (by simp; omega) ?_)
      intro v' w3 hown' hgrow hloc
      obtain ⟨A3, c3, rfl⟩ := own_slice hown'
      have hrow : ∀ q, (Value.slice A' k c').ownBlock = some q → w.heap.size ≤ q := fun q hq => (World.ownsRow.lt hown1 q hq).1
      have hg3 := gG (gal hg1 (.cells #[.int .i64 q] 3)) hgrow hrow
      have hr3 := (r1.alloc (.cells #[.int .i64 q] 3)).keptG hgrow (fun q hq => by have := hrow q hq; omega)
      have HR : Hid (w3.ownsRow w.heap.size 3 1 (.slice A3 (k + 1) c3) (k + 1) ((xs ++ [q]).map (Value.int .i64)) ∧ Rdr w3 g A n c (p + ((k + 1 : Nat) : Int)) ∧ w.grownBy w3 (some g)) := by
        refine ⟨by simpa using hown', ?_, hg3⟩
        rw [show p + ((k + 1 : Nat) : Int) = p + k + 1 by omega]
        exact hr3
      clear hown' hgrow hloc hown1 hg1 hg3 hr3 r1 hrow
      go_wp2
      go_roundw
      case rel => exact ⟨k + 1, A3, c3, xs ++ [q], by omega, by simp [HL.out], by go_num, rfl, HR.out⟩
      case measure => simp [intOf]; omega
    · obtain rfl : k = m := by omega
      have HO : Hid (IntsOwn wr w.heap.size A' c' xs) := by
        have : wr.ownsRow w.heap.size 3 1 (.slice A' xs.length c') xs.length (xs.map (Value.int .i64)) := by rw [HL.out]; exact hown
        simpa [Hid, IntsOwn] using this
      have HB := Lib.hid (And.intro hrd hgr)
      clear hown hrd hgr
      go_wp2
      go_ret
      exact ⟨xs, A', c', by rw [HL.out]; rfl, HL.out, HO.out, HB.out⟩

/-! ### Z-sets -/
/-- A short list of entries, and the reader asked at most t times more. -/
def ZD (w : World) (g : Nat) (A : Option Addr) (n c : Nat) (p : Int) (t : Int) (m : Nat) (e : Ending) (w' : World) : Prop :=
  ∃ (z : List Ent) (A' : Option Addr) (c' : Nat) (q : Int), e = .returned (.slice A' z.length c') ∧ EntsOw w' (news w w') A' c' z ∧ z.length ≤ m ∧ rowsIn z 8 ∧ wts z 2000000 ∧ p ≤ q ∧ q ≤ p + t ∧ Rdr w' g A n c q ∧ w.grownBy w' (some g)
theorem wts.mono' {z : List Ent} {b b' : Int} (h : wts z b) (hb : b ≤ b') : wts z b' := fun e he => by have := h e he; omega
theorem nz_len (z : List Ent) : (nz z).length ≤ z.length := List.length_filter_le _ _
theorem nz_rows {z : List Ent} {k : Nat} (h : rowsIn z k) : rowsIn (nz z) k := fun e he => h e (List.mem_filter.1 he).1
theorem nz_wts {z : List Ent} {b : Int} (h : wts z b) : wts (nz z) b := fun e he => h e (List.mem_filter.1 he).1
set_option maxRecDepth 100000 in
set_option maxHeartbeats 3200000 in
theorem randomZSet_r (g : Nat) (A : Option Addr) (n c : Nat) (p : Int) (m t : Nat) (w : World) (hr : Rdr w g A n c p) (hp : p + 200 ≤ 1000000000) (hm : m ≤ 7) (ht : t ≤ 20) :
    Calls Try.prog 114 #[.pointer (some ⟨g, 0, none⟩), .int .i64 (m : Int), .int .i64 (t : Int)] w (ZD w g A n c p 200 20) := by
  have hlt := hr.1.lt
  have hmade := SlF.made EntO 2 34 w #[] 0 (by simp [maxLen]) (by simp) (S := news w (w.alloc (.cells #[] 34))) ⟨Nat.le_refl _, by simp⟩ (fun k hk => by have := hk.2; simpa using this)
  have HM : Hid (EntsOw (w.alloc (.cells #[] 34)) (news w (w.alloc (.cells #[] 34))) (some ⟨w.heap.size, 0, none⟩) 0 []) := ⟨_, _, hmade⟩
  have H0 : Hid (Rdr (w.alloc (.cells #[] 34)) g A n c p ∧ w.grownBy (w.alloc (.cells #[] 34)) (some g)) := ⟨hr.alloc _, World.grownBy_alloc _ _ _⟩
  clear hr hmade
  go_enter Try.func114, Try.ntmps114
  go_wp2_with fail
  refine (pick_r _ _ _ _ _ _ _ H0.out.1 (by omega) (by omega)).mono ?_
  rintro e w1 ⟨j0, rfl, a0, a1, r1, g1⟩
  have ha1 := a1 (by omega)
  obtain ⟨j1, rfl⟩ := Int.eq_ofNat_of_zero_le a0
  have hs0 : w.heap.size < w1.heap.size := by have := g1.size; simp at this; omega
  have H1 : Hid (EntsOw w1 (news w w1) (some ⟨w.heap.size, 0, none⟩) 0 [] ∧ w.grownBy w1 (some g) ∧ Rdr w1 g A n c (p + 1)) :=
    ⟨(entsG HM.out g1 (fun k hk => by have := hk.1; omega)).mono (fun k hk => ⟨hk.1, by have := hk.2; simp at this; omega⟩) (fun k hk => hk.2), H0.out.2.trans g1, r1⟩
  clear HM H0 a1 r1 g1
  go_wp2_with fail
  go_loopw [7, 8] (fun v i wr => ∃ (k : Nat) (A' : Option Addr) (c' : Nat) (z : List Ent) (q : Int), i = .int .i64 (k : Nat) ∧ v = .slice A' z.length c' ∧ A' ≠ none ∧ z.length + k ≤ t ∧ Hid (Asc lessB z ∧ rowsIn z 8 ∧ wts z (2 * ((t : Int) - k)) ∧ EntsOw wr (news w wr) A' c' z) ∧ p ≤ q ∧ q + k * 8 ≤ p + 190 ∧ Rdr wr g A n c q ∧ w.grownBy wr (some g)) (fun _ i _ => (intOf i).toNat)
  case atStart => exact ⟨j1, _, 0, [], p + 1, rfl, rfl, by simp, by simp; omega, ⟨List.Pairwise.nil, (fun e he => by cases he), (fun e he => by cases he), H1.out.1⟩, by omega, by omega, H1.out.2.2, H1.out.2.1⟩
  case round =>
    obtain ⟨k, A', c', z, q, rfl, rfl, hA, hzk, HZ, hq0, hq1, hrd, hgr⟩ := hrel
    by_cases hk : 0 < k
    · have hk' : (0 : Int) < k := by omega
      have HG := Lib.hid hgr
      clear hgr
      go_wp2_with fail
      refine (randomRow_r _ _ _ _ _ m _ hrd (by omega) (by omega)).mono ?_
      rintro e w2 ⟨xs, B, d, rfl, hxl, hxo, r2, g2⟩
      have hxm : xs.length ≤ 7 := by omega
      clear hxl
      have hB : Blk (w2.alloc (.cells #[.int .i64 1, .int .i64 1, .int .i64 2, .int .i64 (-1)] 3)) w2.heap.size 3 (ints [1, 1, 2, -1]) := Blk.newAt rfl
      have hs2 : w.heap.size ≤ w2.heap.size := (HG.out.trans g2).size
      go_wp2_with fail
      refine (oneL_r g w2.heap.size A n c _ [1, 1, 2, -1] _ (r2.alloc _) (by omega) hB (by omega) (by decide) (by decide)).mono ?_
      rintro e w3 ⟨x, rfl, hx, r3, g3⟩
      have hx2 : -2 ≤ x ∧ x ≤ 2 := by simp at hx; omega
      have g23 : wr.grownBy w3 (some g) := (gal g2 _).trans g3
      have HW : Hid (EntsOw w3 (news w wr) A' c' z ∧ IntsAt w3 B xs) :=
        ⟨entsG HZ.out.2.2.2 g23 (fun k hk => by have := hk.1; omega), ((hxo.below (bal (Below.refl _ _) _)).kept g3 (fun a e1 e2 => by
          rcases hxo.form with ⟨h1, _⟩ | ⟨g', h1, h2, h3⟩
          · rw [h1] at e1; cases e1
          · rw [h1] at e1; injection e1 with e1; subst e1; injection e2 with e2; have := HG.out.size; simp at e2; omega)).at_⟩
      have hzw : wts z 1099511627776 := HZ.out.2.2.1.mono' (by omega)
      have hzr : rowsIn z 4194304 := fun e he => by have := HZ.out.2.1 e he; omega
      have hadd := addEntry_s (news w wr) A' c' z B d xs x w3 HW.out.1 hA HZ.out.1 HW.out.2 (by omega) hzr (by omega) hzw (by omega) (by omega)
      clear hzw hzr hB hx g2 r2 hrd hxo
      go_wp2_with fail
      refine hadd.mono ?_
      rintro e w4 ⟨A4, c4, rfl, ho4, g4⟩
      clear hadd
      have hsn : ∀ k, news w wr k → w.heap.size ≤ k := fun k hk => hk.1
      have hs3 : wr.heap.size ≤ w3.heap.size := g23.size
      have hsw : w.heap.size ≤ wr.heap.size := HG.out.size
      have hs4 : w3.heap.size ≤ w4.heap.size := g4.size
      have hlen := insK_length (lt := lessB) z xs x
      have HR : Hid (A4 ≠ none ∧ (Asc lessB (insK lessB z xs x) ∧ rowsIn (insK lessB z xs x) 8 ∧ wts (insK lessB z xs x) (2 * ((t : Int) - ((k - 1 : Nat) : Int))) ∧ EntsOw w4 (news w w4) A4 c4 (insK lessB z xs x)) ∧ Rdr w4 g A n c (q + m + 1) ∧ w.grownBy w4 (some g)) := by
        refine ⟨some_of_pos ho4 (insK_pos z xs x), ⟨insK_asc rowTot HZ.out.1 xs x, rows_ins HZ.out.2.1 (by omega) x, ?_, ho4.mono (fun k hk => ?_) (fun k hk => hk.2)⟩, r3.keptS g4 (fun k hk => by have := hk.1; omega), gS (HG.out.trans g23) g4 hsn⟩
        · exact (wts_ins HZ.out.2.2.1 hx2 (by omega) (by omega) xs).mono' (by omega)
        · rcases hk with hk | hk
          · exact ⟨hk.1, by have := hk.2; omega⟩
          · exact ⟨by have := hk.1; omega, hk.2⟩
      clear ho4 g4 g23 g3 r3 HG HZ HW hsn
      go_wp2
      go_roundw
      case rel => exact ⟨k - 1, A4, c4, _, _, by go_num, rfl, HR.out.1, by omega, HR.out.2.1, by omega, by omega, HR.out.2.2.1, HR.out.2.2.2⟩
      case measure => simp [intOf]; omega
    · obtain rfl : k = 0 := by omega
      have HG := Lib.hid hgr
      have hl := nz_len z
      clear hgr
      go_wp2_with fail
      refine (withoutZeros_s (news w wr) A' c' z wr HZ.out.2.2.2 (by omega)).mono ?_
      rintro e w2 ⟨A2, c2, rfl, ho2, b2⟩
      have hs := HG.out.size
      have hs2 := b2.size
      go_wp2_with fail
      go_ret
      refine ⟨nz z, A2, c2, q, rfl, ho2.mono (fun k hk => ?_) (fun k hk => hk.2), by omega, nz_rows HZ.out.2.1, nz_wts (HZ.out.2.2.1.mono' (by omega)), hq0, by omega, hrd.below b2, gB HG.out b2⟩
      rcases hk with hk | hk
      · exact ⟨hk.1, by have := hk.2; omega⟩
      · exact ⟨by have := hk.1; omega, hk.2⟩
end Go.Proofs.Ytjlpkfcdkmcjnaa
