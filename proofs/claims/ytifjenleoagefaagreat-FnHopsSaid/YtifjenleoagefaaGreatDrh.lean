/- HELPER, no statement of the seat: several texts in one file. -/
import Derived.Test.YtifjenleoagefaaGreatDrg
import Derived.Test.YtifjenleoagefaaGreatAddZ
/- HELPER, no statement of the seat: the generators of rows and of Z-sets: whatever the code, they give short lists of entries with small weights. -/
namespace Go.Proofs.YtifjenleoagefaaGreat
open Go.RowKit Go.Sort
set_option linter.unusedSimpArgs false
set_option linter.unusedVariables false

section
variable {w w' w2 : World} {g n c : Nat} {A : Option Addr} {p : Int}
theorem Rdr.keptG {row : Option Nat} (h : Rdr w g A n c p) (hg : w.grownBy w' row) (hr : ∀ k, row = some k → g < k) : Rdr w' g A n c p :=
  ⟨(hg.block g h.1.lt (fun e => by have := hr _ e.symm; omega)).trans h.1, h.2.1.kept hg (fun k e => by have := hr k e; omega) (Nat.le_of_lt h.1.lt), h.2.2⟩
theorem Rdr.keptS {S : Fp} (h : Rdr w g A n c p) (hg : GrownS w w' S) (hS : ∀ k, S k → g < k) : Rdr w' g A n c p := by
  refine ⟨(hg.block g h.1.lt (fun e => by have := hS _ e; omega)).trans h.1, fun hn => ?_, h.2.2⟩
  obtain ⟨b, off, e, hb, hc⟩ := h.2.1 hn
  refine ⟨b, off, e, hb, fun j hj => ?_⟩
  obtain ⟨z, h0, h1, h2⟩ := hc j hj
  have hlt := h.1.lt
  exact ⟨z, h0, h1, (World.cell?_of_block (a := ⟨b, off + j, none⟩) (hg.block b (by omega) (fun e => by have := hS _ e; omega))).trans h2⟩
theorem gS {S : Fp} (h : w.grownBy w' (some g)) (hg : GrownS w' w2 S) (hS : ∀ k, S k → w.heap.size ≤ k) : w.grownBy w2 (some g) :=
  ⟨hg.os.trans h.os, hg.tape.trans h.tape, hg.output.trans h.output, Nat.le_trans h.size hg.size, fun k hk hn => (hg.block k (Nat.lt_of_lt_of_le hk h.size) (fun e => by have := hS k e; omega)).trans (h.block k hk hn)⟩
theorem gG {row : Option Nat} (h : w.grownBy w' (some g)) (hg : w'.grownBy w2 row) (hS : ∀ k, row = some k → w.heap.size ≤ k) : w.grownBy w2 (some g) :=
  gS h (GrownS.ofGrown (S := fun k => row = some k) hg (fun k e => e)) hS
theorem gB (h : w.grownBy w' (some g)) (hb : Below w'.heap.size w' w2) : w.grownBy w2 (some g) := h.trans (gbel hb)
theorem ownG {base sz m : Nat} {E : TypeId} {B : Option Addr} {d : Nat} {vs : List Value} (h : w.ownsRow base E sz (.slice B m d) m vs) (hg : w.grownBy w' (some g)) (hlt : g < base) : w'.ownsRow base E sz (.slice B m d) m vs :=
  ownsRow_loc h (fun k hk => by
    have := World.ownsRow.lt h k (by rw [ownBlock_slice]; exact hk)
    exact hg.block k this.2 (fun e => by injection e with e; omega))
theorem entsG {S : Fp} {B : Option Addr} {d : Nat} {z : List Ent} (h : EntsOw w S B d z) (hg : w.grownBy w' (some g)) (hS : ∀ k, S k → g < k) : EntsOw w' S B d z :=
  h.loc entO (fun k hk => hg.block k (h.lt k hk) (fun e => by injection e with e; have := hS k hk; omega))
end

theorem intZ_srcs {w1 : World} {E : TypeId} (x : Int) : ∀ a, some (⟨w1.heap.size, 0, none⟩ : Addr) = some a → ∀ j u, [Value.int .i64 x][j]? = some u → (w1.alloc (.cells #[.int .i64 x] E)).cell? (a.add j) = some u := by
  intro a e j u hu
  injection e with e
  subst e
  match j, hu with
  | 0, hu => simp at hu; subst hu; simp [Addr.add]
theorem intZ_ones (x : Int) : ∀ u ∈ [Value.int .i64 x], u.oneCell' = true := by
  intro u hu
  simp at hu
  subst hu
  rfl

/-! ### One of some numbers -/
def OneL (w : World) (g : Nat) (A : Option Addr) (n c : Nat) (p : Int) (xs : List Int) (e : Ending) (w' : World) : Prop := ∃ q : Int, e = .returned (.int .i64 q) ∧ q ∈ xs ∧ Rdr w' g A n c (p + 1) ∧ w.grownBy w' (some g)
set_option maxHeartbeats 800000 in
theorem oneL_r (g b : Nat) (A : Option Addr) (n c : Nat) (p : Int) (xs : List Int) (w : World) (hr : Rdr w g A n c p) (hp : p + 1 ≤ 1000000000) (hk : Blk w b 3 (ints xs)) (hne : b ≠ g) (h0 : 0 < xs.length) (h1 : xs.length ≤ 100) :
    Calls Tryz.prog 21 #[.pointer (some ⟨g, 0, none⟩), .slice (some ⟨b, 0, none⟩) xs.length xs.length] w (OneL w g A n c p xs) := by
  have HK := Lib.hid hk
  clear hk
  go_enter Tryz.func21, Tryz.ntmps21
  go_wp2_with fail
  refine (pick_r _ _ _ _ _ _ _ hr hp (by omega)).mono ?_
  rintro e w1 ⟨q, rfl, q0, q1, r1, g1⟩
  have hq := q1 (by omega)
  obtain ⟨k, rfl⟩ := Int.eq_ofNat_of_zero_le q0
  have hk : k < xs.length := by omega
  have k1 := HK.out.kept g1 hne
  have c1 : w1.cell? ⟨b, k, none⟩ = some (.int .i64 xs[k]) := by rw [k1.cell]; simp [ints, hk]
  have H1 := Lib.hid (And.intro r1 g1)
  have HM := Lib.hid (List.getElem_mem hk)
  clear hr HK q1 r1 g1 k1
  go_wp2_with fail
  go_ret
  exact ⟨xs[k], rfl, HM.out, H1.out.1, H1.out.2⟩

/-! ### Rows -/
def RowD (w : World) (g : Nat) (A : Option Addr) (n c : Nat) (p : Int) (m : Nat) (e : Ending) (w' : World) : Prop :=
  ∃ (xs : List Int) (A' : Option Addr) (c' : Nat), e = .returned (.slice A' xs.length c') ∧ xs.length = m ∧ IntsOwn w' w.heap.size A' c' xs ∧ Rdr w' g A n c (p + m) ∧ w.grownBy w' (some g)
/-! ### Z-sets -/
/-- A short list of entries, and the reader asked at most t times more. -/
def ZD (w : World) (g : Nat) (A : Option Addr) (n c : Nat) (p : Int) (t : Int) (m : Nat) (e : Ending) (w' : World) : Prop :=
  ∃ (z : List Ent) (A' : Option Addr) (c' : Nat) (q : Int), e = .returned (.slice A' z.length c') ∧ EntsOw w' (news w w') A' c' z ∧ z.length ≤ m ∧ rowsIn z 8 ∧ wts z 2000000 ∧ p ≤ q ∧ q ≤ p + t ∧ Rdr w' g A n c q ∧ w.grownBy w' (some g)
theorem wts.mono' {z : List Ent} {b b' : Int} (h : wts z b) (hb : b ≤ b') : wts z b' := fun e he => by have := h e he; omega
theorem nz_len (z : List Ent) : (nz z).length ≤ z.length := List.length_filter_le _ _
theorem nz_rows {z : List Ent} {k : Nat} (h : rowsIn z k) : rowsIn (nz z) k := fun e he => h e (List.mem_filter.1 he).1
theorem nz_wts {z : List Ent} {b : Int} (h : wts z b) : wts (nz z) b := fun e he => h e (List.mem_filter.1 he).1
end Go.Proofs.YtifjenleoagefaaGreat

/- HELPER, no statement of the seat: the generator of damaged Z-sets, of any Z-set. -/
namespace Go.Proofs.YtifjenleoagefaaGreat
open Go.RowKit Go.Sort
set_option linter.unusedSimpArgs false
set_option linter.unusedVariables false

/-- A cell of an element has been stored, which now leads elsewhere. -/
theorem SlF.swap {α : Type} {O : Ow α} {R : Rd α} {sz : Nat} {E : TypeId} {w : World} {S : Fp} {c : Nat} {xs : List α} {css : List (List Value)} {F : Nat → Fp} (ok : OOk O R sz) {g : Nat} (h : SlF O sz E w S (some ⟨g, 0, none⟩) c xs css F) {j i : Nat} (hj : j < xs.length) (h1 : j < css.length) (hi : i < sz) (u : Value) {x' : α} {T U : Fp} (hx : O w T ((css[j]).set i u) x') (hd : ∀ k, T k → ¬ S k) (hU : ∀ k, S k ∨ T k → U k) (hUl : ∀ k, U k → k < w.heap.size) :
    SlF O sz E (w.setCell ⟨g, j * sz + i, none⟩ u) U (some ⟨g, 0, none⟩) c (xs.set j x') (css.set j ((css[j]).set i u)) (fun m => if m = j then T else F m) := by
  have far : ∀ k, k ≠ g → (w.setCell ⟨g, j * sz + i, none⟩ u).heap[k]? = w.heap[k]? := fun k hk => Below.heap_setCell _ _ _ _ hk
  have hsz : (w.setCell ⟨g, j * sz + i, none⟩ u).heap.size = w.heap.size := by simp [World.setCell]
  have hg : S g := h.top g rfl
  have hne : ∀ m k, F m k → k ≠ g := fun m k hk e => (h.sub m k hk).2 (by rw [e]; rfl)
  have hnt : ∀ k, T k → k ≠ g := fun k hk e => hd k hk (by rw [e]; exact hg)
  refine ⟨fun k hk => by rw [hsz]; exact hUl k hk, fun k hk => hU k (.inl (h.top k hk)), ?_, by simp [h.clen], ?_, ?_, ?_, fun m g1 g2 => ?_⟩
  · have := (World.ownsRow.stored h.row (j * sz + i) u).1
    rw [flat_set u h.elen j h1 i hi] at this
    rw [List.length_set]
    exact this
  · intro cs hcs
    rcases List.mem_or_eq_of_mem_set hcs with hcs | rfl
    · exact h.elen cs hcs
    · rw [List.length_set]; exact h.elen _ (List.getElem_mem h1)
  · intro m k hk
    by_cases e : m = j
    · rw [if_pos e] at hk
      exact ⟨hU k (.inr hk), fun e2 => hnt k hk (by simp [blk] at e2; exact e2.symm)⟩
    · rw [if_neg e] at hk
      exact ⟨hU k (.inl (h.sub m k hk).1), (h.sub m k hk).2⟩
  · intro a b k ha hb
    by_cases e1 : a = j <;> by_cases e2 : b = j
    · omega
    · rw [if_pos e1] at ha; rw [if_neg e2] at hb; exact absurd (h.sub b k hb).1 (hd k ha)
    · rw [if_neg e1] at ha; rw [if_pos e2] at hb; exact absurd (h.sub a k ha).1 (hd k hb)
    · rw [if_neg e1] at ha; rw [if_neg e2] at hb; exact h.apart a b k ha hb
  · by_cases e : m = j
    · subst e
      rw [if_pos rfl]
      simp only [List.getElem_set_self]
      exact ok.loc hx (fun k hk => far k (hnt k hk))
    · rw [if_neg e, List.getElem_set_ne (Ne.symm e), List.getElem_set_ne (Ne.symm e)]
      exact ok.loc (h.elt m (by simpa using g1) (by simpa using g2)) (fun k hk => far k (hne _ k hk))

/-- What damage gives. -/
def DamD (w : World) (S : Fp) (g : Nat) (A : Option Addr) (n c : Nat) (p : Int) (m : Nat) (e : Ending) (w' : World) : Prop :=
  ∃ (z : List Ent) (A' : Option Addr) (c' : Nat) (q : Int), e = .returned (.slice A' z.length c') ∧ EntsOw w' (plus S w w') A' c' z ∧ z.length ≤ m + 1 ∧ rowsIn z 10 ∧ wts z 4000000 ∧ p ≤ q ∧ q ≤ p + 5 ∧ Rdr w' g A n c q ∧ GrownS w w' (fun k => k = g ∨ S k)
theorem rows_set {z : List Ent} {k b b' : Nat} {x : Ent} (h : rowsIn z b) (hb : b ≤ b') (hx : x.1.length ≤ b') : rowsIn (z.set k x) b' := fun e he => by
  rcases List.mem_or_eq_of_mem_set he with he | rfl
  · have := h e he; omega
  · exact hx
theorem wts_set {z : List Ent} {k : Nat} {b b' : Int} {x : Ent} (h : wts z b) (hb : b ≤ b') (hx : -b' ≤ x.2 ∧ x.2 ≤ b') : wts (z.set k x) b' := fun e he => by
  rcases List.mem_or_eq_of_mem_set he with he | rfl
  · have := h e he; omega
  · exact hx
theorem plus_lt {S : Fp} {w w' : World} (h : ∀ k, S k → k < w.heap.size) (hs : w.heap.size ≤ w'.heap.size) : ∀ k, plus S w w' k → k < w'.heap.size := fun k hk => by
  rcases hk with hk | hk
  · have := h k hk; omega
  · exact hk.2

/-- The row at place k has been replaced. -/
theorem damRow {w w2 w4 : World} {S : Fp} {g G : Nat} {A : Option Addr} {n c d k : Nat} {p q : Int} {m : Nat} {z : List Ent} {css : List (List Value)} {F : Nat → Fp} {RA : Option Addr} {rc L : Nat} {xs : List Int} (hL : xs.length = L)
    (hF : SlF EntO 2 33 w2 S (some ⟨G, 0, none⟩) d z css F) (hg2 : w.grownBy w2 (some g)) (hlt : ∀ k, S k → g < k ∧ k < w.heap.size) (hk : k < z.length) (hb : Below w2.heap.size w2 w4) (ho : IntsOwn w4 w2.heap.size RA rc xs) (hrd : Rdr w4 g A n c q)
    (hxl : xs.length ≤ 10) (hl : z.length ≤ m) (hr : rowsIn z 8) (hw : wts z 2000000) (hq : p ≤ q) (hq2 : q ≤ p + 5) :
    DamD w S g A n c p m (.returned (.slice (some ⟨G, 0, none⟩) z.length d)) (w4.setCell ⟨G, k * 2, none⟩ (.slice RA L rc)) := by
  subst hL
  have hs2 := hg2.size
  have hs4 := hb.size
  have h4 : SlF EntO 2 33 w4 S (some ⟨G, 0, none⟩) d z css F := hF.loc entO (fun k hk => hb.block k (by have := (hlt k hk).2; omega))
  have hSG : S G := hF.top G rfl
  have h1 : k < css.length := by rw [hF.clen]; exact hk
  obtain ⟨RA0, rc0, hcs, hS0, hrow0⟩ := (h4.elt k h1 hk).form
  have hx : EntO w4 (fun q => w2.heap.size ≤ q ∧ q < w4.heap.size) ((css[k]).set 0 (.slice RA xs.length rc)) (xs, z[k].2) := by
    rw [hcs]
    exact EntO.mk (fun q hq => hq.2) (fun q e => by
      rcases ho.form with ⟨h1, _⟩ | ⟨g', h1, h2, h3⟩
      · rw [h1] at e; cases e
      · rw [h1] at e; simp [blk] at e; subst e; exact ⟨h2, h3⟩) (ho.mono (Nat.zero_le _))
  have hsw := h4.swap entO hk h1 (i := 0) (by decide) (.slice RA xs.length rc) (U := plus S w w4) hx (fun q hq e => by have := (hlt q e).2; have := hq.1; omega) (fun q hq => by
    rcases hq with hq | hq
    · exact .inl hq
    · exact .inr ⟨by have := hq.1; omega, hq.2⟩) (plus_lt (fun q hq => (hlt q hq).2) (by omega))
  rw [Nat.add_zero] at hsw
  refine ⟨z.set k (xs, z[k].2), some ⟨G, 0, none⟩, d, q, by rw [List.length_set], ⟨_, _, hsw.mono (fun q hq => ?_) (fun q hq => ?_)⟩, by rw [List.length_set]; omega, rows_set hr (by omega) hxl, wts_set hw (by omega) (by have := hw _ (List.getElem_mem hk); simp only; omega), hq, hq2, hrd.far (by have := (hlt G hSG).1; simpa using this) _, ?_⟩
  · rcases hq with hq | hq
    · exact .inl hq
    · exact .inr ⟨hq.1, by have := hq.2; simp [World.setCell]; omega⟩
  · rcases hq with hq | hq
    · have := (hlt q hq).2; simp [World.setCell]; omega
    · exact hq.2
  · exact ((GrownS.ofGrown hg2 (fun k e => .inl (by injection e with e; exact e.symm))).trans (GrownS.ofBelow hb)).set_ (p := ⟨G, k * 2, none⟩) (.inr hSG) _

end Go.Proofs.YtifjenleoagefaaGreat

/- HELPER, no statement of the seat: the generators of the arguments of the laws on Z-sets. -/
namespace Go.Proofs.YtifjenleoagefaaGreat
open Go.RowKit Go.Sort
set_option linter.unusedSimpArgs false
set_option linter.unusedVariables false

/-- A short list of entries, made since w. -/
def ZA (w : World) (z : List Ent) (A : Option Addr) (c : Nat) (w' : World) : Prop := EntsOw w' (news w w') A c z ∧ z.length ≤ 40 ∧ rowsIn z 10 ∧ wts z 4000000
theorem ZA.below {w w1 w2 : World} {z : List Ent} {A : Option Addr} {c : Nat} (h : ZA w z A c w1) (hb : Below w1.heap.size w1 w2) : ZA w z A c w2 :=
  ⟨(h.1.below entO hb).mono (fun k hk => ⟨hk.1, Nat.lt_of_lt_of_le hk.2 hb.size⟩) (fun k hk => hk.2), h.2⟩
theorem ZA.kept {w w1 w2 : World} {g : Nat} {z : List Ent} {A : Option Addr} {c : Nat} (h : ZA w z A c w1) (hg : w1.grownBy w2 (some g)) (hlt : g < w.heap.size) : ZA w z A c w2 :=
  ⟨(entsG h.1 hg (fun k hk => by have := hk.1; omega)).mono (fun k hk => ⟨hk.1, Nat.lt_of_lt_of_le hk.2 hg.size⟩) (fun k hk => hk.2), h.2⟩
theorem ZA.back {w w0 w1 : World} {z : List Ent} {A : Option Addr} {c : Nat} (h : ZA w0 z A c w1) (hs : w.heap.size ≤ w0.heap.size) : ZA w z A c w1 :=
  ⟨h.1.mono (fun k hk => ⟨Nat.le_trans hs hk.1, hk.2⟩) (fun k hk => hk.2), h.2⟩
def ZAny (w : World) (g : Nat) (A : Option Addr) (n c : Nat) (p t : Int) (e : Ending) (w' : World) : Prop :=
  ∃ (z : List Ent) (A' : Option Addr) (c' : Nat) (q : Int), e = .returned (.slice A' z.length c') ∧ ZA w z A' c' w' ∧ p ≤ q ∧ q ≤ p + t ∧ Rdr w' g A n c q ∧ w.grownBy w' (some g)
theorem gS2 {w w1 w2 : World} {g : Nat} {S : Fp} (h : w.grownBy w1 (some g)) (hg : GrownS w1 w2 (fun k => k = g ∨ S k)) (hS : ∀ k, S k → w.heap.size ≤ k) : w.grownBy w2 (some g) :=
  ⟨hg.os.trans h.os, hg.tape.trans h.tape, hg.output.trans h.output, Nat.le_trans h.size hg.size, fun k hk hn => (hg.block k (Nat.lt_of_lt_of_le hk h.size) (fun e => by
    rcases e with e | e
    · exact hn (by rw [e])
    · have := hS k e; omega)).trans (h.block k hk hn)⟩
/-! ### The arguments of Negate -/
def OneZ (w : World) (e : Ending) (w' : World) : Prop := ∃ (z : List Ent) (A' : Option Addr) (c' : Nat), e = .returned (.slice A' z.length c') ∧ ZA w z A' c' w' ∧ Below w.heap.size w w'
/-! ### The arguments of Add -/
def TwoZ (w : World) (e : Ending) (w' : World) : Prop := ∃ (z y : List Ent) (A1 A2 : Option Addr) (c1 c2 : Nat), e = .returned (.tuple #[.slice A1 z.length c1, .slice A2 y.length c2]) ∧ ZA w z A1 c1 w' ∧ ZA w y A2 c2 w' ∧ Below w.heap.size w w'
end Go.Proofs.YtifjenleoagefaaGreat
