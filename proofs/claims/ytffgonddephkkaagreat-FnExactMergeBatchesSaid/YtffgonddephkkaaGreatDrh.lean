/- HELPER, no statement of the seat: several texts in one file. -/
import Derived.Test.YtffgonddephkkaaGreatDrg
import Derived.Test.YtffgonddephkkaaGreatAddZ
/- HELPER, no statement of the seat: the generators of rows and of Z-sets: whatever the code, they give short lists of entries with small weights. -/
namespace Go.Proofs.YtffgonddephkkaaGreat
open Go.RowKit Go.Sort
set_option linter.unusedSimpArgs false
set_option linter.unusedVariables false

section
variable {w w' w2 : World} {g n c : Nat} {A : Option Addr} {p : Int}
theorem gS {S : Fp} (h : w.grownBy w' (some g)) (hg : GrownS w' w2 S) (hS : ∀ k, S k → w.heap.size ≤ k) : w.grownBy w2 (some g) :=
  ⟨hg.os.trans h.os, hg.tape.trans h.tape, hg.output.trans h.output, Nat.le_trans h.size hg.size, fun k hk hn => (hg.block k (Nat.lt_of_lt_of_le hk h.size) (fun e => by have := hS k e; omega)).trans (h.block k hk hn)⟩
theorem gG {row : Option Nat} (h : w.grownBy w' (some g)) (hg : w'.grownBy w2 row) (hS : ∀ k, row = some k → w.heap.size ≤ k) : w.grownBy w2 (some g) :=
  gS h (GrownS.ofGrown (S := fun k => row = some k) hg (fun k e => e)) hS
theorem gB (h : w.grownBy w' (some g)) (hb : Below w'.heap.size w' w2) : w.grownBy w2 (some g) := h.trans (gbel hb)
theorem ownG {base sz m : Nat} {E : TypeId} {B : Option Addr} {d : Nat} {vs : List Value} (h : w.ownsRow base E sz (.slice B m d) m vs) (hg : w.grownBy w' (some g)) (hlt : g < base) : w'.ownsRow base E sz (.slice B m d) m vs :=
  ownsRow_loc h (fun k hk => by
    have := World.ownsRow.lt h k (by rw [ownBlock_slice]; exact hk)
    exact hg.block k this.2 (fun e => by injection e with e; omega))
theorem entsG {S : Fp} {B : Option Addr} {d : Nat} {z : List Ent} (h : EntsOw w S B d z) (hg : w.grownBy w' (some g)) (hS : ∀ k, S k → g < k) : EntsOw w' S B d z :=
  h.loc entO (fun k hk => hg.block k (h.lt k hk) (fun e => by injection e with e; have := hS k hk; omega))
end

theorem intZ_srcs {w1 : World} {E : TypeId} (x : Int) : ∀ a, some (⟨w1.heap.size, 0, none⟩ : Addr) = some a → ∀ j u, [Value.int .i64 x][j]? = some u → (w1.alloc (.cells #[.int .i64 x] E)).cell? (a.add j) = some u := by
  intro a e j u hu
  injection e with e
  subst e
  match j, hu with
  | 0, hu => simp at hu; subst hu; simp [Addr.add]
theorem intZ_ones (x : Int) : ∀ u ∈ [Value.int .i64 x], u.oneCell' = true := by
  intro u hu
  simp at hu
  subst hu
  rfl

/-! ### One of some numbers -/
/-! ### Rows -/
/-! ### Z-sets -/
theorem wts.mono' {z : List Ent} {b b' : Int} (h : wts z b) (hb : b ≤ b') : wts z b' := fun e he => by have := h e he; omega
theorem nz_len (z : List Ent) : (nz z).length ≤ z.length := List.length_filter_le _ _
theorem nz_rows {z : List Ent} {k : Nat} (h : rowsIn z k) : rowsIn (nz z) k := fun e he => h e (List.mem_filter.1 he).1
theorem nz_wts {z : List Ent} {b : Int} (h : wts z b) : wts (nz z) b := fun e he => h e (List.mem_filter.1 he).1
end Go.Proofs.YtffgonddephkkaaGreat

/- HELPER, no statement of the seat: the generator of damaged Z-sets, of any Z-set. -/
namespace Go.Proofs.YtffgonddephkkaaGreat
open Go.RowKit Go.Sort
set_option linter.unusedSimpArgs false
set_option linter.unusedVariables false

/-- A cell of an element has been stored, which now leads elsewhere. -/
theorem SlF.swap {α : Type} {O : Ow α} {R : Rd α} {sz : Nat} {E : TypeId} {w : World} {S : Fp} {c : Nat} {xs : List α} {css : List (List Value)} {F : Nat → Fp} (ok : OOk O R sz) {g : Nat} (h : SlF O sz E w S (some ⟨g, 0, none⟩) c xs css F) {j i : Nat} (hj : j < xs.length) (h1 : j < css.length) (hi : i < sz) (u : Value) {x' : α} {T U : Fp} (hx : O w T ((css[j]).set i u) x') (hd : ∀ k, T k → ¬ S k) (hU : ∀ k, S k ∨ T k → U k) (hUl : ∀ k, U k → k < w.heap.size) :
    SlF O sz E (w.setCell ⟨g, j * sz + i, none⟩ u) U (some ⟨g, 0, none⟩) c (xs.set j x') (css.set j ((css[j]).set i u)) (fun m => if m = j then T else F m) := by
  have far : ∀ k, k ≠ g → (w.setCell ⟨g, j * sz + i, none⟩ u).heap[k]? = w.heap[k]? := fun k hk => Below.heap_setCell _ _ _ _ hk
  have hsz : (w.setCell ⟨g, j * sz + i, none⟩ u).heap.size = w.heap.size := by simp [World.setCell]
  have hg : S g := h.top g rfl
  have hne : ∀ m k, F m k → k ≠ g := fun m k hk e => (h.sub m k hk).2 (by rw [e]; rfl)
  have hnt : ∀ k, T k → k ≠ g := fun k hk e => hd k hk (by rw [e]; exact hg)
  refine ⟨fun k hk => by rw [hsz]; exact hUl k hk, fun k hk => hU k (.inl (h.top k hk)), ?_, by simp [h.clen], ?_, ?_, ?_, fun m g1 g2 => ?_⟩
  · have := (World.ownsRow.stored h.row (j * sz + i) u).1
    rw [flat_set u h.elen j h1 i hi] at this
    rw [List.length_set]
    exact this
  · intro cs hcs
    rcases List.mem_or_eq_of_mem_set hcs with hcs | rfl
    · exact h.elen cs hcs
    · rw [List.length_set]; exact h.elen _ (List.getElem_mem h1)
  · intro m k hk
    by_cases e : m = j
    · rw [if_pos e] at hk
      exact ⟨hU k (.inr hk), fun e2 => hnt k hk (by simp [blk] at e2; exact e2.symm)⟩
    · rw [if_neg e] at hk
      exact ⟨hU k (.inl (h.sub m k hk).1), (h.sub m k hk).2⟩
  · intro a b k ha hb
    by_cases e1 : a = j <;> by_cases e2 : b = j
    · omega
    · rw [if_pos e1] at ha; rw [if_neg e2] at hb; exact absurd (h.sub b k hb).1 (hd k ha)
    · rw [if_neg e1] at ha; rw [if_pos e2] at hb; exact absurd (h.sub a k ha).1 (hd k hb)
    · rw [if_neg e1] at ha; rw [if_neg e2] at hb; exact h.apart a b k ha hb
  · by_cases e : m = j
    · subst e
      rw [if_pos rfl]
      simp only [List.getElem_set_self]
      exact ok.loc hx (fun k hk => far k (hnt k hk))
    · rw [if_neg e, List.getElem_set_ne (Ne.symm e), List.getElem_set_ne (Ne.symm e)]
      exact ok.loc (h.elt m (by simpa using g1) (by simpa using g2)) (fun k hk => far k (hne _ k hk))

theorem rows_set {z : List Ent} {k b b' : Nat} {x : Ent} (h : rowsIn z b) (hb : b ≤ b') (hx : x.1.length ≤ b') : rowsIn (z.set k x) b' := fun e he => by
  rcases List.mem_or_eq_of_mem_set he with he | rfl
  · have := h e he; omega
  · exact hx
theorem wts_set {z : List Ent} {k : Nat} {b b' : Int} {x : Ent} (h : wts z b) (hb : b ≤ b') (hx : -b' ≤ x.2 ∧ x.2 ≤ b') : wts (z.set k x) b' := fun e he => by
  rcases List.mem_or_eq_of_mem_set he with he | rfl
  · have := h e he; omega
  · exact hx
theorem plus_lt {S : Fp} {w w' : World} (h : ∀ k, S k → k < w.heap.size) (hs : w.heap.size ≤ w'.heap.size) : ∀ k, plus S w w' k → k < w'.heap.size := fun k hk => by
  rcases hk with hk | hk
  · have := h k hk; omega
  · exact hk.2

end Go.Proofs.YtffgonddephkkaaGreat

/- HELPER, no statement of the seat: the generators of the arguments of the laws on Z-sets. -/
namespace Go.Proofs.YtffgonddephkkaaGreat
open Go.RowKit Go.Sort
set_option linter.unusedSimpArgs false
set_option linter.unusedVariables false

/-- A short list of entries, made since w. -/
def ZA (w : World) (z : List Ent) (A : Option Addr) (c : Nat) (w' : World) : Prop := EntsOw w' (news w w') A c z ∧ z.length ≤ 40 ∧ rowsIn z 10 ∧ wts z 4000000
theorem ZA.below {w w1 w2 : World} {z : List Ent} {A : Option Addr} {c : Nat} (h : ZA w z A c w1) (hb : Below w1.heap.size w1 w2) : ZA w z A c w2 :=
  ⟨(h.1.below entO hb).mono (fun k hk => ⟨hk.1, Nat.lt_of_lt_of_le hk.2 hb.size⟩) (fun k hk => hk.2), h.2⟩
theorem ZA.kept {w w1 w2 : World} {g : Nat} {z : List Ent} {A : Option Addr} {c : Nat} (h : ZA w z A c w1) (hg : w1.grownBy w2 (some g)) (hlt : g < w.heap.size) : ZA w z A c w2 :=
  ⟨(entsG h.1 hg (fun k hk => by have := hk.1; omega)).mono (fun k hk => ⟨hk.1, Nat.lt_of_lt_of_le hk.2 hg.size⟩) (fun k hk => hk.2), h.2⟩
theorem ZA.back {w w0 w1 : World} {z : List Ent} {A : Option Addr} {c : Nat} (h : ZA w0 z A c w1) (hs : w.heap.size ≤ w0.heap.size) : ZA w z A c w1 :=
  ⟨h.1.mono (fun k hk => ⟨Nat.le_trans hs hk.1, hk.2⟩) (fun k hk => hk.2), h.2⟩
theorem gS2 {w w1 w2 : World} {g : Nat} {S : Fp} (h : w.grownBy w1 (some g)) (hg : GrownS w1 w2 (fun k => k = g ∨ S k)) (hS : ∀ k, S k → w.heap.size ≤ k) : w.grownBy w2 (some g) :=
  ⟨hg.os.trans h.os, hg.tape.trans h.tape, hg.output.trans h.output, Nat.le_trans h.size hg.size, fun k hk hn => (hg.block k (Nat.lt_of_lt_of_le hk h.size) (fun e => by
    rcases e with e | e
    · exact hn (by rw [e])
    · have := hS k e; omega)).trans (h.block k hk hn)⟩
/-! ### The arguments of Negate -/
def OneZ (w : World) (e : Ending) (w' : World) : Prop := ∃ (z : List Ent) (A' : Option Addr) (c' : Nat), e = .returned (.slice A' z.length c') ∧ ZA w z A' c' w' ∧ Below w.heap.size w w'
/-! ### The arguments of Add -/
def TwoZ (w : World) (e : Ending) (w' : World) : Prop := ∃ (z y : List Ent) (A1 A2 : Option Addr) (c1 c2 : Nat), e = .returned (.tuple #[.slice A1 z.length c1, .slice A2 y.length c2]) ∧ ZA w z A1 c1 w' ∧ ZA w y A2 c2 w' ∧ Below w.heap.size w w'
end Go.Proofs.YtffgonddephkkaaGreat
