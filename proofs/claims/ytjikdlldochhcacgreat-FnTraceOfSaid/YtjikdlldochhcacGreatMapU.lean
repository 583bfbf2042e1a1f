/- HELPER, no statement of the seat: MapTrace of both sides. -/
import Derived.Test.YtjikdlldochhcacGreatConsS
import Derived.Test.YtjikdlldochhcacGreatNrm
import Derived.Test.YtjikdlldochhcacGreatGrf
namespace Go.Proofs.YtjikdlldochhcacGreat
open Go.RowKit Go.Sort
set_option linter.unusedSimpArgs false
set_option linter.unusedVariables false

def mapU (cols : List Int) (e : Upd) : Upd := ((projL e.1.1 cols, e.1.2), e.2)
def MapFU (z : List Upd) (cols : List Int) : List Upd := if (trB z && colB cols (widU z)) = true then ConsF (z.map (mapU cols)) else []
theorem MapFU_len (z : List Upd) (cols : List Int) : (MapFU z cols).length ≤ 400 := by
  unfold MapFU
  split
  · exact ConsF_len _
  · simp
theorem MapFU_row (z : List Upd) (cols : List Int) : rowsU (MapFU z cols) 6 := by
  unfold MapFU
  split
  · exact ConsF_row _
  · intro e he; cases he
theorem MapFU_no {z : List Upd} {cols : List Int} (h : colB cols (widU z) = false) : MapFU z cols = [] := by simp [MapFU, h]
theorem sumsU_map {z : List Upd} {cols : List Int} (h : trB z = true) (hc : colB cols (widU z) = true) : sumsU (z.map (mapU cols)) = true := allTo_iff.2 (fun k hk => by
  have hk' : k < z.length := by simpa using hk
  rw [nthU_get hk, List.getElem_map]
  have h1 := trB_sum h _ (List.getElem_mem hk')
  have h2 := trB_wid h _ (List.getElem_mem hk')
  simp only [sumU, sumE, Bool.and_eq_true] at h1 ⊢
  exact ⟨⟨rowB_proj h1.1.1 (by rw [h2]; exact hc), h1.1.2⟩, h1.2⟩)
theorem MapFU_eq {z : List Upd} {cols : List Int} (h : trB z = true) (hc : colB cols (widU z) = true) : MapFU z cols = chkT (nz (NormLU (z.map (mapU cols)))) := by
  have h4 := (trB_parts h).1
  simp [MapFU, h, hc, ConsF, sumsU_map h hc, h4]
theorem map_rowsU {z : List Upd} {cols : List Int} (hc : cols.length ≤ 6) : rowsU (z.map (mapU cols)) 6 := fun e he => by
  obtain ⟨q, _, rfl⟩ := List.mem_map.1 he
  simp only [mapU, projL_length]
  exact hc

/-! ### The model's -/
/-- A list literal of one update, in memory. -/
def UBox (base : Nat) (xs : List Int) (p q x : Int) (v : Value) (w : World) : Prop := ∃ g A c, v = .slice (some ⟨g, 0, none⟩) 1 1 ∧ base ≤ g ∧ Blk w g 54 #[.slice A xs.length c, .int .i64 p, .int .i64 q, .int .i64 x] ∧ IntsOwn w base A c xs
theorem stable_uBox (base : Nat) (xs : List Int) (p q x : Int) : Stable (UBox base xs p q x) := fun _ _ _ hb ⟨g, A, c, e, h0, h, k⟩ => ⟨g, A, c, e, h0, h.below hb, k.below hb⟩
/-- One more update, out of a block: what append gives. -/
theorem SlF.pushB {w w0 w1 w2 : World} {A : Option Addr} {c : Nat} {es : List Upd} {css : List (List Value)} {F : Nat → Fp} {v' : Value} {RA : Option Addr} {rc : Nat} {xs : List Int} {p q x : Int}
    (h : SlF UpdO 4 54 w0 (news w w0) A c es css F) (hb0 : Below w.heap.size w w0) (hb1 : Below w0.heap.size w0 w1) (ho : IntsOwn w1 w0.heap.size RA rc xs)
    (hrow : w2.ownsRow w.heap.size 54 4 v' (es.length + 1) (css.flatten ++ [.slice RA xs.length rc, .int .i64 p, .int .i64 q, .int .i64 x]))
    (hg : w1.grownBy w2 (blk A)) (hl : ∀ k, v'.ownBlock = some k → blk A = some k ∨ w1.heap.size ≤ k) :
    ∃ A' c', v' = .slice A' (es.length + 1) c' ∧ UpdsOw w2 (news w w2) A' c' (es ++ [((xs, (p, q)), x)]) ∧ Below w.heap.size w w2 := by
  obtain ⟨A', c', rfl⟩ := own_slice hrow
  rw [ownBlock_slice] at hl
  have hs0 := hb0.size
  have hs1 := hb1.size
  have hs2 := hg.size
  have h1 : SlF UpdO 4 54 w1 (news w w0) A c es css F := h.loc updO (fun k hk => hb1.block k hk.2)
  have hA0 : ∀ k, blk A = some k → w.heap.size ≤ k ∧ k < w0.heap.size := fun k hk => h.top k hk
  have hel : UpdO w1 (news w0 w1) [.slice RA xs.length rc, .int .i64 p, .int .i64 q, .int .i64 x] ((xs, (p, q)), x) := UpdO.mk (fun k hk => hk.2) (fun k hk => by
    rcases ownsRow_form ho with ⟨e, _⟩ | ⟨g, e, hg1, hg2, _⟩
    · rw [e] at hk; cases hk
    · rw [e] at hk; simp [blk] at hk; subst hk; exact ⟨hg1, hg2⟩) (ho.mono (Nat.zero_le _))
  have hb2 : ∀ k, k < w1.heap.size → blk A ≠ some k → w2.heap[k]? = w1.heap[k]? := fun k hk hn => hg.block k hk (fun e => hn e.symm)
  refine ⟨A', c', rfl, ⟨_, _, h1.push updO hel (fun k h1 h2 => by have := h1.1; have := h2.2; omega) (ownsRow_base0 hrow) hb2 (fun k hk => ?_) (fun k hk => ?_) (fun k hk => hk.2)⟩, ?_⟩
  · rcases hl k hk with h | h
    · exact .inl h
    · right; omega
  · rcases hk with hk | hk | hk
    · exact ⟨hk.1, by have := hk.2; omega⟩
    · exact ⟨by have := hk.1; omega, by have := hk.2; omega⟩
    · have h2 := World.ownsRow.lt hrow k (by rw [ownBlock_slice]; exact hk)
      exact h2
  · exact (btr hb0 hb1).grown hg (by omega) (fun k hk => (hA0 k hk).1)
theorem blk_srcs {w : World} {g : Nat} {E : TypeId} {vs : List Value} {cs : Array Value} (h : Blk w g E cs) (hv : cs.toList = vs) : ∀ a, some (⟨g, 0, none⟩ : Addr) = some a → ∀ j u, vs[j]? = some u → w.cell? (a.add j) = some u := by
  intro a e j u hu
  injection e with e
  subst e
  subst hv
  have h1 := h.cell j
  have h2 : (⟨g, 0, none⟩ : Addr).add j = ⟨g, j, none⟩ := by
    unfold Addr.add
    by_cases hj : j = 0
    · subst hj; simp
    · simp [hj]
  rw [h2, h1]
  simpa using hu

end Go.Proofs.YtjikdlldochhcacGreat
