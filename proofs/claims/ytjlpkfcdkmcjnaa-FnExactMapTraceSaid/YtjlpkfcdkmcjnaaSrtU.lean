/- HELPER, no statement of the seat: slices.SortFunc at updates. -/
import Derived.Test.YtjlpkfcdkmcjnaaCmpU
import Derived.Test.YtjlpkfcdkmcjnaaBldU
import Derived.Test.YtjlpkfcdkmcjnaaLayU
import Derived.Shelf.SlSortCmp.NoneTotal
namespace Go.Proofs.Ytjlpkfcdkmcjnaa
open Go.RowKit Go.Sort Go.Shelf
set_option linter.unusedSimpArgs false
set_option linter.unusedVariables false

/-- An update as it lies in memory; its row is read in w0. -/
def SU (w0 : World) : Type := { q : (Option Addr × Nat) × Upd // IntsAt w0 q.1.1 q.2.1.1 ∧ q.2.1.1.length ≤ 4194304 }
instance (w0 : World) : Inhabited (SU w0) := ⟨⟨((none, 0), (([], (0, 0)), 0)), fun h => absurd h (by simp), by simp⟩⟩
def updS {w0 : World} (x : SU w0) : Upd := x.1.2
def encU {w0 : World} (x : SU w0) : List Value := [.slice x.1.1.1 x.1.2.1.1.length x.1.1.2, .int .i64 x.1.2.1.2.1, .int .i64 x.1.2.1.2.2, .int .i64 x.1.2.2]
def cfU {w0 : World} (x y : SU w0) : Int := cmpKU x.1.2.1 y.1.2.1
theorem encU_len {w0 : World} (x : SU w0) : (encU x).length = 4 := rfl
theorem encU_one {w0 : World} (x : SU w0) : ∀ v ∈ encU x, v.oneCell' = true := fun v hv => by
  simp [encU] at hv
  rcases hv with rfl | rfl | rfl | rfl <;> rfl
theorem encU_rd {w0 : World} (x : SU w0) : UpdR w0 (encU x) (updS x) := UpdR.of (updS x) (Nat.le_trans x.2.2 (by unfold maxLen; omega)) x.2.1
theorem ltSU {w0 : World} (x y : SU w0) : ltOf cfU x y = ltU x.1.2.1 y.1.2.1 := rfl
theorem swoU {w0 : World} : SWO (ltOf (cfU (w0 := w0))) where
  irrefl x := by rw [ltSU]; exact updTot.irrefl _
  trans x y z h1 h2 := by rw [ltSU] at *; exact updTot.trans _ _ _ h1 h2
  ntrans x y z h1 h2 := by rw [ltSU] at *; exact ge_trans updTot h2 h1
theorem sU_of {w0 : World} {css : List (List Value)} {es : List Upd} (rd : RdL UpdR w0 css es) (hr : rowsU es 4194304) : ∃ l : List (SU w0), l.map updS = es ∧ l.map encU = css := by
  have each : ∀ i : Fin es.length, ∃ q : SU w0, updS q = es[i.1] ∧ encU q = css[i.1]'(by rw [rd.len]; exact i.2) := fun i => by
    obtain ⟨RA, rc, hcs, hml, hrow⟩ := (rd.elt i.1 (by rw [rd.len]; exact i.2) i.2).form
    exact ⟨⟨((RA, rc), es[i.1]), hrow, hr _ (List.getElem_mem i.2)⟩, rfl, hcs.symm⟩
  refine ⟨(List.finRange es.length).map (fun i => Classical.choose (each i)), ?_, ?_⟩
  · apply List.ext_getElem
    · simp
    · intro i h1 h2
      simp only [List.getElem_map, List.getElem_finRange]
      exact (Classical.choose_spec (each ⟨i, h2⟩)).1
  · apply List.ext_getElem
    · simp [rd.len]
    · intro i h1 h2
      simp only [List.getElem_map, List.getElem_finRange]
      exact (Classical.choose_spec (each ⟨i, by rw [← rd.len]; exact h2⟩)).2
theorem holdsU {w w0 : World} {base g c n : Nat} {E : TypeId} {l : List (SU w0)} (hown : w.ownsRow base E 4 (.slice (some ⟨g, 0, none⟩) n c) n (l.map encU).flatten) (hn : n = l.length) : HoldsK encU 4 w g 0 l.toArray := by
  intro t ht
  have ht' : t < l.length * 4 := by simpa using ht
  have hq : t / 4 < l.length := by omega
  have e := World.ownsRow.cellAt hown t (by omega)
  have hfl := flat_get (sz := 4) (css := l.map encU) (fun cs hc => by obtain ⟨x, _, rfl⟩ := List.mem_map.1 hc; rfl) (t / 4) (by simpa using hq) (t % 4) (Nat.mod_lt _ (by omega))
  rw [show t / 4 * 4 + t % 4 = t by omega] at hfl
  rw [hfl] at e
  refine ⟨?_, World.ownsRow.frozenAt hown _⟩
  rw [get_flatK _ _ _ _ (by simpa using ht'), Nat.zero_add, e, List.getElem_map]
  rw [show (l.toArray)[t / 4]! = l[t / 4] by simp [hq]]
  have hm : t % 4 < (encU l[t / 4]).length := by rw [encU_len]; exact Nat.mod_lt _ (by omega)
  rw [List.getElem?_eq_getElem hm, List.getElem!_eq_getElem?_getD, List.getElem?_eq_getElem hm]
  rfl
theorem below_sortWorldU {w0 w : World} {α : Type} [Inhabited α] {enc : α → List Value} {k g off m : Nat} {d : Array α} {os : Array Obj} (h : RowKit.Below w0.heap.size w0 w) (hg : w0.heap.size ≤ g) : RowKit.Below w0.heap.size w0 (sortWorldK enc k w g off m d os) := by
  refine h.trans ⟨rfl, rfl, rfl, ?_, fun q hq => ?_⟩
  · simp [sortWorldK, grow, putRowK]
  · have hs := h.size
    have h1 : (putRowK enc k (Sort.ahead w m) g off d).heap[q]? = w.heap[q]? := by
      simp only [putRowK, putRow, mapBlock, Array.getElem?_modify]
      rw [if_neg (by omega)]
      rfl
    have h2 : q < (putRowK enc k (Sort.ahead w m) g off d).heap.size := by simp [putRowK]; omega
    simp only [sortWorldK, grow]
    rw [Array.getElem?_append_left h2, h1]

theorem sortLitU (RA RB : Option Addr) (c d : Nat) (xs ys : List Int) (p q x r s y : Int) (w : World) (hx : IntsAt w RA xs) (hy : IntsAt w RB ys) (hn : xs.length ≤ 4194304) (hm : ys.length ≤ 4194304) :
    Calls Try.prog 170 #[.agg #[.slice RA xs.length c, .int .i64 p, .int .i64 q, .int .i64 x], .agg #[.slice RB ys.length d, .int .i64 r, .int .i64 s, .int .i64 y]] w fun e w' => e = .returned (.int .i64 (orV (cmpL xs ys) (cmpT p q r s))) ∧ Grw w w' := by
  have hb0 : Grw w ((w.alloc (.cells #[.slice RA xs.length c, .int .i64 p, .int .i64 q, .int .i64 x] 102)).alloc (.cells #[.slice RB ys.length d, .int .i64 r, .int .i64 s, .int .i64 y] 102)) := ((Grw.refl _).alloc _).alloc _
  have hm' := m_compareU
  go_enter Try.func170, Try.ntmps170
  go_wp2_with fail
  refine (updCompare_grw _ _ _ _ _ _ _ _ _ _ _ _ _ (hx.below hb0.below) (hy.below hb0.below) hn hm).mono ?_
  rintro e w1 ⟨rfl, hb⟩
  go_wp2
  go_ret
  exact ⟨rfl, hb0.trans hb⟩
theorem cmpLaysU {w0 w : World} {g : Nat} (hb : RowKit.Below w0.heap.size w0 w) (hg : w0.heap.size ≤ g) (size : Nat) : CmpLays Try.prog 170 #[] (encU (w0 := w0)) 4 cfU g 0 size w :=
  fun m os dk _ x y => sortLitU x.1.1.1 y.1.1.1 x.1.1.2 y.1.1.2 x.1.2.1.1 y.1.2.1.1 x.1.2.1.2.1 x.1.2.1.2.2 x.1.2.2 y.1.2.1.2.1 y.1.2.1.2.2 y.1.2.2 _ (x.2.1.below (below_sortWorldU hb hg)) (y.2.1.below (below_sortWorldU hb hg)) x.2.2 y.2.2

theorem sortU (w0 w : World) (base g c : Nat) (es : List Upd) (css : List (List Value)) (hb : RowKit.Below w0.heap.size w0 w) (hg : w0.heap.size ≤ g) (hown : w.ownsRow base 102 4 (.slice (some ⟨g, 0, none⟩) es.length c) es.length css.flatten) (rd : RdL UpdR w0 css es) (hr : rowsU es 4194304) (hn : es.length ≤ 4194304) :
    Calls Try.prog 169 #[.slice (some ⟨g, 0, none⟩) es.length c, .func (.func 170) #[] #[]] w fun e w' => e = .returned (.tuple #[]) ∧ ∃ zs : List Upd, zs.Perm es ∧ Up ltU zs ∧ UpdsAt w' (some ⟨g, 0, none⟩) zs ∧ RowKit.Below w0.heap.size w0 w' := by
  obtain ⟨l, rfl, rfl⟩ := sU_of rd hr
  have hgw : g < w.heap.size := (World.ownsRow.lt hown g rfl).2
  have hH := holdsU hown (by simp)
  have eg : ∀ args w, (callFunc 170 args).run Try.prog w = .ok (.enter 170 args) w := enters_of Try.func170 (by kernel_rfl) rfl
  have hcon := AnyQ.slices_SortFunc sortU_lay 4 Try.isAgg102 Try.sizeOf102 (encU (w0 := w0)) encU_len encU_one cfU swoU 170 #[] g 0 c l.toArray w eg (cmpLaysU hb hg _) hH hgw (by simp at hn; simp; omega)
  change Calls Try.prog 169 _ _ _ at hcon
  rw [show (l.toArray).size = (l.map updS).length by simp] at hcon
  refine hcon.mono ?_
  rintro e w' ⟨rfl, d', n, os, hp, hs, rfl⟩
  have hsz : d'.size = l.length := by rw [hp.1]; simp
  have hperm : d'.toList.Perm l := by
    have := hp.2.2
    rw [Array.toList_extract, Array.toList_extract] at this
    simp at this
    rwa [List.take_of_length_le (by simp [hsz])] at this
  have hbw := below_sortWorldU (enc := encU (w0 := w0)) (k := 4) (off := 0) (m := n) (d := d') (os := os) hb hg
  refine ⟨rfl, d'.toList.map updS, hperm.map _, ?_, fun hpos => ?_, hbw⟩
  · rw [Up, List.pairwise_map, List.pairwise_iff_getElem]
    intro i j hi hj hij
    have := hs i j (Nat.zero_le _) hij (by simp at hj ⊢; omega)
    rw [ltSU] at this
    simp only [Array.length_toList] at hi hj
    rw [getElem!_pos d' j hj, getElem!_pos d' i hi] at this
    exact this
  · have hH' := holdsK_sortWorldK_c (encU (w0 := w0)) 4 w g 0 l.toArray d' n os hH hgw (by simpa using hsz)
    refine ⟨g, 0, rfl, Nat.lt_of_lt_of_le hgw (by simp [sortWorldK, grow, putRowK]), fun j hj => ?_⟩
    have hj' : j < d'.size := by simpa using hj
    refine ⟨encU d'[j], rfl, fun i hi => ?_, ?_⟩
    · rw [(hH'.cell hj' hi).1, getElem!_pos d' j hj']
      have hm : i < (encU d'[j]).length := hi
      rw [List.getElem?_eq_getElem hm, List.getElem!_eq_getElem?_getD, List.getElem?_eq_getElem hm]
      rfl
    · rw [List.getElem_map, Array.getElem_toList]
      exact updR.below (encU_rd d'[j]) hbw
theorem sortU_none (A : Option Addr) (c : Nat) (w : World) :
    Calls Try.prog 169 #[.slice A 0 c, .func (.func 170) #[] #[]] w fun e w' => e = .returned (.tuple #[]) ∧ w = w' := by
  have hcon := AnyF.slices_SortFunc_none sortU_lay A c (.func (.func 170) #[] #[]) w
  exact hcon.mono fun e w' ⟨h1, h2⟩ => ⟨h1, h2.symm⟩
end Go.Proofs.Ytjlpkfcdkmcjnaa
