/- HELPER, no statement of the seat: several texts in one file. -/
import Derived.Shelf.SlSortCmp.NoneTotal
import Derived.Test.YtifjenleoagefaaProg
import Derived.Test.YtifjenleoagefaaCmpE
import Derived.Test.YtifjenleoagefaaBldM
/- HELPER, no statement of the seat: the library's contract of slices.SortFunc, laid (a table of numbers and one theorem, a field a fact of the program's own or the kernel's comparison). -/
namespace Go.Proofs.Ytifjenleoagefaa
open Go.Shelf
def sortE_ren : Go.Shelf.Ren := ⟨fun | 6 => 104 | 15 => 113 | 14 => 112 | 28 => 126 | 29 => 127 | 20 => 118 | 21 => 119 | 22 => 120 | 23 => 121 | 24 => 122 | 25 => 123 | 26 => 124 | 27 => 125 | 46 => 129 | 47 => 130 | 48 => 131 | 49 => 132 | 50 => 133 | 57 => 134 | n => n, fun | 22 => 27 | 24 => 40 | 25 => 115 | 3 => 3 | 39 => 123 | 0 => 0 | 53 => 58 | 55 => 138 | 4 => 4 | 46 => 130 | 45 => 129 | 50 => 134 | 5 => 5 | 9 => 9 | 66 => 140 | 70 => 144 | 76 => 146 | 77 => 147 | n => n, fun | n => n⟩
theorem sortE_lay : Go.Proofs.SlLaysF0.n6 Try.prog sortE_ren := {
  mixed := by kernel_rfl
  f6 := ⟨Try.f104.name, by decide, Try.func104.trans (congrArg some (by kernel_rfl))⟩
  f14 := ⟨Try.f112.name, by decide, Try.func112.trans (congrArg some (by kernel_rfl))⟩
  f15 := Try.func113.trans (congrArg some (by kernel_rfl))
  f20 := ⟨Try.f118.name, by decide, Try.func118.trans (congrArg some (by kernel_rfl))⟩
  f21 := ⟨Try.f119.name, by decide, Try.func119.trans (congrArg some (by kernel_rfl))⟩
  f22 := ⟨Try.f120.name, by decide, Try.func120.trans (congrArg some (by kernel_rfl))⟩
  f23 := ⟨Try.f121.name, by decide, Try.func121.trans (congrArg some (by kernel_rfl))⟩
  f24 := ⟨Try.f122.name, by decide, Try.func122.trans (congrArg some (by kernel_rfl))⟩
  f25 := ⟨Try.f123.name, by decide, Try.func123.trans (congrArg some (by kernel_rfl))⟩
  f26 := ⟨Try.f124.name, by decide, Try.func124.trans (congrArg some (by kernel_rfl))⟩
  f27 := ⟨Try.f125.name, by decide, Try.func125.trans (congrArg some (by kernel_rfl))⟩
  f28 := Try.func126.trans (congrArg some (by kernel_rfl))
  f29 := Try.func127.trans (congrArg some (by kernel_rfl))
  f46 := ⟨Try.f129.name, by decide, Try.func129.trans (congrArg some (by kernel_rfl))⟩
  f47 := Try.func130.trans (congrArg some (by kernel_rfl))
  f48 := Try.func131.trans (congrArg some (by kernel_rfl))
  f49 := ⟨Try.f132.name, by decide, Try.func132.trans (congrArg some (by kernel_rfl))⟩
  f50 := ⟨Try.f133.name, by decide, Try.func133.trans (congrArg some (by kernel_rfl))⟩
  f57 := ⟨Try.f134.name, by decide, Try.func134.trans (congrArg some (by kernel_rfl))⟩
  t0 := Try.underlying0
  a0 := Try.isAgg0
  z0 := Try.sizeOf0
  v0 := Try.zeroValue0
  t3 := Try.underlying3
  a3 := Try.isAgg3
  z3 := Try.sizeOf3
  v3 := Try.zeroValue3
  t4 := Try.underlying4
  a4 := Try.isAgg4
  z4 := Try.sizeOf4
  v4 := Try.zeroValue4
  t5 := Try.underlying5
  a5 := Try.isAgg5
  z5 := Try.sizeOf5
  v5 := Try.zeroValue5
  t9 := Try.underlying9
  a9 := Try.isAgg9
  z9 := Try.sizeOf9
  v9 := Try.zeroValue9
  t22 := Try.underlying27
  a22 := Try.isAgg27
  z22 := Try.sizeOf27
  v22 := Try.zeroValue27
  t25 := Try.underlying115
  a25 := Try.isAgg115
  z25 := Try.sizeOf115
  v25 := Try.zeroValue115
  t39 := Try.underlying123
  a39 := Try.isAgg123
  z39 := Try.sizeOf123
  v39 := Try.zeroValue123
  t45 := Try.underlying129
  a45 := Try.isAgg129
  z45 := Try.sizeOf129
  v45 := Try.zeroValue129
  t46 := Try.underlying130
  a46 := Try.isAgg130
  z46 := Try.sizeOf130
  v46 := Try.zeroValue130
  t50 := Try.underlying134
  a50 := Try.isAgg134
  z50 := Try.sizeOf134
  v50 := Try.zeroValue134
  t53 := Try.underlying58
  a53 := Try.isAgg58
  z53 := Try.sizeOf58
  v53 := Try.zeroValue58
  t55 := Try.underlying138
  a55 := Try.isAgg138
  z55 := Try.sizeOf138
  v55 := Try.zeroValue138
  t66 := Try.underlying140
  a66 := Try.isAgg140
  z66 := Try.sizeOf140
  v66 := Try.zeroValue140
  t70 := Try.underlying144
  a70 := Try.isAgg144
  z70 := Try.sizeOf144
  v70 := Try.zeroValue144
  t76 := Try.underlying146
  a76 := Try.isAgg146
  z76 := Try.sizeOf146
  v76 := Try.zeroValue146
  t77 := Try.underlying147
  a77 := Try.isAgg147
  z77 := Try.sizeOf147
  v77 := Try.zeroValue147 }
end Go.Proofs.Ytifjenleoagefaa

/- HELPER, no statement of the seat: slices.SortFunc at entries. -/
namespace Go.Proofs.Ytifjenleoagefaa
open Go.RowKit Go.Sort Go.Shelf
set_option linter.unusedSimpArgs false
set_option linter.unusedVariables false

/-- An entry as it lies in memory; its row is read in w0. -/
def SE (w0 : World) : Type := { q : (Option Addr × Nat) × Ent // IntsAt w0 q.1.1 q.2.1 ∧ q.2.1.length ≤ 4194304 }
instance (w0 : World) : Inhabited (SE w0) := ⟨⟨((none, 0), ([], 0)), fun h => absurd h (by simp), by simp⟩⟩
def entS {w0 : World} (x : SE w0) : Ent := x.1.2
def encS {w0 : World} (x : SE w0) : List Value := [.slice x.1.1.1 x.1.2.1.length x.1.1.2, .int .i64 x.1.2.2]
def cfS {w0 : World} (x y : SE w0) : Int := cmpL x.1.2.1 y.1.2.1
theorem encS_len {w0 : World} (x : SE w0) : (encS x).length = 2 := rfl
theorem encS_one {w0 : World} (x : SE w0) : ∀ v ∈ encS x, v.oneCell' = true := fun v hv => by
  simp [encS] at hv
  rcases hv with rfl | rfl <;> rfl
theorem encS_rd {w0 : World} (x : SE w0) : EntR w0 (encS x) (entS x) := EntR.mk (Nat.le_trans x.2.2 (by unfold maxLen; omega)) x.2.1
theorem ltS {w0 : World} (x y : SE w0) : ltOf cfS x y = lessB x.1.2.1 y.1.2.1 := rfl
theorem swoS {w0 : World} : SWO (ltOf (cfS (w0 := w0))) where
  irrefl x := by rw [ltS]; exact rowTot.irrefl _
  trans x y z h1 h2 := by rw [ltS] at *; exact rowTot.trans _ _ _ h1 h2
  ntrans x y z h1 h2 := by rw [ltS] at *; exact ge_trans rowTot h2 h1
theorem sE_of {w0 : World} {css : List (List Value)} {es : List Ent} (rd : RdL EntR w0 css es) (hr : rowsIn es 4194304) : ∃ l : List (SE w0), l.map entS = es ∧ l.map encS = css := by
  have each : ∀ i : Fin es.length, ∃ q : SE w0, entS q = es[i.1] ∧ encS q = css[i.1]'(by rw [rd.len]; exact i.2) := fun i => by
    obtain ⟨RA, rc, hcs, hml, hrow⟩ := (rd.elt i.1 (by rw [rd.len]; exact i.2) i.2).form
    exact ⟨⟨((RA, rc), es[i.1]), hrow, hr _ (List.getElem_mem i.2)⟩, rfl, hcs.symm⟩
  refine ⟨(List.finRange es.length).map (fun i => Classical.choose (each i)), ?_, ?_⟩
  · apply List.ext_getElem
    · simp
    · intro i h1 h2
      simp only [List.getElem_map, List.getElem_finRange]
      exact (Classical.choose_spec (each ⟨i, h2⟩)).1
  · apply List.ext_getElem
    · simp [rd.len]
    · intro i h1 h2
      simp only [List.getElem_map, List.getElem_finRange]
      exact (Classical.choose_spec (each ⟨i, by rw [← rd.len]; exact h2⟩)).2
theorem holdsS {w w0 : World} {base g c n : Nat} {E : TypeId} {l : List (SE w0)} (hown : w.ownsRow base E 2 (.slice (some ⟨g, 0, none⟩) n c) n (l.map encS).flatten) (hn : n = l.length) : HoldsK encS 2 w g 0 l.toArray := by
  intro t ht
  have ht' : t < l.length * 2 := by simpa using ht
  have hq : t / 2 < l.length := by omega
  have e := World.ownsRow.cellAt hown t (by omega)
  have hfl := flat_get (sz := 2) (css := l.map encS) (fun cs hc => by obtain ⟨x, _, rfl⟩ := List.mem_map.1 hc; rfl) (t / 2) (by simpa using hq) (t % 2) (Nat.mod_lt _ (by omega))
  rw [show t / 2 * 2 + t % 2 = t by omega] at hfl
  rw [hfl] at e
  refine ⟨?_, World.ownsRow.frozenAt hown _⟩
  rw [get_flatK _ _ _ _ (by simpa using ht'), Nat.zero_add, e, List.getElem_map]
  rw [show (l.toArray)[t / 2]! = l[t / 2] by simp [hq]]
  have hm : t % 2 < (encS l[t / 2]).length := by rw [encS_len]; exact Nat.mod_lt _ (by omega)
  rw [List.getElem?_eq_getElem hm, List.getElem!_eq_getElem?_getD, List.getElem?_eq_getElem hm]
  rfl
theorem below_sortWorld {w0 w : World} {α : Type} [Inhabited α] {enc : α → List Value} {k g off m : Nat} {d : Array α} {os : Array Obj} (h : RowKit.Below w0.heap.size w0 w) (hg : w0.heap.size ≤ g) : RowKit.Below w0.heap.size w0 (sortWorldK enc k w g off m d os) := by
  refine h.trans ⟨rfl, rfl, rfl, ?_, fun q hq => ?_⟩
  · simp [sortWorldK, grow, putRowK]
  · have hs := h.size
    have h1 : (putRowK enc k (Sort.ahead w m) g off d).heap[q]? = w.heap[q]? := by
      simp only [putRowK, putRow, mapBlock, Array.getElem?_modify]
      rw [if_neg (by omega)]
      rfl
    have h2 : q < (putRowK enc k (Sort.ahead w m) g off d).heap.size := by simp [putRowK]; omega
    simp only [sortWorldK, grow]
    rw [Array.getElem?_append_left h2, h1]

theorem sortLit (RA RB : Option Addr) (c d : Nat) (xs ys : List Int) (x y : Int) (w : World) (hx : IntsAt w RA xs) (hy : IntsAt w RB ys) (hn : xs.length ≤ 4194304) (hm : ys.length ≤ 4194304) :
    Calls Try.prog 105 #[.agg #[.slice RA xs.length c, .int .i64 x], .agg #[.slice RB ys.length d, .int .i64 y]] w fun e w' => e = .returned (.int .i64 (cmpL xs ys)) ∧ Grw w w' := by
  have hb0 : Grw w ((w.alloc (.cells #[.slice RA xs.length c, .int .i64 x] 40)).alloc (.cells #[.slice RB ys.length d, .int .i64 y] 40)) := ((Grw.refl _).alloc _).alloc _
  have hm' := m_compare
  go_enter Try.func105, Try.ntmps105
  go_wp2_with fail
  refine (entCompare_grw _ _ _ _ _ _ _ _ _ (hx.below hb0.below) (hy.below hb0.below) hn hm).mono ?_
  rintro e w1 ⟨rfl, hb⟩
  go_wp2
  go_ret
  exact ⟨rfl, hb0.trans hb⟩
theorem cmpLaysS {w0 w : World} {g : Nat} (hb : RowKit.Below w0.heap.size w0 w) (hg : w0.heap.size ≤ g) (size : Nat) : CmpLays Try.prog 105 #[] (encS (w0 := w0)) 2 cfS g 0 size w :=
  fun m os dk _ x y => sortLit x.1.1.1 y.1.1.1 x.1.1.2 y.1.1.2 x.1.2.1 y.1.2.1 x.1.2.2 y.1.2.2 _ (x.2.1.below (below_sortWorld hb hg)) (y.2.1.below (below_sortWorld hb hg)) x.2.2 y.2.2

theorem sortE (w0 w : World) (base g c : Nat) (es : List Ent) (css : List (List Value)) (hb : RowKit.Below w0.heap.size w0 w) (hg : w0.heap.size ≤ g) (hown : w.ownsRow base 40 2 (.slice (some ⟨g, 0, none⟩) es.length c) es.length css.flatten) (rd : RdL EntR w0 css es) (hr : rowsIn es 4194304) (hn : es.length ≤ 4194304) :
    Calls Try.prog 104 #[.slice (some ⟨g, 0, none⟩) es.length c, .func (.func 105) #[] #[]] w fun e w' => e = .returned (.tuple #[]) ∧ ∃ zs : List Ent, zs.Perm es ∧ Up lessB zs ∧ EntsAt w' (some ⟨g, 0, none⟩) zs ∧ RowKit.Below w0.heap.size w0 w' := by
  obtain ⟨l, rfl, rfl⟩ := sE_of rd hr
  have hgw : g < w.heap.size := (World.ownsRow.lt hown g rfl).2
  have hH := holdsS hown (by simp)
  have eg : ∀ args w, (callFunc 105 args).run Try.prog w = .ok (.enter 105 args) w := enters_of Try.func105 (by kernel_rfl) rfl
  have hcon := AnyQ.slices_SortFunc sortE_lay 2 Try.isAgg40 Try.sizeOf40 (encS (w0 := w0)) encS_len encS_one cfS swoS 105 #[] g 0 c l.toArray w eg (cmpLaysS hb hg _) hH hgw (by simp at hn; simp; omega)
  change Calls Try.prog 104 _ _ _ at hcon
  rw [show (l.toArray).size = (l.map entS).length by simp] at hcon
  refine hcon.mono ?_
  rintro e w' ⟨rfl, d', n, os, hp, hs, rfl⟩
  have hsz : d'.size = l.length := by rw [hp.1]; simp
  have hperm : d'.toList.Perm l := by
    have := hp.2.2
    rw [Array.toList_extract, Array.toList_extract] at this
    simp at this
    rwa [List.take_of_length_le (by simp [hsz])] at this
  have hbw := below_sortWorld (enc := encS (w0 := w0)) (k := 2) (off := 0) (m := n) (d := d') (os := os) hb hg
  refine ⟨rfl, d'.toList.map entS, hperm.map _, ?_, fun hpos => ?_, hbw⟩
  · rw [Up, List.pairwise_map, List.pairwise_iff_getElem]
    intro i j hi hj hij
    have := hs i j (Nat.zero_le _) hij (by simp at hj ⊢; omega)
    rw [ltS] at this
    simp only [Array.length_toList] at hi hj
    rw [getElem!_pos d' j hj, getElem!_pos d' i hi] at this
    exact this
  · have hH' := holdsK_sortWorldK_c (encS (w0 := w0)) 2 w g 0 l.toArray d' n os hH hgw (by simpa using hsz)
    refine ⟨g, 0, rfl, Nat.lt_of_lt_of_le hgw (by simp [sortWorldK, grow, putRowK]), fun j hj => ?_⟩
    have hj' : j < d'.size := by simpa using hj
    refine ⟨encS d'[j], rfl, fun i hi => ?_, ?_⟩
    · rw [(hH'.cell hj' hi).1, getElem!_pos d' j hj']
      have hm : i < (encS d'[j]).length := hi
      rw [List.getElem?_eq_getElem hm, List.getElem!_eq_getElem?_getD, List.getElem?_eq_getElem hm]
      rfl
    · rw [List.getElem_map, Array.getElem_toList]
      exact entR.below (encS_rd d'[j]) hbw
theorem sortE_none (A : Option Addr) (c : Nat) (w : World) :
    Calls Try.prog 104 #[.slice A 0 c, .func (.func 105) #[] #[]] w fun e w' => e = .returned (.tuple #[]) ∧ w = w' := by
  have hcon := AnyF.slices_SortFunc_none sortE_lay A c (.func (.func 105) #[] #[]) w
  exact hcon.mono fun e w' ⟨h1, h2⟩ => ⟨h1, h2.symm⟩
end Go.Proofs.Ytifjenleoagefaa
