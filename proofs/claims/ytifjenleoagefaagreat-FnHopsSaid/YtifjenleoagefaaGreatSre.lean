/- HELPER, no statement of the seat: several texts in one file. -/
import Derived.Shelf.SlSortCmp.NoneTotal
import Derived.Test.YtifjenleoagefaaGreatProg
import Derived.Test.YtifjenleoagefaaGreatCmpE
import Derived.Test.YtifjenleoagefaaGreatBldM
/- HELPER, no statement of the seat: the library's contract of slices.SortFunc, laid (a table of numbers and one theorem, a field a fact of the program's own or the kernel's comparison). -/
namespace Go.Proofs.YtifjenleoagefaaGreat
open Go.Shelf
def sortE_ren : Go.Shelf.Ren := ⟨fun | 6 => 78 | 15 => 92 | 14 => 91 | 28 => 106 | 29 => 107 | 20 => 98 | 21 => 99 | 22 => 100 | 23 => 101 | 24 => 102 | 25 => 103 | 26 => 104 | 27 => 105 | 46 => 110 | 47 => 111 | 48 => 112 | 49 => 113 | 50 => 114 | 57 => 115 | n => n, fun | 22 => 23 | 24 => 33 | 25 => 94 | 3 => 3 | 39 => 104 | 0 => 0 | 53 => 46 | 55 => 119 | 4 => 4 | 46 => 111 | 45 => 110 | 50 => 115 | 5 => 5 | 9 => 9 | 66 => 121 | 70 => 125 | 76 => 127 | 77 => 128 | n => n, fun | n => n⟩
theorem sortE_lay : Go.Proofs.SlLaysF0.n6 Tryz.prog sortE_ren := {
  mixed := by kernel_rfl
  f6 := ⟨Tryz.f78.name, by decide, Tryz.func78.trans (congrArg some (by kernel_rfl))⟩
  f14 := ⟨Tryz.f91.name, by decide, Tryz.func91.trans (congrArg some (by kernel_rfl))⟩
  f15 := Tryz.func92.trans (congrArg some (by kernel_rfl))
  f20 := ⟨Tryz.f98.name, by decide, Tryz.func98.trans (congrArg some (by kernel_rfl))⟩
  f21 := ⟨Tryz.f99.name, by decide, Tryz.func99.trans (congrArg some (by kernel_rfl))⟩
  f22 := ⟨Tryz.f100.name, by decide, Tryz.func100.trans (congrArg some (by kernel_rfl))⟩
  f23 := ⟨Tryz.f101.name, by decide, Tryz.func101.trans (congrArg some (by kernel_rfl))⟩
  f24 := ⟨Tryz.f102.name, by decide, Tryz.func102.trans (congrArg some (by kernel_rfl))⟩
  f25 := ⟨Tryz.f103.name, by decide, Tryz.func103.trans (congrArg some (by kernel_rfl))⟩
  f26 := ⟨Tryz.f104.name, by decide, Tryz.func104.trans (congrArg some (by kernel_rfl))⟩
  f27 := ⟨Tryz.f105.name, by decide, Tryz.func105.trans (congrArg some (by kernel_rfl))⟩
  f28 := Tryz.func106.trans (congrArg some (by kernel_rfl))
  f29 := Tryz.func107.trans (congrArg some (by kernel_rfl))
  f46 := ⟨Tryz.f110.name, by decide, Tryz.func110.trans (congrArg some (by kernel_rfl))⟩
  f47 := Tryz.func111.trans (congrArg some (by kernel_rfl))
  f48 := Tryz.func112.trans (congrArg some (by kernel_rfl))
  f49 := ⟨Tryz.f113.name, by decide, Tryz.func113.trans (congrArg some (by kernel_rfl))⟩
  f50 := ⟨Tryz.f114.name, by decide, Tryz.func114.trans (congrArg some (by kernel_rfl))⟩
  f57 := ⟨Tryz.f115.name, by decide, Tryz.func115.trans (congrArg some (by kernel_rfl))⟩
  t0 := Tryz.underlying0
  a0 := Tryz.isAgg0
  z0 := Tryz.sizeOf0
  v0 := Tryz.zeroValue0
  t3 := Tryz.underlying3
  a3 := Tryz.isAgg3
  z3 := Tryz.sizeOf3
  v3 := Tryz.zeroValue3
  t4 := Tryz.underlying4
  a4 := Tryz.isAgg4
  z4 := Tryz.sizeOf4
  v4 := Tryz.zeroValue4
  t5 := Tryz.underlying5
  a5 := Tryz.isAgg5
  z5 := Tryz.sizeOf5
  v5 := Tryz.zeroValue5
  t9 := Tryz.underlying9
  a9 := Tryz.isAgg9
  z9 := Tryz.sizeOf9
  v9 := Tryz.zeroValue9
  t22 := Tryz.underlying23
  a22 := Tryz.isAgg23
  z22 := Tryz.sizeOf23
  v22 := Tryz.zeroValue23
  t25 := Tryz.underlying94
  a25 := Tryz.isAgg94
  z25 := Tryz.sizeOf94
  v25 := Tryz.zeroValue94
  t39 := Tryz.underlying104
  a39 := Tryz.isAgg104
  z39 := Tryz.sizeOf104
  v39 := Tryz.zeroValue104
  t45 := Tryz.underlying110
  a45 := Tryz.isAgg110
  z45 := Tryz.sizeOf110
  v45 := Tryz.zeroValue110
  t46 := Tryz.underlying111
  a46 := Tryz.isAgg111
  z46 := Tryz.sizeOf111
  v46 := Tryz.zeroValue111
  t50 := Tryz.underlying115
  a50 := Tryz.isAgg115
  z50 := Tryz.sizeOf115
  v50 := Tryz.zeroValue115
  t53 := Tryz.underlying46
  a53 := Tryz.isAgg46
  z53 := Tryz.sizeOf46
  v53 := Tryz.zeroValue46
  t55 := Tryz.underlying119
  a55 := Tryz.isAgg119
  z55 := Tryz.sizeOf119
  v55 := Tryz.zeroValue119
  t66 := Tryz.underlying121
  a66 := Tryz.isAgg121
  z66 := Tryz.sizeOf121
  v66 := Tryz.zeroValue121
  t70 := Tryz.underlying125
  a70 := Tryz.isAgg125
  z70 := Tryz.sizeOf125
  v70 := Tryz.zeroValue125
  t76 := Tryz.underlying127
  a76 := Tryz.isAgg127
  z76 := Tryz.sizeOf127
  v76 := Tryz.zeroValue127
  t77 := Tryz.underlying128
  a77 := Tryz.isAgg128
  z77 := Tryz.sizeOf128
  v77 := Tryz.zeroValue128 }
end Go.Proofs.YtifjenleoagefaaGreat

/- HELPER, no statement of the seat: slices.SortFunc at entries. -/
namespace Go.Proofs.YtifjenleoagefaaGreat
open Go.RowKit Go.Sort Go.Shelf
set_option linter.unusedSimpArgs false
set_option linter.unusedVariables false

/-- An entry as it lies in memory; its row is read in w0. -/
def SE (w0 : World) : Type := { q : (Option Addr × Nat) × Ent // IntsAt w0 q.1.1 q.2.1 ∧ q.2.1.length ≤ 4194304 }
instance (w0 : World) : Inhabited (SE w0) := ⟨⟨((none, 0), ([], 0)), fun h => absurd h (by simp), by simp⟩⟩
def entS {w0 : World} (x : SE w0) : Ent := x.1.2
def encS {w0 : World} (x : SE w0) : List Value := [.slice x.1.1.1 x.1.2.1.length x.1.1.2, .int .i64 x.1.2.2]
def cfS {w0 : World} (x y : SE w0) : Int := cmpL x.1.2.1 y.1.2.1
theorem encS_len {w0 : World} (x : SE w0) : (encS x).length = 2 := rfl
theorem encS_one {w0 : World} (x : SE w0) : ∀ v ∈ encS x, v.oneCell' = true := fun v hv => by
  simp [encS] at hv
  rcases hv with rfl | rfl <;> rfl
theorem encS_rd {w0 : World} (x : SE w0) : EntR w0 (encS x) (entS x) := EntR.mk (Nat.le_trans x.2.2 (by unfold maxLen; omega)) x.2.1
theorem ltS {w0 : World} (x y : SE w0) : ltOf cfS x y = lessB x.1.2.1 y.1.2.1 := rfl
theorem swoS {w0 : World} : SWO (ltOf (cfS (w0 := w0))) where
  irrefl x := by rw [ltS]; exact rowTot.irrefl _
  trans x y z h1 h2 := by rw [ltS] at *; exact rowTot.trans _ _ _ h1 h2
  ntrans x y z h1 h2 := by rw [ltS] at *; exact ge_trans rowTot h2 h1
theorem sE_of {w0 : World} {css : List (List Value)} {es : List Ent} (rd : RdL EntR w0 css es) (hr : rowsIn es 4194304) : ∃ l : List (SE w0), l.map entS = es ∧ l.map encS = css := by
  have each : ∀ i : Fin es.length, ∃ q : SE w0, entS q = es[i.1] ∧ encS q = css[i.1]'(by rw [rd.len]; exact i.2) := fun i => by
    obtain ⟨RA, rc, hcs, hml, hrow⟩ := (rd.elt i.1 (by rw [rd.len]; exact i.2) i.2).form
    exact ⟨⟨((RA, rc), es[i.1]), hrow, hr _ (List.getElem_mem i.2)⟩, rfl, hcs.symm⟩
  refine ⟨(List.finRange es.length).map (fun i => Classical.choose (each i)), ?_, ?_⟩
  · apply List.ext_getElem
    · simp
    · intro i h1 h2
      simp only [List.getElem_map, List.getElem_finRange]
      exact (Classical.choose_spec (each ⟨i, h2⟩)).1
  · apply List.ext_getElem
    · simp [rd.len]
    · intro i h1 h2
      simp only [List.getElem_map, List.getElem_finRange]
      exact (Classical.choose_spec (each ⟨i, by rw [← rd.len]; exact h2⟩)).2
theorem holdsS {w w0 : World} {base g c n : Nat} {E : TypeId} {l : List (SE w0)} (hown : w.ownsRow base E 2 (.slice (some ⟨g, 0, none⟩) n c) n (l.map encS).flatten) (hn : n = l.length) : HoldsK encS 2 w g 0 l.toArray := by
  intro t ht
  have ht' : t < l.length * 2 := by simpa using ht
  have hq : t / 2 < l.length := by omega
  have e := World.ownsRow.cellAt hown t (by omega)
  have hfl := flat_get (sz := 2) (css := l.map encS) (fun cs hc => by obtain ⟨x, _, rfl⟩ := List.mem_map.1 hc; rfl) (t / 2) (by simpa using hq) (t % 2) (Nat.mod_lt _ (by omega))
  rw [show t / 2 * 2 + t % 2 = t by omega] at hfl
  rw [hfl] at e
  refine ⟨?_, World.ownsRow.frozenAt hown _⟩
  rw [get_flatK _ _ _ _ (by simpa using ht'), Nat.zero_add, e, List.getElem_map]
  rw [show (l.toArray)[t / 2]! = l[t / 2] by simp [hq]]
  have hm : t % 2 < (encS l[t / 2]).length := by rw [encS_len]; exact Nat.mod_lt _ (by omega)
  rw [List.getElem?_eq_getElem hm, List.getElem!_eq_getElem?_getD, List.getElem?_eq_getElem hm]
  rfl
theorem below_sortWorld {w0 w : World} {α : Type} [Inhabited α] {enc : α → List Value} {k g off m : Nat} {d : Array α} {os : Array Obj} (h : RowKit.Below w0.heap.size w0 w) (hg : w0.heap.size ≤ g) : RowKit.Below w0.heap.size w0 (sortWorldK enc k w g off m d os) := by
  refine h.trans ⟨rfl, rfl, rfl, ?_, fun q hq => ?_⟩
  · simp [sortWorldK, grow, putRowK]
  · have hs := h.size
    have h1 : (putRowK enc k (Sort.ahead w m) g off d).heap[q]? = w.heap[q]? := by
      simp only [putRowK, putRow, mapBlock, Array.getElem?_modify]
      rw [if_neg (by omega)]
      rfl
    have h2 : q < (putRowK enc k (Sort.ahead w m) g off d).heap.size := by simp [putRowK]; omega
    simp only [sortWorldK, grow]
    rw [Array.getElem?_append_left h2, h1]

theorem sortLit (RA RB : Option Addr) (c d : Nat) (xs ys : List Int) (x y : Int) (w : World) (hx : IntsAt w RA xs) (hy : IntsAt w RB ys) (hn : xs.length ≤ 4194304) (hm : ys.length ≤ 4194304) :
    Calls Tryz.prog 79 #[.agg #[.slice RA xs.length c, .int .i64 x], .agg #[.slice RB ys.length d, .int .i64 y]] w fun e w' => e = .returned (.int .i64 (cmpL xs ys)) ∧ Grw w w' := by
  have hb0 : Grw w ((w.alloc (.cells #[.slice RA xs.length c, .int .i64 x] 33)).alloc (.cells #[.slice RB ys.length d, .int .i64 y] 33)) := ((Grw.refl _).alloc _).alloc _
  have hm' := m_compare
  go_enter Tryz.func79, Tryz.ntmps79
  go_wp2_with fail
  refine (entCompare_grw _ _ _ _ _ _ _ _ _ (hx.below hb0.below) (hy.below hb0.below) hn hm).mono ?_
  rintro e w1 ⟨rfl, hb⟩
  go_wp2
  go_ret
  exact ⟨rfl, hb0.trans hb⟩
theorem cmpLaysS {w0 w : World} {g : Nat} (hb : RowKit.Below w0.heap.size w0 w) (hg : w0.heap.size ≤ g) (size : Nat) : CmpLays Tryz.prog 79 #[] (encS (w0 := w0)) 2 cfS g 0 size w :=
  fun m os dk _ x y => sortLit x.1.1.1 y.1.1.1 x.1.1.2 y.1.1.2 x.1.2.1 y.1.2.1 x.1.2.2 y.1.2.2 _ (x.2.1.below (below_sortWorld hb hg)) (y.2.1.below (below_sortWorld hb hg)) x.2.2 y.2.2

theorem sortE (w0 w : World) (base g c : Nat) (es : List Ent) (css : List (List Value)) (hb : RowKit.Below w0.heap.size w0 w) (hg : w0.heap.size ≤ g) (hown : w.ownsRow base 33 2 (.slice (some ⟨g, 0, none⟩) es.length c) es.length css.flatten) (rd : RdL EntR w0 css es) (hr : rowsIn es 4194304) (hn : es.length ≤ 4194304) :
    Calls Tryz.prog 78 #[.slice (some ⟨g, 0, none⟩) es.length c, .func (.func 79) #[] #[]] w fun e w' => e = .returned (.tuple #[]) ∧ ∃ zs : List Ent, zs.Perm es ∧ Up lessB zs ∧ EntsAt w' (some ⟨g, 0, none⟩) zs ∧ RowKit.Below w0.heap.size w0 w' := by
  obtain ⟨l, rfl, rfl⟩ := sE_of rd hr
  have hgw : g < w.heap.size := (World.ownsRow.lt hown g rfl).2
  have hH := holdsS hown (by simp)
  have eg : ∀ args w, (callFunc 79 args).run Tryz.prog w = .ok (.enter 79 args) w := enters_of Tryz.func79 (by kernel_rfl) rfl
  have hcon := AnyQ.slices_SortFunc sortE_lay 2 Tryz.isAgg33 Tryz.sizeOf33 (encS (w0 := w0)) encS_len encS_one cfS swoS 79 #[] g 0 c l.toArray w eg (cmpLaysS hb hg _) hH hgw (by simp at hn; simp; omega)
  change Calls Tryz.prog 78 _ _ _ at hcon
  rw [show (l.toArray).size = (l.map entS).length by simp] at hcon
  refine hcon.mono ?_
  rintro e w' ⟨rfl, d', n, os, hp, hs, rfl⟩
  have hsz : d'.size = l.length := by rw [hp.1]; simp
  have hperm : d'.toList.Perm l := by
    have := hp.2.2
    rw [Array.toList_extract, Array.toList_extract] at this
    simp at this
    rwa [List.take_of_length_le (by simp [hsz])] at this
  have hbw := below_sortWorld (enc := encS (w0 := w0)) (k := 2) (off := 0) (m := n) (d := d') (os := os) hb hg
  refine ⟨rfl, d'.toList.map entS, hperm.map _, ?_, fun hpos => ?_, hbw⟩
  · rw [Up, List.pairwise_map, List.pairwise_iff_getElem]
    intro i j hi hj hij
    have := hs i j (Nat.zero_le _) hij (by simp at hj ⊢; omega)
    rw [ltS] at this
    simp only [Array.length_toList] at hi hj
    rw [getElem!_pos d' j hj, getElem!_pos d' i hi] at this
    exact this
  · have hH' := holdsK_sortWorldK_c (encS (w0 := w0)) 2 w g 0 l.toArray d' n os hH hgw (by simpa using hsz)
    refine ⟨g, 0, rfl, Nat.lt_of_lt_of_le hgw (by simp [sortWorldK, grow, putRowK]), fun j hj => ?_⟩
    have hj' : j < d'.size := by simpa using hj
    refine ⟨encS d'[j], rfl, fun i hi => ?_, ?_⟩
    · rw [(hH'.cell hj' hi).1, getElem!_pos d' j hj']
      have hm : i < (encS d'[j]).length := hi
      rw [List.getElem?_eq_getElem hm, List.getElem!_eq_getElem?_getD, List.getElem?_eq_getElem hm]
      rfl
    · rw [List.getElem_map, Array.getElem_toList]
      exact entR.below (encS_rd d'[j]) hbw
theorem sortE_none (A : Option Addr) (c : Nat) (w : World) :
    Calls Tryz.prog 78 #[.slice A 0 c, .func (.func 79) #[] #[]] w fun e w' => e = .returned (.tuple #[]) ∧ w = w' := by
  have hcon := AnyF.slices_SortFunc_none sortE_lay A c (.func (.func 79) #[] #[]) w
  exact hcon.mono fun e w' ⟨h1, h2⟩ => ⟨h1, h2.symm⟩
end Go.Proofs.YtifjenleoagefaaGreat
