/- HELPER, no statement of the seat: several texts in one file. -/
import Derived.Shelf.SlSortCmp.NoneTotal
import Derived.Test.YtjobecoogjojjaaProg
import Derived.Test.YtjobecoogjojjaaCmpU
import Derived.Test.YtjobecoogjojjaaBlu
/- HELPER, no statement of the seat: the library's contract of slices.SortFunc, laid (a table of numbers and one theorem, a field a fact of the program's own or the kernel's comparison). -/
namespace Go.Proofs.Ytjobecoogjojjaa
open Go.Shelf
def sortU_ren : Go.Shelf.Ren := ⟨fun | 6 => 138 | 15 => 165 | 14 => 170 | 28 => 191 | 29 => 192 | 20 => 194 | 21 => 195 | 22 => 196 | 23 => 197 | 24 => 198 | 25 => 199 | 26 => 200 | 27 => 201 | 46 => 209 | 47 => 205 | 48 => 206 | 49 => 210 | 50 => 211 | 57 => 214 | n => n, fun | 22 => 30 | 24 => 37 | 25 => 143 | 3 => 3 | 39 => 163 | 0 => 0 | 53 => 183 | 55 => 185 | 4 => 4 | 46 => 176 | 45 => 175 | 50 => 180 | 5 => 5 | 9 => 9 | 66 => 193 | 70 => 197 | 76 => 201 | 77 => 202 | n => n, fun | n => n⟩
theorem sortU_lay : Go.Proofs.SlLaysF0.n6 Try.prog sortU_ren := {
  mixed := by kernel_rfl
  f6 := ⟨Try.f138.name, by decide, Try.func138.trans (congrArg some (by kernel_rfl))⟩
  f14 := ⟨Try.f170.name, by decide, Try.func170.trans (congrArg some (by kernel_rfl))⟩
  f15 := Try.func165.trans (congrArg some (by kernel_rfl))
  f20 := ⟨Try.f194.name, by decide, Try.func194.trans (congrArg some (by kernel_rfl))⟩
  f21 := ⟨Try.f195.name, by decide, Try.func195.trans (congrArg some (by kernel_rfl))⟩
  f22 := ⟨Try.f196.name, by decide, Try.func196.trans (congrArg some (by kernel_rfl))⟩
  f23 := ⟨Try.f197.name, by decide, Try.func197.trans (congrArg some (by kernel_rfl))⟩
  f24 := ⟨Try.f198.name, by decide, Try.func198.trans (congrArg some (by kernel_rfl))⟩
  f25 := ⟨Try.f199.name, by decide, Try.func199.trans (congrArg some (by kernel_rfl))⟩
  f26 := ⟨Try.f200.name, by decide, Try.func200.trans (congrArg some (by kernel_rfl))⟩
  f27 := ⟨Try.f201.name, by decide, Try.func201.trans (congrArg some (by kernel_rfl))⟩
  f28 := Try.func191.trans (congrArg some (by kernel_rfl))
  f29 := Try.func192.trans (congrArg some (by kernel_rfl))
  f46 := ⟨Try.f209.name, by decide, Try.func209.trans (congrArg some (by kernel_rfl))⟩
  f47 := Try.func205.trans (congrArg some (by kernel_rfl))
  f48 := Try.func206.trans (congrArg some (by kernel_rfl))
  f49 := ⟨Try.f210.name, by decide, Try.func210.trans (congrArg some (by kernel_rfl))⟩
  f50 := ⟨Try.f211.name, by decide, Try.func211.trans (congrArg some (by kernel_rfl))⟩
  f57 := ⟨Try.f214.name, by decide, Try.func214.trans (congrArg some (by kernel_rfl))⟩
  t0 := Try.underlying0
  a0 := Try.isAgg0
  z0 := Try.sizeOf0
  v0 := Try.zeroValue0
  t3 := Try.underlying3
  a3 := Try.isAgg3
  z3 := Try.sizeOf3
  v3 := Try.zeroValue3
  t4 := Try.underlying4
  a4 := Try.isAgg4
  z4 := Try.sizeOf4
  v4 := Try.zeroValue4
  t5 := Try.underlying5
  a5 := Try.isAgg5
  z5 := Try.sizeOf5
  v5 := Try.zeroValue5
  t9 := Try.underlying9
  a9 := Try.isAgg9
  z9 := Try.sizeOf9
  v9 := Try.zeroValue9
  t22 := Try.underlying30
  a22 := Try.isAgg30
  z22 := Try.sizeOf30
  v22 := Try.zeroValue30
  t25 := Try.underlying143
  a25 := Try.isAgg143
  z25 := Try.sizeOf143
  v25 := Try.zeroValue143
  t39 := Try.underlying163
  a39 := Try.isAgg163
  z39 := Try.sizeOf163
  v39 := Try.zeroValue163
  t45 := Try.underlying175
  a45 := Try.isAgg175
  z45 := Try.sizeOf175
  v45 := Try.zeroValue175
  t46 := Try.underlying176
  a46 := Try.isAgg176
  z46 := Try.sizeOf176
  v46 := Try.zeroValue176
  t50 := Try.underlying180
  a50 := Try.isAgg180
  z50 := Try.sizeOf180
  v50 := Try.zeroValue180
  t53 := Try.underlying183
  a53 := Try.isAgg183
  z53 := Try.sizeOf183
  v53 := Try.zeroValue183
  t55 := Try.underlying185
  a55 := Try.isAgg185
  z55 := Try.sizeOf185
  v55 := Try.zeroValue185
  t66 := Try.underlying193
  a66 := Try.isAgg193
  z66 := Try.sizeOf193
  v66 := Try.zeroValue193
  t70 := Try.underlying197
  a70 := Try.isAgg197
  z70 := Try.sizeOf197
  v70 := Try.zeroValue197
  t76 := Try.underlying201
  a76 := Try.isAgg201
  z76 := Try.sizeOf201
  v76 := Try.zeroValue201
  t77 := Try.underlying202
  a77 := Try.isAgg202
  z77 := Try.sizeOf202
  v77 := Try.zeroValue202 }
end Go.Proofs.Ytjobecoogjojjaa

/- HELPER, no statement of the seat: slices.SortFunc at updates. -/
namespace Go.Proofs.Ytjobecoogjojjaa
open Go.RowKit Go.Sort Go.Shelf
set_option linter.unusedSimpArgs false
set_option linter.unusedVariables false

/-- An update as it lies in memory; its row is read in w0. -/
def SU (w0 : World) : Type := { q : (Option Addr × Nat) × Upd // IntsAt w0 q.1.1 q.2.1.1 ∧ q.2.1.1.length ≤ 4194304 }
instance (w0 : World) : Inhabited (SU w0) := ⟨⟨((none, 0), (([], (0, 0)), 0)), fun h => absurd h (by simp), by simp⟩⟩
def updS {w0 : World} (x : SU w0) : Upd := x.1.2
def encU {w0 : World} (x : SU w0) : List Value := [.slice x.1.1.1 x.1.2.1.1.length x.1.1.2, .int .i64 x.1.2.1.2.1, .int .i64 x.1.2.1.2.2, .int .i64 x.1.2.2]
def cfU {w0 : World} (x y : SU w0) : Int := cmpKU x.1.2.1 y.1.2.1
theorem encU_len {w0 : World} (x : SU w0) : (encU x).length = 4 := rfl
theorem encU_one {w0 : World} (x : SU w0) : ∀ v ∈ encU x, v.oneCell' = true := fun v hv => by
  simp [encU] at hv
  rcases hv with rfl | rfl | rfl | rfl <;> rfl
theorem encU_rd {w0 : World} (x : SU w0) : UpdR w0 (encU x) (updS x) := UpdR.of (updS x) (Nat.le_trans x.2.2 (by unfold maxLen; omega)) x.2.1
theorem ltSU {w0 : World} (x y : SU w0) : ltOf cfU x y = ltU x.1.2.1 y.1.2.1 := rfl
theorem swoU {w0 : World} : SWO (ltOf (cfU (w0 := w0))) where
  irrefl x := by rw [ltSU]; exact updTot.irrefl _
  trans x y z h1 h2 := by rw [ltSU] at *; exact updTot.trans _ _ _ h1 h2
  ntrans x y z h1 h2 := by rw [ltSU] at *; exact ge_trans updTot h2 h1
theorem sU_of {w0 : World} {css : List (List Value)} {es : List Upd} (rd : RdL UpdR w0 css es) (hr : rowsU es 4194304) : ∃ l : List (SU w0), l.map updS = es ∧ l.map encU = css := by
  have each : ∀ i : Fin es.length, ∃ q : SU w0, updS q = es[i.1] ∧ encU q = css[i.1]'(by rw [rd.len]; exact i.2) := fun i => by
    obtain ⟨RA, rc, hcs, hml, hrow⟩ := (rd.elt i.1 (by rw [rd.len]; exact i.2) i.2).form
    exact ⟨⟨((RA, rc), es[i.1]), hrow, hr _ (List.getElem_mem i.2)⟩, rfl, hcs.symm⟩
  refine ⟨(List.finRange es.length).map (fun i => Classical.choose (each i)), ?_, ?_⟩
  · apply List.ext_getElem
    · simp
    · intro i h1 h2
      simp only [List.getElem_map, List.getElem_finRange]
      exact (Classical.choose_spec (each ⟨i, h2⟩)).1
  · apply List.ext_getElem
    · simp [rd.len]
    · intro i h1 h2
      simp only [List.getElem_map, List.getElem_finRange]
      exact (Classical.choose_spec (each ⟨i, by rw [← rd.len]; exact h2⟩)).2
theorem holdsU {w w0 : World} {base g c n : Nat} {E : TypeId} {l : List (SU w0)} (hown : w.ownsRow base E 4 (.slice (some ⟨g, 0, none⟩) n c) n (l.map encU).flatten) (hn : n = l.length) : HoldsK encU 4 w g 0 l.toArray := by
  intro t ht
  have ht' : t < l.length * 4 := by simpa using ht
  have hq : t / 4 < l.length := by omega
  have e := World.ownsRow.cellAt hown t (by omega)
  have hfl := flat_get (sz := 4) (css := l.map encU) (fun cs hc => by obtain ⟨x, _, rfl⟩ := List.mem_map.1 hc; rfl) (t / 4) (by simpa using hq) (t % 4) (Nat.mod_lt _ (by omega))
  rw [show t / 4 * 4 + t % 4 = t by omega] at hfl
  rw [hfl] at e
  refine ⟨?_, World.ownsRow.frozenAt hown _⟩
  rw [get_flatK _ _ _ _ (by simpa using ht'), Nat.zero_add, e, List.getElem_map]
  rw [show (l.toArray)[t / 4]! = l[t / 4] by simp [hq]]
  have hm : t % 4 < (encU l[t / 4]).length := by rw [encU_len]; exact Nat.mod_lt _ (by omega)
  rw [List.getElem?_eq_getElem hm, List.getElem!_eq_getElem?_getD, List.getElem?_eq_getElem hm]
  rfl
theorem below_sortWorldU {w0 w : World} {α : Type} [Inhabited α] {enc : α → List Value} {k g off m : Nat} {d : Array α} {os : Array Obj} (h : RowKit.Below w0.heap.size w0 w) (hg : w0.heap.size ≤ g) : RowKit.Below w0.heap.size w0 (sortWorldK enc k w g off m d os) := by
  refine h.trans ⟨rfl, rfl, rfl, ?_, fun q hq => ?_⟩
  · simp [sortWorldK, grow, putRowK]
  · have hs := h.size
    have h1 : (putRowK enc k (Sort.ahead w m) g off d).heap[q]? = w.heap[q]? := by
      simp only [putRowK, putRow, mapBlock, Array.getElem?_modify]
      rw [if_neg (by omega)]
      rfl
    have h2 : q < (putRowK enc k (Sort.ahead w m) g off d).heap.size := by simp [putRowK]; omega
    simp only [sortWorldK, grow]
    rw [Array.getElem?_append_left h2, h1]

theorem sortLitU (RA RB : Option Addr) (c d : Nat) (xs ys : List Int) (p q x r s y : Int) (w : World) (hx : IntsAt w RA xs) (hy : IntsAt w RB ys) (hn : xs.length ≤ 4194304) (hm : ys.length ≤ 4194304) :
    Calls Try.prog 139 #[.agg #[.slice RA xs.length c, .int .i64 p, .int .i64 q, .int .i64 x], .agg #[.slice RB ys.length d, .int .i64 r, .int .i64 s, .int .i64 y]] w fun e w' => e = .returned (.int .i64 (orV (cmpL xs ys) (cmpT p q r s))) ∧ Grw w w' := by
  have hb0 : Grw w ((w.alloc (.cells #[.slice RA xs.length c, .int .i64 p, .int .i64 q, .int .i64 x] 37)).alloc (.cells #[.slice RB ys.length d, .int .i64 r, .int .i64 s, .int .i64 y] 37)) := ((Grw.refl _).alloc _).alloc _
  have hm' := m_compareU
  go_enter Try.func139, Try.ntmps139
  go_wp2_with fail
  refine (updCompare_grw _ _ _ _ _ _ _ _ _ _ _ _ _ (hx.below hb0.below) (hy.below hb0.below) hn hm).mono ?_
  rintro e w1 ⟨rfl, hb⟩
  go_wp2
  go_ret
  exact ⟨rfl, hb0.trans hb⟩
theorem cmpLaysU {w0 w : World} {g : Nat} (hb : RowKit.Below w0.heap.size w0 w) (hg : w0.heap.size ≤ g) (size : Nat) : CmpLays Try.prog 139 #[] (encU (w0 := w0)) 4 cfU g 0 size w :=
  fun m os dk _ x y => sortLitU x.1.1.1 y.1.1.1 x.1.1.2 y.1.1.2 x.1.2.1.1 y.1.2.1.1 x.1.2.1.2.1 x.1.2.1.2.2 x.1.2.2 y.1.2.1.2.1 y.1.2.1.2.2 y.1.2.2 _ (x.2.1.below (below_sortWorldU hb hg)) (y.2.1.below (below_sortWorldU hb hg)) x.2.2 y.2.2

theorem sortU (w0 w : World) (base g c : Nat) (es : List Upd) (css : List (List Value)) (hb : RowKit.Below w0.heap.size w0 w) (hg : w0.heap.size ≤ g) (hown : w.ownsRow base 37 4 (.slice (some ⟨g, 0, none⟩) es.length c) es.length css.flatten) (rd : RdL UpdR w0 css es) (hr : rowsU es 4194304) (hn : es.length ≤ 4194304) :
    Calls Try.prog 138 #[.slice (some ⟨g, 0, none⟩) es.length c, .func (.func 139) #[] #[]] w fun e w' => e = .returned (.tuple #[]) ∧ ∃ zs : List Upd, zs.Perm es ∧ Up ltU zs ∧ UpdsAt w' (some ⟨g, 0, none⟩) zs ∧ RowKit.Below w0.heap.size w0 w' := by
  obtain ⟨l, rfl, rfl⟩ := sU_of rd hr
  have hgw : g < w.heap.size := (World.ownsRow.lt hown g rfl).2
  have hH := holdsU hown (by simp)
  have eg : ∀ args w, (callFunc 139 args).run Try.prog w = .ok (.enter 139 args) w := enters_of Try.func139 (by kernel_rfl) rfl
  have hcon := AnyQ.slices_SortFunc sortU_lay 4 Try.isAgg37 Try.sizeOf37 (encU (w0 := w0)) encU_len encU_one cfU swoU 139 #[] g 0 c l.toArray w eg (cmpLaysU hb hg _) hH hgw (by simp at hn; simp; omega)
  change Calls Try.prog 138 _ _ _ at hcon
  rw [show (l.toArray).size = (l.map updS).length by simp] at hcon
  refine hcon.mono ?_
  rintro e w' ⟨rfl, d', n, os, hp, hs, rfl⟩
  have hsz : d'.size = l.length := by rw [hp.1]; simp
  have hperm : d'.toList.Perm l := by
    have := hp.2.2
    rw [Array.toList_extract, Array.toList_extract] at this
    simp at this
    rwa [List.take_of_length_le (by simp [hsz])] at this
  have hbw := below_sortWorldU (enc := encU (w0 := w0)) (k := 4) (off := 0) (m := n) (d := d') (os := os) hb hg
  refine ⟨rfl, d'.toList.map updS, hperm.map _, ?_, fun hpos => ?_, hbw⟩
  · rw [Up, List.pairwise_map, List.pairwise_iff_getElem]
    intro i j hi hj hij
    have := hs i j (Nat.zero_le _) hij (by simp at hj ⊢; omega)
    rw [ltSU] at this
    simp only [Array.length_toList] at hi hj
    rw [getElem!_pos d' j hj, getElem!_pos d' i hi] at this
    exact this
  · have hH' := holdsK_sortWorldK_c (encU (w0 := w0)) 4 w g 0 l.toArray d' n os hH hgw (by simpa using hsz)
    refine ⟨g, 0, rfl, Nat.lt_of_lt_of_le hgw (by simp [sortWorldK, grow, putRowK]), fun j hj => ?_⟩
    have hj' : j < d'.size := by simpa using hj
    refine ⟨encU d'[j], rfl, fun i hi => ?_, ?_⟩
    · rw [(hH'.cell hj' hi).1, getElem!_pos d' j hj']
      have hm : i < (encU d'[j]).length := hi
      rw [List.getElem?_eq_getElem hm, List.getElem!_eq_getElem?_getD, List.getElem?_eq_getElem hm]
      rfl
    · rw [List.getElem_map, Array.getElem_toList]
      exact updR.below (encU_rd d'[j]) hbw
theorem sortU_none (A : Option Addr) (c : Nat) (w : World) :
    Calls Try.prog 138 #[.slice A 0 c, .func (.func 139) #[] #[]] w fun e w' => e = .returned (.tuple #[]) ∧ w = w' := by
  have hcon := AnyF.slices_SortFunc_none sortU_lay A c (.func (.func 139) #[] #[]) w
  exact hcon.mono fun e w' ⟨h1, h2⟩ => ⟨h1, h2.symm⟩
end Go.Proofs.Ytjobecoogjojjaa
