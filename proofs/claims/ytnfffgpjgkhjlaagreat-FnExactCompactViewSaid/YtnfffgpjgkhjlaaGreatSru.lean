/- HELPER, no statement of the seat: several texts in one file. -/
import Derived.Shelf.SlSortCmp.NoneTotal
import Derived.Test.YtnfffgpjgkhjlaaGreatProg
import Derived.Test.YtnfffgpjgkhjlaaGreatCmpU
import Derived.Test.YtnfffgpjgkhjlaaGreatBlu
/- HELPER, no statement of the seat: the library's contract of slices.SortFunc, laid (a table of numbers and one theorem, a field a fact of the program's own or the kernel's comparison). -/
namespace Go.Proofs.YtnfffgpjgkhjlaaGreat
open Go.Shelf
def sortU_ren : Go.Shelf.Ren := ⟨fun | 6 => 122 | 15 => 125 | 14 => 124 | 28 => 134 | 29 => 135 | 20 => 126 | 21 => 127 | 22 => 128 | 23 => 129 | 24 => 130 | 25 => 131 | 26 => 132 | 27 => 133 | 46 => 136 | 47 => 137 | 48 => 138 | 49 => 139 | 50 => 140 | 57 => 141 | n => n, fun | 22 => 30 | 24 => 63 | 25 => 134 | 3 => 3 | 39 => 137 | 0 => 0 | 53 => 147 | 55 => 149 | 4 => 4 | 46 => 140 | 45 => 139 | 50 => 144 | 5 => 5 | 9 => 9 | 66 => 150 | 70 => 154 | 76 => 156 | 77 => 157 | n => n, fun | n => n⟩
theorem sortU_lay : Go.Proofs.SlLaysF0.n6 Tryz.prog sortU_ren := {
  mixed := by kernel_rfl
  f6 := ⟨Tryz.f122.name, by decide, Tryz.func122.trans (congrArg some (by kernel_rfl))⟩
  f14 := ⟨Tryz.f124.name, by decide, Tryz.func124.trans (congrArg some (by kernel_rfl))⟩
  f15 := Tryz.func125.trans (congrArg some (by kernel_rfl))
  f20 := ⟨Tryz.f126.name, by decide, Tryz.func126.trans (congrArg some (by kernel_rfl))⟩
  f21 := ⟨Tryz.f127.name, by decide, Tryz.func127.trans (congrArg some (by kernel_rfl))⟩
  f22 := ⟨Tryz.f128.name, by decide, Tryz.func128.trans (congrArg some (by kernel_rfl))⟩
  f23 := ⟨Tryz.f129.name, by decide, Tryz.func129.trans (congrArg some (by kernel_rfl))⟩
  f24 := ⟨Tryz.f130.name, by decide, Tryz.func130.trans (congrArg some (by kernel_rfl))⟩
  f25 := ⟨Tryz.f131.name, by decide, Tryz.func131.trans (congrArg some (by kernel_rfl))⟩
  f26 := ⟨Tryz.f132.name, by decide, Tryz.func132.trans (congrArg some (by kernel_rfl))⟩
  f27 := ⟨Tryz.f133.name, by decide, Tryz.func133.trans (congrArg some (by kernel_rfl))⟩
  f28 := Tryz.func134.trans (congrArg some (by kernel_rfl))
  f29 := Tryz.func135.trans (congrArg some (by kernel_rfl))
  f46 := ⟨Tryz.f136.name, by decide, Tryz.func136.trans (congrArg some (by kernel_rfl))⟩
  f47 := Tryz.func137.trans (congrArg some (by kernel_rfl))
  f48 := Tryz.func138.trans (congrArg some (by kernel_rfl))
  f49 := ⟨Tryz.f139.name, by decide, Tryz.func139.trans (congrArg some (by kernel_rfl))⟩
  f50 := ⟨Tryz.f140.name, by decide, Tryz.func140.trans (congrArg some (by kernel_rfl))⟩
  f57 := ⟨Tryz.f141.name, by decide, Tryz.func141.trans (congrArg some (by kernel_rfl))⟩
  t0 := Tryz.underlying0
  a0 := Tryz.isAgg0
  z0 := Tryz.sizeOf0
  v0 := Tryz.zeroValue0
  t3 := Tryz.underlying3
  a3 := Tryz.isAgg3
  z3 := Tryz.sizeOf3
  v3 := Tryz.zeroValue3
  t4 := Tryz.underlying4
  a4 := Tryz.isAgg4
  z4 := Tryz.sizeOf4
  v4 := Tryz.zeroValue4
  t5 := Tryz.underlying5
  a5 := Tryz.isAgg5
  z5 := Tryz.sizeOf5
  v5 := Tryz.zeroValue5
  t9 := Tryz.underlying9
  a9 := Tryz.isAgg9
  z9 := Tryz.sizeOf9
  v9 := Tryz.zeroValue9
  t22 := Tryz.underlying30
  a22 := Tryz.isAgg30
  z22 := Tryz.sizeOf30
  v22 := Tryz.zeroValue30
  t25 := Tryz.underlying134
  a25 := Tryz.isAgg134
  z25 := Tryz.sizeOf134
  v25 := Tryz.zeroValue134
  t39 := Tryz.underlying137
  a39 := Tryz.isAgg137
  z39 := Tryz.sizeOf137
  v39 := Tryz.zeroValue137
  t45 := Tryz.underlying139
  a45 := Tryz.isAgg139
  z45 := Tryz.sizeOf139
  v45 := Tryz.zeroValue139
  t46 := Tryz.underlying140
  a46 := Tryz.isAgg140
  z46 := Tryz.sizeOf140
  v46 := Tryz.zeroValue140
  t50 := Tryz.underlying144
  a50 := Tryz.isAgg144
  z50 := Tryz.sizeOf144
  v50 := Tryz.zeroValue144
  t53 := Tryz.underlying147
  a53 := Tryz.isAgg147
  z53 := Tryz.sizeOf147
  v53 := Tryz.zeroValue147
  t55 := Tryz.underlying149
  a55 := Tryz.isAgg149
  z55 := Tryz.sizeOf149
  v55 := Tryz.zeroValue149
  t66 := Tryz.underlying150
  a66 := Tryz.isAgg150
  z66 := Tryz.sizeOf150
  v66 := Tryz.zeroValue150
  t70 := Tryz.underlying154
  a70 := Tryz.isAgg154
  z70 := Tryz.sizeOf154
  v70 := Tryz.zeroValue154
  t76 := Tryz.underlying156
  a76 := Tryz.isAgg156
  z76 := Tryz.sizeOf156
  v76 := Tryz.zeroValue156
  t77 := Tryz.underlying157
  a77 := Tryz.isAgg157
  z77 := Tryz.sizeOf157
  v77 := Tryz.zeroValue157 }
end Go.Proofs.YtnfffgpjgkhjlaaGreat

/- HELPER, no statement of the seat: slices.SortFunc at updates. -/
namespace Go.Proofs.YtnfffgpjgkhjlaaGreat
open Go.RowKit Go.Sort Go.Shelf
set_option linter.unusedSimpArgs false
set_option linter.unusedVariables false

/-- An update as it lies in memory; its row is read in w0. -/
def SU (w0 : World) : Type := { q : (Option Addr × Nat) × Upd // IntsAt w0 q.1.1 q.2.1.1 ∧ q.2.1.1.length ≤ 4194304 }
instance (w0 : World) : Inhabited (SU w0) := ⟨⟨((none, 0), (([], (0, 0)), 0)), fun h => absurd h (by simp), by simp⟩⟩
def updS {w0 : World} (x : SU w0) : Upd := x.1.2
def encU {w0 : World} (x : SU w0) : List Value := [.slice x.1.1.1 x.1.2.1.1.length x.1.1.2, .int .i64 x.1.2.1.2.1, .int .i64 x.1.2.1.2.2, .int .i64 x.1.2.2]
def cfU {w0 : World} (x y : SU w0) : Int := cmpKU x.1.2.1 y.1.2.1
theorem encU_len {w0 : World} (x : SU w0) : (encU x).length = 4 := rfl
theorem encU_one {w0 : World} (x : SU w0) : ∀ v ∈ encU x, v.oneCell' = true := fun v hv => by
  simp [encU] at hv
  rcases hv with rfl | rfl | rfl | rfl <;> rfl
theorem encU_rd {w0 : World} (x : SU w0) : UpdR w0 (encU x) (updS x) := UpdR.of (updS x) (Nat.le_trans x.2.2 (by unfold maxLen; omega)) x.2.1
theorem ltSU {w0 : World} (x y : SU w0) : ltOf cfU x y = ltU x.1.2.1 y.1.2.1 := rfl
theorem swoU {w0 : World} : SWO (ltOf (cfU (w0 := w0))) where
  irrefl x := by rw [ltSU]; exact updTot.irrefl _
  trans x y z h1 h2 := by rw [ltSU] at *; exact updTot.trans _ _ _ h1 h2
  ntrans x y z h1 h2 := by rw [ltSU] at *; exact ge_trans updTot h2 h1
theorem sU_of {w0 : World} {css : List (List Value)} {es : List Upd} (rd : RdL UpdR w0 css es) (hr : rowsU es 4194304) : ∃ l : List (SU w0), l.map updS = es ∧ l.map encU = css := by
  have each : ∀ i : Fin es.length, ∃ q : SU w0, updS q = es[i.1] ∧ encU q = css[i.1]'(by rw [rd.len]; exact i.2) := fun i => by
    obtain ⟨RA, rc, hcs, hml, hrow⟩ := (rd.elt i.1 (by rw [rd.len]; exact i.2) i.2).form
    exact ⟨⟨((RA, rc), es[i.1]), hrow, hr _ (List.getElem_mem i.2)⟩, rfl, hcs.symm⟩
  refine ⟨(List.finRange es.length).map (fun i => Classical.choose (each i)), ?_, ?_⟩
  · apply List.ext_getElem
    · simp
    · intro i h1 h2
      simp only [List.getElem_map, List.getElem_finRange]
      exact (Classical.choose_spec (each ⟨i, h2⟩)).1
  · apply List.ext_getElem
    · simp [rd.len]
    · intro i h1 h2
      simp only [List.getElem_map, List.getElem_finRange]
      exact (Classical.choose_spec (each ⟨i, by rw [← rd.len]; exact h2⟩)).2
theorem holdsU {w w0 : World} {base g c n : Nat} {E : TypeId} {l : List (SU w0)} (hown : w.ownsRow base E 4 (.slice (some ⟨g, 0, none⟩) n c) n (l.map encU).flatten) (hn : n = l.length) : HoldsK encU 4 w g 0 l.toArray := by
  intro t ht
  have ht' : t < l.length * 4 := by simpa using ht
  have hq : t / 4 < l.length := by omega
  have e := World.ownsRow.cellAt hown t (by omega)
  have hfl := flat_get (sz := 4) (css := l.map encU) (fun cs hc => by obtain ⟨x, _, rfl⟩ := List.mem_map.1 hc; rfl) (t / 4) (by simpa using hq) (t % 4) (Nat.mod_lt _ (by omega))
  rw [show t / 4 * 4 + t % 4 = t by omega] at hfl
  rw [hfl] at e
  refine ⟨?_, World.ownsRow.frozenAt hown _⟩
  rw [get_flatK _ _ _ _ (by simpa using ht'), Nat.zero_add, e, List.getElem_map]
  rw [show (l.toArray)[t / 4]! = l[t / 4] by simp [hq]]
  have hm : t % 4 < (encU l[t / 4]).length := by rw [encU_len]; exact Nat.mod_lt _ (by omega)
  rw [List.getElem?_eq_getElem hm, List.getElem!_eq_getElem?_getD, List.getElem?_eq_getElem hm]
  rfl
theorem below_sortWorldU {w0 w : World} {α : Type} [Inhabited α] {enc : α → List Value} {k g off m : Nat} {d : Array α} {os : Array Obj} (h : RowKit.Below w0.heap.size w0 w) (hg : w0.heap.size ≤ g) : RowKit.Below w0.heap.size w0 (sortWorldK enc k w g off m d os) := by
  refine h.trans ⟨rfl, rfl, rfl, ?_, fun q hq => ?_⟩
  · simp [sortWorldK, grow, putRowK]
  · have hs := h.size
    have h1 : (putRowK enc k (Sort.ahead w m) g off d).heap[q]? = w.heap[q]? := by
      simp only [putRowK, putRow, mapBlock, Array.getElem?_modify]
      rw [if_neg (by omega)]
      rfl
    have h2 : q < (putRowK enc k (Sort.ahead w m) g off d).heap.size := by simp [putRowK]; omega
    simp only [sortWorldK, grow]
    rw [Array.getElem?_append_left h2, h1]

theorem sortLitU (RA RB : Option Addr) (c d : Nat) (xs ys : List Int) (p q x r s y : Int) (w : World) (hx : IntsAt w RA xs) (hy : IntsAt w RB ys) (hn : xs.length ≤ 4194304) (hm : ys.length ≤ 4194304) :
    Calls Tryz.prog 123 #[.agg #[.slice RA xs.length c, .int .i64 p, .int .i64 q, .int .i64 x], .agg #[.slice RB ys.length d, .int .i64 r, .int .i64 s, .int .i64 y]] w fun e w' => e = .returned (.int .i64 (orV (cmpL xs ys) (cmpT p q r s))) ∧ Grw w w' := by
  have hb0 : Grw w ((w.alloc (.cells #[.slice RA xs.length c, .int .i64 p, .int .i64 q, .int .i64 x] 63)).alloc (.cells #[.slice RB ys.length d, .int .i64 r, .int .i64 s, .int .i64 y] 63)) := ((Grw.refl _).alloc _).alloc _
  have hm' := m_compareU
  go_enter Tryz.func123, Tryz.ntmps123
  go_wp2_with fail
  refine (updCompare_grw _ _ _ _ _ _ _ _ _ _ _ _ _ (hx.below hb0.below) (hy.below hb0.below) hn hm).mono ?_
  rintro e w1 ⟨rfl, hb⟩
  go_wp2
  go_ret
  exact ⟨rfl, hb0.trans hb⟩
theorem cmpLaysU {w0 w : World} {g : Nat} (hb : RowKit.Below w0.heap.size w0 w) (hg : w0.heap.size ≤ g) (size : Nat) : CmpLays Tryz.prog 123 #[] (encU (w0 := w0)) 4 cfU g 0 size w :=
  fun m os dk _ x y => sortLitU x.1.1.1 y.1.1.1 x.1.1.2 y.1.1.2 x.1.2.1.1 y.1.2.1.1 x.1.2.1.2.1 x.1.2.1.2.2 x.1.2.2 y.1.2.1.2.1 y.1.2.1.2.2 y.1.2.2 _ (x.2.1.below (below_sortWorldU hb hg)) (y.2.1.below (below_sortWorldU hb hg)) x.2.2 y.2.2

theorem sortU (w0 w : World) (base g c : Nat) (es : List Upd) (css : List (List Value)) (hb : RowKit.Below w0.heap.size w0 w) (hg : w0.heap.size ≤ g) (hown : w.ownsRow base 63 4 (.slice (some ⟨g, 0, none⟩) es.length c) es.length css.flatten) (rd : RdL UpdR w0 css es) (hr : rowsU es 4194304) (hn : es.length ≤ 4194304) :
    Calls Tryz.prog 122 #[.slice (some ⟨g, 0, none⟩) es.length c, .func (.func 123) #[] #[]] w fun e w' => e = .returned (.tuple #[]) ∧ ∃ zs : List Upd, zs.Perm es ∧ Up ltU zs ∧ UpdsAt w' (some ⟨g, 0, none⟩) zs ∧ RowKit.Below w0.heap.size w0 w' := by
  obtain ⟨l, rfl, rfl⟩ := sU_of rd hr
  have hgw : g < w.heap.size := (World.ownsRow.lt hown g rfl).2
  have hH := holdsU hown (by simp)
  have eg : ∀ args w, (callFunc 123 args).run Tryz.prog w = .ok (.enter 123 args) w := enters_of Tryz.func123 (by kernel_rfl) rfl
  have hcon := AnyQ.slices_SortFunc sortU_lay 4 Tryz.isAgg63 Tryz.sizeOf63 (encU (w0 := w0)) encU_len encU_one cfU swoU 123 #[] g 0 c l.toArray w eg (cmpLaysU hb hg _) hH hgw (by simp at hn; simp; omega)
  change Calls Tryz.prog 122 _ _ _ at hcon
  rw [show (l.toArray).size = (l.map updS).length by simp] at hcon
  refine hcon.mono ?_
  rintro e w' ⟨rfl, d', n, os, hp, hs, rfl⟩
  have hsz : d'.size = l.length := by rw [hp.1]; simp
  have hperm : d'.toList.Perm l := by
    have := hp.2.2
    rw [Array.toList_extract, Array.toList_extract] at this
    simp at this
    rwa [List.take_of_length_le (by simp [hsz])] at this
  have hbw := below_sortWorldU (enc := encU (w0 := w0)) (k := 4) (off := 0) (m := n) (d := d') (os := os) hb hg
  refine ⟨rfl, d'.toList.map updS, hperm.map _, ?_, fun hpos => ?_, hbw⟩
  · rw [Up, List.pairwise_map, List.pairwise_iff_getElem]
    intro i j hi hj hij
    have := hs i j (Nat.zero_le _) hij (by simp at hj ⊢; omega)
    rw [ltSU] at this
    simp only [Array.length_toList] at hi hj
    rw [getElem!_pos d' j hj, getElem!_pos d' i hi] at this
    exact this
  · have hH' := holdsK_sortWorldK_c (encU (w0 := w0)) 4 w g 0 l.toArray d' n os hH hgw (by simpa using hsz)
    refine ⟨g, 0, rfl, Nat.lt_of_lt_of_le hgw (by simp [sortWorldK, grow, putRowK]), fun j hj => ?_⟩
    have hj' : j < d'.size := by simpa using hj
    refine ⟨encU d'[j], rfl, fun i hi => ?_, ?_⟩
    · rw [(hH'.cell hj' hi).1, getElem!_pos d' j hj']
      have hm : i < (encU d'[j]).length := hi
      rw [List.getElem?_eq_getElem hm, List.getElem!_eq_getElem?_getD, List.getElem?_eq_getElem hm]
      rfl
    · rw [List.getElem_map, Array.getElem_toList]
      exact updR.below (encU_rd d'[j]) hbw
theorem sortU_none (A : Option Addr) (c : Nat) (w : World) :
    Calls Tryz.prog 122 #[.slice A 0 c, .func (.func 123) #[] #[]] w fun e w' => e = .returned (.tuple #[]) ∧ w = w' := by
  have hcon := AnyF.slices_SortFunc_none sortU_lay A c (.func (.func 123) #[] #[]) w
  exact hcon.mono fun e w' ⟨h1, h2⟩ => ⟨h1, h2.symm⟩
end Go.Proofs.YtnfffgpjgkhjlaaGreat
