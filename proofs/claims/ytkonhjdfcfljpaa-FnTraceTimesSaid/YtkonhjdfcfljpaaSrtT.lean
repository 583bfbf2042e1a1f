/- HELPER, no statement of the seat: slices.SortFunc at times. -/
import Derived.Test.YtkonhjdfcfljpaaCmpU
import Derived.Test.YtkonhjdfcfljpaaLayT
import Derived.Test.YtkonhjdfcfljpaaTms
import Derived.Shelf.SlSortCmp.NoneTotal
namespace Go.Proofs.Ytkonhjdfcfljpaa
open Go.RowKit Go.Sort Go.Shelf
set_option linter.unusedSimpArgs false
set_option linter.unusedVariables false

def encM (t : Tm) : List Value := [.int .i64 t.1, .int .i64 t.2]
def cfM (a b : Tm) : Int := cmpT a.1 a.2 b.1 b.2
theorem encM_len (t : Tm) : (encM t).length = 2 := rfl
theorem encM_one (t : Tm) : ∀ v ∈ encM t, v.oneCell' = true := fun v hv => by
  simp [encM] at hv
  rcases hv with rfl | rfl <;> rfl
theorem ltM (a b : Tm) : ltOf cfM a b = bfB a.1 a.2 b.1 b.2 := by
  show decide (cmpT a.1 a.2 b.1 b.2 < 0) = _
  unfold cmpT orV bfB cmpI
  by_cases h1 : a.1 < b.1 <;> by_cases h2 : b.1 < a.1 <;> by_cases h3 : a.2 < b.2 <;> by_cases h4 : b.2 < a.2 <;> simp [h1, h2, h3, h4] <;> omega
theorem swoM : SWO (ltOf cfM) where
  irrefl x := by rw [ltM]; simp [bfB]
  trans x y z h1 h2 := by rw [ltM] at *; simp only [bfB, decide_eq_true_eq] at *; omega
  ntrans x y z h1 h2 := by rw [ltM] at *; simp only [bfB, decide_eq_false_iff_not] at *; omega
theorem cmpLaysM {w : World} {g : Nat} (size : Nat) : CmpLays Try.prog 81 #[] encM 2 cfM g 0 size w :=
  fun m os dk _ x y => (timeCompare_d x.1 x.2 y.1 y.2 _).mono fun _ _ ⟨he, hw⟩ => ⟨he, hw.grw⟩
theorem holdsM {w : World} {base g c n : Nat} {l : List Tm} (hown : w.ownsRow base 52 2 (.slice (some ⟨g, 0, none⟩) n c) n (timeL l)) (hn : n = l.length) : HoldsK encM 2 w g 0 l.toArray := by
  intro t ht
  have ht' : t < l.length * 2 := by simpa using ht
  have hq : t / 2 < l.length := by omega
  have e := World.ownsRow.cellAt hown t (by omega)
  refine ⟨?_, World.ownsRow.frozenAt hown _⟩
  rw [get_flatK _ _ _ _ (by simpa using ht'), Nat.zero_add, e]
  rw [show (l.toArray)[t / 2]! = l[t / 2] by simp [hq]]
  have h2 := timeL_get l (t / 2) hq
  rw [show l.getD (t / 2) (0, 0) = l[t / 2] by simp [hq]] at h2
  rcases Nat.mod_two_eq_zero_or_one t with h | h
  · rw [show t / 2 * 2 = t by omega] at h2
    rw [h2.1, h]
    rfl
  · rw [show t / 2 * 2 + 1 = t by omega] at h2
    rw [h2.2, h]
    rfl
/-- A row, out of its cells. -/
theorem tmOwn_of {w : World} {base g c : Nat} {l : List Tm} {cur : Array Value} (hg : w.heap[g]? = some (.cells cur 52 (0, 0))) (hb : base ≤ g) (hl : l.length ≤ c) (hc : c ≤ maxLen) (hs : cur.size = c * 2) (h : ∀ t, t < l.length * 2 → cur[t]? = (timeL l)[t]?) : TmOwn w base (some ⟨g, 0, none⟩) c l := by
  refine ⟨timeL_len l, .inr ⟨g, c, cur, rfl, hb, hg, hl, hc, hs, ?_⟩⟩
  apply List.ext_getElem?
  intro i
  rcases Nat.lt_or_ge i (l.length * 2) with hi | hi
  · rw [List.getElem?_take_of_lt hi, Array.getElem?_toList, h i hi]
  · rw [List.getElem?_eq_none (by simp; omega), List.getElem?_eq_none (by rw [timeL_len]; exact hi)]
theorem sortM (w : World) (base g c : Nat) (xs : List Tm) (hown : TmOwn w base (some ⟨g, 0, none⟩) c xs) (hn : xs.length ≤ 4194304) :
    Calls Try.prog 80 #[.slice (some ⟨g, 0, none⟩) xs.length c, .func (.func 81) #[] #[]] w fun e w' => e = .returned (.tuple #[]) ∧ ∃ zs : List Tm, zs.Perm xs ∧ zs.Pairwise (fun a b => bfB b.1 b.2 a.1 a.2 = false) ∧ TmOwn w' base (some ⟨g, 0, none⟩) c zs ∧ GrownS w w' (fun k => k = g) := by
  have hgw : g < w.heap.size := (World.ownsRow.lt hown g rfl).2
  have hH := holdsM hown rfl
  have eg : ∀ args w, (callFunc 81 args).run Try.prog w = .ok (.enter 81 args) w := enters_of Try.func81 (by kernel_rfl) rfl
  have hcon := AnyQ.slices_SortFunc sortT_lay 2 Try.isAgg52 Try.sizeOf52 encM encM_len encM_one cfM swoM 81 #[] g 0 c xs.toArray w eg (cmpLaysM _) hH hgw (by simp; omega)
  change Calls Try.prog 80 _ _ _ at hcon
  rw [show (xs.toArray).size = xs.length by simp] at hcon
  refine hcon.mono ?_
  rintro e w' ⟨rfl, d', n, os, hp, hs, rfl⟩
  have hsz : d'.size = xs.length := by rw [hp.1]; simp
  have hperm : d'.toList.Perm xs := by
    have := hp.2.2
    rw [Array.toList_extract, Array.toList_extract] at this
    simp at this
    rwa [List.take_of_length_le (by simp [hsz])] at this
  have hln : d'.toList.length = xs.length := by simp [hsz]
  obtain ⟨_, ⟨e1, _⟩ | ⟨g', cap, cur, e1, hb, hg, h1, h2, h3, h4⟩⟩ := hown
  · cases e1
  injection e1 with e1 e2 e3
  injection e1 with e1
  injection e1 with e1
  subst e1; subst e3
  have hgn : (sortWorldK encM 2 w g 0 n d' os).heap[g]? = some (.cells (putCells id 0 (flatK encM 2 d') cur) 52 (0, 0)) := by
    have hlt : g < (putRowK encM 2 (Sort.ahead w n) g 0 d').heap.size := by simp [putRowK]; exact hgw
    simp only [sortWorldK, grow]
    rw [Array.getElem?_append_left hlt]
    simp only [putRowK, putRow, mapBlock, Array.getElem?_modify]
    simp only [if_true]
    rw [show (Sort.ahead w n).heap[g]? = w.heap[g]? from rfl, hg]
    rfl
  refine ⟨rfl, d'.toList, hperm, ?_, ?_, ⟨rfl, rfl, rfl, ?_, fun q hq hne => ?_⟩⟩
  · rw [List.pairwise_iff_getElem]
    intro i j hi hj hij
    have := hs i j (Nat.zero_le _) hij (by simp at hj ⊢; omega)
    rw [ltM] at this
    simp only [Array.length_toList] at hi hj
    rw [getElem!_pos d' j hj, getElem!_pos d' i hi] at this
    exact this
  · refine tmOwn_of hgn hb (by omega) h2 (by simp [putCells, h3]) (fun t ht => ?_)
    have htc : t < cur.size := by rw [h3]; have := Nat.mul_le_mul_right 2 h1; omega
    have hq : t / 2 < d'.size := by simp at ht; omega
    have h5 := timeL_get d'.toList (t / 2) (by simpa using hq)
    rw [show d'.toList.getD (t / 2) (0, 0) = d'[t / 2] by simp [hq]] at h5
    have e0 : (putCells id 0 (flatK encM 2 d') cur)[t]? = some (encM d'[t / 2]!)[t % 2]! := by
      simp only [putCells, Array.getElem?_mapIdx, Array.getElem?_eq_getElem htc, Option.map_some]
      rw [if_pos ⟨Nat.zero_le _, by rw [size_flatK]; omega⟩, Nat.sub_zero, get_flatK _ _ _ _ (by omega)]
      rfl
    rw [e0, getElem!_pos d' _ hq]
    rcases Nat.mod_two_eq_zero_or_one t with h | h
    · rw [show t / 2 * 2 = t by omega] at h5
      rw [h5.1, h]
      rfl
    · rw [show t / 2 * 2 + 1 = t by omega] at h5
      rw [h5.2, h]
      rfl
  · simp [sortWorldK, grow, putRowK]
  · have h1 : (putRowK encM 2 (Sort.ahead w n) g 0 d').heap[q]? = w.heap[q]? := by
      simp only [putRowK, putRow, mapBlock, Array.getElem?_modify]
      rw [if_neg (fun e => hne e.symm)]
      rfl
    have h2 : q < (putRowK encM 2 (Sort.ahead w n) g 0 d').heap.size := by simp [putRowK]; omega
    simp only [sortWorldK, grow]
    rw [Array.getElem?_append_left h2, h1]
theorem sortM_none (A : Option Addr) (c : Nat) (w : World) :
    Calls Try.prog 80 #[.slice A 0 c, .func (.func 81) #[] #[]] w fun e w' => e = .returned (.tuple #[]) ∧ w = w' := by
  have hcon := AnyF.slices_SortFunc_none sortT_lay A c (.func (.func 81) #[] #[]) w
  exact hcon.mono fun e w' ⟨h1, h2⟩ => ⟨h1, h2.symm⟩
end Go.Proofs.Ytkonhjdfcfljpaa
