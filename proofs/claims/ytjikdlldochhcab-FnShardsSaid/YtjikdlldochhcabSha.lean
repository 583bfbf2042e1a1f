/- HELPER, no statement of the seat: Shards of both sides. -/
import Derived.Test.YtjikdlldochhcabSho
import Derived.Test.YtjikdlldochhcabZsp
import Derived.Test.YtjikdlldochhcabZbn
import Derived.Test.YtjikdlldochhcabZbx
import Derived.Deep.RegionLaw
import Derived.Deep.AppendLies
import Derived.Deep.RegionWith
namespace Go.Proofs.Ytjikdlldochhcab
open Go.RowKit Go.Sort
set_option linter.unusedSimpArgs false
set_option linter.unusedVariables false

/-! ### The shards -/
def sIx (k : Nat) (n : Int) (e : Ent) : Int := hsL (e.1.take k) % n
def shL (z : List Ent) (k n : Nat) : List Zs := (List.range n).map fun (j : Nat) => z.filter fun e => decide (sIx k (n : Int) e = (j : Int))
theorem shL_length (z : List Ent) (k n : Nat) : (shL z k n).length = n := by simp [shL]
theorem shL_get (z : List Ent) (k n : Nat) {j : Nat} (h : j < (shL z k n).length) : (shL z k n)[j] = z.filter fun e => decide (sIx k (n : Int) e = (j : Int)) := by simp [shL]
theorem sIx_bd {k : Nat} {n : Int} (hn : 1 ≤ n) (e : Ent) : 0 ≤ sIx k n e ∧ sIx k n e < n := ⟨Int.emod_nonneg _ (by omega), Int.emod_lt_of_pos _ (by omega)⟩
theorem shL_step {z : List Ent} {k n i j : Nat} (hi : i < z.length) (hj : sIx k (n : Int) z[i] = (j : Int)) (hjn : j < (shL (z.take i) k n).length) :
    shL (z.take (i + 1)) k n = (shL (z.take i) k n).set j ((shL (z.take i) k n)[j] ++ [z[i]]) := by
  refine List.ext_getElem (by simp [shL_length]) (fun m h1 h2 => ?_)
  rw [shL_get, List.getElem_set, List.take_succ_eq_append_getElem hi, List.filter_append]
  by_cases e : j = m
  · subst e
    rw [if_pos rfl, shL_get]
    congr 1
    simp [hj]
  · rw [if_neg e, shL_get]
    have : decide (sIx k (n : Int) z[i] = (m : Int)) = false := decide_eq_false (by omega)
    simp [this]
theorem shL_nil (k n : Nat) : shL [] k n = List.replicate n [] := by
  refine List.ext_getElem (by simp [shL_length]) (fun m h1 h2 => ?_)
  rw [shL_get]
  simp
def shcB (z : List Ent) (k n : Int) : Bool := zsB z && (decide (0 ≤ k) && ((decide (z.length = 0) || decide (k ≤ (wid z : Int))) && inB n 1 8))
def ShsF (z : List Ent) (k n : Int) : List Zs := if shcB z k n = true then shL z k.toNat n.toNat else []
theorem ShsF_no {z : List Ent} {k n : Int} (h : shcB z k n = false) : ShsF z k n = [] := by simp [ShsF, h]
theorem ShsF_len (z : List Ent) (k n : Int) : (ShsF z k n).length ≤ 8 := by
  unfold ShsF
  split
  · rename_i h
    simp only [shcB, Bool.and_eq_true] at h
    have := inB_yes h.2.2.2
    rw [shL_length]
    omega
  · simp
theorem ShsF_mem {z : List Ent} {k n : Int} : ∀ y ∈ ShsF z k n, y.length ≤ 400 ∧ rowsIn y 6 := by
  unfold ShsF
  split
  · rename_i h
    simp only [shcB, Bool.and_eq_true] at h
    intro y hy
    obtain ⟨j, _, rfl⟩ := List.mem_map.1 hy
    have h1 := zsB_len h.1
    have h2 := List.length_filter_le (fun e => decide (sIx k.toNat (n.toNat : Int) e = (j : Int))) z
    exact ⟨by omega, fun e he => zsB_row h.1 e (List.mem_filter.1 he).1⟩
  · intro y hy; cases hy
theorem ShsF_in (z : List Ent) (k n : Int) : zsIn (ShsF z k n) 4194304 := fun y hy => ⟨by have := (ShsF_mem y hy).1; omega, fun e he => by have := (ShsF_mem y hy).2 e he; omega⟩
theorem cntZ_le {y : Zs} (h1 : y.length ≤ 400) (h2 : rowsIn y 6) : cntZ y ≤ 2800 := by
  have : ∀ (l : List Ent), rowsIn l 6 → cntL cntE l ≤ l.length * 7 := by
    intro l
    induction l with
    | nil => intro _; simp [cntL]
    | cons x l ih =>
      intro h
      have h0 := ih (fun e he => h e (by simp [he]))
      have h1 := h x (by simp)
      unfold cntL at h0 ⊢
      rw [List.map_cons, List.sum_cons, List.length_cons]
      have : cntE x = x.1.length + 1 := rfl
      omega
  have := this y h2
  unfold cntZ
  omega
theorem cnt_le {zs : List Zs} (h : ∀ y ∈ zs, cntZ y ≤ 2800) : cntL cntZ zs ≤ zs.length * 2800 := by
  induction zs with
  | nil => simp [cntL]
  | cons z l ih =>
    have h1 := ih (fun y hy => h y (by simp [hy]))
    have h2 := h z (by simp)
    unfold cntL at h1 ⊢
    rw [List.map_cons, List.sum_cons, List.length_cons]
    omega
theorem ShsF_cnt (z : List Ent) (k n : Int) : (cntL cntZ (ShsF z k n) : Int) ≤ 22400 := by
  have h1 := cnt_le (zs := ShsF z k n) (fun y hy => cntZ_le (ShsF_mem y hy).1 (ShsF_mem y hy).2)
  have h2 := ShsF_len z k n
  omega
/-! ### One more entry in a shard -/
theorem shard_push {wr wB w3 : World} {S : Fp} {G n : Nat} {L : List Zs} {css : List (List Value)} {F : Nat → Fp} (hO : SlF ZlO 1 31 wr S (some ⟨G, 0, none⟩) n L css F) {j : Nat} (hj : j < L.length) (hjc : j < css.length)
    {ZA : Option Addr} {zc : Nat} {css2 : List (List Value)} {F2 : Nat → Fp} (h2 : SlF EntO 2 50 wr (F j) ZA zc L[j] css2 F2)
    (hB : Below wr.heap.size wr wB) {T : Fp} {cs : List Value} {e : Ent} (hx : EntO wB T cs e) (hT : ∀ q, T q → ¬ S q) {A3 : Option Addr} {c3 : Nat}
    (hrow : w3.ownsRow 0 50 2 (.slice A3 (L[j].length + 1) c3) (L[j].length + 1) (css2.flatten ++ cs)) (hg : wB.grownBy w3 (blk ZA)) (hl : ∀ q, blk A3 = some q → blk ZA = some q ∨ wB.heap.size ≤ q) :
    SlF ZlO 1 31 (w3.setCell ⟨G, j, none⟩ (.slice A3 (L[j].length + 1) c3)) (fun q => S q ∨ T q ∨ blk A3 = some q) (some ⟨G, 0, none⟩) n (L.set j (L[j] ++ [e])) (css.set j [.slice A3 (L[j].length + 1) c3])
      (fun i => if i = j then (fun q => F j q ∨ T q ∨ blk A3 = some q) else F i) := by
  have hs1 := hB.size
  have hs2 := hg.size
  have hSG : S G := hO.top G rfl
  have hGl : G < wr.heap.size := hO.lt G hSG
  have hFG : ∀ i q, F i q → q ≠ G := fun i q hq e => (hO.sub i q hq).2 (by rw [e]; rfl)
  have hZA : ∀ q, blk ZA = some q → F j q := h2.top
  have hA3 : ∀ q, blk A3 = some q → q < w3.heap.size := fun q hq => (World.ownsRow.lt hrow q (by rw [ownBlock_slice]; exact hq)).2
  have hTl : ∀ q, T q → q < wB.heap.size := entO.lt hx
  have h2B := h2.loc entO (w' := wB) (fun q hq => hB.block q (h2.lt q hq))
  have hpush := SlF.push entO (w' := w3) h2B hx (U := fun q => F j q ∨ T q ∨ blk A3 = some q) (fun q h1 h3 => hT q h1 (hO.sub j q h3).1) hrow (fun q hq hn => hg.block q hq (fun e => hn e.symm)) hl
    (fun q hq => hq) (fun q hq => by
      rcases hq with hq | hq | hq
      · have := h2.lt q hq; omega
      · have := hTl q hq; omega
      · exact hA3 q hq)
  have hUG : ∀ q, (F j q ∨ T q ∨ blk A3 = some q) → q ≠ G := fun q hq e => by
    subst e
    rcases hq with hq | hq | hq
    · exact hFG j _ hq rfl
    · exact hT _ hq hSG
    · rcases hl _ hq with h | h
      · exact hFG j _ (hZA _ h) rfl
      · omega
  have hG3 : w3.heap[G]? = wr.heap[G]? := (hg.block G (by omega) (fun e => hFG j G (hZA G e.symm) rfl)).trans (hB.block G hGl)
  have hst := ZssF.stored hO hG3 hj (.slice A3 (L[j].length + 1) c3)
  have far : ∀ m, m ≠ G → (w3.setCell ⟨G, j, none⟩ (.slice A3 (L[j].length + 1) c3)).heap[m]? = w3.heap[m]? := fun m hm => Below.heap_setCell _ _ _ _ hm
  have hsz : (w3.setCell ⟨G, j, none⟩ (.slice A3 (L[j].length + 1) c3)).heap.size = w3.heap.size := by simp [World.setCell]
  refine hO.swap2 zlO (U := fun q => S q ∨ T q ∨ blk A3 = some q) (T := fun q => F j q ∨ T q ∨ blk A3 = some q) hj hst rfl ⟨A3, c3, by simp, (show EntsOw w3 _ A3 c3 _ from ⟨_, _, hpush⟩).loc entO (fun m hm => far m (hUG m hm))⟩ ?_ ?_ ?_ (fun q hq => .inl hq) ?_
  · intro i hi q hq
    have h1 := (hO.sub i q hq).1
    have h3 := hO.lt q h1
    exact (far q (hFG i q hq)).trans ((hg.block q (by omega) (fun e => hi (hO.apart i j q hq (hZA q e.symm)))).trans (hB.block q h3))
  · intro q hq
    refine ⟨?_, hUG q hq⟩
    rcases hq with hq | hq | hq
    · exact .inl (hO.sub j q hq).1
    · exact .inr (.inl hq)
    · exact .inr (.inr hq)
  · intro i hi q hq h
    have h1 := (hO.sub i q hq).1
    have h3 := hO.lt q h1
    rcases h with h | h | h
    · exact hi (hO.apart i j q hq h)
    · exact hT q h h1
    · rcases hl q h with h4 | h4
      · exact hi (hO.apart i j q hq (hZA q h4))
      · omega
  · intro q hq
    rw [hsz]
    rcases hq with hq | hq | hq
    · have := hO.lt q hq; omega
    · have := hTl q hq; omega
    · exact hA3 q hq
theorem madeS (n : Nat) : madeCells (Value.slice none 0 0).cells n = (List.replicate n (Value.slice none 0 0)).toArray := by
  apply Array.ext
  · simp [madeCells]
  · intro i h1 h2
    simp [madeCells, Value.cells, Nat.mod_one]
/-- The shards that make gives. -/
theorem madeShards (w : World) (n : Nat) (hn : n ≤ maxLen) : SlF ZlO 1 31 (w.alloc (.cells (madeCells (Value.slice none 0 0).cells n) 31)) (fun q => q = w.heap.size) (some ⟨w.heap.size, 0, none⟩) n (List.replicate n []) (List.replicate n [.slice none 0 0]) (fun _ _ => False) := by
  have hflat : (List.replicate n [Value.slice none 0 0]).flatten = List.replicate n (Value.slice none 0 0) := by
    induction n with
    | zero => rfl
    | succ n ih => rw [List.replicate_succ, List.flatten_cons, ih (by omega), List.replicate_succ]; rfl
  refine ⟨fun q hq => by rw [hq]; simp, fun q hq => by simp [blk] at hq; exact hq.symm, ?_, by simp, ?_, fun _ _ h => h.elim, fun _ _ _ h => h.elim, ?_⟩
  · rw [hflat, List.length_replicate]
    refine ⟨by simp, .inr ⟨w.heap.size, n, (List.replicate n (Value.slice none 0 0)).toArray, rfl, Nat.zero_le _, ?_, Nat.le_refl _, hn, by simp, by simp⟩⟩
    rw [madeS]
    exact heap_alloc_new w _
  · intro cs hc
    have := List.eq_of_mem_replicate hc
    rw [this]; rfl
  · intro j h1 h2
    simp only [List.getElem_replicate]
    exact ⟨none, 0, rfl, SlOw.nil (fun q h => h.elim)⟩
/-- A round: the shard of entry q has one more entry. -/
theorem shard_round {z : List Ent} {m q jj G : Nat} {w w4 wr wB w1 : World} {NC SS : Fp} {FC F F2 : Nat → Fp} {css cssC css2 : List (List Value)} {L : List Zs} {AC ZA RA : Option Addr} {cC zc rc gg cap : Nat}
    (hlt : q < z.length) (hcl : q < cssC.length) (hjL : jj < L.length) (hjc : jj < css.length)
    (hO : SlF ZlO 1 31 wr SS (some ⟨G, 0, none⟩) m L css F) (hC : SlF EntO 2 50 wr NC AC cC z cssC FC) (hcs : cssC[q] = [.slice RA z[q].1.length rc, .int .i64 z[q].2])
    (hS : ∀ x, SS x → x = G ∨ w4.heap.size ≤ x ∨ ∃ j, j < q ∧ FC j x) (hH : ∀ j (h : j < css.length) A' l c', css[j] = [.slice A' l c'] → ∀ x, blk A' = some x → w4.heap.size ≤ x)
    (hNC : ∀ x, NC x → G + 1 ≤ x ∧ x < w4.heap.size) (hwG : w.heap.size ≤ G) (hG4 : G < w4.heap.size) (h4 : w4.heap.size ≤ wr.heap.size) (h2 : SlF EntO 2 50 wr (F jj) ZA zc L[jj] css2 F2)
    (hZ4 : ∀ x, blk ZA = some x → w4.heap.size ≤ x) (hB : Below wr.heap.size wr wB) (hrow : w1.ownsRow 0 50 2 (.slice (some ⟨gg, 0, none⟩) (L[jj].length + 1) cap) (L[jj].length + 1) (css2.flatten ++ [.slice RA z[q].1.length rc, .int .i64 z[q].2]))
    (hg : wB.grownBy w1 (blk ZA)) (hat : blk ZA = some gg ∨ wB.heap.size ≤ gg) (hbel : Below w.heap.size w wr) :
    SlF ZlO 1 31 (w1.setCell ⟨G, jj, none⟩ (.slice (some ⟨gg, 0, none⟩) (L[jj].length + 1) cap)) (fun x => SS x ∨ FC q x ∨ blk (some ⟨gg, 0, none⟩) = some x) (some ⟨G, 0, none⟩) m (L.set jj (L[jj] ++ [z[q]])) (css.set jj [.slice (some ⟨gg, 0, none⟩) (L[jj].length + 1) cap])
      (fun i => if i = jj then (fun x => F jj x ∨ FC q x ∨ blk (some ⟨gg, 0, none⟩) = some x) else F i) ∧
    SlF EntO 2 50 (w1.setCell ⟨G, jj, none⟩ (.slice (some ⟨gg, 0, none⟩) (L[jj].length + 1) cap)) NC AC cC z cssC FC ∧
    (∀ x, (SS x ∨ FC q x ∨ blk (some ⟨gg, 0, none⟩) = some x) → x = G ∨ w4.heap.size ≤ x ∨ ∃ j, j < q + 1 ∧ FC j x) ∧
    (∀ j (h : j < (css.set jj [.slice (some ⟨gg, 0, none⟩) (L[jj].length + 1) cap]).length) A' l c', (css.set jj [.slice (some ⟨gg, 0, none⟩) (L[jj].length + 1) cap])[j] = [.slice A' l c'] → ∀ x, blk A' = some x → w4.heap.size ≤ x) ∧
    w4.heap.size ≤ (w1.setCell ⟨G, jj, none⟩ (.slice (some ⟨gg, 0, none⟩) (L[jj].length + 1) cap)).heap.size ∧
    Below w.heap.size w (w1.setCell ⟨G, jj, none⟩ (.slice (some ⟨gg, 0, none⟩) (L[jj].length + 1) cap)) := by
  have hs1 := hB.size
  have hs2 := hg.size
  have hs0 := hbel.size
  have hgg : ∀ x, blk (some ⟨gg, 0, none⟩ : Option Addr) = some x → x = gg := fun x hx => by simpa [blk] using hx.symm
  have hg4 : w4.heap.size ≤ gg := by
    rcases hat with h | h
    · exact hZ4 _ h
    · omega
  have hsz : (w1.setCell ⟨G, jj, none⟩ (.slice (some ⟨gg, 0, none⟩) (L[jj].length + 1) cap)).heap.size = w1.heap.size := by simp [World.setCell]
  have hT : ∀ x, FC q x → ¬ SS x := fun x hx hs => by
    have h1 := hNC x (hC.sub q x hx).1
    rcases hS x hs with h | h | ⟨j, hj, h⟩
    · omega
    · omega
    · exact absurd (hC.apart j q x h hx) (by omega)
  have hel : EntO wB (FC q) [.slice RA z[q].1.length rc, .int .i64 z[q].2] z[q] := by
    rw [← hcs]
    exact entO.loc (hC.elt q hcl hlt) (fun x hx => hB.block x (hC.lt x (hC.sub q x hx).1))
  refine ⟨shard_push hO hjL hjc h2 hB hel hT hrow hg (fun x hx => by rw [hgg x hx]; exact hat), ?_, ?_, ?_, ?_, ?_⟩
  · refine hC.loc entO (fun x hx => ?_)
    have h1 := hNC x hx
    have h3 := hC.lt x hx
    exact (Below.heap_setCell _ _ _ _ (show x ≠ G by omega)).trans ((hg.block x (by omega) (fun e => by have := hZ4 x e.symm; omega)).trans (hB.block x h3))
  · intro x hx
    rcases hx with hx | hx | hx
    · rcases hS x hx with h | h | ⟨j, hj, h⟩
      · exact .inl h
      · exact .inr (.inl h)
      · exact .inr (.inr ⟨j, by omega, h⟩)
    · exact .inr (.inr ⟨q, by omega, hx⟩)
    · exact .inr (.inl (by rw [hgg x hx]; exact hg4))
  · intro j h A' l c' e x hx
    rw [List.getElem_set] at e
    split at e
    · injection e with e
      injection e with e1 e2 e3
      rw [← e1] at hx
      rw [hgg x hx]
      exact hg4
    · exact hH j (by simpa using h) A' l c' e x hx
  · rw [hsz]; omega
  · have h1 : Below w.heap.size w wB := btr hbel hB
    have h3 : Below w.heap.size w w1 := below_of_grown h1 hg (fun x hx => by have := hZ4 x hx; omega)
    exact h3.setCell (p := ⟨G, jj, none⟩) hwG _
set_option maxRecDepth 100000 in
set_option maxHeartbeats 6400000 in
theorem Shards_i (A : Option Addr) (c : Nat) (z : List Ent) (k n : Int) (w : World) (hx : EntsAt w A z) (hn : z.length ≤ 4194304) (hr : rowsIn z 4194304) (hkb : -9223372036854775808 ≤ k ∧ k ≤ 9223372036854775807) (hnb : -9223372036854775808 ≤ n ∧ n ≤ 9223372036854775807) :
    Calls Try.prog 16 #[.slice A z.length c, .int .i64 k, .int .i64 n] w fun e w' => ∃ A' c', e = .returned (.slice A' (ShsF z k n).length c') ∧ ZssOw w' (news w w') A' c' (ShsF z k n) ∧ Below w.heap.size w w' := by
  obtain ⟨i0, hi, hz0, hz1, hz2⟩ := info_parts Try.infoZl
  obtain ⟨i1, hj, hj0, hj1, hj2⟩ := info_parts Try.infoEnt
  have HN : Hid (∀ W, Below w.heap.size w W → ZssOw W (news w W) none 0 []) := fun W _ => SlOw.nil (fun q hq => hq.2)
  have hvz := ValidZSet_i A c z w hx hn hr
  have hwd := fun W (h : EntsAt W A z) => widthOf_e A c z W h hn
  have hwk := fun W => workers_i n W
  cases e1 : zsB z
  · have HF : Hid (ShsF z k n = []) := by simp [Hid, ShsF, shcB, e1]
    rw [e1] at hvz
    clear e1 hwd hwk
    go_enter Try.func16, Try.ntmps16
    go_wp2_with fail
    refine hvz.mono ?_
    rintro e w1 ⟨rfl, b1⟩
    go_wp2
    go_ret
    exact ⟨none, 0, by rw [HF.out]; rfl, by rw [HF.out]; exact HN.out _ b1, b1⟩
  rw [e1] at hvz
  by_cases hk0 : k < 0
  · have HF : Hid (ShsF z k n = []) := by
      have : decide (0 ≤ k) = false := decide_eq_false (by omega)
      simp [Hid, ShsF, shcB, this]
    clear e1 hwd hwk
    go_enter Try.func16, Try.ntmps16
    go_wp2_with fail
    refine hvz.mono ?_
    rintro e w1 ⟨rfl, b1⟩
    go_wp2
    go_ret
    exact ⟨none, 0, by rw [HF.out]; rfl, by rw [HF.out]; exact HN.out _ b1, b1⟩
  have hk0' : 0 ≤ k := by omega
  obtain ⟨kn, rfl⟩ : ∃ kn : Nat, k = kn := ⟨k.toNat, by omega⟩
  have hkd : decide ((kn : Int) < 0) = false := decide_eq_false (by omega)
  have hw6 : wid z ≤ 6 := by
    rcases Nat.eq_zero_or_pos z.length with h0 | hp
    · have : wid z = 0 := by rw [List.eq_nil_of_length_eq_zero h0]; rfl
      omega
    · exact (wid_row e1 hp).2
  by_cases hbad : 0 < z.length ∧ wid z < kn
  · obtain ⟨hp, hlt⟩ := hbad
    have HF : Hid (ShsF z (kn : Int) n = []) := by
      have a1 : decide (z.length = 0) = false := decide_eq_false (by omega)
      have a2 : decide ((kn : Int) ≤ (wid z : Int)) = false := decide_eq_false (by omega)
      exact ShsF_no (by unfold shcB; rw [a1, a2]; simp)
    have hd1 : decide (0 < z.length) = true := decide_eq_true hp
    have hd2 : decide (wid z < kn) = true := decide_eq_true hlt
    have hp' : (0 : Int) < z.length := by omega
    have hlt' : (wid z : Int) < kn := by omega
    clear e1 hwk
    go_enter Try.func16, Try.ntmps16
    go_wp2_with fail
    refine hvz.mono ?_
    rintro e w1 ⟨rfl, b1⟩
    go_wp2_with fail
    refine (hwd _ (hx.below entR b1)).mono ?_
    rintro e w2 ⟨rfl, b2⟩
    have B2 := btr b1 b2
    go_wp2
    go_ret
    exact ⟨none, 0, by rw [HF.out]; rfl, by rw [HF.out]; exact HN.out _ B2, B2⟩
  have hgood : z.length = 0 ∨ kn ≤ wid z := by
    rcases Nat.eq_zero_or_pos z.length with h0 | hp
    · exact .inl h0
    · exact .inr (Nat.le_of_not_lt (fun h => hbad ⟨hp, h⟩))
  have hsc : (decide (z.length = 0) || decide ((kn : Int) ≤ (wid z : Int))) = true := by
    rcases hgood with h | h
    · simp [h]
    · simp; omega
  cases e3 : inB n 1 8
  · have HF : Hid (ShsF z (kn : Int) n = []) := by simp [Hid, ShsF, shcB, e3]
    rw [e3] at hwk
    skip
    rcases Nat.eq_zero_or_pos z.length with h0 | hp
    · have hd1 : decide (0 < z.length) = false := decide_eq_false (by omega)
      have hd3 : ¬ (0 : Int) < z.length := by omega
      have HH := Lib.hid h0
      clear e1 hwd e3 hgood hsc hbad h0
      go_enter Try.func16, Try.ntmps16
      go_wp2_with fail
      refine hvz.mono ?_
      rintro e w1 ⟨rfl, b1⟩
      go_wp2_with fail
      refine (hwk _).mono ?_
      rintro e w2 ⟨rfl, rfl⟩
      go_wp2
      go_ret
      exact ⟨none, 0, by rw [HF.out]; rfl, by rw [HF.out]; exact HN.out _ b1, b1⟩
    · have hd1 : decide (0 < z.length) = true := decide_eq_true hp
      have hp' : (0 : Int) < z.length := by omega
      have hle : kn ≤ wid z := by rcases hgood with h | h; · omega
                                  · exact h
      have hd2 : decide (wid z < kn) = false := decide_eq_false (by omega)
      have hd4 : ¬ (wid z : Int) < kn := by omega
      clear e1 e3 hgood hsc hbad
      go_enter Try.func16, Try.ntmps16
      go_wp2_with fail
      refine hvz.mono ?_
      rintro e w1 ⟨rfl, b1⟩
      go_wp2_with fail
      refine (hwd _ (hx.below entR b1)).mono ?_
      rintro e w2 ⟨rfl, b2⟩
      have B2 := btr b1 b2
      go_wp2_with fail
      refine (hwk _).mono ?_
      rintro e w3 ⟨rfl, rfl⟩
      go_wp2
      go_ret
      exact ⟨none, 0, by rw [HF.out]; rfl, by rw [HF.out]; exact HN.out _ B2, B2⟩
  have hn18 := inB_yes e3
  obtain ⟨m, rfl⟩ : ∃ m : Nat, n = m := ⟨n.toNat, by omega⟩
  have HR : Hid (ShsF z (kn : Int) (m : Int) = shL z kn m) := by
    have a0 : decide ((0 : Int) ≤ (kn : Int)) = true := decide_eq_true (by omega)
    have a1 : shcB z (kn : Int) (m : Int) = true := by unfold shcB; rw [e1, a0, hsc, e3]; rfl
    rw [Hid, ShsF, if_pos a1]
    rfl
  rw [e3] at hwk
  have hm8 : 1 ≤ m ∧ m ≤ 8 := by omega
  have hmm : (m : Int) ≤ 8 := by omega
  have hm0 : (0 : Int) ≤ (m : Int) := by omega
  have hmk := fun W : World => run_make (P := Try.prog) W 29 31 i0 (.slice none 0 0) Try.underlying29 hi hz0 .i64 .i64 (m : Int) (m : Int) (by omega) (by omega) (by rw [hz2]; omega) (by omega)
  simp only [Int.toNat_natCast, hz1, Nat.mul_one] at hmk
  have hms := fun W : World => madeShards W m (by unfold maxLen; omega)
  have HMS := Lib.hid hms
  generalize madeCells (Value.slice none 0 0).cells m = MC at hmk hms HMS
  have HSH : Hid (∀ i (h : i < z.length), kn ≤ z[i].1.length ∧ rowB z[i].1 = true) := fun i h => by
    have hw := zsB_wid e1 _ (List.getElem_mem h)
    have hb := zsB_sumE e1 _ (List.getElem_mem h)
    simp only [sumE, Bool.and_eq_true] at hb
    exact ⟨by rcases hgood with h2 | h2 <;> omega, hb.1⟩
  have HZ := Lib.hid e1
  have hcopy := fun W (h : EntsAt W A z) => copyItems_e A c z W h hn hr
  have hzl4 := zsB_len e1
  clear e1 e3 hsc hbad hms
  rcases Nat.eq_zero_or_pos z.length with h0 | hp
  · have hz0' := List.eq_nil_of_length_eq_zero h0
    subst hz0'
    have hd1 : decide (0 < ([] : List Ent).length) = false := rfl
    clear hwd h0
    go_enter Try.func16, Try.ntmps16
    go_wp2_with fail
    refine hvz.mono ?_
    rintro e w2 ⟨rfl, B2⟩
    go_wp2_with fail
    refine (hwk _).mono ?_
    rintro e w3 ⟨rfl, rfl⟩
    clear hvz hwk
    have hB0 : Below w2.heap.size w2 (w2.alloc (.cells MC 31)) := bal (Below.refl _ _) _
    go_wp2_with fail
    refine (hcopy _ (hx.below entR (btr B2 hB0))).mono ?_
    rintro e w4 ⟨AC, cC, rfl, -, b4⟩
    have hO4 := (HMS.out w2).loc zlO (w' := w4) (fun q hq => b4.block q (by rw [hq]; simp))
    have hB4 := btr (btr B2 hB0) b4
    have hs2 := B2.size
    have hs4 := b4.size
    have HO : Hid (ZssOw w4 (news w w4) (some ⟨w2.heap.size, 0, none⟩) m (List.replicate m [])) := (show ZssOw w4 (fun q => q = w2.heap.size) _ m _ from ⟨_, _, hO4⟩).mono (fun q hq => ⟨by rw [hq]; exact hs2, by rw [hq]; simp at hs4; omega⟩) (fun q hq => hq.2)
    have HB := Lib.hid hB4
    have HL : Hid ((ShsF [] (kn : Int) (m : Int)).length = m) := by rw [Hid, HR.out, shL_length]
    clear hO4 hB4 b4 hcopy hmk HMS hB0
    go_wp2
    refine wp_loop_rounds 1 ?_
    rw [rounds_succ]
    go_wp2
    go_ret
    exact ⟨some ⟨w2.heap.size, 0, none⟩, m, by rw [HL.out]; rfl, by rw [HR.out, shL_nil]; exact HO.out, HB.out⟩
  · have hd1 : decide (0 < z.length) = true := decide_eq_true hp
    have hp' : (0 : Int) < z.length := by omega
    have hle : kn ≤ wid z := by rcases hgood with h | h; · omega
                                · exact h
    have hd2 : decide (wid z < kn) = false := decide_eq_false (by omega)
    have hd4 : ¬ (wid z : Int) < kn := by omega
    clear hgood
    go_enter Try.func16, Try.ntmps16
    go_wp2_with fail
    refine hvz.mono ?_
    rintro e w1 ⟨rfl, b1⟩
    go_wp2_with fail
    refine (hwd _ (hx.below entR b1)).mono ?_
    rintro e w2 ⟨rfl, b2⟩
    have B2 := btr b1 b2
    go_wp2_with fail
    refine (hwk _).mono ?_
    rintro e w3 ⟨rfl, rfl⟩
    clear hvz hwd hwk
    have hB0 : Below w2.heap.size w2 (w2.alloc (.cells MC 31)) := bal (Below.refl _ _) _
    go_wp2_with fail
    refine (hcopy _ (hx.below entR (btr B2 hB0))).mono ?_
    rintro e w4 ⟨AC, cC, rfl, ⟨cssC, FC, hC⟩, b4⟩
    have hO4 := (HMS.out w2).loc zlO (w' := w4) (fun q hq => b4.block q (by rw [hq]; simp))
    have HB4 := Lib.hid (btr (btr B2 hB0) b4)
    have hs2 := B2.size
    have hs4 : w2.heap.size + 1 ≤ w4.heap.size := by have := b4.size; simpa using this
    have HC := Lib.hid hC
    have HO := Lib.hid hO4
    have HSL := Lib.hid (shL_length)
    clear hC hO4 b4 hcopy hmk HMS hB0 b1 b2 hx
    have HNC : Hid (∀ q, news (w2.alloc (.cells MC 31)) w4 q → w2.heap.size + 1 ≤ q ∧ q < w4.heap.size) := fun q hq => ⟨by have := hq.1; simpa using this, hq.2⟩
    generalize news (w2.alloc (.cells MC 31)) w4 = NC at HC HNC
    go_wp2
    go_loopw [9, 10, 39] (fun _ _ i wr => ∃ (q : Nat) (css : List (List Value)) (F : Nat → Fp) (SS : Fp), q ≤ z.length ∧ i = .int .i64 (q : Nat) ∧ SlF ZlO 1 31 wr SS (some ⟨w2.heap.size, 0, none⟩) m (shL (z.take q) kn m) css F ∧ SlF EntO 2 50 wr NC AC cC z cssC FC ∧ (∀ x, SS x → x = w2.heap.size ∨ w4.heap.size ≤ x ∨ ∃ j, j < q ∧ FC j x) ∧ (∀ j (h : j < css.length) A' l c', css[j] = [.slice A' l c'] → ∀ x, blk A' = some x → w4.heap.size ≤ x) ∧ w4.heap.size ≤ wr.heap.size ∧ Below w.heap.size w wr) (fun _ _ i _ => z.length - (intOf i).toNat)
    case atStart =>
      refine ⟨0, _, _, _, by omega, rfl, by rw [List.take_zero, shL_nil]; exact HO.out, HC.out, fun x hx => .inl hx, fun j h A' l c' e x hx => ?_, Nat.le_refl _, HB4.out⟩
      simp only [List.getElem_replicate] at e
      injection e with e
      injection e with e1 e2 e3
      rw [← e1] at hx
      cases hx
    case round =>
      obtain ⟨q, css, F, SS, hq, rfl, hO, hC, hS, hH, h4r, hbel⟩ := hrel
      clear HO HC
      by_cases hlt : q < z.length
      · rcases hC.form with ⟨_, _, h0⟩ | ⟨gC, rfl, hSg, hgl, hgc, hgm⟩
        · rw [h0] at hlt; simp at hlt
        have hcl : q < cssC.length := by rw [hC.clen]; exact hlt
        have hel := hC.elt q hcl hlt
        obtain ⟨RA, rc, hcs, hFb, hrow⟩ := hel.form
        have hc0 := hC.cell q hcl 0 (by omega)
        have hc1 := hC.cell q hcl 1 (by omega)
        rw [hcs] at hc0 hc1
        simp at hc0 hc1
        have hsh := HSH.out q hlt
        have hrcap : z[q].1.length ≤ rc ∧ rc ≤ maxLen := by
          rcases ownsRow_form hrow with ⟨_, h1, h0⟩ | ⟨g, _, _, _, h1, h2⟩
          · rw [h1, h0]; exact ⟨Nat.le_refl _, by simp [maxLen]⟩
          · exact ⟨h1, h2⟩
        have hixb := sIx_bd (k := kn) (n := (m : Int)) (by omega) z[q]
        obtain ⟨jj, hjj⟩ : ∃ jj : Nat, sIx kn (m : Int) z[q] = (jj : Int) := ⟨(sIx kn (m : Int) z[q]).toNat, by omega⟩
        have hshf : shF z[q].1 (kn : Int) (m : Int) = (jj : Int) := by
          have a1 : inB (kn : Int) 0 (z[q].1.length : Int) = true := by simp [inB]; omega
          have a2 : inB (m : Int) 1 8 = true := by simp [inB]; omega
          have a3 : shB z[q].1 (kn : Int) (m : Int) = true := by simp only [shB, hsh.2, a1, a2]; rfl
          rw [← hjj, shF, if_pos a3]
          rfl
        have hjm : jj < m := by omega
        have hl6 : z[q].1.length ≤ 6 := by have h := hsh.2; simp only [rowB, decide_eq_true_eq] at h; exact h.2.1
        have hcon := fun W (h : IntsAt W RA z[q].1) => ShardOf_i RA rc z[q].1 (kn : Int) (m : Int) W h hrcap.1 hrcap.2 (by omega)
        rw [hshf] at hcon
        have hjL : jj < (shL (z.take q) kn m).length := by rw [shL_length]; exact hjm
        have hjc : jj < css.length := by rw [hO.clen]; exact hjL
        have HST := Lib.hid (shL_step hlt hjj hjL)
        obtain ⟨ZA, zc, hzcs, css2, F2, h2⟩ := hO.elt jj hjc hjL
        have hz0 := hO.cell jj hjc 0 (by omega)
        rw [hzcs] at hz0
        simp at hz0
        have hLL := shL_length (z.take q) kn m
        have hlL : (shL (z.take q) kn m)[jj].length ≤ 400 := by
          rw [shL_get]
          have h1 := List.length_filter_le (fun e => decide (sIx kn (m : Int) e = (jj : Int))) (z.take q)
          have h2 : (z.take q).length ≤ z.length := by simp; omega
          omega
        have HB0 : Hid (Below wr.heap.size wr (wr.alloc (.cells #[.slice RA z[q].1.length rc, .int .i64 z[q].2] 50))) := bal (Below.refl _ _) _
        have HROW := Lib.hid hrow
        have HCC := Lib.hid hC
        have HEL := Lib.hid hel
        have HCS := Lib.hid hcs
        have HOO := Lib.hid hO
        have HSS := Lib.hid hS
        have HHH := Lib.hid hH
        have HZC := Lib.hid hzcs
        have H2 := Lib.hid h2
        have hzf := hO.frozen jj
        have hGl : w2.heap.size < wr.heap.size := hO.lt _ (hO.top _ rfl)
        clear hshf hjj hsh hixb hrow hC hel hcs hO hS hH hzcs h2 hFb
        generalize hL : shL (z.take q) kn m = L at *
        go_wp2_with fail
        refine (hcon _ (HROW.out.at_.below HB0.out)).mono ?_
        rintro e w5 ⟨rfl, b5⟩
        have B5 := btr HB0.out b5
        clear hcon
        have p0 : w5.cell? ⟨wr.heap.size, 0, none⟩ = some (.slice RA z[q].1.length rc) := (b5.cell (p := ⟨wr.heap.size, 0, none⟩) (by simp)).trans (by simp)
        have p1 : w5.cell? ⟨wr.heap.size, 1, none⟩ = some (.int .i64 z[q].2) := (b5.cell (p := ⟨wr.heap.size, 1, none⟩) (by simp)).trans (by simp)
        have pz : w5.cell? ⟨w2.heap.size, jj, none⟩ = some (.slice ZA L[jj].length zc) := (B5.cell (p := ⟨w2.heap.size, jj, none⟩) hGl).trans hz0
        have hjA : (0 : Int) ≤ (jj : Int) := by omega
        have hjB : (jj : Int) < (m : Int) := by omega
        have hs5 := B5.size
        have hrow5 := (H2.out.loc entO (fun x hx => B5.block x (H2.out.lt x hx))).row
        have hZ4 : ∀ x, blk ZA = some x → w4.heap.size ≤ x := HHH.out jj hjc _ _ _ HZC.out
        have hne : ∀ n', (Value.slice ZA n' zc).ownBlock ≠ some w2.heap.size := fun n' hh => by
          rw [ownBlock_slice] at hh
          have := hZ4 _ hh
          omega
        have hlt5 : w2.heap.size < w5.heap.size := by omega
        have fz : w5.frozen? ⟨w2.heap.size, jj, none⟩ = false := (B5.frozen (p := ⟨w2.heap.size, jj, none⟩) hGl).trans hzf
        have fa : ∀ o : Obj, (w5.alloc o).frozen? ⟨w2.heap.size, jj, none⟩ = false := fun o => ((bal (RowKit.Below.refl w5.heap.size w5) o).frozen (p := ⟨w2.heap.size, jj, none⟩) hlt5).trans fz
        have ca : ∀ o : Obj, (w5.alloc o).cell? ⟨w2.heap.size, jj, none⟩ = some (.slice ZA L[jj].length zc) := fun o => ((bal (RowKit.Below.refl w5.heap.size w5) o).cell (p := ⟨w2.heap.size, jj, none⟩) hlt5).trans pz
        have HSZ := Lib.hid (show L[jj].length ≤ 400 from hlL)
        go_wp2_with fail
        go_region_law ((first
          | (refine step_append_lies _ (by rfl) _ _ _ (by rfl) 0 50 i1 _ 2 32 Try.underlying31 hj hj0 hj1 hj2 rfl (by omega) (.slice ZA L[jj].length zc) L[jj].length css2.flatten (by rfl) ((hrow5.alloc _).drew) ⟨w5.heap.size, 0, none⟩ 1 1 [.slice RA z[q].1.length rc, .int .i64 z[q].2] (by rfl) (by rfl) (World.news_of_block (cs := #[.slice RA z[q].1.length rc, .int .i64 z[q].2]) (t := 50) (fr := (0, 0)) (heap_alloc_new w5 _)) (by simp [Value.oneCell']) (by omega) (by have := HSZ.out; unfold maxLen; omega) (by have := HSZ.out; omega) (by simp) (w5.heap.size + 1) (by simp) ?_; intro gg cap w1 hown1 hgrow hat hlt'; have z0 := hgrow.cell_far ⟨w2.heap.size, jj, none⟩ (by simp; omega) (Ne.symm (hne _)); have z3 := hgrow.frozen_far ⟨w2.heap.size, jj, none⟩ (by simp; omega) (Ne.symm (hne _)))))
        all_goals go_wp2
        all_goals go_roundw
        all_goals first
          | (case rel =>
              have hrnd := shard_round hlt hcl hjL hjc HOO.out HCC.out HCS.out HSS.out HHH.out HNC.out hs2 (by omega) h4r H2.out hZ4 (wB := (w5.alloc (.cells #[.slice RA z[q].1.length rc, .int .i64 z[q].2] 50)).drew) (bal B5 _).drew hown1 (by rw [← ownBlock_slice]; exact hgrow) (by rw [ownBlock_slice] at hat; rcases hat with h | h; exact .inl h; exact .inr (by rw [h]; simp)) hbel
              rw [← HST.out] at hrnd
              exact ⟨q + 1, _, _, _, by omega, by go_num, hrnd⟩)
          | (case measure => simp [intOf]; omega)
      · obtain rfl : q = z.length := by omega
        have HOO := Lib.hid hO
        have HSS := Lib.hid hS
        have HNC2 := HNC
        have HNW : Hid (∀ j x, FC j x → w2.heap.size + 1 ≤ x) := fun j x hx => (HNC.out x (hC.sub j x hx).1).1
        clear hO hS hH hC
        go_wp2
        go_ret
        refine ⟨some ⟨w2.heap.size, 0, none⟩, m, ?_, ?_, hbel⟩
        · rw [HR.out, shL_length]; rfl
        · rw [HR.out]
          have h := HOO.out
          rw [List.take_length] at h
          refine (show ZssOw wr SS _ m _ from ⟨_, _, h⟩).mono (fun x hx => ⟨?_, h.lt x hx⟩) (fun x hx => hx.2)
          rcases HSS.out x hx with e | e | ⟨j, -, e⟩
          · omega
          · omega
          · have := HNW.out j x e; omega
end Go.Proofs.Ytjikdlldochhcab
