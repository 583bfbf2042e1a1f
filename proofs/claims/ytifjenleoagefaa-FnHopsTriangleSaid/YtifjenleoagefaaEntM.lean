/- HELPER, no statement of the seat: marks on lists of entries. -/
import Derived.Test.YtifjenleoagefaaZba
namespace Go.Proofs.Ytifjenleoagefaa
open Go.RowKit Go.Sort
set_option linter.unusedSimpArgs false
set_option linter.unusedVariables false

/-- The marks of a list: each element takes cnt x of them. -/
def mkL {α : Type} (cnt : α → Nat) (mk : Int → α → α) : Int → List α → List α
  | _, [] => []
  | k, x :: l => mk k x :: mkL cnt mk (k + cnt x) l
def cntL {α : Type} (cnt : α → Nat) (l : List α) : Nat := (l.map cnt).sum
section
variable {α : Type} {cnt : α → Nat} {mk : Int → α → α}
theorem mkL_length : ∀ (l : List α) (k : Int), (mkL cnt mk k l).length = l.length
  | [], _ => rfl
  | x :: l, k => by simp [mkL, mkL_length l]
theorem cntL_step {l : List α} {j : Nat} (h : j < l.length) : cntL cnt (l.take (j + 1)) = cntL cnt (l.take j) + cnt l[j] := by
  rw [List.take_succ_eq_append_getElem h]
  simp only [cntL, List.map_append, List.sum_append, List.map_cons, List.map_nil, List.sum_cons, List.sum_nil, Nat.add_zero]
theorem cntL_le (l : List α) (j : Nat) : cntL cnt (l.take j) ≤ cntL cnt l := by
  have : cntL cnt l = cntL cnt (l.take j) + cntL cnt (l.drop j) := by
    rw [cntL, cntL, cntL, ← List.sum_append, ← List.map_append, List.take_append_drop]
  omega
theorem mkL_append : ∀ (l r : List α) (k : Int), mkL cnt mk k (l ++ r) = mkL cnt mk k l ++ mkL cnt mk (k + cntL cnt l) r
  | [], r, k => by simp [mkL, cntL]
  | x :: l, r, k => by
    simp only [List.cons_append, mkL, mkL_append l r]
    congr 3
    simp [cntL]
    omega
theorem mkL_get {l : List α} {j : Nat} (h : j < l.length) (k : Int) : ((mkL cnt mk k l)[j]'(by rw [mkL_length]; exact h)) = mk (k + cntL cnt (l.take j)) l[j] := by
  have e : mkL cnt mk k l = mkL cnt mk k (l.take j) ++ mkL cnt mk (k + cntL cnt (l.take j)) (l[j] :: l.drop (j + 1)) := by
    rw [← mkL_append, ← List.drop_eq_getElem_cons h, List.take_append_drop]
  have hl : (mkL cnt mk k (l.take j)).length = j := by rw [mkL_length]; simp; omega
  have : (mkL cnt mk k l)[j]? = some (mk (k + cntL cnt (l.take j)) l[j]) := by
    rw [e, List.getElem?_append_right (by omega), hl]
    simp [mkL]
  rw [List.getElem?_eq_getElem (by rw [mkL_length]; exact h)] at this
  injection this
/-- What stands in a list of which the first j are marked. -/
def mkTo (cnt : α → Nat) (mk : Int → α → α) (k : Int) (l : List α) (j : Nat) : List α := mkL cnt mk k (l.take j) ++ l.drop j
theorem mkTo_length {l : List α} {k : Int} {j : Nat} : (mkTo cnt mk k l j).length = l.length := by simp [mkTo, mkL_length]; omega
theorem mkTo_get {l : List α} {k : Int} {j : Nat} (h : j < l.length) : (mkTo cnt mk k l j)[j]'(by rw [mkTo_length]; exact h) = l[j] := by
  have hl : (mkL cnt mk k (l.take j)).length = j := by rw [mkL_length]; simp; omega
  have : (mkTo cnt mk k l j)[j]? = some l[j] := by
    rw [mkTo, List.getElem?_append_right (by omega), hl]
    simp [h]
  rw [List.getElem?_eq_getElem (by rw [mkTo_length]; exact h)] at this
  injection this
theorem mkTo_step {l : List α} {k : Int} {j : Nat} (h : j < l.length) : (mkTo cnt mk k l j).set j (mk (k + cntL cnt (l.take j)) l[j]) = mkTo cnt mk k l (j + 1) := by
  have hl : (mkL cnt mk k (l.take j)).length = j := by rw [mkL_length]; simp; omega
  unfold mkTo
  rw [List.set_append_right _ _ (by omega), hl, Nat.sub_self, List.drop_eq_getElem_cons h, List.set_cons_zero, List.take_succ_eq_append_getElem h, mkL_append, List.append_assoc]
  rfl
theorem mkTo_end {l : List α} {k : Int} : mkTo cnt mk k l l.length = mkL cnt mk k l := by simp [mkTo]
end

/-- The marks of an entry: its numbers, then its weight. -/
def cntE (e : Ent) : Nat := e.1.length + 1
def mkE (k : Int) (e : Ent) : Ent := (marks k e.1.length, k + e.1.length)

/-- markIntS, on a row with its blocks. -/
theorem markRow_any (S : Fp) (A : Option Addr) (c : Nat) (xs : List Int) (k : Int) (w : World) (hl : ∀ q, S q → q < w.heap.size) (hS : ∀ q, blk A = some q → S q) (hx : IntsOwn w 0 A c xs) (hn : xs.length ≤ 4194304) (hk0 : 0 ≤ k) (hk1 : k ≤ 4611686018427387904) :
    Calls Try.prog 16 #[.slice A xs.length c, .int .i64 k] w fun e w' => e = .returned (.int .i64 (k + xs.length)) ∧ IntsOwn w' 0 A c (marks k xs.length) ∧ GrownS w w' S :=
  (markIntS_any 0 A c xs k w hx hn hk0 hk1).mono fun _ _ ⟨he, ho, hg⟩ => ⟨he, ho, GrownS.ofGrown hg hS⟩

set_option maxHeartbeats 800000 in
theorem markEntryS_any (S : Fp) (A : Option Addr) (c : Nat) (es : List Ent) (k : Int) (w : World) (hx : EntsOw w S A c es) (hn : es.length ≤ 4194304) (hr : rowsIn es 4194304) (hk0 : 0 ≤ k) (hk1 : k + cntL cntE es ≤ 4611686018427387904) :
    Calls Try.prog 15 #[.slice A es.length c, .int .i64 k] w fun e w' => e = .returned (.int .i64 (k + cntL cntE es)) ∧ EntsOw w' S A c (mkL cntE mkE k es) ∧ GrownS w w' S := by
  obtain ⟨css, F, hx⟩ := hx
  rcases hx.form with ⟨rfl, rfl, rfl⟩ | ⟨g, rfl, hSg, hlt, _, _⟩
  · have HX := Lib.hid hx
    clear hx
    go_enter Try.func15, Try.ntmps15
    go_wp2
    refine wp_loop_rounds 1 ?_
    rw [rounds_succ]
    go_wp2
    go_ret
    exact ⟨ret_int (by simp [cntL]), ⟨_, _, HX.out⟩, GrownS.refl _ _⟩
  · have HX := Lib.hid hx
    clear hx
    go_enter Try.func15, Try.ntmps15
    go_wp2
    go_loopw [1, 5] (fun q i wr => ∃ j : Nat, j ≤ es.length ∧ i = .int .i64 j ∧ q = .int .i64 (k + cntL cntE (es.take j)) ∧ (∃ css', SlF EntO 2 40 wr S (some ⟨g, 0, none⟩) c (mkTo cntE mkE k es j) css' F) ∧ GrownS w wr S) (fun _ i _ => es.length - (intOf i).toNat)
    case atStart => exact ⟨0, by omega, rfl, by simp [cntL], ⟨css, by simpa [mkTo, mkL] using HX.out⟩, GrownS.refl _ _⟩
    case round =>
      obtain ⟨j, hj, rfl, rfl, ⟨css', hown⟩, hgr⟩ := hrel
      by_cases hjl : j < es.length
      · have hcl : j < css'.length := by rw [hown.clen, mkTo_length]; exact hjl
        have hml : j < (mkTo cntE mkE k es j).length := by rw [mkTo_length]; exact hjl
        have hel := hown.elt j hcl hml
        rw [mkTo_get hjl] at hel
        obtain ⟨RA, rc, hcs, hFb, hrow⟩ := hel.form
        have hc0 := hown.cell j hcl 0 (by omega)
        have hc1 := hown.cell j hcl 1 (by omega)
        rw [hcs] at hc0 hc1
        simp at hc0 hc1
        have hsum := cntL_step (cnt := cntE) hjl
        have hle := cntL_le (cnt := cntE) es (j + 1)
        have hrl := hr.get hjl
        have hce : cntE es[j] = es[j].1.length + 1 := rfl
        have hq0 : 0 ≤ k + (cntL cntE (es.take j) : Int) := by omega
        have hq1 : k + (cntL cntE (es.take j) : Int) + es[j].1.length + 1 ≤ 4611686018427387904 := by omega
        have hFl := entO.lt hel
        have HS := Lib.hid hsum
        have HO := Lib.hid hown
        have HC := Lib.hid hcs
        have HE := Lib.hid hce
        clear hsum hown hcs hce hle hel
        generalize hK : k + (cntL cntE (es.take j) : Int) = K at hq0 hq1
        have HK := Lib.hid hK
        clear hK
        go_wp2_with fail
        refine (markRow_any (F j) _ _ _ _ _ hFl hFb hrow hrl hq0 (by omega)).mono ?_
        rintro e w1 ⟨rfl, ho1, hg1⟩
        have hFg : ∀ q, F j q → q ≠ g := fun q hq e => (HO.out.sub j q hq).2 (by rw [e]; rfl)
        have hin := HO.out.inner entO (x' := (marks K es[j].1.length, es[j].2)) hml hg1 hcl (by
          rw [HC.out]
          have := EntO.mk (x := es[j].2) (fun q hq => Nat.lt_of_lt_of_le (hFl q hq) hg1.size) hFb ho1
          simpa [marks_length] using this)
        have hc1' := hin.cell j hcl 1 (by omega)
        rw [HC.out] at hc1'
        simp at hc1'
        have hf1 := hin.frozen (j * 2 + 1)
        have hst := hin.store entO (i := 1) (j := j) (by rw [List.length_set]; exact hml) hcl (by omega) (.int .i64 (K + es[j].1.length)) (x' := mkE K es[j]) (by
          rw [HC.out]
          have := EntO.mk (x := K + es[j].1.length) (fun q hq => Nat.lt_of_lt_of_le (hFl q hq) hg1.size) hFb ho1
          simpa [marks_length, mkE] using this)
        rw [List.set_set, ← HK.out, mkTo_step hjl] at hst
        have HT := Lib.hid hst
        have HG := Lib.hid (hgr.trans (hg1.mono (fun q hq => (HO.out.sub j q hq).1)))
        clear HC hst hin hg1 ho1 hgr hrow hFb hFl hFg hml
        go_wp2
        go_roundw
        case rel => exact ⟨j + 1, by omega, by go_num, by rw [HS.out, HE.out, ← HK.out]; go_num, ⟨_, by rw [← HK.out]; exact HT.out⟩, HG.out.set_ (p := ⟨g, j * 2 + 1, none⟩) hSg _⟩
        case measure => simp [intOf]; omega
      · obtain rfl : j = es.length := by omega
        rw [mkTo_end] at hown
        have HO := Lib.hid hown
        have HG := Lib.hid hgr
        have HT := Lib.hid (List.take_length (l := es))
        clear hown hgr
        go_wp2
        go_ret
        exact ⟨ret_int (by rw [HT.out]), ⟨_, _, HO.out⟩, HG.out⟩

theorem cnt_bd {es : List Ent} (h1 : es.length ≤ 4194304) (h2 : rowsIn es 4194304) : (cntL cntE es : Int) ≤ 17592194433024 := by
  have : ∀ (l : List Ent), rowsIn l 4194304 → cntL cntE l ≤ l.length * 4194305 := by
    intro l
    induction l with
    | nil => intro _; simp [cntL]
    | cons x l ih =>
      intro h
      have h0 := ih (fun e he => h e (by simp [he]))
      have h1 := h x (by simp)
      unfold cntL at h0 ⊢
      rw [List.map_cons, List.sum_cons, List.length_cons]
      have : cntE x = x.1.length + 1 := rfl
      omega
  have := this es h2
  omega
end Go.Proofs.Ytifjenleoagefaa
