/- HELPER, no statement of the seat: marks on lists of updates. -/
import Derived.Test.YthefakiobpijiaaEntM
import Derived.Test.YthefakiobpijiaaUph
namespace Go.Proofs.Ythefakiobpijiaa
open Go.RowKit Go.Sort
set_option linter.unusedSimpArgs false
set_option linter.unusedVariables false

theorem SlF.store3 {α : Type} {O : Ow α} {R : Rd α} {sz : Nat} {E : TypeId} {w : World} {S : Fp} {c : Nat} {xs : List α} {css : List (List Value)} {F : Nat → Fp} (ok : OOk O R sz) {g : Nat} (h : SlF O sz E w S (some ⟨g, 0, none⟩) c xs css F) {j i1 i2 i3 : Nat} (hj : j < xs.length) (h1 : j < css.length) (e1 : i1 < sz) (e2 : i2 < sz) (e3 : i3 < sz) (u1 u2 u3 : Value) {x1 x2 x3 : α}
    (hx1 : O w (F j) ((css[j]).set i1 u1) x1) (hx2 : O w (F j) (((css[j]).set i1 u1).set i2 u2) x2) (hx3 : O w (F j) ((((css[j]).set i1 u1).set i2 u2).set i3 u3) x3) :
    SlF O sz E (((w.setCell ⟨g, j * sz + i1, none⟩ u1).setCell ⟨g, j * sz + i2, none⟩ u2).setCell ⟨g, j * sz + i3, none⟩ u3) S (some ⟨g, 0, none⟩) c (xs.set j x3) (css.set j ((((css[j]).set i1 u1).set i2 u2).set i3 u3)) F := by
  have far : ∀ (W : World) o u k, k ≠ g → (W.setCell ⟨g, o, none⟩ u).heap[k]? = W.heap[k]? := fun W o u k hk => Below.heap_setCell _ _ _ _ hk
  have hne : ∀ m k, F m k → k ≠ g := fun m k hk e => (h.sub m k hk).2 (by rw [e]; rfl)
  have s1 := h.store ok hj h1 e1 u1 hx1
  have s2 := s1.store ok (j := j) (i := i2) (by rw [List.length_set]; exact hj) (by rw [List.length_set]; exact h1) e2 u2 (x' := x2) (by
    rw [List.getElem_set_self]
    exact ok.loc hx2 (fun k hk => far _ _ _ _ (hne _ k hk)))
  rw [List.set_set, List.set_set, List.getElem_set_self] at s2
  have s3 := s2.store ok (j := j) (i := i3) (by rw [List.length_set]; exact hj) (by rw [List.length_set]; exact h1) e3 u3 (x' := x3) (by
    rw [List.getElem_set_self]
    exact ok.loc hx3 (fun k hk => (far _ _ _ _ (hne _ k hk)).trans (far _ _ _ _ (hne _ k hk))))
  rw [List.set_set, List.set_set, List.getElem_set_self] at s3
  exact s3
theorem UpdO.form {w : World} {S : Fp} {cs : List Value} {e : Upd} (h : UpdO w S cs e) : ∃ A c, cs = [.slice A e.1.1.length c, .int .i64 e.1.2.1, .int .i64 e.1.2.2, .int .i64 e.2] ∧ (∀ k, blk A = some k → S k) ∧ IntsOwn w 0 A c e.1.1 := by
  obtain ⟨_, c1, c2, S1, S2, rfl, i1, _, _, ⟨_, d1, d2, T1, T2, rfl, j1, _, _, ⟨_, A, c, rfl, hS, h⟩, ⟨_, f1, f2, U1, U2, rfl, _, _, _, hp, hq⟩⟩, h2⟩ := h
  rw [hp.1, hq.1, h2.1]
  exact ⟨A, c, rfl, fun k hk => i1 k (j1 k (hS k hk)), h⟩

/-- The marks of an update: its numbers, its time, its weight. -/
def cntU (e : Upd) : Nat := e.1.1.length + 3
def mkU (k : Int) (e : Upd) : Upd := ((marks k e.1.1.length, (k + e.1.1.length, k + e.1.1.length + 1)), k + e.1.1.length + 1 + 1)

set_option maxHeartbeats 1600000 in
theorem markUpdateS_any (S : Fp) (A : Option Addr) (c : Nat) (es : List Upd) (k : Int) (w : World) (hx : UpdsOw w S A c es) (hn : es.length ≤ 4194304) (hr : rowsU es 4194304) (hk0 : 0 ≤ k) (hk1 : k + cntL cntU es ≤ 4611686018427387904) :
    Calls Try.prog 26 #[.slice A es.length c, .int .i64 k] w fun e w' => e = .returned (.int .i64 (k + cntL cntU es)) ∧ UpdsOw w' S A c (mkL cntU mkU k es) ∧ GrownS w w' S := by
  obtain ⟨css, F, hx⟩ := hx
  rcases hx.form with ⟨rfl, rfl, rfl⟩ | ⟨g, rfl, hSg, hlt, _, _⟩
  · have HX := Lib.hid hx
    clear hx
    go_enter Try.func26, Try.ntmps26
    go_wp2
    refine wp_loop_rounds 1 ?_
    rw [rounds_succ]
    go_wp2
    go_ret
    exact ⟨ret_int (by simp [cntL]), ⟨_, _, HX.out⟩, GrownS.refl _ _⟩
  · have HX := Lib.hid hx
    clear hx
    go_enter Try.func26, Try.ntmps26
    go_wp2
    go_loopw [1, 5] (fun q i wr => ∃ j : Nat, j ≤ es.length ∧ i = .int .i64 j ∧ q = .int .i64 (k + cntL cntU (es.take j)) ∧ (∃ css', SlF UpdO 4 119 wr S (some ⟨g, 0, none⟩) c (mkTo cntU mkU k es j) css' F) ∧ GrownS w wr S) (fun _ i _ => es.length - (intOf i).toNat)
    case atStart => exact ⟨0, by omega, rfl, by simp [cntL], ⟨css, by simpa [mkTo, mkL] using HX.out⟩, GrownS.refl _ _⟩
    case round =>
      obtain ⟨j, hj, rfl, rfl, ⟨css', hown⟩, hgr⟩ := hrel
      by_cases hjl : j < es.length
      · have hcl : j < css'.length := by rw [hown.clen, mkTo_length]; exact hjl
        have hml : j < (mkTo cntU mkU k es j).length := by rw [mkTo_length]; exact hjl
        have hel := hown.elt j hcl hml
        rw [mkTo_get hjl] at hel
        obtain ⟨RA, rc, hcs, hFb, hrow⟩ := hel.form
        have hc0 := hown.cell j hcl 0 (by omega)
        have hc1 := hown.cell j hcl 1 (by omega)
        have hc2 := hown.cell j hcl 2 (by omega)
        have hc3 := hown.cell j hcl 3 (by omega)
        rw [hcs] at hc0 hc1 hc2 hc3
        simp at hc0 hc1 hc2 hc3
        have hsum := cntL_step (cnt := cntU) hjl
        have hle := cntL_le (cnt := cntU) es (j + 1)
        have hrl := hr.get hjl
        have hce : cntU es[j] = es[j].1.1.length + 3 := rfl
        have hq0 : 0 ≤ k + (cntL cntU (es.take j) : Int) := by omega
        have hq1 : k + (cntL cntU (es.take j) : Int) + es[j].1.1.length + 3 ≤ 4611686018427387904 := by omega
        have hFl := updO.lt hel
        have HS := Lib.hid hsum
        have HO := Lib.hid hown
        have HC := Lib.hid hcs
        have HE := Lib.hid hce
        clear hsum hown hcs hce hle hel
        generalize hK : k + (cntL cntU (es.take j) : Int) = K at hq0 hq1
        have HK := Lib.hid hK
        clear hK
        go_wp2_with fail
        refine (markRow_any (F j) _ _ _ _ _ hFl hFb hrow hrl hq0 (by omega)).mono ?_
        rintro e w1 ⟨rfl, ho1, hg1⟩
        have hFg : ∀ q, F j q → q ≠ g := fun q hq e => (HO.out.sub j q hq).2 (by rw [e]; rfl)
        have hmkU : ∀ p q x : Int, UpdO w1 (F j) [.slice RA es[j].1.1.length rc, .int .i64 p, .int .i64 q, .int .i64 x] ((marks K es[j].1.1.length, (p, q)), x) := fun p q x => by
          have := UpdO.mk (p := p) (q := q) (x := x) (fun q hq => Nat.lt_of_lt_of_le (hFl q hq) hg1.size) hFb ho1
          simpa [marks_length] using this
        have hin := HO.out.inner updO (x' := ((marks K es[j].1.1.length, es[j].1.2), es[j].2)) hml hg1 hcl (by rw [HC.out]; exact hmkU _ _ _)
        have hd1 := hin.cell j hcl 1 (by omega)
        have hd2 := hin.cell j hcl 2 (by omega)
        have hd3 := hin.cell j hcl 3 (by omega)
        rw [HC.out] at hd1 hd2 hd3
        simp at hd1 hd2 hd3
        have hf1 := hin.frozen (j * 4 + 1)
        have hf2 := hin.frozen (j * 4 + 2)
        have hf3 := hin.frozen (j * 4 + 3)
        have hst := hin.store3 updO (j := j) (i1 := 1) (i2 := 2) (i3 := 3) (by rw [List.length_set]; exact hml) hcl (by omega) (by omega) (by omega) (.int .i64 (K + es[j].1.1.length)) (.int .i64 (K + es[j].1.1.length + 1)) (.int .i64 (K + es[j].1.1.length + 1 + 1)) (by rw [HC.out]; exact hmkU _ _ _) (by rw [HC.out]; exact hmkU _ _ _) (x3 := mkU K es[j]) (by rw [HC.out]; exact hmkU _ _ _)
        rw [List.set_set, ← HK.out, mkTo_step hjl] at hst
        have HT := Lib.hid hst
        have HG := Lib.hid (hgr.trans (hg1.mono (fun q hq => (HO.out.sub j q hq).1)))
        clear HC hst hin hg1 ho1 hgr hrow hFb hFl hFg hml hmkU
        go_wp2
        go_roundw
        case rel => exact ⟨j + 1, by omega, by go_num, by rw [HS.out, HE.out, ← HK.out]; go_num, ⟨_, by rw [← HK.out]; exact HT.out⟩, ((HG.out.set_ (p := ⟨g, j * 4 + 1, none⟩) hSg _).set_ (p := ⟨g, j * 4 + 2, none⟩) hSg _).set_ (p := ⟨g, j * 4 + 3, none⟩) hSg _⟩
        case measure => simp [intOf]; omega
      · obtain rfl : j = es.length := by omega
        rw [mkTo_end] at hown
        have HO := Lib.hid hown
        have HG := Lib.hid hgr
        have HT := Lib.hid (List.take_length (l := es))
        clear hown hgr
        go_wp2
        go_ret
        exact ⟨ret_int (by rw [HT.out]), ⟨_, _, HO.out⟩, HG.out⟩

set_option maxHeartbeats 800000 in
theorem heldUpdateS_any (A : Option Addr) (c : Nat) (es : List Upd) (k : Int) (w : World) (hx : UpdsAt w A (mkL cntU mkU k es)) (hn : es.length ≤ 4194304) (hr : rowsU es 4194304) (hk0 : 0 ≤ k) (hk1 : k + cntL cntU es ≤ 4611686018427387904) :
    Calls Try.prog 93 #[.slice A es.length c, .int .i64 k] w fun e w' => e = .returned (.int .i64 (k + cntL cntU es)) ∧ w = w' := by
  go_enter Try.func93, Try.ntmps93
  go_wp2
  go_loopw [1, 5] (fun q i wr => ∃ j : Nat, j ≤ es.length ∧ i = .int .i64 j ∧ q = .int .i64 (k + cntL cntU (es.take j)) ∧ w = wr) (fun _ i _ => es.length - (intOf i).toNat)
  case atStart => exact ⟨0, by omega, rfl, by simp [cntL], rfl⟩
  case round =>
    obtain ⟨j, hj, rfl, rfl, rfl⟩ := hrel
    by_cases hjl : j < es.length
    · obtain ⟨b, off, RA, rc, rfl, hbl, hc0, hc1, hc2, hc3, -, hrow⟩ := hx.get j (by rw [mkL_length]; exact hjl)
      rw [mkL_get hjl] at hc0 hc1 hc2 hc3 hrow
      have hsum := cntL_step (cnt := cntU) hjl
      have hle := cntL_le (cnt := cntU) es (j + 1)
      have hrl := hr.get hjl
      have hce : cntU es[j] = es[j].1.1.length + 3 := rfl
      have hq0 : 0 ≤ k + (cntL cntU (es.take j) : Int) := by omega
      have hq1 : k + (cntL cntU (es.take j) : Int) + es[j].1.1.length + 3 ≤ 4611686018427387904 := by omega
      have HS := Lib.hid hsum
      have HE := Lib.hid hce
      clear hsum hce hle
      generalize hK : k + (cntL cntU (es.take j) : Int) = K at hq0 hq1 hc0 hc1 hc2 hc3 hrow
      have HK := Lib.hid hK
      clear hK
      simp only [mkU, marks_length] at hc0 hc1 hc2 hc3 hrow
      have hne1 : ((K + (es[j].1.1.length : Int)) != (K + (es[j].1.1.length : Int))) = false := by simp
      have hne2 : ((K + (es[j].1.1.length : Int) + 1) != (K + (es[j].1.1.length : Int) + 1)) = false := by simp
      have hne3 : ((K + (es[j].1.1.length : Int) + 1 + 1) != (K + (es[j].1.1.length : Int) + 1 + 1)) = false := by simp
      go_wp2_with (go_at_call 62; refine (heldIntS_any _ _ _ _ _ hrow hrl hq0 (by omega)).mono ?_; rintro e w1 ⟨rfl, rfl⟩; have hnn : 0 ≤ K + (es[j].1.1.length : Int) := by omega)
      go_roundw
      case rel => exact ⟨j + 1, by omega, by go_num, by rw [HS.out, HE.out, ← HK.out]; go_num, by trivial⟩
      case measure => simp [intOf]; omega
    · obtain rfl : j = es.length := by omega
      have HT := Lib.hid (List.take_length (l := es))
      clear hx
      go_wp2
      go_ret
      exact ⟨ret_int (by rw [HT.out]), rfl⟩

theorem cntU_bd {es : List Upd} (h1 : es.length ≤ 4194304) (h2 : rowsU es 4194304) : (cntL cntU es : Int) ≤ 17592198627328 := by
  have : ∀ (l : List Upd), rowsU l 4194304 → cntL cntU l ≤ l.length * 4194307 := by
    intro l
    induction l with
    | nil => intro _; simp [cntL]
    | cons x l ih =>
      intro h
      have h0 := ih (fun e he => h e (by simp [he]))
      have h1 := h x (by simp)
      unfold cntL at h0 ⊢
      rw [List.map_cons, List.sum_cons, List.length_cons]
      have : cntU x = x.1.1.length + 3 := rfl
      omega
  have := this es h2
  omega
end Go.Proofs.Ythefakiobpijiaa
