/- HELPER, no statement of the seat: the model's distanceIn. -/
import Derived.Test.YtifjenleoagefaaWlk
import Derived.Test.YtifjenleoagefaaEdg
namespace Go.Proofs.Ytifjenleoagefaa
open Go.RowKit Go.Sort
set_option linter.unusedSimpArgs false
set_option linter.unusedVariables false

def dinL : List Ent → Int → Int → Int
  | [], _, _ => 0
  | e :: l, x, y => if gi e.1 0 = x ∧ gi e.1 1 = y then gi e.1 2 else dinL l x y
theorem dinL_step {es : List Ent} {k : Nat} (hk : k < es.length) (x y : Int) : dinL (es.drop k) x y = if gi es[k].1 0 = x ∧ gi es[k].1 1 = y then gi es[k].1 2 else dinL (es.drop (k + 1)) x y := by
  rw [List.drop_eq_getElem_cons hk]; rfl
theorem dinL_none : ∀ {l : List Ent} {x y : Int}, (∀ e ∈ l, ¬ (gi e.1 0 = x ∧ gi e.1 1 = y)) → dinL l x y = 0
  | [], _, _, _ => rfl
  | e :: l, x, y, h => by
    rw [dinL, if_neg (h e (by simp)), dinL_none (fun f hf => h f (by simp [hf]))]
theorem dinL_some : ∀ {l : List Ent} {x y d : Int}, (∃ e ∈ l, gi e.1 0 = x ∧ gi e.1 1 = y) → (∀ e ∈ l, gi e.1 0 = x ∧ gi e.1 1 = y → gi e.1 2 = d) → dinL l x y = d
  | [], _, _, _, ⟨e, he, _⟩, _ => by cases he
  | e :: l, x, y, d, ⟨f, hf, h1⟩, h => by
    by_cases hc : gi e.1 0 = x ∧ gi e.1 1 = y
    · rw [dinL, if_pos hc, h e (by simp) hc]
    · rw [dinL, if_neg hc]
      rcases List.mem_cons.1 hf with rfl | hf
      · exact absurd h1 hc
      · exact dinL_some ⟨f, hf, h1⟩ (fun g hg => h g (by simp [hg]))
theorem dinL_ent {T : List Int} (hT : ∀ x y, x < 20 → y < 20 → 0 ≤ getT T x y) {x y : Nat} (hx : x < 20) (hy : y < 20) : dinL (entT T) (x : Int) (y : Int) = getT T x y := by
  by_cases h0 : 0 < getT T x y
  · refine dinL_some ⟨([(x : Int), (y : Int), getT T x y], 1), mem_entT.2 ⟨x, y, hx, hy, h0, rfl⟩, rfl, rfl⟩ (fun e he h => ?_)
    obtain ⟨x', y', _, _, _, rfl⟩ := mem_entT.1 he
    obtain ⟨h1, h2⟩ := h
    have e1 : (x' : Int) = x := h1
    have e2 : (y' : Int) = y := h2
    have e3 : x' = x := by omega
    have e4 : y' = y := by omega
    subst e3; subst e4; rfl
  · rw [show getT T x y = 0 by have := hT x y hx hy; omega]
    refine dinL_none (fun e he h => ?_)
    obtain ⟨x', y', _, _, h3, rfl⟩ := mem_entT.1 he
    obtain ⟨h1, h2⟩ := h
    have e1 : (x' : Int) = x := h1
    have e2 : (y' : Int) = y := h2
    have e3 : x' = x := by omega
    have e4 : y' = y := by omega
    subst e3; subst e4
    exact h0 h3
theorem dinL_out {T : List Int} {x y : Int} (h : ¬ (0 ≤ x ∧ x < 20 ∧ 0 ≤ y ∧ y < 20)) : dinL (entT T) x y = 0 :=
  dinL_none (fun e he h2 => by
    obtain ⟨x', y', hx, hy, _, rfl⟩ := mem_entT.1 he
    obtain ⟨h1, h3⟩ := h2
    have e1 : (x' : Int) = x := h1
    have e2 : (y' : Int) = y := h3
    omega)
set_option maxHeartbeats 1600000 in
theorem distanceIn_s (A : Option Addr) (c : Nat) (es : List Ent) (x y : Int) (w : World) (hx : EntsAt w A es) (hn : es.length ≤ 4194304) (h3 : ∀ e ∈ es, e.1.length = 3) :
    Calls Try.prog 38 #[.slice A es.length c, .int .i64 x, .int .i64 y] w fun e w' => e = .returned (.int .i64 (dinL es x y)) ∧ w = w' := by
  have HST := Lib.hid (fun k (hk : k < es.length) => dinL_step hk x y)
  have HEND : Hid (dinL (es.drop es.length) x y = 0) := by rw [Hid, List.drop_length]; rfl
  have H0 : Hid (dinL es x y = dinL (es.drop 0) x y) := rfl
  go_enter Try.func38, Try.ntmps38
  obtain ⟨W, rfl⟩ : ∃ W : World, W = w := ⟨_, rfl⟩
  go_wp2
  go_loopw [6, 7] (fun rr i wr => ∃ k : Nat, k ≤ es.length ∧ i = .int .i64 k ∧ Hid (dinL es x y = dinL (es.drop k) x y) ∧ W = wr) (fun _ i _ => es.length - (intOf i).toNat)
  case atStart => exact ⟨0, by omega, rfl, H0, rfl⟩
  case round =>
    obtain ⟨k, hk, rfl, hall, rfl⟩ := hrel
    by_cases hlt : k < es.length
    · obtain ⟨b, off, RA, rc, rfl, hbl, q0, hc1, hml, hrow⟩ := hx.get k hlt
      have hl3 := h3 _ (List.getElem_mem hlt)
      have hlt' : (k : Int) < es.length := by omega
      obtain ⟨b2, off2, rfl, hbl2, hcc⟩ := hrow (by omega)
      have p0 : W.cell? ⟨b2, off2, none⟩ = some (.int .i64 (gi es[k].1 0)) := by have := hcc 0 (by omega); simpa [gi] using this
      have p1 : W.cell? ⟨b2, off2 + 1, none⟩ = some (.int .i64 (gi es[k].1 1)) := by have := hcc 1 (by omega); simpa [gi] using this
      have p2 : W.cell? ⟨b2, off2 + 2, none⟩ = some (.int .i64 (gi es[k].1 2)) := by have := hcc 2 (by omega); simpa [gi] using this
      have hst := HST.out k hlt
      rw [hl3] at q0
      clear hcc hrow hc1 hx h3
      generalize gi es[k].1 0 = x0 at *
      generalize gi es[k].1 1 = x1 at *
      generalize gi es[k].1 2 = x2 at *
      by_cases hp : x0 = x
      · have hpB : (x0 == x) = true := by simpa using hp
        by_cases hq : x1 = y
        · have hqB : (x1 == y) = true := by simpa using hq
          rw [if_pos ⟨hp, hq⟩] at hst
          have HR : Hid (dinL es x y = x2) := hall.out.trans hst
          clear hst hp hq HST HEND H0 hall hl3
          go_wp2
          go_ret
          rw [HR.out]
          exact ⟨rfl, rfl⟩
        · have hqB : (x1 == y) = false := by simpa using hq
          rw [if_neg (fun h => hq h.2)] at hst
          have HR : Hid (dinL es x y = dinL (es.drop (k + 1)) x y) := hall.out.trans hst
          clear hst hp hq HST HEND H0 hall hl3
          go_wp2
          go_roundw
          case rel => exact ⟨k + 1, by omega, by go_num, HR, by trivial⟩
          case measure => simp [intOf]; omega
      · have hpB : (x0 == x) = false := by simpa using hp
        rw [if_neg (fun h => hp h.1)] at hst
        have HR : Hid (dinL es x y = dinL (es.drop (k + 1)) x y) := hall.out.trans hst
        clear hst hp HST HEND H0 hall hl3
        go_wp2
        go_roundw
        case rel => exact ⟨k + 1, by omega, by go_num, HR, by trivial⟩
        case measure => simp [intOf]; omega
    · obtain rfl : k = es.length := by omega
      have HR : Hid (dinL es x y = 0) := hall.out.trans HEND.out
      clear HST HEND H0 hall h3
      go_wp2
      go_ret
      rw [HR.out]
      exact ⟨rfl, rfl⟩
end Go.Proofs.Ytifjenleoagefaa
