/- HELPER, no statement of the seat: several texts in one file. -/
import Derived.Test.YthefakiobpijiaaBtc
import Derived.Test.YthefakiobpijiaaFil
import Derived.Test.YthefakiobpijiaaCap
import Derived.Test.YthefakiobpijiaaTmK
/- HELPER, no statement of the seat: SeekRows of both sides. -/
namespace Go.Proofs.Ythefakiobpijiaa
open Go.RowKit Go.Sort
set_option linter.unusedSimpArgs false
set_option linter.unusedVariables false

/-! ### Updates whose rows have the room that they say -/
def UpdC : Rd Upd := fun w cs e => ∃ A c, cs = [.slice A e.1.1.length c, .int .i64 e.1.2.1, .int .i64 e.1.2.2, .int .i64 e.2] ∧ e.1.1.length ≤ c ∧ c ≤ maxLen ∧ IntsAt w A e.1.1
theorem updC : ROk UpdC 4 := ⟨fun ⟨_, _, e, _⟩ => by rw [e]; rfl, fun ⟨A, c, e, l, m, h⟩ hb => ⟨A, c, e, l, m, h.below hb⟩⟩
abbrev UpdsC (w : World) (A : Option Addr) (es : List Upd) : Prop := SlAt UpdC 4 w A es
theorem UpdsC.get {w : World} {A : Option Addr} {es : List Upd} (h : UpdsC w A es) (j : Nat) (hj : j < es.length) :
    ∃ b off RA rc, A = some ⟨b, off, none⟩ ∧ b < w.heap.size ∧ w.cell? ⟨b, off + j * 4, none⟩ = some (.slice RA es[j].1.1.length rc) ∧ w.cell? ⟨b, off + j * 4 + 1, none⟩ = some (.int .i64 es[j].1.2.1) ∧ w.cell? ⟨b, off + j * 4 + 2, none⟩ = some (.int .i64 es[j].1.2.2) ∧ w.cell? ⟨b, off + j * 4 + 3, none⟩ = some (.int .i64 es[j].2) ∧ es[j].1.1.length ≤ rc ∧ rc ≤ maxLen ∧ IntsAt w RA es[j].1.1 := by
  obtain ⟨b, off, rfl, hlt, hc⟩ := h (by omega)
  obtain ⟨cs, hl, hcell, hr⟩ := hc j hj
  obtain ⟨RA, rc, rfl, l, m, hi⟩ := hr
  exact ⟨b, off, RA, rc, rfl, hlt, (by have h := hcell 0 (by omega); rw [Nat.add_zero] at h; exact h), hcell 1 (by omega), hcell 2 (by omega), hcell 3 (by omega), l, m, hi⟩
theorem UpdsC.at_ {w : World} {A : Option Addr} {es : List Upd} (h : UpdsC w A es) : UpdsAt w A es := fun hn => by
  obtain ⟨b, off, e, hlt, hc⟩ := h hn
  refine ⟨b, off, e, hlt, fun j hj => ?_⟩
  obtain ⟨cs, h1, h2, RA, rc, rfl, l, m, hi⟩ := hc j hj
  exact ⟨_, h1, h2, UpdR.of (c := rc) es[j] (x := es[j].2) (Nat.le_trans l m) hi⟩
theorem UpdsOw.atC {w : World} {S : Fp} {A : Option Addr} {c : Nat} {es : List Upd} (h : UpdsOw w S A c es) : UpdsC w A es := fun hn => by
  obtain ⟨css, F, h⟩ := h
  rcases h.form with ⟨_, _, rfl⟩ | ⟨g, rfl, _, hlt, _⟩
  · simp at hn
  · refine ⟨g, 0, rfl, hlt, fun j hj => ?_⟩
    have h1 : j < css.length := by rw [h.clen]; exact hj
    refine ⟨css[j], h.elen _ (List.getElem_mem h1), fun i hi => by rw [Nat.zero_add, h.cell j h1 i hi], ?_⟩
    obtain ⟨RA, rc, hcs, _, hown⟩ := (h.elt j h1 hj).form
    refine ⟨RA, rc, hcs, ?_, ?_, hown.at_⟩
    · rcases ownsRow_form hown with ⟨_, _, h3⟩ | ⟨g, _, _, _, h4, _⟩
      · omega
      · exact h4
    · rcases ownsRow_form hown with ⟨_, h3, _⟩ | ⟨g, _, _, _, _, h4⟩
      · rw [h3]; simp [maxLen]
      · exact h4
/-- The row begins with the key. -/
def seekB (key r : List Int) : Bool := decide (key.length ≤ r.length) && decide (r.take key.length = key)
def SekF (b : Bt) (key : List Int) : List Upd := if batB b = true then b.2.2.filter (fun e => seekB key e.1.1) else []
theorem batB_tr {b : Bt} (h : batB b = true) : trB b.2.2 = true := by simp only [batB, Bool.and_eq_true] at h; exact h.2.1
theorem SekF_len (b : Bt) (key : List Int) : (SekF b key).length ≤ 400 := by
  unfold SekF
  split
  · rename_i h
    exact Nat.le_trans (List.length_filter_le _ _) (trB_parts (batB_tr h)).1
  · simp
theorem SekF_row (b : Bt) (key : List Int) : rowsU (SekF b key) 6 := by
  unfold SekF
  split
  · rename_i h
    intro e he
    have h2 := (sumU_parts (trB_sum (batB_tr h) _ (List.mem_filter.1 he).1)).1
    exact row_len h2
  · intro e he; cases he
theorem bat_row {b : Bt} (h : batB b = true) : ∀ e ∈ b.2.2, 1 ≤ e.1.1.length ∧ e.1.1.length ≤ 6 := fun e he => by
  have h2 := (sumU_parts (trB_sum (batB_tr h) _ he)).1
  simp only [rowB, decide_eq_true_eq] at h2
  exact ⟨h2.1, h2.2.1⟩
end Go.Proofs.Ythefakiobpijiaa

/- HELPER, no statement of the seat: marks on lists of times, asked. -/
namespace Go.Proofs.Ythefakiobpijiaa
open Go.RowKit Go.Sort
set_option linter.unusedSimpArgs false
set_option linter.unusedVariables false

theorem TmOwS.ofOwn {w0 w : World} {A : Option Addr} {c : Nat} {xs : List Tm} (h : TmOwn w w0.heap.size A c xs) : TmOwS w (news w0 w) A c xs :=
  ⟨fun k hk => hk.2, fun k hk => h.lt k hk, h.mono (Nat.zero_le _)⟩
theorem TmOwS.at_ {w : World} {S : Fp} {A : Option Addr} {c : Nat} {xs : List Tm} (h : TmOwS w S A c xs) : TimesAt w A xs := h.own.at_
theorem marksT_get (k : Int) (n j : Nat) (hj : j < n) : (marksT k n).getD j (0, 0) = (k + 2 * (j : Int), k + 2 * (j : Int) + 1) := by
  simp [marksT, hj]
theorem heldTimeS_any (A : Option Addr) (c n : Nat) (k : Int) (w : World) (hx : TimesAt w A (marksT k n)) (hn : n ≤ 4194304) (hk0 : 0 ≤ k) (hk1 : k ≤ 4611686018427387904) :
    Calls Try.prog 92 #[.slice A n c, .int .i64 k] w fun e w' => e = .returned (.int .i64 (k + 2 * (n : Int))) ∧ w' = w := by
  go_enter Try.func92, Try.ntmps92
  go_wp2
  go_loop [1, 5] (fun q i => ∃ j : Nat, j ≤ n ∧ i = .int .i64 j ∧ q = .int .i64 (k + 2 * (j : Int))) (fun _ i => n - (intOf i).toNat)
  case atStart => exact ⟨0, by omega, rfl, by simp⟩
  case round =>
    obtain ⟨j, hj, rfl, rfl⟩ := hrel
    by_cases hjl : j < n
    · obtain ⟨b, off, rfl, hbl, hc⟩ := hx (by rw [marksT_length]; omega)
      have h2 := hc j (by rw [marksT_length]; exact hjl)
      rw [marksT_get k n j hjl] at h2
      have q1 := h2.1
      have q2 := h2.2
      simp only at q1 q2
      have e1 : ((k + 2 * (j : Int)) != (k + 2 * (j : Int))) = false := by simp
      have e2 : ((k + 2 * (j : Int) + 1) != (k + 2 * (j : Int) + 1)) = false := by simp
      clear hc h2
      go_wp2
      go_round
      case rel => exact ⟨j + 1, by omega, by go_num, by go_num⟩
      case measure => simp [intOf]; omega
    · obtain rfl : j = n := by omega
      go_wp2
      go_ret
      exact ⟨rfl, rfl⟩
end Go.Proofs.Ythefakiobpijiaa
