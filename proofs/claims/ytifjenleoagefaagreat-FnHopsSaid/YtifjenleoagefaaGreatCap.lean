/- HELPER, no statement of the seat: entries whose rows have the room that they say; beginnings of rows; equality of rows. -/
import Derived.Test.YtifjenleoagefaaGreatZbx
import Derived.Test.YtifjenleoagefaaGreatBldM
import Derived.Test.YtifjenleoagefaaGreatEntM
namespace Go.Proofs.YtifjenleoagefaaGreat
open Go.RowKit Go.Sort
set_option linter.unusedSimpArgs false
set_option linter.unusedVariables false


theorem IntsAt.take {w : World} {A : Option Addr} {xs : List Int} (h : IntsAt w A xs) (k : Nat) : IntsAt w A (xs.take k) := fun hn => by
  have hl : (xs.take k).length ≤ xs.length := by simp; omega
  obtain ⟨b, off, e, hlt, hc⟩ := h (by omega)
  refine ⟨b, off, e, hlt, fun j hj => ?_⟩
  rw [hc j (by omega)]
  have hj2 : j < xs.length := by omega
  have hj3 : j < k := by simp at hj; omega
  simp [hj2, hj3]
/-- An entry, whose row has room for what it says. -/
def EntC : Rd Ent := fun w cs e => ∃ A c, cs = [.slice A e.1.length c, .int .i64 e.2] ∧ e.1.length ≤ c ∧ c ≤ maxLen ∧ IntsAt w A e.1
theorem entC : ROk EntC 2 := ⟨fun ⟨_, _, e, _⟩ => by rw [e]; rfl, fun ⟨A, c, e, l, m, h⟩ hb => ⟨A, c, e, l, m, h.below hb⟩⟩
theorem EntC.toR {w : World} {cs : List Value} {e : Ent} (h : EntC w cs e) : EntR w cs e := by
  obtain ⟨A, c, rfl, l, m, h⟩ := h
  exact EntR.mk (Nat.le_trans l m) h
abbrev EntsC (w : World) (A : Option Addr) (es : List Ent) : Prop := SlAt EntC 2 w A es
theorem EntsC.at_ {w : World} {A : Option Addr} {es : List Ent} (h : EntsC w A es) : EntsAt w A es := fun hn => by
  obtain ⟨b, off, e, hlt, hc⟩ := h hn
  refine ⟨b, off, e, hlt, fun j hj => ?_⟩
  obtain ⟨cs, h1, h2, h3⟩ := hc j hj
  exact ⟨cs, h1, h2, h3.toR⟩
theorem EntsC.get {w : World} {A : Option Addr} {es : List Ent} (h : EntsC w A es) (j : Nat) (hj : j < es.length) :
    ∃ b off RA rc, A = some ⟨b, off, none⟩ ∧ b < w.heap.size ∧ w.cell? ⟨b, off + j * 2, none⟩ = some (.slice RA es[j].1.length rc) ∧ w.cell? ⟨b, off + j * 2 + 1, none⟩ = some (.int .i64 es[j].2) ∧ es[j].1.length ≤ rc ∧ rc ≤ maxLen ∧ IntsAt w RA es[j].1 := by
  obtain ⟨b, off, rfl, hlt, hc⟩ := h (by omega)
  obtain ⟨cs, hl, hcell, hr⟩ := hc j hj
  obtain ⟨RA, rc, rfl, l, m, hi⟩ := hr
  exact ⟨b, off, RA, rc, rfl, hlt, by simpa using hcell 0 (by omega), by simpa using hcell 1 (by omega), l, m, hi⟩
theorem EntsOw.atC {w : World} {S : Fp} {A : Option Addr} {c : Nat} {es : List Ent} (h : EntsOw w S A c es) : EntsC w A es := fun hn => by
  obtain ⟨css, F, h⟩ := h
  rcases h.form with ⟨_, _, rfl⟩ | ⟨g, rfl, _, hlt, _⟩
  · simp at hn
  · refine ⟨g, 0, rfl, hlt, fun j hj => ?_⟩
    have h1 : j < css.length := by rw [h.clen]; exact hj
    refine ⟨css[j], h.elen _ (List.getElem_mem h1), fun i hi => by rw [Nat.zero_add, h.cell j h1 i hi], ?_⟩
    obtain ⟨RA, rc, hcs, _, hown⟩ := (h.elt j h1 hj).form
    refine ⟨RA, rc, hcs, ?_, ?_, hown.at_⟩
    · rcases ownsRow_form hown with ⟨_, _, h3⟩ | ⟨g, _, _, _, h4, _⟩
      · omega
      · exact h4
    · rcases ownsRow_form hown with ⟨_, h3, _⟩ | ⟨g, _, _, _, _, h4⟩
      · rw [h3]; simp [maxLen]
      · exact h4
/-- The bounds of a list's own room. -/
theorem EntsOw.room {w : World} {S : Fp} {A : Option Addr} {c : Nat} {es : List Ent} (h : EntsOw w S A c es) : es.length ≤ c ∧ c ≤ maxLen := by
  obtain ⟨css, F, h⟩ := h
  rcases h.form with ⟨_, rfl, rfl⟩ | ⟨g, _, _, _, h1, h2⟩
  · simp
  · exact ⟨h1, h2⟩


/-- A row of its own, with the blocks that it lies in. -/
structure RowOwS (w : World) (S : Fp) (A : Option Addr) (c : Nat) (xs : List Int) : Prop where
  lt : ∀ k, S k → k < w.heap.size
  top : ∀ k, blk A = some k → S k
  own : IntsOwn w 0 A c xs
theorem RowOwS.loc {w w' : World} {S : Fp} {A : Option Addr} {c : Nat} {xs : List Int} (h : RowOwS w S A c xs) (q : ∀ k, S k → w'.heap[k]? = w.heap[k]?) : RowOwS w' S A c xs :=
  ⟨fun k hk => lt_of_heap (q k hk) (h.lt k hk), h.top, ownsRow_loc h.own (fun k hk => q k (h.top k hk))⟩
theorem RowOwS.below {w w' : World} {S : Fp} {A : Option Addr} {c : Nat} {xs : List Int} (h : RowOwS w S A c xs) (hb : Below w.heap.size w w') : RowOwS w' S A c xs := h.loc (fun k hk => hb.block k (h.lt k hk))
theorem RowOwS.kept {w w' : World} {S T : Fp} {A : Option Addr} {c : Nat} {xs : List Int} (h : RowOwS w S A c xs) (hg : GrownS w w' T) (hd : ∀ k, S k → ¬ T k) : RowOwS w' S A c xs := h.loc (fun k hk => hg.block k (h.lt k hk) (hd k hk))
theorem RowOwS.ofBlk {w0 w : World} {xs : List Int} (h : Blk w w0.heap.size 3 (ints xs)) (hn : xs.length ≤ maxLen) : RowOwS w (news w0 w) (some ⟨w0.heap.size, 0, none⟩) xs.length xs :=
  ⟨fun k hk => hk.2, fun k hk => by simp [blk] at hk; subst hk; exact ⟨Nat.le_refl _, h.lt⟩, IntsOwn.ofBlk h (Nat.zero_le _) hn⟩
set_option maxHeartbeats 400000 in
theorem equalSl_i (A B : Option Addr) (c d : Nat) (xs ys : List Int) (w : World) (hx : IntsAt w A xs) (hy : IntsAt w B ys) (hn : xs.length * 8 ≤ 140737488351232) (hm : ys.length * 8 ≤ 140737488351232) :
    Calls Tryz.prog 40 #[.slice A xs.length c, .slice B ys.length d] w fun e w' => e = .returned (.bool (decide (xs = ys))) ∧ Below w.heap.size w w' := by
  by_cases hl : xs.length = ys.length
  · have hb : ((xs.length : Int) != (ys.length : Int)) = false := by simp [hl]
    have HL := Lib.hid hl
    clear hl
    go_enter Tryz.func40, Tryz.ntmps40
    go_wp2
    go_loopw [5, 13] (fun _ i wr => ∃ k : Nat, k ≤ xs.length ∧ i = .int .i64 k ∧ xs.take k = ys.take k ∧ Below w.heap.size w wr) (fun _ i _ => xs.length - (intOf i).toNat)
    case atStart => exact ⟨0, by omega, rfl, rfl, Below.refl _ _⟩
    case round =>
      obtain ⟨k, hk, rfl, htk, hbel⟩ := hrel
      have HT := Lib.hid htk
      clear htk
      by_cases hlt : k < xs.length
      · have hlt2 : k < ys.length := by have := HL.out; omega
        obtain ⟨b, off, rfl, hbl, hc⟩ := hx (by omega)
        obtain ⟨b2, off2, rfl, hbl2, hc2⟩ := hy (by omega)
        have hck : wr.cell? ⟨b, off + k, none⟩ = some (.int .i64 xs[k]) := (hbel.cell (p := ⟨b, off + k, none⟩) hbl).trans (by rw [hc k hlt]; simp [hlt])
        have hck2 : wr.cell? ⟨b2, off2 + k, none⟩ = some (.int .i64 ys[k]) := (hbel.cell (p := ⟨b2, off2 + k, none⟩) hbl2).trans (by rw [hc2 k hlt2]; simp [hlt2])
        clear hc hc2
        by_cases he : xs[k] = ys[k]
        · have hne : (xs[k] != ys[k]) = false := by simp [he]
          have HE := Lib.hid he
          clear he
          go_wp2_with fail
          go_quiet (fail)
          go_wp2
          go_roundw
          case rel => exact ⟨k + 1, by omega, by go_num, take_eq_step hlt hlt2 HT.out HE.out, bdn hbel _⟩
          case measure => simp [intOf]; omega
        · have hne : (xs[k] != ys[k]) = true := by simp [he]
          go_wp2_with fail
          go_quiet (fail)
          go_wp2
          go_ret
          exact ⟨ret_bool (by simp; rintro rfl; exact he rfl), bdn hbel _⟩
      · obtain rfl : k = xs.length := by omega
        have hfin : decide (xs = ys) = true := by
          have h1 := HT.out
          have h2 := HL.out
          rw [List.take_length, h2, List.take_length] at h1
          simp [h1]
        have HF := Lib.hid hfin
        clear hfin
        go_wp2
        go_ret
        exact ⟨ret_bool HF.out.symm, hbel⟩
  · have hb : ((xs.length : Int) != (ys.length : Int)) = true := by simp; omega
    have hfin : decide (xs = ys) = false := by simp; rintro rfl; exact hl rfl
    have HF := Lib.hid hfin
    clear hfin
    go_enter Tryz.func40, Tryz.ntmps40
    go_wp2
    go_ret
    exact ⟨ret_bool HF.out.symm, Below.refl _ _⟩

end Go.Proofs.YtifjenleoagefaaGreat
