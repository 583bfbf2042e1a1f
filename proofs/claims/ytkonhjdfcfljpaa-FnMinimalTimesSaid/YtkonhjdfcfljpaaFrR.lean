/- HELPER, no statement of the seat: MinimalTimes of both sides. -/
import Derived.Test.YtkonhjdfcfljpaaFrS
import Derived.Test.YtkonhjdfcfljpaaFrQ
import Derived.Test.YtkonhjdfcfljpaaFrt
namespace Go.Proofs.Ytkonhjdfcfljpaa
open Go.RowKit Go.Sort
set_option linter.unusedSimpArgs false
set_option linter.unusedVariables false

def allVt (l : List Tm) : Bool := l.all fun e => vtB e.1 e.2
def MinF (l : List Tm) : List Tm := if l.length ≤ 400 ∧ allVt l = true then minT l else []
theorem allVt_mem {l : List Tm} (h : allVt l = true) : ∀ e ∈ l, vtB e.1 e.2 = true := fun e he => List.all_eq_true.1 h e he
theorem allVt_no {l : List Tm} {k : Nat} (h : k < l.length) (e : vtB l[k].1 l[k].2 = false) : allVt l = false := by
  cases ha : allVt l
  · rfl
  · rw [allVt_mem ha _ (List.getElem_mem h)] at e; cases e
theorem allVt_yes {l : List Tm} (h : ∀ j (hj : j < l.length), vtB l[j].1 l[j].2 = true) : allVt l = true := List.all_eq_true.2 (fun e he => by
  obtain ⟨i, hi, rfl⟩ := List.getElem_of_mem he
  exact h i hi)
theorem MinF_len (l : List Tm) : (MinF l).length ≤ 100 := by
  unfold MinF
  split
  · rename_i h; exact minT_100 (allVt_mem h.2)
  · simp
set_option maxRecDepth 100000 in
set_option maxHeartbeats 1600000 in
theorem MinimalTimes_i (A : Option Addr) (c : Nat) (xs : List Tm) (w : World) (hx : TimesAt w A xs) (hn : xs.length ≤ 4180000) :
    Calls Try.prog 40 #[.slice A xs.length c] w fun e w' => ∃ A' c', e = .returned (.slice A' (MinF xs).length c') ∧ TmOwn w' w.heap.size A' c' (MinF xs) ∧ Below w.heap.size w w' := by
  by_cases h4 : (400 : Int) < xs.length
  · have HR : Hid (MinF xs = []) := by unfold MinF; rw [if_neg (by omega)]; exact rfl
    go_enter Try.func40, Try.ntmps40
    go_wp2
    go_ret
    exact ⟨none, 0, by rw [HR.out]; rfl, by rw [HR.out]; exact World.ownsRow_nil _ _ _ _, Below.refl _ _⟩
  go_enter Try.func40, Try.ntmps40
  go_wp2
  go_loopw [4, 10] (fun _ i wr => ∃ k : Nat, k ≤ xs.length ∧ i = .int .i64 k ∧ Hid (∀ j (hj : j < xs.length), j < k → vtB xs[j].1 xs[j].2 = true) ∧ Below w.heap.size w wr) (fun _ i _ => xs.length - (intOf i).toNat)
  case atStart => exact ⟨0, by omega, rfl, fun j hj h => absurd h (by omega), RowKit.Below.refl _ _⟩
  case round =>
    obtain ⟨k, hk, rfl, hall, hbel⟩ := hrel
    by_cases hlt : k < xs.length
    · obtain ⟨b, off, rfl, hbl, hc⟩ := hx (by omega)
      have q1 := (hbel.cell (p := ⟨b, off + k * 2, none⟩) hbl).trans (hc k hlt).1
      have q2 := (hbel.cell (p := ⟨b, off + k * 2 + 1, none⟩) hbl).trans (hc k hlt).2
      rw [getD_lt _ hlt] at q1 q2
      clear hc
      by_cases hz : vtB xs[k].1 xs[k].2 = true
      · have hcon := fun W => isValid_i xs[k].1 xs[k].2 W
        simp only [hz] at hcon
        have HA : Hid (∀ j (hj : j < xs.length), j < k + 1 → vtB xs[j].1 xs[j].2 = true) := fun j hj h => by
          rcases Nat.lt_or_ge j k with h2 | h2
          · exact hall.out j hj h2
          · obtain rfl : j = k := by omega
            exact hz
        clear hz
        go_wp2_with (go_at_call 93; refine (hcon _).mono ?_; rintro e w2 ⟨rfl, hb⟩)
        have hbb := btr (bal hbel _) hb
        go_roundw
        case rel => exact ⟨k + 1, by omega, by go_num, HA, hbb⟩
        case measure => simp [intOf]; omega
      · have hz2 : vtB xs[k].1 xs[k].2 = false := by simpa using hz
        have hcon := fun W => isValid_i xs[k].1 xs[k].2 W
        simp only [hz2] at hcon
        have HR : Hid (MinF xs = []) := by unfold MinF; rw [allVt_no hlt hz2, if_neg (by simp)]; exact rfl
        clear hz hz2
        go_wp2_with (go_at_call 93; refine (hcon _).mono ?_; rintro e w2 ⟨rfl, hb⟩)
        have hbb := btr (bal hbel _) hb
        go_ret
        exact ⟨none, 0, by rw [HR.out]; rfl, by rw [HR.out]; exact World.ownsRow_nil _ _ _ _, hbb⟩
    · obtain rfl : k = xs.length := by omega
      have HR : Hid (MinF xs = minT xs) := by unfold MinF; rw [if_pos ⟨by omega, allVt_yes (fun j hj => hall.out j hj hj)⟩]; exact rfl
      have hxr := hx.below hbel
      go_wp2_with fail
      refine (Values_i _ _ _ _).mono ?_
      rintro e w2 ⟨rfl, hk2, hb2⟩
      have hB2 := btr hbel hb2
      have hx2 := hxr.below hb2
      have hcon := minimalOf_i 134 _ xs w2 (enters_of Try.func134 (by kernel_rfl) rfl) (values_stops _ A c xs w2 hk2 hx2 (by omega) [w2.heap.size]) hn
      have hsz := hB2.size
      clear hk2 hx2 hxr hbel hb2
      go_wp2_with fail
      refine hcon.mono ?_
      rintro e w3 ⟨A', c', rfl, ho, hb3⟩
      have HO := Lib.hid ho
      have HB := Lib.hid (btr hB2 hb3)
      clear ho hcon hB2 hb3
      go_wp2
      go_ret
      exact ⟨A', c', by rw [HR.out]; rfl, by rw [HR.out]; exact HO.out.mono hsz, HB.out⟩
set_option maxRecDepth 100000 in
set_option maxHeartbeats 1600000 in
theorem MinimalTimes_s (A : Option Addr) (c : Nat) (xs : List Tm) (w : World) (hx : TimesAt w A xs) (hn : xs.length ≤ 4180000) :
    Calls Try.prog 38 #[.slice A xs.length c] w fun e w' => ∃ A' c', e = .returned (.slice A' (MinF xs).length c') ∧ TmOwn w' w.heap.size A' c' (MinF xs) ∧ Below w.heap.size w w' := by
  by_cases h4 : (400 : Int) < xs.length
  · have HR : Hid (MinF xs = []) := by unfold MinF; rw [if_neg (by omega)]; exact rfl
    go_enter Try.func38, Try.ntmps38
    go_wp2
    go_ret
    exact ⟨_, _, by rw [HR.out]; rfl, by rw [HR.out]; exact TmOwn.lit w, bal (Below.refl _ _) _⟩
  go_enter Try.func38, Try.ntmps38
  go_wp2
  go_loopw [3] (fun i wr => ∃ k : Nat, k ≤ xs.length ∧ i = .int .i64 k ∧ Hid (∀ j (hj : j < xs.length), j < k → vtB xs[j].1 xs[j].2 = true) ∧ Below w.heap.size w wr) (fun i _ => xs.length - (intOf i).toNat)
  case atStart => exact ⟨0, by omega, rfl, fun j hj h => absurd h (by omega), RowKit.Below.refl _ _⟩
  case round =>
    obtain ⟨k, hk, rfl, hall, hbel⟩ := hrel
    by_cases hlt : k < xs.length
    · obtain ⟨b, off, rfl, hbl, hc⟩ := hx (by omega)
      have q1 := (hbel.cell (p := ⟨b, off + k * 2, none⟩) hbl).trans (hc k hlt).1
      have q2 := (hbel.cell (p := ⟨b, off + k * 2 + 1, none⟩) hbl).trans (hc k hlt).2
      rw [getD_lt _ hlt] at q1 q2
      clear hc
      by_cases hz : vtB xs[k].1 xs[k].2 = true
      · have hcon := fun W => validTime_s xs[k].1 xs[k].2 W
        simp only [hz] at hcon
        have HA : Hid (∀ j (hj : j < xs.length), j < k + 1 → vtB xs[j].1 xs[j].2 = true) := fun j hj h => by
          rcases Nat.lt_or_ge j k with h2 | h2
          · exact hall.out j hj h2
          · obtain rfl : j = k := by omega
            exact hz
        clear hz
        go_wp2_with (go_at_call 90; refine (hcon _).mono ?_; rintro e w2 ⟨rfl, hb⟩)
        have hbb := btr hbel hb
        go_roundw
        case rel => exact ⟨k + 1, by omega, by go_num, HA, hbb⟩
        case measure => simp [intOf]; omega
      · have hz2 : vtB xs[k].1 xs[k].2 = false := by simpa using hz
        have hcon := fun W => validTime_s xs[k].1 xs[k].2 W
        simp only [hz2] at hcon
        have HR : Hid (MinF xs = []) := by unfold MinF; rw [allVt_no hlt hz2, if_neg (by simp)]; exact rfl
        clear hz hz2
        go_wp2_with (go_at_call 90; refine (hcon _).mono ?_; rintro e w2 ⟨rfl, hb⟩)
        have hbb := btr hbel hb
        go_ret
        have hsz := hbb.size
        exact ⟨_, _, by rw [HR.out]; rfl, by rw [HR.out]; exact (TmOwn.lit _).mono hsz, bal hbb _⟩
    · obtain rfl : k = xs.length := by omega
      have hav : allVt xs = true := allVt_yes (fun j hj => hall.out j hj hj)
      have h100 := minT_100 (allVt_mem hav)
      have HR : Hid (MinF xs = minT xs) := by unfold MinF; rw [if_pos ⟨by omega, hav⟩]; exact rfl
      have hcon := minimal_s A c xs wr (hx.below hbel) (by omega)
      have hsz := hbel.size
      have h1I : ¬ (100 < (minT xs).length) := by omega
      clear hav
      go_wp2_with fail
      refine hcon.mono ?_
      rintro e w3 ⟨A', c', rfl, ho, hb3⟩
      have HO := Lib.hid ho
      have HB := Lib.hid (btr hbel hb3)
      clear ho hcon hbel hb3
      go_wp2
      go_ret
      exact ⟨A', c', by rw [HR.out]; rfl, by rw [HR.out]; exact HO.out.mono hsz, HB.out⟩
end Go.Proofs.Ytkonhjdfcfljpaa
