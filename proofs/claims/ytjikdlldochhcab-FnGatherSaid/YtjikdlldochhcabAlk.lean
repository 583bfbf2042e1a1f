/- HELPER, no statement of the seat: lists of Z-sets that are alike, and equal lists. -/
import Derived.Test.YtjikdlldochhcabSmI
import Derived.Test.YtjikdlldochhcabZsm
import Derived.Test.YtjikdlldochhcabGrf
namespace Go.Proofs.Ytjikdlldochhcab
open Go.RowKit Go.Sort
set_option linter.unusedSimpArgs false
set_option linter.unusedVariables false

/-- What alike finds: the width so far, if the lists so far are alike. -/
def alkS (o : Option Nat) (z : Zs) : Option Nat := match o with
  | none => none
  | some n => if smB z = true ∧ (0 < z.length → 0 < n → wid z = n) then some (if 0 < z.length then wid z else n) else none
def alkT (zs : List Zs) : Option Nat := zs.foldl alkS (some 0)
def alkB (zs : List Zs) : Bool := (alkT zs).isSome
theorem alk_step {zs : List Zs} {k : Nat} (h : k < zs.length) : alkT (zs.take (k + 1)) = alkS (alkT (zs.take k)) zs[k] := by
  rw [List.take_succ_eq_append_getElem h, alkT, List.foldl_append]
  rfl
theorem alk_none (l : List Zs) : l.foldl alkS none = none := by
  induction l with
  | nil => rfl
  | cons z l ih => exact ih
theorem alk_bad {zs : List Zs} {k : Nat} (h : k < zs.length) (e : alkS (alkT (zs.take k)) zs[k] = none) : alkB zs = false := by
  have h1 : alkT zs = (zs.drop (k + 1)).foldl alkS (alkT (zs.take (k + 1))) := by
    rw [alkT, alkT, ← List.foldl_append, List.take_append_drop]
  rw [alkB, h1, alk_step h, e, alk_none]
  rfl
theorem alk_fold {l : List Zs} : ∀ {n m : Nat}, l.foldl alkS (some n) = some m → (0 < n → m = n) ∧ ∃ q, (0 < n → q = n) ∧ ∀ z ∈ l, Sm q 12 9 z := by
  induction l with
  | nil =>
    intro n m h
    injection h with h
    exact ⟨fun _ => h.symm, n, fun _ => rfl, fun z hz => by cases hz⟩
  | cons z l ih =>
    intro n m h
    simp only [List.foldl_cons, alkS] at h
    by_cases hc : smB z = true ∧ (0 < z.length → 0 < n → wid z = n)
    · rw [if_pos hc] at h
      have hsz := smB_Sm hc.1
      by_cases hl : 0 < z.length
      · rw [if_pos hl] at h
        obtain ⟨h1, q, h2, h3⟩ := ih h
        have hw : 0 < wid z := (wid_row hsz.zs hl).1
        refine ⟨fun hn => by rw [h1 hw]; exact hc.2 hl hn, wid z, fun hn => hc.2 hl hn, fun y hy => ?_⟩
        rcases List.mem_cons.1 hy with rfl | hy
        · exact hsz
        · rw [← h2 hw]; exact h3 y hy
      · rw [if_neg hl] at h
        obtain ⟨h1, q, h2, h3⟩ := ih h
        refine ⟨h1, q, h2, fun y hy => ?_⟩
        rcases List.mem_cons.1 hy with rfl | hy
        · exact ⟨hsz.zs, hsz.len, hsz.wt, fun e he => by
            have : 0 < y.length := List.length_pos_of_mem he
            omega⟩
        · exact h3 y hy
    · rw [if_neg hc, alk_none] at h
      cases h
theorem alkB_Sm {zs : List Zs} (h : alkB zs = true) : ∃ q, ∀ z ∈ zs, Sm q 12 9 z := by
  unfold alkB at h
  cases e : alkT zs with
  | none => rw [e] at h; cases h
  | some m =>
    obtain ⟨_, q, _, h3⟩ := alk_fold e
    exact ⟨q, h3⟩
theorem smallV {A : Option Addr} {c : Nat} {z : Zs} (r : Bool) (hr : smB z = r) (hn : z.length ≤ 4194304) (hrr : rowsIn z 4194304) : ∀ w, EntsAt w A z →
    Calls Try.prog 62 #[.slice A z.length c] w fun e w' => e = .returned (.bool r) ∧ Below w.heap.size w w' := fun w h => by
  subst hr
  exact isSmall_l A c z w h hn hrr
set_option maxRecDepth 100000 in
set_option maxHeartbeats 3200000 in
theorem alike_l (A : Option Addr) (c : Nat) (zs : List Zs) (w : World) (hx : ZssAt w A zs) (hn : zs.length ≤ 4194304) (hr : zsIn zs 4194304) :
    Calls Try.prog 32 #[.slice A zs.length c] w fun e w' => e = .returned (.bool (alkB zs)) ∧ Below w.heap.size w w' := by
  go_enter Try.func32, Try.ntmps32
  go_wp2
  go_loopw [3, 4] (fun wd i wr => ∃ k n : Nat, k ≤ zs.length ∧ i = .int .i64 (k : Nat) ∧ wd = .int .i64 (n : Nat) ∧ n ≤ 4194304 ∧ alkT (zs.take k) = some n ∧ Below w.heap.size w wr) (fun _ i _ => zs.length - (intOf i).toNat)
  case atStart => exact ⟨0, 0, by omega, rfl, rfl, by omega, rfl, Below.refl _ _⟩
  case round =>
    obtain ⟨k, n, hk, rfl, rfl, hn4, hal, hbel⟩ := hrel
    have HA := Lib.hid hal
    clear hal
    by_cases hlt : k < zs.length
    · obtain ⟨b, off, ZA, zc, rfl, hbl, hc0, hml, hz⟩ := hx.get k hlt
      have q0 := (hbel.cell (p := ⟨b, off + k, none⟩) hbl).trans hc0
      have hzr : EntsAt wr ZA zs[k] := SlAt.below entR hz hbel
      have hrl := hr.get hlt
      have hst := alk_step hlt
      rw [HA.out] at hst
      have hbad : alkS (some n) zs[k] = none → Hid (alkB zs = false) := fun e => alk_bad hlt (by rw [HA.out]; exact e)
      clear hc0 hz
      cases e1 : smB zs[k]
      · have HF := hbad (by simp [alkS, e1])
        have hcon := smallV (A := ZA) (c := zc) false e1 hrl.1 hrl.2 wr hzr
        clear hbad hst e1
        go_wp2_with fail
        refine hcon.mono ?_
        rintro e w2 ⟨rfl, b2⟩
        have HB := Lib.hid (btr hbel b2)
        clear hcon b2 hbel q0
        go_wp2
        go_ret
        exact ⟨ret_bool HF.out.symm, HB.out⟩
      have hcon := smallV (A := ZA) (c := zc) true e1 hrl.1 hrl.2 wr hzr
      rcases Nat.eq_zero_or_pos zs[k].length with h0 | hp
      · have HS : Hid (alkT (zs.take (k + 1)) = some n) := by
          have hq : ¬ 0 < zs[k].length := by omega
          rw [Hid, hst]
          simp only [alkS, e1, true_and]
          rw [if_pos (fun h => absurd h hq), if_neg hq]
        have hd : decide ((0 : Int) < (zs[k].length : Int)) = false := decide_eq_false (by omega)
        have hd2 : ¬ 0 < zs[k].length := by omega
        clear hbad hst e1 h0
        go_wp2_with fail
        refine hcon.mono ?_
        rintro e w2 ⟨rfl, b2⟩
        have p0 := (b2.cell (p := ⟨b, off + k, none⟩) (Nat.lt_of_lt_of_le hbl hbel.size)).trans q0
        have HB := Lib.hid (btr hbel b2)
        clear hcon b2 hbel q0
        go_wp2
        go_roundw
        case rel => exact ⟨k + 1, n, by omega, by go_num, rfl, hn4, HS.out, HB.out⟩
        case measure => simp [intOf]; omega
      · obtain ⟨b3, off3, RA, rc, rfl, hbl3, hd0, -, -, -⟩ := hzr.get 0 hp
        simp only [Nat.zero_mul, Nat.add_zero] at hd0
        have hd : decide ((0 : Int) < (zs[k].length : Int)) = true := decide_eq_true (by omega)
        have hp' : (0 : Int) < zs[k].length := by omega
        have hwz : wid zs[k] = (zs[k][0]'hp).1.length := by simp [wid, nth, hp]
        have hwl := hrl.2 _ (List.getElem_mem hp)
        by_cases hbadw : 0 < n ∧ wid zs[k] ≠ n
        · have HF := hbad (by
            simp only [alkS, e1, true_and]
            rw [if_neg (fun h => hbadw.2 (h hp hbadw.1))])
          have hnn : ((((zs[k][0]'hp).1.length : Nat) : Int) != (n : Int)) = true := by
            have := hbadw.2
            rw [hwz] at this
            simp
            omega
          have hn0 : 0 < n := hbadw.1
          have hn0' : (0 : Int) < n := by omega
          clear hbad hst e1 hbadw hwz
          go_wp2_with fail
          refine hcon.mono ?_
          rintro e w2 ⟨rfl, b2⟩
          have p0 := (b2.cell (p := ⟨b, off + k, none⟩) (Nat.lt_of_lt_of_le hbl hbel.size)).trans q0
          have p1 := (b2.cell (p := ⟨b3, off3, none⟩) hbl3).trans hd0
          have HB := Lib.hid (btr hbel b2)
          clear hcon b2 hbel q0 hd0
          go_wp2
          go_ret
          exact ⟨ret_bool HF.out.symm, HB.out⟩
        · have HS : Hid (alkT (zs.take (k + 1)) = some (zs[k][0]'hp).1.length) := by
            rw [Hid, hst]
            simp only [alkS, e1, true_and]
            rw [if_pos (fun _ h2 => by
              rcases Nat.lt_or_ge 0 n with h | h
              · exact Decidable.not_not.1 (fun h3 => hbadw ⟨h, h3⟩)
              · omega), if_pos hp, hwz]
          rcases Nat.eq_zero_or_pos n with hn0 | hn0
          · subst hn0
            clear hbad hst e1 hbadw hwz
            go_wp2_with fail
            refine hcon.mono ?_
            rintro e w2 ⟨rfl, b2⟩
            have p0 := (b2.cell (p := ⟨b, off + k, none⟩) (Nat.lt_of_lt_of_le hbl hbel.size)).trans q0
            have p1 := (b2.cell (p := ⟨b3, off3, none⟩) hbl3).trans hd0
            have HB := Lib.hid (btr hbel b2)
            clear hcon b2 hbel q0 hd0
            go_wp2
            go_roundw
            case rel => exact ⟨k + 1, _, by omega, by go_num, rfl, hwl, HS.out, HB.out⟩
            case measure => simp [intOf]; omega
          · have hn0' : (0 : Int) < n := by omega
            have hnn : ((((zs[k][0]'hp).1.length : Nat) : Int) != (n : Int)) = false := by
              have : (zs[k][0]'hp).1.length = n := by rw [← hwz]; exact Decidable.not_not.1 (fun h3 => hbadw ⟨hn0, h3⟩)
              simp
              omega
            clear hbad hst e1 hbadw hwz
            go_wp2_with fail
            refine hcon.mono ?_
            rintro e w2 ⟨rfl, b2⟩
            have p0 := (b2.cell (p := ⟨b, off + k, none⟩) (Nat.lt_of_lt_of_le hbl hbel.size)).trans q0
            have p1 := (b2.cell (p := ⟨b3, off3, none⟩) hbl3).trans hd0
            have HB := Lib.hid (btr hbel b2)
            clear hcon b2 hbel q0 hd0
            go_wp2
            go_roundw
            case rel => exact ⟨k + 1, _, by omega, by go_num, rfl, hwl, HS.out, HB.out⟩
            case measure => simp [intOf]; omega
    · obtain rfl : k = zs.length := by omega
      have HF : Hid (alkB zs = true) := by
        have := HA.out
        rw [List.take_length] at this
        simp [Hid, alkB, this]
      go_wp2
      go_ret
      exact ⟨ret_bool HF.out.symm, hbel⟩
end Go.Proofs.Ytjikdlldochhcab
