/- HELPER, no statement of the seat: the times of a trace, each once: as lists. -/
import Derived.Test.YtkonhjdfcfljpaaCmpc
namespace Go.Proofs.Ytkonhjdfcfljpaa
open Go.RowKit Go.Sort
set_option linter.unusedSimpArgs false
set_option linter.unusedVariables false

def bfT (a b : Tm) : Prop := bfB a.1 a.2 b.1 b.2 = true
theorem bfT_iff {a b : Tm} : bfT a b ↔ a.1 < b.1 ∨ a.1 = b.1 ∧ a.2 < b.2 := by simp [bfT, bfB]
theorem bfT_irr (a : Tm) : ¬ bfT a a := by rw [bfT_iff]; omega
theorem bfT_tr {a b c : Tm} (h : bfT a b) (k : bfT b c) : bfT a c := by rw [bfT_iff] at *; omega
theorem bfT_tot {a b : Tm} (h : ¬ bfT b a) (hn : a ≠ b) : bfT a b := by
  rw [bfT_iff] at *
  by_cases h1 : a.1 = b.1
  · have h2 : a.2 ≠ b.2 := fun e => hn (Prod.ext h1 e)
    omega
  · omega
theorem bfT_anti {a b : Tm} (h : ¬ bfT b a) (k : ¬ bfT a b) : a = b := by
  by_cases e : a = b
  · exact e
  · exact absurd (bfT_tot h e) k
/-- The model's insertion. -/
def insU (out : List Tm) (t : Tm) : List Tm := if out[plc t out]? = some t then out else insAt t out
theorem insU_mem {out : List Tm} {t e : Tm} : e ∈ insU out t ↔ e = t ∨ e ∈ out := by
  unfold insU
  split
  · rename_i h
    refine ⟨.inr, fun h2 => h2.elim (fun e2 => ?_) id⟩
    subst e2
    exact List.mem_of_getElem? h
  · unfold insAt
    simp only [List.mem_append, List.mem_singleton]
    have : e ∈ out ↔ e ∈ out.take (plc t out) ∨ e ∈ out.drop (plc t out) := by rw [← List.mem_append, List.take_append_drop]
    rw [this]
    constructor
    · rintro ((h | h) | h)
      · exact .inr (.inl h)
      · exact .inl h
      · exact .inr (.inr h)
    · rintro (h | h | h)
      · exact .inl (.inr h)
      · exact .inl (.inl h)
      · exact .inr h
theorem insU_sorted {out : List Tm} {t : Tm} (hs : out.Pairwise bfT) : (insU out t).Pairwise bfT := by
  unfold insU
  split
  · exact hs
  · rename_i hne
    have hlo : ∀ e ∈ out.take (plc t out), bfT e t := fun e he => by
      obtain ⟨i, hi, rfl⟩ := List.mem_take_iff_getElem.1 he
      exact plc_lt t out i (by omega) (by omega)
    have hhi : ∀ e ∈ out.drop (plc t out), bfT t e := fun e he => by
      obtain ⟨i, hi, rfl⟩ := List.mem_drop_iff_getElem.1 he
      have hlt : plc t out < out.length := by omega
      have h0 : ¬ bfT out[plc t out] t := by unfold bfT; rw [plc_at t out hlt]; simp
      have hb : bfT t out[plc t out] := bfT_tot h0 (fun e => hne ((List.getElem?_eq_getElem hlt).trans (congrArg some e.symm)))
      rcases Nat.eq_zero_or_pos i with rfl | hp
      · simpa using hb
      · exact bfT_tr hb (List.pairwise_iff_getElem.1 hs (plc t out) (plc t out + i) (by omega) (by omega) (by omega))
    unfold insAt
    rw [List.append_assoc, List.pairwise_append]
    refine ⟨hs.sublist (List.take_sublist _ _), ?_, fun a ha b hb => ?_⟩
    · rw [List.singleton_append, List.pairwise_cons]
      exact ⟨hhi, hs.sublist (List.drop_sublist _ _)⟩
    · rcases List.mem_append.1 hb with hb | hb
      · simp at hb; subst hb; exact hlo a ha
      · exact bfT_tr (hlo a ha) (hhi b hb)
theorem insU_len (out : List Tm) (t : Tm) : (insU out t).length ≤ out.length + 1 := by
  unfold insU
  split
  · omega
  · unfold insAt; have := plc_le t out; simp; omega
def tmsU (l : List Tm) : List Tm := l.foldl insU []
theorem foldU_sorted : ∀ (l f : List Tm), f.Pairwise bfT → (l.foldl insU f).Pairwise bfT
  | [], f, h => h
  | t :: l, f, h => foldU_sorted l _ (insU_sorted h)
theorem foldU_mem : ∀ (l f : List Tm) (e : Tm), e ∈ l.foldl insU f ↔ e ∈ l ∨ e ∈ f
  | [], f, e => by simp
  | t :: l, f, e => by
    rw [List.foldl_cons, foldU_mem l, insU_mem, List.mem_cons]
    constructor
    · rintro (h | h | h)
      · exact .inl (.inr h)
      · exact .inl (.inl h)
      · exact .inr h
    · rintro ((h | h) | h)
      · exact .inr (.inl h)
      · exact .inl h
      · exact .inr (.inr h)
theorem tmsU_sorted (l : List Tm) : (tmsU l).Pairwise bfT := foldU_sorted l [] List.Pairwise.nil
theorem tmsU_mem (l : List Tm) (e : Tm) : e ∈ tmsU l ↔ e ∈ l := by
  have := foldU_mem l [] e
  simpa [tmsU] using this
theorem foldU_len : ∀ (l f : List Tm), (l.foldl insU f).length ≤ f.length + l.length
  | [], f => by simp
  | t :: l, f => by
    have h1 := foldU_len l (insU f t)
    have h2 := insU_len f t
    simp only [List.foldl_cons, List.length_cons]
    omega
theorem tmsU_len (l : List Tm) : (tmsU l).length ≤ l.length := by
  have := foldU_len l []
  simpa [tmsU] using this
theorem tmsU_snoc (l : List Tm) (t : Tm) : tmsU (l ++ [t]) = insU (tmsU l) t := by simp [tmsU]
theorem bf_unique : ∀ {xs ys : List Tm}, xs.Pairwise bfT → ys.Pairwise bfT → (∀ t, t ∈ xs ↔ t ∈ ys) → xs = ys
  | [], [], _, _, _ => rfl
  | [], y :: ys, _, _, h => absurd ((h y).2 (by simp)) (by simp)
  | x :: xs, [], _, _, h => absurd ((h x).1 (by simp)) (by simp)
  | x :: xs, y :: ys, hx, hy, h => by
    obtain ⟨hx1, hx2⟩ := List.pairwise_cons.1 hx
    obtain ⟨hy1, hy2⟩ := List.pairwise_cons.1 hy
    have e : x = y := by
      rcases List.mem_cons.1 ((h x).1 (by simp)) with e | e
      · exact e
      · rcases List.mem_cons.1 ((h y).2 (by simp)) with e2 | e2
        · exact e2.symm
        · exact absurd (bfT_tr (hy1 x e) (hx1 y e2)) (bfT_irr _)
    subst e
    congr 1
    refine bf_unique hx2 hy2 (fun t => ⟨fun ht => ?_, fun ht => ?_⟩)
    · rcases List.mem_cons.1 ((h t).1 (List.mem_cons_of_mem _ ht)) with e | e
      · subst e; exact absurd (hx1 t ht) (bfT_irr _)
      · exact e
    · rcases List.mem_cons.1 ((h t).2 (List.mem_cons_of_mem _ ht)) with e | e
      · subst e; exact absurd (hy1 t ht) (bfT_irr _)
      · exact e
theorem ddN_mem {zs : List Tm} : ∀ r, r ≤ zs.length → ∀ e, e ∈ ddN zs r ↔ ∃ i, i < r ∧ tg zs i = e
  | 0, _, e => by simp [ddN]
  | r + 1, hr, e => by
    have ih := ddN_mem (zs := zs) r (by omega) e
    unfold ddN
    split
    · rw [List.mem_append, ih, List.mem_singleton]
      constructor
      · rintro (⟨i, hi, he⟩ | rfl)
        · exact ⟨i, by omega, he⟩
        · exact ⟨r, by omega, rfl⟩
      · rintro ⟨i, hi, he⟩
        rcases Nat.lt_or_ge i r with h | h
        · exact .inl ⟨i, h, he⟩
        · obtain rfl : i = r := by omega
          exact .inr he.symm
    · rename_i hn
      rw [ih]
      constructor
      · rintro ⟨i, hi, he⟩; exact ⟨i, by omega, he⟩
      · rintro ⟨i, hi, he⟩
        rcases Nat.lt_or_ge i r with h | h
        · exact ⟨i, h, he⟩
        · obtain rfl : i = r := by omega
          have h0 : ¬ i = 0 := fun h0 => hn (.inl h0)
          have h1 : tg zs i = tg zs (i - 1) := by
            by_cases h1 : tg zs i = tg zs (i - 1)
            · exact h1
            · exact absurd (.inr h1) hn
          exact ⟨i - 1, by omega, by rw [← h1]; exact he⟩
theorem ddN_sorted {zs : List Tm} (hs : zs.Pairwise (fun a b => bfB b.1 b.2 a.1 a.2 = false)) : ∀ r, r ≤ zs.length → (ddN zs r).Pairwise bfT
  | 0, _ => List.Pairwise.nil
  | r + 1, hr => by
    have ih := ddN_sorted hs r (by omega)
    have hle : ∀ i j, i < j → j < zs.length → ¬ bfT (tg zs j) (tg zs i) := fun i j hij hj => by
      have := List.pairwise_iff_getElem.1 hs i j (by omega) hj hij
      rw [tg_lt (show i < zs.length by omega), tg_lt hj]
      unfold bfT
      rw [this]
      simp
    unfold ddN
    split
    · rename_i hn
      rw [List.pairwise_append]
      refine ⟨ih, List.pairwise_singleton _ _, fun a ha b hb => ?_⟩
      simp only [List.mem_singleton] at hb
      subst hb
      obtain ⟨i, hi, rfl⟩ := (ddN_mem r (by omega) a).1 ha
      refine bfT_tot (hle i r hi (by omega)) (fun e => ?_)
      rcases hn with h0 | h0
      · omega
      · rcases Nat.lt_or_ge i (r - 1) with h | h
        · have h3 := hle i (r - 1) h (by omega)
          have h4 := hle (r - 1) r (by omega) (by omega)
          rw [e] at h3
          exact h0 (bfT_anti h3 h4)
        · obtain rfl : i = r - 1 := by omega
          exact h0 e.symm
    · exact ih
theorem ddN_tms {zs xs : List Tm} (hp : zs.Perm xs) (hs : zs.Pairwise (fun a b => bfB b.1 b.2 a.1 a.2 = false)) : ddN zs zs.length = tmsU xs := by
  refine bf_unique (ddN_sorted hs _ (Nat.le_refl _)) (tmsU_sorted xs) (fun t => ?_)
  rw [ddN_mem _ (Nat.le_refl _), tmsU_mem, ← hp.mem_iff]
  constructor
  · rintro ⟨i, hi, rfl⟩
    rw [tg_lt hi]
    exact List.getElem_mem hi
  · intro h
    obtain ⟨i, hi, rfl⟩ := List.getElem_of_mem h
    exact ⟨i, hi, tg_lt hi⟩
theorem TimesAt.take {w : World} {A : Option Addr} {xs : List Tm} (h : TimesAt w A xs) (k : Nat) : TimesAt w A (xs.take k) := fun hn => by
  have hl : (xs.take k).length ≤ xs.length := by simp; omega
  obtain ⟨b, off, e, hlt, hc⟩ := h (by omega)
  refine ⟨b, off, e, hlt, fun j hj => ?_⟩
  have hj2 : j < xs.length := by omega
  have hj3 : j < k := by simp at hj; omega
  have := hc j hj2
  simpa [hj2, hj3] using this
theorem TimesAt.drop {w : World} {g : Nat} {xs : List Tm} (h : TimesAt w (some ⟨g, 0, none⟩) xs) (k : Nat) : TimesAt w (some ⟨g, k * 2, none⟩) (xs.drop k) := fun hn => by
  have hl : 0 < xs.length := by simp at hn; omega
  obtain ⟨b, off, e, hlt, hc⟩ := h hl
  injection e with e
  injection e with e1 e2
  subst e1; subst e2
  refine ⟨g, k * 2, rfl, hlt, fun j hj => ?_⟩
  have hj2 : k + j < xs.length := by simp at hj; omega
  have := hc (k + j) hj2
  have hd : (xs.drop k).getD j (0, 0) = xs.getD (k + j) (0, 0) := by simp [hj2]
  rw [hd]
  rw [show 0 + (k + j) * 2 = k * 2 + j * 2 by omega] at this
  exact this
end Go.Proofs.Ytkonhjdfcfljpaa
