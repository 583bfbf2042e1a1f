/- HELPER, no statement of the seat: several texts in one file. -/
import Derived.Test.YtjikdlldochhcacGreatSmF
import Derived.Test.YtjikdlldochhcacGreatFilU
import Derived.Test.YtjikdlldochhcacGreatConsS
import Derived.Test.YtjikdlldochhcacGreatAsOfI
/- HELPER, no statement of the seat: small traces as lists, and what is linear in them; no program. -/
namespace Go.Proofs.YtjikdlldochhcacGreat
set_option linter.unusedSimpArgs false
set_option linter.unusedVariables false
set_option linter.unusedSectionVars false

/-! ### Sums over the keys that something holds of -/
section
variable {κ : Type} [DecidableEq κ]
def lin (p : κ → Bool) (l : List (κ × Int)) : Int := ((l.filter fun x => p x.1).map (·.2)).sum
theorem lin_nil (p : κ → Bool) : lin p ([] : List (κ × Int)) = 0 := rfl
theorem lin_cons (p : κ → Bool) (x : κ × Int) (l : List (κ × Int)) : lin p (x :: l) = (if p x.1 = true then x.2 else 0) + lin p l := by
  unfold lin
  by_cases h : p x.1 = true <;> simp [h]
theorem lin_append (p : κ → Bool) (l m : List (κ × Int)) : lin p (l ++ m) = lin p l + lin p m := by
  induction l with
  | nil => simp [lin_nil]
  | cons x l ih => rw [List.cons_append, lin_cons, lin_cons, ih]; omega
theorem lin_insK (lt : κ → κ → Bool) (p : κ → Bool) (l : List (κ × Int)) (r : κ) (w : Int) : lin p (insK lt l r w) = lin p l + if p r = true then w else 0 := by
  induction l with
  | nil => simp [insK, lin_cons, lin_nil]
  | cons x l ih =>
    unfold insK
    split
    · rw [lin_cons, lin_cons, ih]; omega
    · split
      · rename_i h
        rw [lin_cons, lin_cons, h]
        simp only
        split <;> omega
      · rw [lin_cons, lin_cons]
        simp only
        omega
theorem lin_fold (lt : κ → κ → Bool) (p : κ → Bool) (b : List (κ × Int)) : ∀ a : List (κ × Int), lin p (b.foldl (fun z e => insK lt z e.1 e.2) a) = lin p a + lin p b := by
  induction b with
  | nil => intro a; simp [lin_nil]
  | cons x b ih =>
    intro a
    rw [List.foldl_cons, ih, lin_insK, lin_cons]
    omega
theorem lin_nz (p : κ → Bool) (l : List (κ × Int)) : lin p (nz l) = lin p l := by
  induction l with
  | nil => rfl
  | cons x l ih =>
    by_cases hx : x.2 = 0
    · have h1 : nz (x :: l) = nz l := by simp [nz, hx]
      rw [h1, ih, lin_cons, hx]
      split <;> omega
    · have h1 : nz (x :: l) = x :: nz l := by simp [nz, hx]
      rw [h1, lin_cons, lin_cons, ih]
theorem wsum_lin (l : List (κ × Int)) (r : κ) : wsum l r = lin (fun k => decide (k = r)) l := rfl
theorem lin_filter (p q : κ → Bool) (l : List (κ × Int)) : lin p (l.filter fun e => q e.1) = lin (fun k => q k && p k) l := by
  induction l with
  | nil => rfl
  | cons x l ih =>
    by_cases hx : q x.1 = true
    · rw [List.filter_cons_of_pos (by simpa using hx), lin_cons, ih, lin_cons]
      simp [hx]
    · rw [List.filter_cons_of_neg (by simpa using hx), ih, lin_cons]
      simp [hx]
theorem lin_congr {p q : κ → Bool} {l : List (κ × Int)} (h : ∀ x ∈ l, p x.1 = q x.1) : lin p l = lin q l := by
  unfold lin
  rw [List.filter_congr h]
theorem lin_none {p : κ → Bool} {l : List (κ × Int)} (h : ∀ x ∈ l, p x.1 = false) : lin p l = 0 := by
  induction l with
  | nil => rfl
  | cons x l ih =>
    rw [lin_cons, h x (by simp), ih (fun y hy => h y (by simp [hy]))]
    simp
theorem lin_bd {p : κ → Bool} {l : List (κ × Int)} {b : Int} (hb : 0 ≤ b) (hw : ∀ e ∈ l, -b ≤ e.2 ∧ e.2 ≤ b) : -(b * l.length) ≤ lin p l ∧ lin p l ≤ b * l.length := by
  induction l with
  | nil => simp [lin_nil]
  | cons x l ih =>
    have h1 := ih (fun e he => hw e (by simp [he]))
    have h2 := hw x (by simp)
    rw [lin_cons, List.length_cons]
    have h3 : b * ((l.length + 1 : Nat) : Int) = b * l.length + b := by rw [Int.natCast_add, Int.mul_add]; simp
    rw [h3]
    split <;> omega
theorem lin_map {μ : Type} [DecidableEq μ] (f : κ → μ) (p : μ → Bool) (l : List (κ × Int)) : lin p (l.map fun e => (f e.1, e.2)) = lin (fun k => p (f k)) l := by
  induction l with
  | nil => rfl
  | cons x l ih => rw [List.map_cons, lin_cons, lin_cons, ih]
theorem lin_perm {p : κ → Bool} {l m : List (κ × Int)} (h : l.Perm m) : lin p l = lin p m := by
  induction h with
  | nil => rfl
  | cons x _ ih => rw [lin_cons, lin_cons, ih]
  | swap x y l => rw [lin_cons, lin_cons, lin_cons, lin_cons]; omega
  | trans _ _ h1 h2 => rw [h1, h2]
end
theorem lin_NormL (p : List Int → Bool) (l : List Ent) : lin p (NormL l) = lin p l := by
  rw [NormL, lin_fold, lin_nil]; omega
theorem lin_NormLU (p : KeyU → Bool) (l : List Upd) : lin p (NormLU l) = lin p l := by
  rw [NormLU, AddLU, lin_fold, lin_nil]; omega
/-- Up to a time. -/
def upTo (x y : Int) (k : KeyU) : Bool := leB k.2.1 k.2.2 x y
theorem lin_entsTo (p : List Int → Bool) (x y : Int) (l : List Upd) : lin p (entsTo x y l) = lin (fun k => upTo x y k && p k.1) l := by
  have h := lin_map (fun k : KeyU => k.1) p (l.filter fun u => upTo x y u.1)
  have h2 := lin_filter (fun k : KeyU => p k.1) (upTo x y) l
  exact h.trans h2

/-! ### Small traces -/
structure SmT (n k : Nat) (b : Int) (z : List Upd) : Prop where
  tr : trB z = true
  len : z.length ≤ k
  wt : ∀ e ∈ z, -b ≤ e.2 ∧ e.2 ≤ b
  wd : ∀ e ∈ z, e.1.1.length = n
theorem SmT.fil {n k : Nat} {b : Int} {z : List Upd} (h : SmT n k b z) (p : Upd → Bool) : SmT n k b (z.filter p) :=
  ⟨trB_filter p h.tr, Nat.le_trans (List.length_filter_le _ _) h.len, fun e he => h.wt e (List.mem_filter.1 he).1, fun e he => h.wd e (List.mem_filter.1 he).1⟩
theorem SmT.nil (n k : Nat) (b : Int) : SmT n k b [] := ⟨rfl, by simp, (fun e he => by cases he), (fun e he => by cases he)⟩
theorem widU_of {z : List Upd} {n : Nat} (h : ∀ e ∈ z, e.1.1.length = n) (hp : 0 < z.length) : widU z = n := by
  rw [widU, nthU_get hp]
  exact h _ (List.getElem_mem hp)
theorem NormL_key {l : List Ent} {y : Ent} (h : y ∈ NormL l) : ∃ q ∈ l, y.1 = q.1 := by
  rcases AddL_key (a := []) (b := l) h with ⟨q, hq, _⟩ | h
  · cases hq
  · exact h
theorem NormL_len' (l : List Ent) : (NormL l).length ≤ l.length := by
  have := AddL_len' l []
  simpa [NormL, AddL] using this
theorem NormL_asc' (l : List Ent) : Asc lessB (NormL l) := AddL_asc (a := []) List.Pairwise.nil l
/-- What has come of a small trace up to a time. -/
theorem asOf_Sm {n k : Nat} {b : Int} {z : List Upd} (h : SmT n k b z) (hb : 0 ≤ b) (hk : k ≤ 400) (hw : b * k ≤ 1000000) (x y : Int) : Sm n k (b * k) (nz (NormL (entsTo x y z))) := by
  have ha := nz_asc (NormL_asc' (entsTo x y z))
  have hlz := h.len
  have hle := entsTo_len z x y
  have hlen : (nz (NormL (entsTo x y z))).length ≤ k := by
    have h1 : (nz (NormL (entsTo x y z))).length ≤ (NormL (entsTo x y z)).length := List.length_filter_le _ _
    have h2 := NormL_len' (entsTo x y z)
    omega
  have hbk : b * (z.length : Int) ≤ b * k := Int.mul_le_mul_of_nonneg_left (by omega) hb
  have hwt : ∀ e ∈ nz (NormL (entsTo x y z)), -(b * k) ≤ e.2 ∧ e.2 ≤ b * k := fun e he => by
    have h1 := wsum_at ha he
    rw [nz_wsum, wsum_lin, lin_NormL, lin_entsTo] at h1
    have h2 := lin_bd (p := fun k : KeyU => upTo x y k && decide (k.1 = e.1)) hb h.wt
    omega
  have hkey : ∀ e ∈ nz (NormL (entsTo x y z)), rowB e.1 = true ∧ e.1.length = n := fun e he => by
    obtain ⟨q, hq, e2⟩ := NormL_key (List.mem_filter.1 he).1
    obtain ⟨u, hu, rfl⟩ := entsTo_mem hq
    rw [e2]
    exact ⟨(sumU_parts (trB_sum h.tr u hu)).1, h.wd u hu⟩
  refine ⟨zsB_mk (n := n) (by omega) (fun e he => ?_) (fun e he => nz_mem e he) (fun e he => (hkey e he).2) ha, hlen, hwt, fun e he => (hkey e he).2⟩
  have h1 := hwt e he
  simp only [sumE, wtB, inB, Bool.and_eq_true, decide_eq_true_eq]
  exact ⟨(hkey e he).1, by omega, by omega⟩
theorem AsOfF_Sm {n k : Nat} {b : Int} {z : List Upd} (h : SmT n k b z) (hb : 0 ≤ b) (hk : k ≤ 400) (hw : b * k ≤ 1000000) {x y : Int} (hv : vtB x y = true) : AsOfF z x y = nz (NormL (entsTo x y z)) := by
  simp [AsOfF, h.tr, hv, chkF, (asOf_Sm h hb hk hw x y).zs]
theorem AsOfF_bad {x y : Int} (hv : vtB x y = false) (z : List Upd) : AsOfF z x y = [] := by simp [AsOfF, hv]
theorem AsOfF_nil (x y : Int) : AsOfF [] x y = [] := by
  unfold AsOfF
  split
  · rfl
  · rfl
theorem asOf_Sm' {n k : Nat} {b : Int} {z : List Upd} (h : SmT n k b z) (hb : 0 ≤ b) (hk : k ≤ 400) (hw : b * k ≤ 1000000) (x y : Int) : Sm n k (b * k) (AsOfF z x y) := by
  cases hv : vtB x y
  · rw [AsOfF_bad hv]; exact Sm.nil _ _ _
  · rw [AsOfF_Sm h hb hk hw hv]; exact asOf_Sm h hb hk hw x y
theorem asOf_lin {n k : Nat} {b : Int} {z : List Upd} (h : SmT n k b z) (hb : 0 ≤ b) (hk : k ≤ 400) (hw : b * k ≤ 1000000) {x y : Int} (hv : vtB x y = true) (r : List Int) : wsum (AsOfF z x y) r = lin (fun q => upTo x y q && decide (q.1 = r)) z := by
  rw [AsOfF_Sm h hb hk hw hv, nz_wsum, wsum_lin, lin_NormL, lin_entsTo]

/-! ### Filters -/
theorem FilFU_Sm {n k : Nat} {b : Int} {z : List Upd} (h : SmT n k b z) {c kd v : Int} (hv : pvB c kd v n = true) : FilFU z c kd v = z.filter (fun e => holdP c.toNat kd v e.1.1) := by
  rcases Nat.eq_zero_or_pos z.length with h0 | hp
  · rw [List.eq_nil_of_length_eq_zero h0]; simp [FilFU]
  · simp [FilFU, h.tr, widU_of h.wd hp, hv]
theorem FilFU_bad {n k : Nat} {b : Int} {z : List Upd} (h : SmT n k b z) {c kd v : Int} (hv : pvB c kd v n = false) : FilFU z c kd v = [] := by
  rcases Nat.eq_zero_or_pos z.length with h0 | hp
  · rw [List.eq_nil_of_length_eq_zero h0]; simp [FilFU]
  · simp [FilFU, h.tr, widU_of h.wd hp, hv]
theorem trB_FilFU (z : List Upd) (c k v : Int) : trB (FilFU z c k v) = true := by
  unfold FilFU
  split
  · rename_i h
    simp only [Bool.and_eq_true] at h
    exact trB_filter _ h.1
  · rfl
theorem asOf_fil {n : Nat} {z : List Upd} (h : SmT n 20 9 z) (c kd v x y : Int) : AsOfF (FilFU z c kd v) x y = FilF (AsOfF z x y) c kd v := by
  have hs := asOf_Sm' h (by decide) (by decide) (by decide) x y
  cases hv : pvB c kd v n
  · rw [FilFU_bad h hv, AsOfF_nil, FilF_bad hs hv]
  · cases ht : vtB x y
    · rw [AsOfF_bad ht, AsOfF_bad ht]; simp [FilF]
    · rw [FilF_Sm hs hv, FilFU_Sm h hv]
      refine zs_ext (asOf_Sm' (h.fil _) (by decide) (by decide) (by decide) x y).zs (zsB_filter _ hs.zs) (fun r => ?_)
      rw [wsum_fil, asOf_lin h (by decide) (by decide) (by decide) ht, asOf_lin (h.fil _) (by decide) (by decide) (by decide) ht]
      have h2 := lin_filter (fun q : KeyU => upTo x y q && decide (q.1 = r)) (fun q : KeyU => holdP c.toNat kd v q.1) z
      refine h2.trans ?_
      by_cases hr : holdP c.toNat kd v r = true
      · rw [if_pos hr]
        refine lin_congr fun e _ => ?_
        by_cases he : e.1.1 = r
        · rw [he, hr]; simp
        · simp [he]
      · rw [if_neg hr]
        refine lin_none fun e _ => ?_
        by_cases he : e.1.1 = r
        · rw [he]; simp [hr]
        · simp [he]

/-! ### Normal forms -/
theorem AddLU_key {b : List Upd} : ∀ {a : List Upd} {y : Upd}, y ∈ AddLU a b → (∃ q ∈ a, y.1 = q.1) ∨ ∃ q ∈ b, y.1 = q.1 := by
  induction b with
  | nil => intro a y h; exact .inl ⟨y, h, rfl⟩
  | cons x b ih =>
    intro a y h
    rcases ih (a := insK ltU a x.1 x.2) h with ⟨q, hq, e⟩ | ⟨q, hq, e⟩
    · rcases insK_key hq with e2 | ⟨p, hp, e2⟩
      · exact .inr ⟨x, by simp, by rw [e, e2]⟩
      · exact .inl ⟨p, hp, by rw [e, e2]⟩
    · exact .inr ⟨q, by simp [hq], e⟩
theorem NormLU_key {l : List Upd} {y : Upd} (h : y ∈ NormLU l) : ∃ q ∈ l, y.1 = q.1 := by
  rcases AddLU_key (a := []) (b := l) h with ⟨q, hq, _⟩ | h
  · cases hq
  · exact h
theorem AddLU_len' (b : List Upd) : ∀ a : List Upd, (AddLU a b).length ≤ a.length + b.length := by
  induction b with
  | nil => intro a; simp [AddLU]
  | cons x b ih =>
    intro a
    have h1 := ih (insK ltU a x.1 x.2)
    have h2 := insK_length (lt := ltU) a x.1 x.2
    show (AddLU (insK ltU a x.1 x.2) b).length ≤ _
    simp only [List.length_cons]
    omega
theorem NormLU_len' (l : List Upd) : (NormLU l).length ≤ l.length := by
  have := AddLU_len' l []
  simpa [NormLU] using this
theorem nzU_asc {l : List Upd} (h : Asc ltU l) : Asc ltU (nz l) := List.Pairwise.sublist List.filter_sublist h
theorem wsumU_at {l : List Upd} (h : Asc ltU l) {e : Upd} (he : e ∈ l) : wsum l e.1 = e.2 := by
  induction l with
  | nil => cases he
  | cons x l ih =>
    obtain ⟨h1, h2⟩ := List.pairwise_cons.1 h
    rcases List.mem_cons.1 he with rfl | he
    · rw [wsum_cons, if_pos rfl, wsum_zero (fun y hy e => updTot.ne (h1 y hy) e.symm)]; omega
    · rw [wsum_cons, if_neg (updTot.ne (h1 e he)), ih h2 he]; omega
theorem trB_nz {z : List Upd} (h : trB z = true) : nz z = z := List.filter_eq_self.2 (fun e he => by simp [trB_ne h e he])
theorem trB_sumsU {z : List Upd} (h : trB z = true) : sumsU z = true := (trB_parts h).2.1
theorem nzNormLU_self {z : List Upd} (h : trB z = true) : nz (NormLU z) = z := by
  rw [← trB_nz h]
  conv => lhs; rw [trB_nz h]
  exact nz_ext updTot (NormLU_asc z) (trB_asc h) (fun r => NormLU_wsum z r)
theorem ConsF_self {z : List Upd} (h : trB z = true) : ConsF z = z := by
  have h4 := (trB_parts h).1
  simp [ConsF, h4, trB_sumsU h, nzNormLU_self h, chkT, h]
theorem trB_ConsF (l : List Upd) : trB (ConsF l) = true := by
  unfold ConsF
  split
  · unfold chkT
    split
    · rename_i h; exact h
    · rfl
  · rfl
theorem sumsU_iff {l : List Upd} : sumsU l = true ↔ ∀ e ∈ l, sumU e = true := by
  constructor
  · intro h e he
    obtain ⟨j, hj, rfl⟩ := List.getElem_of_mem he
    have := allTo_iff.1 h j hj
    simpa only [nthU_get hj] using this
  · intro h
    exact allTo_iff.2 (fun k hk => by rw [nthU_get hk]; exact h _ (List.getElem_mem hk))
theorem ConsF_perm {l m : List Upd} (h : l.Perm m) : ConsF l = ConsF m := by
  have h1 : nz (NormLU l) = nz (NormLU m) := nz_ext updTot (NormLU_asc l) (NormLU_asc m) (fun r => by rw [NormLU_wsum, NormLU_wsum, wsum_perm h])
  have h2 : sumsU l = sumsU m := by
    apply Bool.eq_iff_iff.2
    rw [sumsU_iff, sumsU_iff]
    exact ⟨fun g e he => g e (h.mem_iff.2 he), fun g e he => g e (h.mem_iff.1 he)⟩
  rw [ConsF, ConsF, h1, h2, h.length_eq]
/-- What a small list of updates comes to. -/
theorem cons_SmT {n k : Nat} {b : Int} {z : List Upd} (hs : ∀ e ∈ z, sumU e = true) (hl : z.length ≤ k) (hwz : ∀ e ∈ z, -b ≤ e.2 ∧ e.2 ≤ b) (hwd : ∀ e ∈ z, e.1.1.length = n) (hb : 0 ≤ b) (hk : k ≤ 400) (hw : b * k ≤ 1000000) :
    SmT n k (b * k) (nz (NormLU z)) := by
  have ha := nzU_asc (NormLU_asc z)
  have hlen : (nz (NormLU z)).length ≤ k := by
    have h1 : (nz (NormLU z)).length ≤ (NormLU z).length := List.length_filter_le _ _
    have h2 := NormLU_len' z
    omega
  have hbk : b * (z.length : Int) ≤ b * k := Int.mul_le_mul_of_nonneg_left (by omega) hb
  have hwt : ∀ e ∈ nz (NormLU z), -(b * k) ≤ e.2 ∧ e.2 ≤ b * k := fun e he => by
    have h1 := wsumU_at ha he
    rw [nz_wsum, wsum_lin, lin_NormLU] at h1
    have h2 : ∀ p : KeyU → Bool, -(b * (z.length : Int)) ≤ lin p z ∧ lin p z ≤ b * z.length := fun p => lin_bd hb hwz
    rw [← h1]
    exact ⟨Int.le_trans (by omega) (h2 _).1, Int.le_trans (h2 _).2 (by omega)⟩
  have hkey : ∀ e ∈ nz (NormLU z), rowB e.1.1 = true ∧ e.1.1.length = n ∧ vtB e.1.2.1 e.1.2.2 = true := fun e he => by
    obtain ⟨q, hq, e2⟩ := NormLU_key (List.mem_filter.1 he).1
    rw [e2]
    have := sumU_parts (hs q hq)
    exact ⟨this.1, hwd q hq, this.2.2⟩
  refine ⟨trB_mk (n := n) (by omega) (fun e he => ?_) (fun e he => nz_mem e he) (fun e he => (hkey e he).2.1) ha, hlen, hwt, fun e he => (hkey e he).2.1⟩
  have h1 := hwt e he
  obtain ⟨h2, -, h3⟩ := hkey e he
  simp only [sumU, sumE, wtB, inB, Bool.and_eq_true, decide_eq_true_eq]
  exact ⟨⟨h2, by omega, by omega⟩, h3⟩
theorem ConsF_SmT {n k : Nat} {b : Int} {z : List Upd} (hs : ∀ e ∈ z, sumU e = true) (hl : z.length ≤ k) (hwz : ∀ e ∈ z, -b ≤ e.2 ∧ e.2 ≤ b) (hwd : ∀ e ∈ z, e.1.1.length = n) (hb : 0 ≤ b) (hk : k ≤ 400) (hw : b * k ≤ 1000000) : ConsF z = nz (NormLU z) := by
  have h4 : z.length ≤ 400 := by omega
  simp [ConsF, h4, sumsU_iff.2 hs, chkT, (cons_SmT hs hl hwz hwd hb hk hw).tr]
end Go.Proofs.YtjikdlldochhcacGreat

/- HELPER, no statement of the seat: isSmallTrace of the laws. -/
namespace Go.Proofs.YtjikdlldochhcacGreat
open Go.RowKit Go.Sort
set_option linter.unusedSimpArgs false
set_option linter.unusedVariables false

def smT (z : List Upd) : Bool := allTo (fun j => bdB (-9) 9 (nthU z j).2) z.length && (trB z && decide (z.length ≤ 20))
theorem smT_SmT {z : List Upd} (h : smT z = true) : SmT (widU z) 20 9 z := by
  simp only [smT, Bool.and_eq_true, decide_eq_true_eq] at h
  refine ⟨h.2.1, h.2.2, fun e he => ?_, trB_wid h.2.1⟩
  obtain ⟨j, hj, rfl⟩ := List.getElem_of_mem he
  have := allTo_iff.1 h.1 j hj
  rw [nthU_get hj] at this
  simpa only [bdB, Bool.and_eq_true, decide_eq_true_eq] using this
end Go.Proofs.YtjikdlldochhcacGreat
