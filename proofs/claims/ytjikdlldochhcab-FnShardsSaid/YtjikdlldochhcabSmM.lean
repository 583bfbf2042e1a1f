/- HELPER, no statement of the seat: small Z-sets as lists (their sums stay Z-sets), and what is linear in them; no program. -/
import Derived.Test.YtjikdlldochhcabZbx
import Derived.Test.YtjikdlldochhcabNrm
namespace Go.Proofs.Ytjikdlldochhcab
set_option linter.unusedSimpArgs false
set_option linter.unusedVariables false

/-! ### Small -/
def bdB (lo hi x : Int) : Bool := decide (lo ≤ x) && decide (x ≤ hi)
def nthI (xs : List Int) (k : Nat) : Int := xs.getD k 0
theorem nthI_get {xs : List Int} {k : Nat} (h : k < xs.length) : nthI xs k = xs[k] := by simp [nthI, h]
def smE (e : Ent) : Bool := bdB (-9) 9 e.2 && allTo (fun k => bdB (-20) 20 (nthI e.1 k)) e.1.length
def smB (z : List Ent) : Bool := allTo (fun j => smE (nth z j)) z.length && (zsB z && decide (z.length ≤ 12))
/-- A Z-set of rows of the width n, with at most k entries of weights up to b. -/
structure Sm (n k : Nat) (b : Int) (z : List Ent) : Prop where
  zs : zsB z = true
  len : z.length ≤ k
  wt : ∀ e ∈ z, -b ≤ e.2 ∧ e.2 ≤ b
  wd : ∀ e ∈ z, e.1.length = n
theorem smB_parts {z : List Ent} (h : smB z = true) : zsB z = true ∧ z.length ≤ 12 ∧ ∀ e ∈ z, -9 ≤ e.2 ∧ e.2 ≤ 9 := by
  simp only [smB, Bool.and_eq_true, decide_eq_true_eq] at h
  refine ⟨h.2.1, h.2.2, fun e he => ?_⟩
  obtain ⟨j, hj, rfl⟩ := List.getElem_of_mem he
  have := allTo_iff.1 h.1 j hj
  rw [nth_get hj] at this
  simp only [smE, bdB, Bool.and_eq_true, decide_eq_true_eq] at this
  exact this.1
theorem smB_Sm {z : List Ent} (h : smB z = true) : Sm (wid z) 12 9 z := by
  obtain ⟨h1, h2, h3⟩ := smB_parts h
  exact ⟨h1, h2, h3, zsB_wid h1⟩
theorem wsum_in {l : List Ent} (h : Asc lessB l) {b : Int} (hb : 0 ≤ b) (hw : ∀ e ∈ l, -b ≤ e.2 ∧ e.2 ≤ b) (r : List Int) : -b ≤ wsum l r ∧ wsum l r ≤ b := by
  by_cases hr : ∃ e ∈ l, e.1 = r
  · obtain ⟨e, he, rfl⟩ := hr
    rw [wsum_at h he]
    exact hw e he
  · rw [wsum_zero (fun x hx e => hr ⟨x, hx, e⟩)]
    omega
theorem insK_mem {l : List Ent} {r : List Int} {x : Int} {y : Ent} (h : y ∈ insK lessB l r x) : y.1 = r ∨ ∃ q ∈ l, y.1 = q.1 := insK_key h
theorem AddL_key {b : List Ent} : ∀ {a : List Ent} {y : Ent}, y ∈ AddL a b → (∃ q ∈ a, y.1 = q.1) ∨ ∃ q ∈ b, y.1 = q.1 := by
  induction b with
  | nil => intro a y h; exact .inl ⟨y, h, rfl⟩
  | cons x b ih =>
    intro a y h
    rcases ih (a := insK lessB a x.1 x.2) h with ⟨q, hq, e⟩ | ⟨q, hq, e⟩
    · rcases insK_key hq with e2 | ⟨p, hp, e2⟩
      · exact .inr ⟨x, by simp, by rw [e, e2]⟩
      · exact .inl ⟨p, hp, by rw [e, e2]⟩
    · exact .inr ⟨q, by simp [hq], e⟩
theorem AddL_len' (b : List Ent) : ∀ a : List Ent, (AddL a b).length ≤ a.length + b.length := by
  induction b with
  | nil => intro a; simp [AddL]
  | cons x b ih =>
    intro a
    have h1 := ih (insK lessB a x.1 x.2)
    have h2 := insK_length (lt := lessB) a x.1 x.2
    show (AddL (insK lessB a x.1 x.2) b).length ≤ _
    simp only [List.length_cons]
    omega
theorem rowB_key {a : List Ent} (h : zsB a = true) : ∀ e ∈ a, rowB e.1 = true := fun e he => by
  have := zsB_sumE h e he
  simp only [sumE, Bool.and_eq_true] at this
  exact this.1
/-- The sum of small ones. -/
theorem Sm.sum {n k m : Nat} {b d : Int} {x y : List Ent} (hx : Sm n k b x) (hy : Sm n m d y) (hb : 0 ≤ b) (hd : 0 ≤ d) (hl : k + m ≤ 400) (hw : b + d ≤ 1000000) : Sm n (k + m) (b + d) (nz (AddL x y)) := by
  have ha : Asc lessB (AddL x y) := AddL_asc (zsB_asc hx.zs) y
  have hna : Asc lessB (nz (AddL x y)) := nz_asc ha
  have hlen : (nz (AddL x y)).length ≤ k + m := by
    have h1 : (nz (AddL x y)).length ≤ (AddL x y).length := List.length_filter_le _ _
    have h2 := AddL_len' y x
    have h3 := hx.len
    have h4 := hy.len
    omega
  have hwt : ∀ e ∈ nz (AddL x y), -(b + d) ≤ e.2 ∧ e.2 ≤ b + d := fun e he => by
    have h1 := wsum_at hna he
    rw [nz_wsum, AddL_wsum] at h1
    have h2 := wsum_in (zsB_asc hx.zs) hb hx.wt e.1
    have h3 := wsum_in (zsB_asc hy.zs) hd hy.wt e.1
    omega
  have hkey : ∀ e ∈ nz (AddL x y), rowB e.1 = true ∧ e.1.length = n := fun e he => by
    rcases AddL_key (List.mem_filter.1 he).1 with ⟨q, hq, e2⟩ | ⟨q, hq, e2⟩
    · rw [e2]; exact ⟨rowB_key hx.zs q hq, hx.wd q hq⟩
    · rw [e2]; exact ⟨rowB_key hy.zs q hq, hy.wd q hq⟩
  refine ⟨zsB_mk (n := n) (by omega) (fun e he => ?_) (fun e he => nz_mem e he) (fun e he => (hkey e he).2) hna, hlen, hwt, fun e he => (hkey e he).2⟩
  have h1 := hwt e he
  simp only [sumE, wtB, inB, Bool.and_eq_true, decide_eq_true_eq]
  exact ⟨(hkey e he).1, by omega, by omega⟩
theorem Sm.addF {n k m : Nat} {b d : Int} {x y : List Ent} (hx : Sm n k b x) (hy : Sm n m d y) (hb : 0 ≤ b) (hd : 0 ≤ d) (hl : k + m ≤ 400) (hw : b + d ≤ 1000000) : AddF x y = nz (AddL x y) := by
  simp [AddF, hx.zs, hy.zs, chkF, (hx.sum hy hb hd hl hw).zs]
theorem Sm.add {n k m : Nat} {b d : Int} {x y : List Ent} (hx : Sm n k b x) (hy : Sm n m d y) (hb : 0 ≤ b) (hd : 0 ≤ d) (hl : k + m ≤ 400) (hw : b + d ≤ 1000000) : Sm n (k + m) (b + d) (AddF x y) := by
  rw [hx.addF hy hb hd hl hw]
  exact hx.sum hy hb hd hl hw
theorem Sm.add_wsum {n k m : Nat} {b d : Int} {x y : List Ent} (hx : Sm n k b x) (hy : Sm n m d y) (hb : 0 ≤ b) (hd : 0 ≤ d) (hl : k + m ≤ 400) (hw : b + d ≤ 1000000) (r : List Int) : wsum (AddF x y) r = wsum x r + wsum y r := by
  rw [hx.addF hy hb hd hl hw, nz_wsum, AddL_wsum]
theorem Sm.nil (n k : Nat) (b : Int) : Sm n k b [] := ⟨rfl, by simp, (fun e he => by cases he), (fun e he => by cases he)⟩
theorem Sm.mono {n k : Nat} {b : Int} {z : List Ent} (h : Sm n k b z) {m : Nat} {d : Int} (hk : k ≤ m) (hb : b ≤ d) : Sm n m d z := ⟨h.zs, Nat.le_trans h.len hk, fun e he => by have := h.wt e he; omega, h.wd⟩
/-- Two Z-sets of the same sums. -/
theorem zs_ext {a b : List Ent} (ha : zsB a = true) (hb : zsB b = true) (h : ∀ r, wsum a r = wsum b r) : a = b := by
  rw [← zsB_nz ha, ← zsB_nz hb]
  exact nz_ext rowTot (zsB_asc ha) (zsB_asc hb) h
theorem WeightF_wsum {z : List Ent} (h : zsB z = true) (r : List Int) : WeightF z r = wsum z r := by
  simp only [WeightF, h, if_true, wOf]
  cases hf : z.find? fun e => decide (e.1 = r) with
  | none =>
    rw [wsum_zero (fun x hx e => by have := List.find?_eq_none.1 hf x hx; simp [e] at this)]
    rfl
  | some e =>
    have h1 := List.find?_some hf
    have h2 := List.mem_of_find?_eq_some hf
    simp only [decide_eq_true_eq] at h1
    rw [← h1, wsum_at (zsB_asc h) h2]
    rfl
/-- Three small ones. -/
theorem AddF_assoc {n : Nat} {a b c : List Ent} (ha : Sm n 12 9 a) (hb : Sm n 12 9 b) (hc : Sm n 12 9 c) : AddF (AddF a b) c = AddF a (AddF b c) := by
  have hab := ha.add hb (by omega) (by omega) (by omega) (by omega)
  have hbc := hb.add hc (by omega) (by omega) (by omega) (by omega)
  refine zs_ext (hab.add hc (by omega) (by omega) (by omega) (by omega)).zs (ha.add hbc (by omega) (by omega) (by omega) (by omega)).zs (fun r => ?_)
  rw [hab.add_wsum hc (by omega) (by omega) (by omega) (by omega), ha.add_wsum hb (by omega) (by omega) (by omega) (by omega), ha.add_wsum hbc (by omega) (by omega) (by omega) (by omega), hb.add_wsum hc (by omega) (by omega) (by omega) (by omega)]
  omega

theorem wid_of {z : List Ent} {n : Nat} (h : ∀ e ∈ z, e.1.length = n) (hp : 0 < z.length) : wid z = n := by
  rw [wid_get hp]
  exact h _ (List.getElem_mem hp)
theorem wid_nil' : wid ([] : List Ent) = 0 := rfl
/-! ### Projections -/
/-- A list with its rows changed. -/
def mp (f : List Int → List Int) (l : List Ent) : List Ent := l.map fun e => (f e.1, e.2)
theorem mp_cons (f : List Int → List Int) (x : Ent) (l : List Ent) : mp f (x :: l) = (f x.1, x.2) :: mp f l := rfl
theorem wsum_cons' (r : List Int) (x : Int) (l : List Ent) (q : List Int) : wsum ((r, x) :: l) q = (if r = q then x else 0) + wsum l q := wsum_cons _ _ _
theorem insK_map_wsum (f : List Int → List Int) (l : List Ent) (r : List Int) (x : Int) (q : List Int) :
    wsum (mp f (insK lessB l r x)) q = wsum (mp f l) q + if f r = q then x else 0 := by
  induction l with
  | nil =>
    show wsum [(f r, x)] q = wsum [] q + _
    rw [wsum_cons', wsum_nil]
    omega
  | cons y l ih =>
    unfold insK
    split
    · rw [mp_cons, wsum_cons', ih, mp_cons, wsum_cons']; omega
    · split
      · rename_i h
        rw [mp_cons, mp_cons, wsum_cons', wsum_cons', h]
        by_cases hq : f r = q
        · rw [if_pos hq, if_pos hq, if_pos hq]; omega
        · rw [if_neg hq, if_neg hq, if_neg hq]; omega
      · rw [mp_cons, mp_cons, wsum_cons', wsum_cons']
        dsimp only
        omega
theorem AddL_map_wsum (f : List Int → List Int) (b : List Ent) : ∀ (a : List Ent) (q : List Int), wsum (mp f (AddL a b)) q = wsum (mp f a) q + wsum (mp f b) q := by
  induction b with
  | nil =>
    intro a q
    show wsum (mp f a) q = wsum (mp f a) q + wsum [] q
    rw [wsum_nil]; omega
  | cons x b ih =>
    intro a q
    show wsum (mp f (AddL (insK lessB a x.1 x.2) b)) q = _
    rw [ih, insK_map_wsum, mp_cons, wsum_cons']
    omega
theorem nz_map_wsum (f : List Int → List Int) (l : List Ent) (q : List Int) : wsum (mp f (nz l)) q = wsum (mp f l) q := by
  induction l with
  | nil => rfl
  | cons x l ih =>
    by_cases hx : x.2 = 0
    · have h1 : nz (x :: l) = nz l := by simp [nz, hx]
      rw [h1, ih, mp_cons, wsum_cons', hx]
      split <;> omega
    · have h1 : nz (x :: l) = x :: nz l := by simp [nz, hx]
      rw [h1, mp_cons, mp_cons, wsum_cons', wsum_cons', ih]
theorem wsum_bd {l : List Ent} {b : Int} (hb : 0 ≤ b) (hw : ∀ e ∈ l, -b ≤ e.2 ∧ e.2 ≤ b) (r : List Int) : -(b * l.length) ≤ wsum l r ∧ wsum l r ≤ b * l.length := by
  induction l with
  | nil => simp [wsum_nil]
  | cons x l ih =>
    have h1 := ih (fun e he => hw e (by simp [he]))
    have h2 := hw x (by simp)
    rw [wsum_cons, List.length_cons]
    have h3 : b * ((l.length + 1 : Nat) : Int) = b * l.length + b := by rw [Int.natCast_add, Int.mul_add]; simp
    rw [h3]
    split <;> omega
/-- What a projection of a small one comes to. -/
theorem map_Sm {n k : Nat} {b : Int} {z : List Ent} (h : Sm n k b z) (hb : 0 ≤ b) (hk : k ≤ 400) (hw : b * k ≤ 1000000) {cols : List Int} (hc : colB cols n = true) :
    Sm cols.length k (b * k) (nz (AddL [] (z.map (mapE cols)))) := by
  have ha : Asc lessB (AddL [] (z.map (mapE cols))) := AddL_asc List.Pairwise.nil _
  have hna := nz_asc ha
  have hlen : (nz (AddL [] (z.map (mapE cols)))).length ≤ k := by
    have h1 : (nz (AddL [] (z.map (mapE cols)))).length ≤ (AddL [] (z.map (mapE cols))).length := List.length_filter_le _ _
    have h2 := AddL_len' (z.map (mapE cols)) []
    have h3 := h.len
    simp only [List.length_map, List.length_nil] at h2
    omega
  have hbk : b * (z.length : Int) ≤ b * k := Int.mul_le_mul_of_nonneg_left (by have := h.len; omega) hb
  have hwt : ∀ e ∈ nz (AddL [] (z.map (mapE cols))), -(b * k) ≤ e.2 ∧ e.2 ≤ b * k := fun e he => by
    have h1 := wsum_at hna he
    rw [nz_wsum, AddL_wsum, wsum_nil] at h1
    have h2 := wsum_bd (l := z.map (mapE cols)) hb (fun q hq => by
      obtain ⟨x, hx, rfl⟩ := List.mem_map.1 hq
      exact h.wt x hx) e.1
    rw [List.length_map] at h2
    omega
  have hkey : ∀ e ∈ nz (AddL [] (z.map (mapE cols))), rowB e.1 = true ∧ e.1.length = cols.length := fun e he => by
    rcases AddL_key (List.mem_filter.1 he).1 with ⟨q, hq, _⟩ | ⟨q, hq, e2⟩
    · cases hq
    · obtain ⟨x, hx, rfl⟩ := List.mem_map.1 hq
      rw [e2]
      simp only [mapE]
      exact ⟨rowB_proj (rowB_key h.zs x hx) (by rw [h.wd x hx]; exact hc), projL_length _ _⟩
  refine ⟨zsB_mk (n := cols.length) (by omega) (fun e he => ?_) (fun e he => nz_mem e he) (fun e he => (hkey e he).2) hna, hlen, hwt, fun e he => (hkey e he).2⟩
  have h1 := hwt e he
  simp only [sumE, wtB, inB, Bool.and_eq_true, decide_eq_true_eq]
  exact ⟨(hkey e he).1, by omega, by omega⟩
theorem MapF_Sm {n k : Nat} {b : Int} {z : List Ent} (h : Sm n k b z) (hb : 0 ≤ b) (hk : k ≤ 400) (hw : b * k ≤ 1000000) {cols : List Int} (hc : colB cols n = true) : MapF z cols = nz (AddL [] (z.map (mapE cols))) := by
  rcases Nat.eq_zero_or_pos z.length with h0 | hp
  · rw [List.eq_nil_of_length_eq_zero h0, MapF_no (colB_zero cols)]; rfl
  · rw [MapF_eq h.zs (by rw [wid_of h.wd hp]; exact hc)]
    simp [chkF, (map_Sm h hb hk hw hc).zs]
theorem MapF_bad {n k : Nat} {b : Int} {z : List Ent} (h : Sm n k b z) {cols : List Int} (hc : colB cols n = false) : MapF z cols = [] := by
  rcases Nat.eq_zero_or_pos z.length with h0 | hp
  · rw [List.eq_nil_of_length_eq_zero h0, MapF_no (colB_zero cols)]
  · exact MapF_no (by rw [wid_of h.wd hp]; exact hc)
theorem MapF_add {n : Nat} {x y : List Ent} (hx : Sm n 12 9 x) (hy : Sm n 12 9 y) (cols : List Int) : MapF (AddF x y) cols = AddF (MapF x cols) (MapF y cols) := by
  have ha := hx.add hy (by omega) (by omega) (by omega) (by omega)
  cases hc : colB cols n
  · rw [MapF_bad ha hc, MapF_bad hx hc, MapF_bad hy hc]; rfl
  · have e0 := MapF_Sm ha (by omega) (by omega) (by decide) hc
    have e1 := MapF_Sm hx (by omega) (by omega) (by decide) hc
    have e2 := MapF_Sm hy (by omega) (by omega) (by decide) hc
    have s0 := map_Sm ha (by omega) (by omega) (by decide) hc
    have s1 := map_Sm hx (by omega) (by omega) (by decide) hc
    have s2 := map_Sm hy (by omega) (by omega) (by decide) hc
    rw [e0, e1, e2]
    refine zs_ext s0.zs (s1.add s2 (by decide) (by decide) (by omega) (by decide)).zs (fun r => ?_)
    rw [s1.add_wsum s2 (by decide) (by decide) (by omega) (by decide), nz_wsum, nz_wsum, nz_wsum, AddL_wsum, AddL_wsum, AddL_wsum, wsum_nil]
    have h1 : ∀ l : List Ent, l.map (mapE cols) = mp (fun r => projL r cols) l := fun _ => rfl
    rw [h1, h1, h1, hx.addF hy (by omega) (by omega) (by omega) (by omega), nz_map_wsum, AddL_map_wsum]
    omega
theorem totW_cons (x : Ent) (l : List Ent) : totW (x :: l) = x.2 + totW l := by simp [totW]
theorem totW_ins (l : List Ent) (r : List Int) (x : Int) : totW (insK lessB l r x) = totW l + x := by
  induction l with
  | nil => simp [insK, totW]
  | cons y l ih =>
    unfold insK
    split
    · rw [totW_cons, ih, totW_cons]; omega
    · split
      · rw [totW_cons, totW_cons]; simp only; omega
      · rw [totW_cons, totW_cons]; simp only; omega
theorem totW_AddL (b : List Ent) : ∀ a : List Ent, totW (AddL a b) = totW a + totW b := by
  induction b with
  | nil => intro a; simp [AddL, totW]
  | cons x b ih =>
    intro a
    show totW (AddL (insK lessB a x.1 x.2) b) = _
    rw [ih, totW_ins, totW_cons]
    omega
theorem totW_nz (l : List Ent) : totW (nz l) = totW l := by
  induction l with
  | nil => rfl
  | cons x l ih =>
    by_cases hx : x.2 = 0
    · have h1 : nz (x :: l) = nz l := by simp [nz, hx]
      rw [h1, ih, totW_cons, hx]; omega
    · have h1 : nz (x :: l) = x :: nz l := by simp [nz, hx]
      rw [h1, totW_cons, totW_cons, ih]
theorem totW_map (cols : List Int) (l : List Ent) : totW (l.map (mapE cols)) = totW l := by
  induction l with
  | nil => rfl
  | cons x l ih => rw [List.map_cons, totW_cons, totW_cons, ih]; rfl
theorem TotF_MapF {n : Nat} {z : List Ent} (h : Sm n 12 9 z) {cols : List Int} (hc : colB cols n = true) : TotF (MapF z cols) = TotF z := by
  have s := map_Sm h (by omega) (by omega) (by decide) hc
  rw [MapF_Sm h (by omega) (by omega) (by decide) hc]
  simp only [TotF, s.zs, h.zs, if_true]
  rw [totW_nz, totW_AddL, totW_map]
  simp [totW]
def allC (n : Nat) : List Int := (List.range n).map (fun i : Nat => (i : Int))
theorem allC_step (n : Nat) : allC (n + 1) = allC n ++ [(n : Int)] := by simp [allC, List.range_succ]
theorem projL_all (xs : List Int) : projL xs (allC xs.length) = xs := by
  apply List.ext_getElem
  · simp [projL, allC]
  · intro i h1 h2
    simp [projL, allC, h2]
theorem colB_all {n : Nat} (h1 : 1 ≤ n) (h6 : n ≤ 6) : colB (allC n) n = true := by
  simp only [colB, decide_eq_true_eq]
  refine ⟨by simp [allC]; omega, by simp [allC]; omega, fun c hc => ?_⟩
  obtain ⟨i, hi, rfl⟩ := List.mem_map.1 hc
  have := List.mem_range.1 hi
  omega
theorem MapF_all {n : Nat} {z : List Ent} (h : Sm n 12 9 z) (h1 : 1 ≤ n) (h6 : n ≤ 6) : MapF z (allC n) = z := by
  have hc := colB_all h1 h6
  have s := map_Sm h (by omega) (by omega) (by decide) hc
  rw [MapF_Sm h (by omega) (by omega) (by decide) hc]
  refine zs_ext s.zs h.zs (fun r => ?_)
  rw [nz_wsum, AddL_wsum, wsum_nil]
  have : z.map (mapE (allC n)) = z := by
    conv => rhs; rw [← List.map_id z]
    refine List.map_congr_left fun e he => ?_
    simp only [mapE, id]
    rw [← h.wd e he, projL_all]
  rw [this]
  omega
end Go.Proofs.Ytjikdlldochhcab
