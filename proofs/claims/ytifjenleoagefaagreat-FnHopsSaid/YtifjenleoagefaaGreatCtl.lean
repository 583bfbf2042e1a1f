/- HELPER, no statement of the seat: certificates of paths and of the closure, as lists; no program. -/
import Derived.Test.YtifjenleoagefaaGreatCgc
import Derived.Test.YtifjenleoagefaaGreatCgg
import Derived.Test.YtifjenleoagefaaGreatCgf
import Derived.Test.YtifjenleoagefaaGreatCgd
namespace Go.Proofs.YtifjenleoagefaaGreat
open Go.RowKit Go.Sort
set_option linter.unusedSimpArgs false
set_option linter.unusedVariables false

theorem dist_clos {r : List Nat} (hr : OkR r) {x y : Nat} (hx : x < 20) (hy : y < 20) : getT (distT r) x y ≠ 0 ↔ hasR (closR r) x y = true := by
  constructor
  · intro h
    rcases dist_form hr hx hy with h0 | ⟨d, _, hd⟩
    · exact absurd h0 h
    · exact wk_clos hr ((dist_shw hr hx hy d).1 hd).1
  · intro h
    obtain ⟨l, hl, h2⟩ := (closR_has hr x y).1 h
    obtain ⟨k, hk, rfl⟩ := List.getElem_of_mem hl
    have := (dist_shw hr hx hy k).2 ((rds_wk hr k hk x y).1 h2)
    rw [this]; omega
/-! ### The distances are the only ones that are reached and continued. -/
def reaP (r : List Nat) (T : List Int) (x y : Nat) : Prop := (getT T x y = 1 ∧ hasR r x y = true) ∨ (getT T x y ≠ 1 ∧ ∃ w, w < 20 ∧ getT T x w = getT T x y - 1 ∧ hasR r w y = true)
def conP (r : List Nat) (T : List Int) (x y : Nat) : Prop := ∀ z, hasR r y z = true → getT T x z ≠ 0 ∧ getT T x z ≤ getT T x y + 1
def cerP (r : List Nat) (T : List Int) : Prop := ∀ x y, x < 20 → y < 20 → (hasR r x y = true → getT T x y = 1) ∧ (0 < getT T x y → reaP r T x y ∧ conP r T x y)
theorem cer_dist {r : List Nat} (hr : OkR r) : cerP r (distT r) := fun x y hx hy => by
  refine ⟨fun h => (dist_shw hr hx hy 0).2 ⟨h, fun j hj => absurd hj (by omega)⟩, fun hp => ?_⟩
  rcases dist_form hr hx hy with h0 | ⟨d, _, hd⟩
  · rw [h0] at hp; exact absurd hp (by omega)
  · constructor
    · cases d with
      | zero => exact .inl ⟨hd, ((dist_shw hr hx hy 0).1 hd).1⟩
      | succ d =>
        obtain ⟨⟨v, h1, h2⟩, h3⟩ := (dist_shw hr hx hy (d + 1)).1 hd
        have hv := (wk_lt hr h1).2
        refine .inr ⟨by rw [hd]; omega, v, hv, ?_, h2⟩
        rw [(dist_shw hr hx hv d).2 ⟨h1, fun j hj hw => h3 (j + 1) (by omega) ⟨v, hw, h2⟩⟩, hd]; omega
    · intro z hz
      obtain ⟨e, he, h2⟩ := dist_tri hr hx hd hz
      rw [h2, hd]; omega
theorem cer_wk {r : List Nat} (hr : OkR r) {T : List Int} (h : cerP r T) {x : Nat} (hx : x < 20) : ∀ (d y : Nat), y < 20 → getT T x y = ((d + 1 : Nat) : Int) → wk r d x y
  | 0, y, hy, he => by
    rcases ((h x y hx hy).2 (by rw [he]; omega)).1 with ⟨_, h1⟩ | ⟨h1, _⟩
    · exact h1
    · exact absurd he h1
  | d + 1, y, hy, he => by
    rcases ((h x y hx hy).2 (by rw [he]; omega)).1 with ⟨h1, _⟩ | ⟨_, w, hw, h1, h2⟩
    · rw [he] at h1; exact absurd h1 (by omega)
    · exact ⟨w, cer_wk hr h hx d w hw (by rw [h1, he]; omega), h2⟩
theorem cer_le {r : List Nat} (hr : OkR r) {T : List Int} (h0 : ∀ x y, x < 20 → y < 20 → 0 ≤ getT T x y) (h : cerP r T) {x : Nat} (hx : x < 20) : ∀ (n y : Nat), wk r n x y → 0 < getT T x y ∧ getT T x y ≤ ((n + 1 : Nat) : Int)
  | 0, y, hw => by
    have := (h x y hx (wk_lt hr hw).2).1 hw
    rw [this]; omega
  | n + 1, z, ⟨y, hw, h2⟩ => by
    obtain ⟨h3, h4⟩ := cer_le hr h0 h hx n y hw
    have hy := (wk_lt hr hw).2
    have hz := (has_lt hr h2).2
    obtain ⟨h5, h6⟩ := ((h x y hx hy).2 h3).2 z h2
    have := h0 x z hx hz
    omega
theorem cer_uniq {r : List Nat} (hr : OkR r) {T : List Int} (h0 : ∀ x y, x < 20 → y < 20 → 0 ≤ getT T x y) (h : cerP r T) {x y : Nat} (hx : x < 20) (hy : y < 20) : getT T x y = getT (distT r) x y := by
  have hn := h0 x y hx hy
  obtain ⟨d, hd⟩ : ∃ d : Nat, getT T x y = d := ⟨(getT T x y).toNat, by omega⟩
  cases d with
  | zero =>
    rcases dist_form hr hx hy with h1 | ⟨e, _, h1⟩
    · rw [h1]; exact hd
    · have h2 := (cer_le hr h0 h hx e y ((dist_shw hr hx hy e).1 h1).1).1
      omega
  | succ d =>
    have hw := cer_wk hr h hx d y hy hd
    obtain ⟨k, hk, hs⟩ := wk_shw hr hw
    have h2 := (cer_le hr h0 h hx k y hs.1).2
    rw [(dist_shw hr hx hy k).2 hs]; omega
theorem getT_ext {T U : List Int} (hT : T.length = 400) (hU : U.length = 400) (h : ∀ x y, x < 20 → y < 20 → getT T x y = getT U x y) : T = U := by
  apply List.ext_getElem (by omega)
  intro i h1 h2
  have := h (i / 20) (i % 20) (by omega) (by omega)
  unfold getT at this
  have e : 20 * (i / 20) + i % 20 = i := by omega
  rw [e] at this
  simpa [List.getD_eq_getElem?_getD, h1, h2] using this
theorem entT_congr {T U : List Int} (h : ∀ x y, x < 20 → y < 20 → getT T x y = getT U x y) : entT T = entT U := by
  refine ones_ext (entT_asc T) (entT_asc U) (entT_ones T) (entT_ones U) (fun r => ?_)
  rw [mem_entT, mem_entT]
  constructor
  · rintro ⟨x, y, hx, hy, h1, h2⟩
    exact ⟨x, y, hx, hy, by rw [← h x y hx hy]; exact h1, by rw [← h x y hx hy]; exact h2⟩
  · rintro ⟨x, y, hx, hy, h1, h2⟩
    exact ⟨x, y, hx, hy, by rw [h x y hx hy]; exact h1, by rw [h x y hx hy]; exact h2⟩
theorem entT_inj {T U : List Int} (hT : ∀ x y, x < 20 → y < 20 → 0 ≤ getT T x y) (hU : ∀ x y, x < 20 → y < 20 → 0 ≤ getT U x y) (h : entT T = entT U) : ∀ x y, x < 20 → y < 20 → getT T x y = getT U x y := fun x y hx hy => by
  rw [← dinL_ent hT hx hy, ← dinL_ent hU hx hy, h]
/-- A certificate is the list of the distances. -/
theorem cer_iff {r : List Nat} (hr : OkR r) {T : List Int} (h0 : ∀ x y, x < 20 → y < 20 → 0 ≤ getT T x y) : cerP r T ↔ entT T = entT (distT r) := by
  constructor
  · intro h; exact entT_congr (fun x y hx hy => cer_uniq hr h0 h hx hy)
  · intro h
    have h2 := entT_inj h0 (fun x y hx hy => (dist_le hr hx hy).1) h
    have h3 := cer_dist hr
    have hz : ∀ x z y, hasR r y z = true → x < 20 → getT T x z = getT (distT r) x z := fun x z y hz hx => h2 x z hx (has_lt hr hz).2
    intro x y hx hy
    obtain ⟨h4, h5⟩ := h3 x y hx hy
    rw [h2 x y hx hy]
    refine ⟨h4, fun hp => ?_⟩
    obtain ⟨h6, h7⟩ := h5 hp
    constructor
    · unfold reaP at h6 ⊢
      rw [h2 x y hx hy]
      rcases h6 with h6 | ⟨h6, w, hw, h8, h9⟩
      · exact .inl h6
      · exact .inr ⟨h6, w, hw, by rw [h2 x w hx hw]; exact h8, h9⟩
    · intro z hz'
      rw [h2 x y hx hy, hz x z y hz' hx]
      exact h7 z hz'
def CckF (es ds : List Ent) : Bool := edgB es && decide (ds = entT (distT (relOf es)))
/-! ### Paths -/
theorem hasB_spec {r : List Nat} {u v : Int} : hasB r u v = true ↔ ∃ U V : Nat, u = U ∧ v = V ∧ U < 20 ∧ V < 20 ∧ hasR r U V = true := by
  simp only [hasB, inB, Bool.and_eq_true, decide_eq_true_eq]
  constructor
  · rintro ⟨h1, h2, h3⟩
    exact ⟨u.toNat, v.toNat, by omega, by omega, by omega, by omega, h3⟩
  · rintro ⟨U, V, rfl, rfl, h1, h2, h3⟩
    exact ⟨by omega, by omega, by simpa using h3⟩
theorem steps_spec {r : List Nat} {p : List Int} : stepsB r p = true ↔ ∀ k, k + 1 < p.length → hasB r (gi p k) (gi p (k + 1)) = true := by
  unfold stepsB allTo
  rw [List.all_eq_true]
  constructor
  · intro h k hk; exact h k (by simp; omega)
  · intro h k hk; exact h k (by simp at hk; omega)
theorem steps_wk {r : List Nat} {p : List Int} (h : stepsB r p = true) : ∀ k, k + 1 < p.length → ∃ U V : Nat, gi p 0 = U ∧ gi p (k + 1) = V ∧ wk r k U V
  | 0, hk => by
    obtain ⟨U, V, h1, h2, _, _, h3⟩ := hasB_spec.1 (steps_spec.1 h 0 hk)
    exact ⟨U, V, h1, h2, h3⟩
  | k + 1, hk => by
    obtain ⟨U, V, h1, h2, h3⟩ := steps_wk h k (by omega)
    obtain ⟨V', Z, h4, h5, _, _, h6⟩ := hasB_spec.1 (steps_spec.1 h (k + 1) hk)
    have e : V = V' := by omega
    subst e
    exact ⟨U, Z, h1, h5, V, h3, h6⟩
theorem pathB_spec {r : List Nat} {p : List Int} : pathB r p = true ↔ 2 ≤ p.length ∧ p.length ≤ 60 ∧ stepsB r p = true := by
  simp [pathB]
theorem CkF_spec {es : List Ent} {x y : Int} {p : List Int} : CkF es x y p = true ↔ edgB es = true ∧ (2 ≤ p.length ∧ p.length ≤ 60 ∧ stepsB (relOf es) p = true) ∧ gi p 0 = x ∧ gi p (p.length - 1) = y := by
  rw [← pathB_spec]
  simp [CkF]
theorem gi_take {p : List Int} {n k : Nat} (h : k < n) : gi (p.take n) k = gi p k := by
  unfold gi
  rw [List.getD_eq_getElem?_getD, List.getD_eq_getElem?_getD, List.getElem?_take, if_pos h]
theorem CkF_take {es : List Ent} {x y : Int} {p : List Int} (h : CkF es x y p = true) {i : Nat} (h1 : 1 ≤ i) (h2 : i < p.length) : CkF es x (gi p i) (p.take (i + 1)) = true := by
  obtain ⟨he, ⟨h3, h4, h5⟩, h6, h7⟩ := CkF_spec.1 h
  have hl : (p.take (i + 1)).length = i + 1 := by rw [List.length_take]; omega
  refine CkF_spec.2 ⟨he, ⟨by omega, by omega, steps_spec.2 (fun k hk => ?_)⟩, by rw [gi_take (by omega)]; exact h6, by rw [hl, gi_take (by omega), Nat.add_sub_cancel]⟩
  rw [hl] at hk
  rw [gi_take (by omega), gi_take (by omega)]
  exact steps_spec.1 h5 k (by omega)
theorem ClosF_w {es : List Ent} (h : edgB es = true) (x y : Nat) : WeightF (ClosF es) [(x : Int), (y : Int)] = if hasR (closR (relOf es)) x y = true then 1 else 0 := by
  rw [ClosF, if_pos h]
  exact prs_weight (closR_ok (relOf_ok h)) x y
theorem CkF_law {es : List Ent} {x y : Int} {p : List Int} (h : CkF es x y p = true) : WeightF (ClosF es) [x, y] = 1 ∧ PthB es x y = true ∧ (PthF es x y).length ≤ p.length := by
  obtain ⟨he, ⟨h3, h4, h5⟩, h6, h7⟩ := CkF_spec.1 h
  have hr := relOf_ok he
  obtain ⟨X, Y, e1, e2, hw⟩ := steps_wk h5 (p.length - 2) (by omega)
  rw [show p.length - 2 + 1 = p.length - 1 by omega] at e2
  have ex : x = X := by omega
  have ey : y = Y := by omega
  subst ex; subst ey
  have hlt := wk_lt hr hw
  have hc := wk_clos hr hw
  have hd := (dist_clos hr hlt.1 hlt.2).2 hc
  have hP : PthB es (X : Int) (Y : Int) = true := by
    have i1 : inB (X : Int) 0 19 = true := by simp [inB]; omega
    have i2 : inB (Y : Int) 0 19 = true := by simp [inB]; omega
    simp [PthB, he, i1, i2, hd]
  refine ⟨by rw [ClosF_w he, if_pos hc], hP, ?_⟩
  obtain ⟨k, hk, hs⟩ := wk_shw hr hw
  have hk2 := (dist_shw hr hlt.1 hlt.2 k).2 hs
  rw [PthF, if_pos hP]
  simp only [Int.toNat_natCast, pathL, hk2, List.length_append, walkP_len, List.length_cons, List.length_nil]
  omega
theorem dist_small {r : List Nat} (hr : OkR r) {x y d : Nat} (hx : x < 20) (hy : y < 20) (h : getT (distT r) x y = ((d + 1 : Nat) : Int)) : d < 20 := by
  have hok := posP_ok hr hx hy h
  have hnd : ((List.range (d + 1)).map (posP r (distT r) y d x)).Nodup := by
    rw [List.nodup_iff_pairwise_ne, List.pairwise_map]
    refine (List.pairwise_lt_range (n := d + 1)).imp_of_mem (fun {a b} ha hb hab e => ?_)
    have ha' : a ≤ d := by have := List.mem_range.1 ha; omega
    have hb' : b ≤ d := by have := List.mem_range.1 hb; omega
    have h1 := (hok a ha').2
    have h2 := (hok b hb').2
    rw [e, h2] at h1
    omega
  have := nodup_len _ (List.range 20) hnd (fun v hv => by
    obtain ⟨k, hk, rfl⟩ := List.mem_map.1 hv
    exact List.mem_range.2 (hok k (by have := List.mem_range.1 hk; omega)).1)
  simp at this
  omega
theorem ent_zs {r : List Nat} (hr : OkR r) : zsB (entT (distT r)) = true :=
  zsB_mk (n := 3) (entT_len _) (fun e he => by
    obtain ⟨x, y, hx, hy, h1, rfl⟩ := mem_entT.1 he
    have h2 := dist_le hr hx hy
    simp [sumE, rowB, wtB, inB]
    omega) (fun e he => by rw [entT_ones _ e he]; decide) (fun e he => by obtain ⟨x, y, hx, hy, h1, rfl⟩ := mem_entT.1 he; rfl) (entT_asc _)
theorem walkP_gi (r : List Nat) (T : List Int) (y d x k : Nat) (b : List Int) {i : Nat} (hi : i ≤ k) : gi (walkP r T y d x k ++ b) i = (posP r T y d x i : Int) := by
  unfold gi
  rw [List.getD_eq_getElem?_getD, List.getElem?_append_left (by rw [walkP_len]; omega)]
  simp [walkP, show i < k + 1 by omega]
theorem CerF_law {es : List Ent} (h : edgB es = true) {x y : Int} (hp : PthB es x y = true) : CkF es x y (PthF es x y) = true ∧ WeightF (CerF es) [x, y, ((PthF es x y).length : Int) - 1] = 1 := by
  have hr := relOf_ok h
  have hp' := hp
  simp only [PthB, Bool.and_eq_true, decide_eq_true_eq, inB] at hp'
  obtain ⟨_, hx', hy', hd'⟩ := hp'
  obtain ⟨X, rfl⟩ : ∃ X : Nat, x = X := ⟨x.toNat, by omega⟩
  obtain ⟨Y, rfl⟩ : ∃ Y : Nat, y = Y := ⟨y.toNat, by omega⟩
  have hX : X < 20 := by omega
  have hY : Y < 20 := by omega
  simp only [Int.toNat_natCast] at hd'
  obtain ⟨d, hd⟩ : ∃ d : Nat, getT (distT (relOf es)) X Y = ((d + 1 : Nat) : Int) := by
    rcases dist_form hr hX hY with h0 | ⟨d, _, h1⟩
    · exact absurd h0 hd'
    · exact ⟨d, h1⟩
  have hds := dist_small hr hX hY hd
  have hF : PthF es (X : Int) (Y : Int) = walkP (relOf es) (distT (relOf es)) Y d X d ++ [(Y : Int)] := by
    rw [PthF, if_pos hp]
    simp only [Int.toNat_natCast, pathL, hd, Nat.add_sub_cancel]
  have hlen : (PthF es (X : Int) (Y : Int)).length = d + 2 := by rw [hF, List.length_append, walkP_len]; rfl
  constructor
  · refine CkF_spec.2 ⟨h, ⟨by omega, by omega, steps_spec.2 (fun k hk => ?_)⟩, ?_, ?_⟩
    · rw [hlen] at hk
      rw [hF, walkP_gi _ _ _ _ _ _ _ (by omega)]
      by_cases hkd : k < d
      · rw [walkP_gi _ _ _ _ _ _ _ (by omega)]
        obtain ⟨h1, h2, _⟩ := posP_step hr hX hY hd hkd
        simp only [isN, Bool.and_eq_true] at h1
        exact hasB_spec.2 ⟨_, _, rfl, rfl, (posP_ok hr hX hY hd k (by omega)).1, h2, h1.1⟩
      · have hk' : k = d := by omega
        subst hk'
        have e : gi (walkP (relOf es) (distT (relOf es)) Y k X k ++ [(Y : Int)]) (k + 1) = (Y : Int) := by
          unfold gi
          rw [List.getD_eq_getElem?_getD, List.getElem?_append_right (by rw [walkP_len]; omega), walkP_len]
          simp
        rw [e]
        obtain ⟨h1, h2⟩ := posP_ok hr hX hY hd k (by omega)
        rw [show k - k + 1 = 0 + 1 by omega] at h2
        exact hasB_spec.2 ⟨_, _, rfl, rfl, h1, hY, ((dist_shw hr h1 hY 0).1 h2).1⟩
    · rw [hF, walkP_gi _ _ _ _ _ _ _ (by omega)]; rfl
    · rw [hlen, hF, show d + 2 - 1 = d + 1 by omega]
      unfold gi
      rw [List.getD_eq_getElem?_getD, List.getElem?_append_right (by rw [walkP_len]; omega), walkP_len]
      simp
  · rw [hlen, CerF, if_pos h, WeightF, if_pos (ent_zs hr), ones_wOf (entT_ones _), if_pos]
    refine mem_entT.2 ⟨X, Y, hX, hY, by rw [hd]; omega, ?_⟩
    rw [hd, show ((d + 2 : Nat) : Int) - 1 = ((d + 1 : Nat) : Int) by omega]
theorem noP_law {es : List Ent} (h : edgB es = true) {x y : Int} (hp : PthB es x y = false) : WeightF (ClosF es) [x, y] = 0 := by
  have hr := relOf_ok h
  by_cases hc : 0 ≤ x ∧ x < 20 ∧ 0 ≤ y ∧ y < 20
  · obtain ⟨X, rfl⟩ : ∃ X : Nat, x = X := ⟨x.toNat, by omega⟩
    obtain ⟨Y, rfl⟩ : ∃ Y : Nat, y = Y := ⟨y.toNat, by omega⟩
    rw [ClosF_w h, if_neg]
    intro hn
    have h0 := (dist_clos hr (x := X) (y := Y) (by omega) (by omega)).2 hn
    have i1 : inB (X : Int) 0 19 = true := by simp [inB]; omega
    have i2 : inB (Y : Int) 0 19 = true := by simp [inB]; omega
    simp [PthB, h, i1, i2, h0] at hp
  · rw [ClosF, if_pos h, WeightF, if_pos (prs_zs _), ones_wOf (prs_ones _), if_neg]
    intro hm
    obtain ⟨X, Y, hX, hY, _, e⟩ := mem_prs.1 hm
    simp [pr] at e
    omega
/-! ### The pairs of the certificate -/
theorem cer_pairs {r : List Nat} (hr : OkR r) (e : Ent) : e ∈ prs (closR r) ↔ ∃ f ∈ entT (distT r), e = ([gi f.1 0, gi f.1 1], 1) := by
  rw [mem_prs]
  constructor
  · rintro ⟨x, y, hx, hy, h, rfl⟩
    have h2 := (dist_clos hr hx hy).2 h
    exact ⟨_, mem_entT.2 ⟨x, y, hx, hy, by have := (dist_le hr hx hy).1; omega, rfl⟩, rfl⟩
  · rintro ⟨f, hf, rfl⟩
    obtain ⟨x, y, hx, hy, h, rfl⟩ := mem_entT.1 hf
    exact ⟨x, y, hx, hy, (dist_clos hr hx hy).1 (by omega), rfl⟩
end Go.Proofs.YtifjenleoagefaaGreat
