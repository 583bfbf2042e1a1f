/- HELPER, no statement of the seat: several texts in one file. -/
import Derived.Test.YtifjenleoagefaaGreatCtn
import Derived.Test.YtifjenleoagefaaGreatHol
import Derived.Test.YtifjenleoagefaaGreatGrpE
/- HELPER, no statement of the seat: hops and edges, groups of hops; no program. -/
namespace Go.Proofs.YtifjenleoagefaaGreat
open Go.RowKit Go.Sort
set_option linter.unusedSimpArgs false
set_option linter.unusedVariables false

def hopL (r : List Nat) (S : Nat) : List Ent := AddL [] (hopN S 1 (rds r))
theorem hopL_asc (r : List Nat) (S : Nat) : Asc lessB (hopL r S) := AddL_asc asc_nil _
theorem hopL_sub {r : List Nat} (hr : OkR r) {S : Nat} {e : Ent} (he : e ∈ hopL r S) : e ∈ hopN S 1 (rds r) := by
  have h1 := hop_ones hr S e he
  rcases AddL_keyH he with ⟨q, hq, _⟩ | ⟨q, hq, e2⟩
  · cases hq
  · have h2 := hopN_ones S (rds r) 1 q hq
    rw [show e = q from Prod.ext e2 (h1.trans h2.symm)]; exact hq
theorem hopL_sup {r : List Nat} (hr : OkR r) {S : Nat} {e : Ent} (he : e ∈ hopN S 1 (rds r)) : e ∈ hopL r S := by
  have hk : ((hopN S 1 (rds r)).map (·.1)).Nodup := by
    have h := hopN_keys S 1 zeroR_ok (rds_djs hr)
    rw [List.nodup_iff_pairwise_ne, List.pairwise_map] at h ⊢
    exact h.imp (fun {a b} h e => h (by unfold key0; rw [e]))
  have ho := hopN_ones S (rds r) 1
  have h1 : wsum (hopL r S) e.1 = 1 := by
    unfold hopL
    rw [AddL_wsum, wsum_nil, Int.zero_add, keys_wsum ho hk, if_pos]
    rw [← ho e he]; exact he
  rw [ones_wsum (hopL_asc r S) (hop_ones hr S)] at h1
  by_cases hm : (e.1, (1 : Int)) ∈ hopL r S
  · rw [show e = (e.1, (1 : Int)) from Prod.ext rfl (ho e he)]; exact hm
  · rw [if_neg hm] at h1; omega
theorem mem_hopL {r : List Nat} (hr : OkR r) {S : Nat} (hS : S < 20) {e : Ent} : e ∈ hopL r S ↔ ∃ y : Nat, y < 20 ∧ 0 < getT (distT r) S y ∧ e = ([(y : Int), getT (distT r) S y], 1) := by
  constructor
  · intro he
    obtain ⟨p, hp, y, hy, hh, rfl⟩ := (hopN_mem S _ 1 e).1 (hopL_sub hr he)
    have hg : getT (distT r) S y = (p.1 : Int) := by
      rcases (tblN_get hS hy 1 zeroT_len zeroR_ok (rds_djs hr)).2 with ⟨q, hq, h1, h2⟩ | ⟨h1, _⟩
      · rw [numR_one 1 zeroR_ok (rds_djs hr) p hp q hq S y hh h1]; exact h2
      · rw [h1 p hp] at hh; cases hh
    have h1 := (numR_mem _ _ _ hp).2
    exact ⟨y, hy, by rw [hg]; omega, by rw [hg]; rfl⟩
  · rintro ⟨y, hy, h0, rfl⟩
    apply hopL_sup hr
    rw [hopN_mem]
    rcases (tblN_get hS hy 1 zeroT_len zeroR_ok (rds_djs hr)).2 with ⟨q, hq, h1, h2⟩ | ⟨_, h2⟩
    · have h3 : getT (distT r) S y = (q.1 : Int) := h2
      exact ⟨q, hq, y, hy, h1, by rw [h3]; rfl⟩
    · have h3 : getT (distT r) S y = getT zeroT S y := h2
      rw [h3, zeroT_get] at h0; omega
theorem grp_hopL {r : List Nat} (hr : OkR r) {S : Nat} (hS : S < 20) {b : Nat} (hb : b < 20) (h0 : 0 < getT (distT r) S b) : GrpF (hopL r S) [(b : Int)] = [([(b : Int), getT (distT r) S b], 1)] := by
  have hm : ([(b : Int), getT (distT r) S b], (1 : Int)) ∈ hopL r S := (mem_hopL hr hS).2 ⟨b, hb, h0, rfl⟩
  have hz : zsB (hopL r S) = true := hop_zs hr S
  have hw : wid (hopL r S) = 2 := by
    rw [← zsB_wid hz _ hm]; rfl
  unfold GrpF
  rw [hz, hw, if_pos (by rfl)]
  refine ones_ext ?_ (by simp [Asc]) (fun e he => hop_ones hr S e (List.mem_filter.1 he).1) (fun e he => by rw [List.mem_singleton] at he; rw [he]) (fun x => ?_)
  · have := hopL_asc r S
    unfold Asc at this ⊢
    exact this.filter _
  · rw [List.mem_filter, List.mem_singleton, mem_hopL hr hS]
    constructor
    · rintro ⟨⟨y, hy, _, e⟩, hg⟩
      have ex : x = [(y : Int), getT (distT r) S y] := congrArg Prod.fst e
      subst ex
      simp only [grpB, decide_eq_true_eq] at hg
      have : (y : Int) = b := by simpa using hg
      have : y = b := by omega
      subst this; rfl
    · intro e
      have ex : x = [(b : Int), getT (distT r) S b] := congrArg Prod.fst e
      subst ex
      exact ⟨⟨b, hb, h0, rfl⟩, by simp [grpB]⟩
theorem HopsF_eq {es : List Ent} {s : Int} (h : HopsF es s ≠ []) : edgB es = true ∧ ∃ S : Nat, S < 20 ∧ s = S ∧ HopsF es s = hopL (relOf es) S := by
  unfold HopsF at h ⊢
  split at h
  · rename_i hc
    simp only [Bool.and_eq_true, decide_eq_true_eq] at hc
    refine ⟨hc.1, s.toNat, by omega, by omega, ?_⟩
    rw [if_pos (by simp only [Bool.and_eq_true, decide_eq_true_eq]; exact hc)]; rfl
  · exact absurd rfl h
/-- What a hop tells of an edge that goes on from it. -/
theorem hop_get {es : List Ent} {s : Int} {i : Nat} (hi : i < (HopsF es s).length) : edgB es = true ∧ ∃ (u : Nat) (n : Int), (HopsF es s)[i].1 = [(u : Int), n] ∧ 1 ≤ n ∧ n ≤ 400 ∧
    ∀ b : Nat, hasR (relOf es) u b = true → ∃ v : Int, 1 ≤ v ∧ v ≤ n + 1 ∧ GrpF (HopsF es s) [(b : Int)] = [([(b : Int), v], 1)] := by
  obtain ⟨he, S, hS, rfl, hH⟩ := HopsF_eq (es := es) (s := s) (fun h => by rw [h] at hi; simp at hi)
  have hr := relOf_ok he
  have hmem := List.getElem_mem hi
  generalize hG : (HopsF es (S : Int))[i] = g at *
  rw [hH] at hmem ⊢
  obtain ⟨u, hu, h0, e⟩ := (mem_hopL hr hS).1 hmem
  refine ⟨he, u, getT (distT (relOf es)) S u, by rw [e], by omega, (dist_le hr hS hu).2, fun b hb => ?_⟩
  have hub := has_lt hr hb
  obtain ⟨d, hd⟩ : ∃ d : Nat, getT (distT (relOf es)) S u = ((d + 1 : Nat) : Int) := ⟨(getT (distT (relOf es)) S u - 1).toNat, by omega⟩
  obtain ⟨e', he', hv⟩ := dist_tri hr hS hd hb
  exact ⟨getT (distT (relOf es)) S b, by rw [hv]; omega, by rw [hv, hd]; omega, grp_hopL hr hS hub.2 (by rw [hv]; omega)⟩
end Go.Proofs.YtifjenleoagefaaGreat

/- HELPER, no statement of the seat: hops, rounds and the group of the source; no program. -/
namespace Go.Proofs.YtifjenleoagefaaGreat
open Go.RowKit Go.Sort
set_option linter.unusedSimpArgs false
set_option linter.unusedVariables false

theorem numR_idx : ∀ (L : List (List Nat)) (n : Nat) (p : Nat × List Nat), p ∈ numR n L → ∃ (i : Nat) (h : i < L.length), p = (n + i, L[i])
  | [], n, p, h => by simp [numR] at h
  | l :: L, n, p, h => by
    simp only [numR, List.mem_cons] at h
    rcases h with rfl | h
    · exact ⟨0, by simp, rfl⟩
    · obtain ⟨i, hi, rfl⟩ := numR_idx L (n + 1) p h
      exact ⟨i + 1, by simp; omega, by simp; omega⟩
theorem HopsF_at {es : List Ent} (he : edgB es = true) {S : Nat} (hS : S < 20) : HopsF es (S : Int) = hopL (relOf es) S := by
  unfold HopsF hopL
  rw [if_pos (by simp only [Bool.and_eq_true, decide_eq_true_eq]; exact ⟨he, by omega, by omega⟩)]
  rfl
theorem hop_round {es : List Ent} (he : edgB es = true) {S : Nat} (hS : S < 20) {i : Nat} (hi : i < (HopsF es (S : Int)).length) :
    ∃ (u m : Nat) (hm : m < (RoundsF es).length), (HopsF es (S : Int))[i].1 = [(u : Int), ((m + 1 : Nat) : Int)] ∧ WeightF (RoundsF es)[m] [(S : Int), (u : Int)] = 1 ∧ m < 400 ∧ (RoundsF es)[m].length ≤ 4194304 ∧ rowsIn (RoundsF es)[m] 4194304 := by
  have hr := relOf_ok he
  have hmem := List.getElem_mem hi
  generalize hG : (HopsF es (S : Int))[i] = g at *
  rw [HopsF_at he hS] at hmem
  obtain ⟨p, hp, y, hy, hh, rfl⟩ := (hopN_mem S _ 1 g).1 (hopL_sub hr hmem)
  obtain ⟨m, hm, rfl⟩ := numR_idx _ _ _ hp
  have hR : RoundsF es = (rds (relOf es)).map prs := by rw [RoundsF, if_pos he]
  have hm2 : m < (RoundsF es).length := by rw [hR, List.length_map]; exact hm
  have hel : (RoundsF es)[m] = prs (rds (relOf es))[m] := by simp [hR]
  have hok := (djs_at zeroR_ok (rds_djs hr) m hm).2.1
  refine ⟨y, m, hm2, ?_, ?_, ?_, ?_, ?_⟩
  · show [(y : Int), ((1 + m : Nat) : Int)] = _
    rw [Nat.add_comm]
  · rw [hel, prs_weight hok, if_pos hh]
  · have := rds_len hr; omega
  · rw [hel]; have := prs_len (rds (relOf es))[m]; omega
  · rw [hel]; exact prs_smallR _
theorem hop_count {es : List Ent} (he : edgB es = true) {S : Nat} (hS : S < 20) : (HopsF es (S : Int)).length = (GrpF (ClosF es) [(S : Int)]).length := by
  have hr := relOf_ok he
  have hc := closR_ok hr
  rw [HopsF_at he hS, ClosF, if_pos he]
  have key : ∀ y : Nat, y < 20 → (0 < getT (distT (relOf es)) S y ↔ hasR (closR (relOf es)) S y = true) := fun y hy => by
    rw [← dist_clos hr hS hy]
    have := (dist_le hr hS hy).1
    omega
  rcases hnil : prs (closR (relOf es)) with _ | ⟨e0, l⟩
  · have : hopL (relOf es) S = [] := by
      rw [List.eq_nil_iff_forall_not_mem]
      intro e hm
      obtain ⟨y, hy, h0, _⟩ := (mem_hopL hr hS).1 hm
      have : pr S y ∈ prs (closR (relOf es)) := mem_prs.2 ⟨S, y, hS, hy, (key y hy).1 h0, rfl⟩
      rw [hnil] at this; cases this
    rw [this]; simp [GrpF]
  · rw [← hnil]
    have hw : wid (prs (closR (relOf es))) = 2 := by
      rw [hnil]
      obtain ⟨x, y, _, _, _, rfl⟩ := mem_prs.1 (show e0 ∈ prs (closR (relOf es)) by rw [hnil]; simp)
      rfl
    have hm : (hopL (relOf es) S).map (fun e => ([(S : Int), gi e.1 0], (1 : Int))) = GrpF (prs (closR (relOf es))) [(S : Int)] := by
      unfold GrpF
      rw [prs_zs, hw, if_pos (by rfl)]
      refine ones_ext ?_ ?_ (fun e he2 => by obtain ⟨f, _, rfl⟩ := List.mem_map.1 he2; rfl) (fun e he2 => prs_ones _ e (List.mem_filter.1 he2).1) (fun x => ?_)
      · have ha := hopL_asc (relOf es) S
        unfold Asc at ha ⊢
        rw [List.pairwise_map]
        refine (List.Pairwise.and_mem.1 ha).imp (fun {e f} h => ?_)
        obtain ⟨h1, h2, h⟩ := h
        obtain ⟨x, hx, _, rfl⟩ := (mem_hopL hr hS).1 h1
        obtain ⟨y, hy, _, rfl⟩ := (mem_hopL hr hS).1 h2
        rw [less2_iff] at h
        show lessB [(S : Int), (x : Int)] [(S : Int), (y : Int)] = true
        rw [less2_iff]
        rcases h with h | ⟨h3, h4⟩
        · exact .inr ⟨rfl, h⟩
        · have : x = y := by omega
          subst this; omega
      · have ha := prs_asc (closR (relOf es))
        unfold Asc at ha ⊢
        exact ha.filter _
      · rw [List.mem_map, List.mem_filter, mem_prs]
        constructor
        · rintro ⟨f, hf, e⟩
          obtain ⟨y, hy, h0, rfl⟩ := (mem_hopL hr hS).1 hf
          refine ⟨⟨S, y, hS, hy, (key y hy).1 h0, e.symm⟩, ?_⟩
          have ex : x = [(S : Int), (y : Int)] := (congrArg Prod.fst e).symm
          rw [ex]; simp [grpB]
        · rintro ⟨⟨a, y, ha, hy, h0, e⟩, hg⟩
          have ex : x = [(a : Int), (y : Int)] := congrArg Prod.fst e
          subst ex
          simp only [grpB, decide_eq_true_eq] at hg
          have h1 : (a : Int) = S := by simpa using hg
          have h2 : a = S := by omega
          subst h2
          exact ⟨_, (mem_hopL hr hS).2 ⟨y, hy, (key y hy).2 h0, rfl⟩, rfl⟩
    rw [← hm, List.length_map]
end Go.Proofs.YtifjenleoagefaaGreat
