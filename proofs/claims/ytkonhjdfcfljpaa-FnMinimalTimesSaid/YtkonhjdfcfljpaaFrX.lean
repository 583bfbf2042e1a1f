/- HELPER, no statement of the seat: the join and the meet of two frontiers: what they cover, their order. -/
import Derived.Test.YtkonhjdfcfljpaaFrW
namespace Go.Proofs.Ytkonhjdfcfljpaa
open Go.RowKit Go.Sort
set_option linter.unusedSimpArgs false
set_option linter.unusedVariables false

theorem frB_vt {xs : List Tm} (h : frB xs = true) : ∀ e ∈ xs, vtB e.1 e.2 = true := fun e he => by
  obtain ⟨i, hi, rfl⟩ := List.getElem_of_mem he
  have h2 := h
  unfold frB at h2
  simp only [Bool.and_eq_true, List.all_eq_true, List.mem_range] at h2
  have := gd_vt (h2.2 i hi)
  rwa [tg_lt hi] at this
theorem joinT_le {a b : Tm} {u v : Int} : leB (joinT a b).1 (joinT a b).2 u v = (leB a.1 a.2 u v && leB b.1 b.2 u v) := by
  unfold joinT leB
  rw [Bool.eq_iff_iff]
  simp only [Bool.and_eq_true, decide_eq_true_eq]
  omega
theorem mem_joinsT {f g : List Tm} {e : Tm} : e ∈ joinsT f g ↔ ∃ a ∈ f, ∃ b ∈ g, joinT a b = e := by
  unfold joinsT
  simp only [List.mem_flatMap, List.mem_map]
theorem joinsT_covers (f g : List Tm) (u v : Int) : cvB (joinsT f g) u v = (cvB f u v && cvB g u v) := by
  rw [Bool.eq_iff_iff, Bool.and_eq_true, cv_iff, cv_iff, cv_iff]
  constructor
  · rintro ⟨e, he, hl⟩
    obtain ⟨a, ha, b, hb, rfl⟩ := mem_joinsT.1 he
    rw [joinT_le, Bool.and_eq_true] at hl
    exact ⟨⟨a, ha, hl.1⟩, b, hb, hl.2⟩
  · rintro ⟨⟨a, ha, h1⟩, b, hb, h2⟩
    exact ⟨_, mem_joinsT.2 ⟨a, ha, b, hb, rfl⟩, by rw [joinT_le, h1, h2]; rfl⟩
theorem joinsT_vt {f g : List Tm} (hf : ∀ e ∈ f, vtB e.1 e.2 = true) (hg : ∀ e ∈ g, vtB e.1 e.2 = true) : ∀ e ∈ joinsT f g, vtB e.1 e.2 = true := fun e he => by
  obtain ⟨a, ha, b, hb, rfl⟩ := mem_joinsT.1 he
  have h1 := vt_parts (hf a ha)
  have h2 := vt_parts (hg b hb)
  show vtB (max a.1 b.1) (max a.2 b.2) = true
  simp only [vtB, decide_eq_true_eq]
  omega
theorem append_covers (f g : List Tm) (u v : Int) : cvB (f ++ g) u v = (cvB f u v || cvB g u v) := by simp [cvB]
theorem append_vt {f g : List Tm} (hf : ∀ e ∈ f, vtB e.1 e.2 = true) (hg : ∀ e ∈ g, vtB e.1 e.2 = true) : ∀ e ∈ f ++ g, vtB e.1 e.2 = true := fun e he => (List.mem_append.1 he).elim (hf e) (hg e)
section
variable {f g : List Tm} (hf : frB f = true) (hg : frB g = true)
include hf hg
theorem JoinF_at : JoinF f g = minT (joinsT f g) := by unfold JoinF; rw [hf, hg]; rfl
theorem MeetF_at : MeetF f g = minT (f ++ g) := by unfold MeetF; rw [hf, hg]; rfl
theorem JoinF_frB : frB (JoinF f g) = true := by rw [JoinF_at hf hg]; exact minT_frB (joinsT_vt (frB_vt hf) (frB_vt hg))
theorem MeetF_frB : frB (MeetF f g) = true := by rw [MeetF_at hf hg]; exact minT_frB (append_vt (frB_vt hf) (frB_vt hg))
theorem JoinF_cv (u v : Int) : cvB (JoinF f g) u v = (cvB f u v && cvB g u v) := by rw [JoinF_at hf hg, minT_covers, joinsT_covers]
theorem MeetF_cv (u v : Int) : cvB (MeetF f g) u v = (cvB f u v || cvB g u v) := by rw [MeetF_at hf hg, minT_covers, append_covers]
theorem JoinF_fc (u v : Int) : fcB (JoinF f g) u v = (fcB f u v && fcB g u v) := by
  unfold fcB
  rw [JoinF_frB hf hg, hf, hg, JoinF_cv hf hg]
  cases vtB u v <;> simp
theorem MeetF_fc (u v : Int) : fcB (MeetF f g) u v = (fcB f u v || fcB g u v) := by
  unfold fcB
  rw [MeetF_frB hf hg, hf, hg, MeetF_cv hf hg]
  cases vtB u v <;> simp
theorem JoinF_swap : JoinF g f = JoinF f g := by
  have h : ∀ a b : List Tm, frB a = true → frB b = true → (∀ u v, cvB a u v = cvB b u v) → flB a b = true := fun a b ha hb hc => by
    unfold flB
    rw [ha, hb, Bool.true_and, Bool.true_and, List.all_eq_true]
    intro e he
    rw [hc]
    exact cv_iff.2 ⟨e, he, leB_self _ _⟩
  have hc : ∀ u v, cvB (JoinF g f) u v = cvB (JoinF f g) u v := fun u v => by rw [JoinF_cv hg hf, JoinF_cv hf hg, Bool.and_comm]
  exact fl_antisymm (h _ _ (JoinF_frB hg hf) (JoinF_frB hf hg) hc) (h _ _ (JoinF_frB hf hg) (JoinF_frB hg hf) (fun u v => (hc u v).symm))
theorem MeetF_swap : MeetF g f = MeetF f g := by
  have h : ∀ a b : List Tm, frB a = true → frB b = true → (∀ u v, cvB a u v = cvB b u v) → flB a b = true := fun a b ha hb hc => by
    unfold flB
    rw [ha, hb, Bool.true_and, Bool.true_and, List.all_eq_true]
    intro e he
    rw [hc]
    exact cv_iff.2 ⟨e, he, leB_self _ _⟩
  have hc : ∀ u v, cvB (MeetF g f) u v = cvB (MeetF f g) u v := fun u v => by rw [MeetF_cv hg hf, MeetF_cv hf hg, Bool.or_comm]
  exact fl_antisymm (h _ _ (MeetF_frB hg hf) (MeetF_frB hf hg) hc) (h _ _ (MeetF_frB hf hg) (MeetF_frB hg hf) (fun u v => (hc u v).symm))
theorem JoinF_fl : flB f (JoinF f g) = true := by
  unfold flB
  rw [hf, JoinF_frB hf hg, Bool.true_and, Bool.true_and, List.all_eq_true]
  intro e he
  rw [JoinF_at hf hg] at he
  obtain ⟨a, ha, b, hb, rfl⟩ := mem_joinsT.1 (minT_mem he)
  refine cv_iff.2 ⟨a, ha, ?_⟩
  show leB a.1 a.2 (max a.1 b.1) (max a.2 b.2) = true
  simp only [leB, decide_eq_true_eq]
  omega
theorem MeetF_fl : flB (MeetF f g) f = true := by
  unfold flB
  rw [hf, MeetF_frB hf hg, Bool.true_and, Bool.true_and, List.all_eq_true]
  intro e he
  rw [MeetF_cv hf hg, cv_iff.2 ⟨e, he, leB_self _ _⟩]
  rfl
end
theorem JoinF_le (f g : List Tm) : (JoinF f g).length ≤ f.length * g.length := by
  unfold JoinF
  cases frB f && frB g
  · simp
  · have := minT_len (joinsT f g)
    rw [joinsT_len] at this
    exact this
theorem MeetF_le (f g : List Tm) : (MeetF f g).length ≤ f.length + g.length := by
  unfold MeetF
  cases frB f && frB g
  · simp
  · have := minT_len (f ++ g)
    rw [List.length_append] at this
    exact this
/-- The minimal times of what is a frontier already. -/
theorem minT_frontier {f : List Tm} (h : frB f = true) : minT f = f := minT_same (frB_sorted h)
theorem MinF_at {l : List Tm} (h : l.length ≤ 400) (hv : allVt l = true) : MinF l = minT l := by unfold MinF; rw [if_pos ⟨h, hv⟩]
theorem MinF_frB (l : List Tm) : frB (MinF l) = true := by
  unfold MinF
  split
  · rename_i h; exact minT_frB (allVt_mem h.2)
  · rfl
theorem MinF_twice (l : List Tm) : MinF (MinF l) = MinF l := by
  rw [MinF_at (Nat.le_trans (MinF_len l) (by omega)) (List.all_eq_true.2 (frB_vt (MinF_frB l))), minT_frontier (MinF_frB l)]
end Go.Proofs.Ytkonhjdfcfljpaa
