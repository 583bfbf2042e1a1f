/- HELPER, no statement of the seat: FrontierJoin and FrontierMeet of both sides. -/
import Derived.Test.YtkonhjdfcfljpaaFrT
import Derived.Test.YtkonhjdfcfljpaaFrU
import Derived.Test.YtkonhjdfcfljpaaFrt
namespace Go.Proofs.Ytkonhjdfcfljpaa
open Go.RowKit Go.Sort
set_option linter.unusedSimpArgs false
set_option linter.unusedVariables false

def JoinF (f g : List Tm) : List Tm := cond (frB f && frB g) (minT (joinsT f g)) []
def MeetF (f g : List Tm) : List Tm := cond (frB f && frB g) (minT (f ++ g)) []
theorem frB_len {xs : List Tm} (h : frB xs = true) : xs.length ≤ 100 := by
  unfold frB at h
  simp only [Bool.and_eq_true, decide_eq_true_eq] at h
  exact h.1
set_option maxRecDepth 100000 in
set_option maxHeartbeats 1600000 in
theorem FrontierJoin_i (A B : Option Addr) (c d : Nat) (f g : List Tm) (w : World) (hf : TimesAt w A f) (hg : TimesAt w B g) (hn : f.length ≤ 4194304) (hm : g.length ≤ 4194304) :
    Calls Try.prog 42 #[.slice A f.length c, .slice B g.length d] w fun e w' => ∃ A' c', e = .returned (.slice A' (JoinF f g).length c') ∧ TmOwn w' w.heap.size A' c' (JoinF f g) ∧ Below w.heap.size w w' := by
  have con := fun A c xs W (h : TimesAt W A xs) (hn : xs.length ≤ 4194304) => ValidFrontier_i A c xs W h hn
  cases h1 : frB f
  · have con1 := fun W (h : TimesAt W A f) => con A c f W h hn
    simp only [h1] at con1
    have HR : Hid (JoinF f g = []) := by unfold JoinF; rw [h1]; exact rfl
    clear h1 con
    go_enter Try.func42, Try.ntmps42
    go_wp2_with fail
    refine (con1 _ hf).mono ?_
    rintro e w1 ⟨rfl, b1⟩
    have HB := Lib.hid b1
    clear b1
    go_wp2
    go_ret
    exact ⟨none, 0, by rw [HR.out]; rfl, by rw [HR.out]; exact World.ownsRow_nil _ _ _ _, HB.out⟩
  cases h2 : frB g
  · have con1 := fun W (h : TimesAt W A f) => con A c f W h hn
    have con2 := fun W (h : TimesAt W B g) => con B d g W h hm
    simp only [h1] at con1
    simp only [h2] at con2
    have HR : Hid (JoinF f g = []) := by unfold JoinF; rw [h1, h2]; exact rfl
    clear h1 h2 con
    go_enter Try.func42, Try.ntmps42
    go_wp2_with fail
    refine (con1 _ hf).mono ?_
    rintro e w1 ⟨rfl, b1⟩
    go_wp2_with fail
    refine (con2 _ (hg.below b1)).mono ?_
    rintro e w2 ⟨rfl, b2⟩
    have HB := Lib.hid (btr b1 b2)
    clear b1 b2
    go_wp2
    go_ret
    exact ⟨none, 0, by rw [HR.out]; rfl, by rw [HR.out]; exact World.ownsRow_nil _ _ _ _, HB.out⟩
  have con1 := fun W (h : TimesAt W A f) => con A c f W h hn
  have con2 := fun W (h : TimesAt W B g) => con B d g W h hm
  simp only [h1] at con1
  simp only [h2] at con2
  have lf := frB_len h1
  have lg := frB_len h2
  have HR : Hid (JoinF f g = minT (joinsT f g)) := by unfold JoinF; rw [h1, h2]; exact rfl
  clear h1 h2 con
  go_enter Try.func42, Try.ntmps42
  go_wp2_with fail
  refine (con1 _ hf).mono ?_
  rintro e w1 ⟨rfl, b1⟩
  go_wp2_with fail
  refine (con2 _ (hg.below b1)).mono ?_
  rintro e w2 ⟨rfl, b2⟩
  have hB2 := btr b1 b2
  have hf2 := hf.below hB2
  have hg2 := hg.below hB2
  clear b1 b2 con1 con2
  go_wp2_with fail
  refine (joins_i _ _ _ _ _ _ _).mono ?_
  rintro e w3 ⟨rfl, k1, k2, b3⟩
  have hB3 := btr hB2 b3
  have hcon := minimalOf_i 137 _ (joinsT f g) w3 (enters_of Try.func137 (by kernel_rfl) rfl) (joins_stops _ _ A B c d f g w3 k1 k2 (hf2.below b3) (hg2.below b3) (by omega) (by omega) [w3.heap.size]) (by rw [joinsT_len]; have := Nat.mul_le_mul lf lg; omega)
  clear k1 k2 b3 hf2 hg2 hB2
  have hsz := hB3.size
  go_wp2_with fail
  refine hcon.mono ?_
  rintro e w4 ⟨A', c', rfl, ho, hb4⟩
  have HO := Lib.hid ho
  have HB := Lib.hid (btr hB3 hb4)
  clear ho hcon hB3 hb4
  go_wp2
  go_ret
  exact ⟨A', c', by rw [HR.out]; rfl, by rw [HR.out]; exact HO.out.mono hsz, HB.out⟩
set_option maxRecDepth 100000 in
set_option maxHeartbeats 1600000 in
theorem FrontierJoin_s (A B : Option Addr) (c d : Nat) (f g : List Tm) (w : World) (hf : TimesAt w A f) (hg : TimesAt w B g) (hn : f.length ≤ 4194304) (hm : g.length ≤ 4194304) :
    Calls Try.prog 41 #[.slice A f.length c, .slice B g.length d] w fun e w' => ∃ A' c', e = .returned (.slice A' (JoinF f g).length c') ∧ TmOwn w' w.heap.size A' c' (JoinF f g) ∧ Below w.heap.size w w' := by
  have con := fun A c xs W (h : TimesAt W A xs) (hn : xs.length ≤ 4194304) => validFrontier_s A c xs W h hn
  cases h1 : frB f
  · have con1 := fun W (h : TimesAt W A f) => con A c f W h hn
    simp only [h1] at con1
    have HR : Hid (JoinF f g = []) := by unfold JoinF; rw [h1]; exact rfl
    clear h1 con
    go_enter Try.func41, Try.ntmps41
    go_wp2_with fail
    refine (con1 _ hf).mono ?_
    rintro e w1 ⟨rfl, b1⟩
    have HB := Lib.hid b1
    clear b1
    go_wp2
    go_ret
    have hsz := HB.out.size
    exact ⟨_, _, by rw [HR.out]; rfl, by rw [HR.out]; exact (TmOwn.lit _).mono hsz, bal HB.out _⟩
  cases h2 : frB g
  · have con1 := fun W (h : TimesAt W A f) => con A c f W h hn
    have con2 := fun W (h : TimesAt W B g) => con B d g W h hm
    simp only [h1] at con1
    simp only [h2] at con2
    have HR : Hid (JoinF f g = []) := by unfold JoinF; rw [h1, h2]; exact rfl
    clear h1 h2 con
    go_enter Try.func41, Try.ntmps41
    go_wp2_with fail
    refine (con1 _ hf).mono ?_
    rintro e w1 ⟨rfl, b1⟩
    go_wp2_with fail
    refine (con2 _ (hg.below b1)).mono ?_
    rintro e w2 ⟨rfl, b2⟩
    have HB := Lib.hid (btr b1 b2)
    clear b1 b2
    go_wp2
    go_ret
    have hsz := HB.out.size
    exact ⟨_, _, by rw [HR.out]; rfl, by rw [HR.out]; exact (TmOwn.lit _).mono hsz, bal HB.out _⟩
  have con1 := fun W (h : TimesAt W A f) => con A c f W h hn
  have con2 := fun W (h : TimesAt W B g) => con B d g W h hm
  simp only [h1] at con1
  simp only [h2] at con2
  have lf := frB_len h1
  have lg := frB_len h2
  have HR : Hid (JoinF f g = minT (joinsT f g)) := by unfold JoinF; rw [h1, h2]; exact rfl
  clear h1 h2 con
  go_enter Try.func41, Try.ntmps41
  go_wp2_with fail
  refine (con1 _ hf).mono ?_
  rintro e w1 ⟨rfl, b1⟩
  go_wp2_with fail
  refine (con2 _ (hg.below b1)).mono ?_
  rintro e w2 ⟨rfl, b2⟩
  have hB2 := btr b1 b2
  have hf2 := hf.below hB2
  have hg2 := hg.below hB2
  clear b1 b2 con1 con2
  go_wp2_with fail
  refine (joins_s A B c d f g _ hf2 hg2 (by omega) (by omega)).mono ?_
  rintro e w3 ⟨A3, c3, rfl, ho3, b3⟩
  have hB3 := btr hB2 b3
  have hcon := minimal_s A3 c3 (joinsT f g) w3 ho3.at_ (by rw [joinsT_len]; have := Nat.mul_le_mul lf lg; omega)
  clear ho3 b3 hf2 hg2 hB2
  have hsz := hB3.size
  go_wp2_with fail
  refine hcon.mono ?_
  rintro e w4 ⟨A', c', rfl, ho, hb4⟩
  have HO := Lib.hid ho
  have HB := Lib.hid (btr hB3 hb4)
  clear ho hcon hB3 hb4
  go_wp2
  go_ret
  exact ⟨A', c', by rw [HR.out]; rfl, by rw [HR.out]; exact HO.out.mono hsz, HB.out⟩
set_option maxRecDepth 100000 in
set_option maxHeartbeats 1600000 in
theorem FrontierMeet_i (A B : Option Addr) (c d : Nat) (f g : List Tm) (w : World) (hf : TimesAt w A f) (hg : TimesAt w B g) (hn : f.length ≤ 4194304) (hm : g.length ≤ 4194304) :
    Calls Try.prog 44 #[.slice A f.length c, .slice B g.length d] w fun e w' => ∃ A' c', e = .returned (.slice A' (MeetF f g).length c') ∧ TmOwn w' w.heap.size A' c' (MeetF f g) ∧ Below w.heap.size w w' := by
  have con := fun A c xs W (h : TimesAt W A xs) (hn : xs.length ≤ 4194304) => ValidFrontier_i A c xs W h hn
  cases h1 : frB f
  · have con1 := fun W (h : TimesAt W A f) => con A c f W h hn
    simp only [h1] at con1
    have HR : Hid (MeetF f g = []) := by unfold MeetF; rw [h1]; exact rfl
    clear h1 con
    go_enter Try.func44, Try.ntmps44
    go_wp2_with fail
    refine (con1 _ hf).mono ?_
    rintro e w1 ⟨rfl, b1⟩
    have HB := Lib.hid b1
    clear b1
    go_wp2
    go_ret
    exact ⟨none, 0, by rw [HR.out]; rfl, by rw [HR.out]; exact World.ownsRow_nil _ _ _ _, HB.out⟩
  cases h2 : frB g
  · have con1 := fun W (h : TimesAt W A f) => con A c f W h hn
    have con2 := fun W (h : TimesAt W B g) => con B d g W h hm
    simp only [h1] at con1
    simp only [h2] at con2
    have HR : Hid (MeetF f g = []) := by unfold MeetF; rw [h1, h2]; exact rfl
    clear h1 h2 con
    go_enter Try.func44, Try.ntmps44
    go_wp2_with fail
    refine (con1 _ hf).mono ?_
    rintro e w1 ⟨rfl, b1⟩
    go_wp2_with fail
    refine (con2 _ (hg.below b1)).mono ?_
    rintro e w2 ⟨rfl, b2⟩
    have HB := Lib.hid (btr b1 b2)
    clear b1 b2
    go_wp2
    go_ret
    exact ⟨none, 0, by rw [HR.out]; rfl, by rw [HR.out]; exact World.ownsRow_nil _ _ _ _, HB.out⟩
  have con1 := fun W (h : TimesAt W A f) => con A c f W h hn
  have con2 := fun W (h : TimesAt W B g) => con B d g W h hm
  simp only [h1] at con1
  simp only [h2] at con2
  have lf := frB_len h1
  have lg := frB_len h2
  have HR : Hid (MeetF f g = minT (f ++ g)) := by unfold MeetF; rw [h1, h2]; exact rfl
  clear h1 h2 con
  go_enter Try.func44, Try.ntmps44
  go_wp2_with fail
  refine (con1 _ hf).mono ?_
  rintro e w1 ⟨rfl, b1⟩
  go_wp2_with fail
  refine (con2 _ (hg.below b1)).mono ?_
  rintro e w2 ⟨rfl, b2⟩
  have hB2 := btr b1 b2
  have hf2 := hf.below hB2
  have hg2 := hg.below hB2
  clear b1 b2 con1 con2
  go_wp2_with fail
  have hbB := bal (Below.refl w2.heap.size w2) (.cells #[.slice A f.length c, .slice B g.length d] 30)
  refine (concat2_i A B c d f g _ _ (Blk.newAt rfl) (hf2.below hbB) (hg2.below hbB) (by omega) (by omega)).mono ?_
  rintro e w3 ⟨A3, c3, rfl, ho3, b3⟩
  have hB3 := btr hB2 (btr hbB b3)
  have hx3 := ho3.at_
  clear ho3 b3 hf2 hg2 hB2 hbB
  go_wp2_with fail
  refine (Values_i _ _ _ _).mono ?_
  rintro e w4 ⟨rfl, k4, b4⟩
  have hB4 := btr hB3 b4
  have hcon := minimalOf_i 134 _ (f ++ g) w4 (enters_of Try.func134 (by kernel_rfl) rfl) (values_stops w3.heap.size A3 c3 (f ++ g) w4 (by rw [List.length_append]; exact k4) (hx3.below b4) (by simp; omega) [w4.heap.size]) (by simp; omega)
  have hsz := hB4.size
  clear k4 b4 hx3 hB3
  go_wp2_with fail
  refine hcon.mono ?_
  rintro e w5 ⟨A', c', rfl, ho, hb5⟩
  have HO := Lib.hid ho
  have HB := Lib.hid (btr hB4 hb5)
  clear ho hcon hB4 hb5
  go_wp2
  go_ret
  exact ⟨A', c', by rw [HR.out]; rfl, by rw [HR.out]; exact HO.out.mono hsz, HB.out⟩
set_option maxRecDepth 100000 in
set_option maxHeartbeats 1600000 in
theorem FrontierMeet_s (A B : Option Addr) (c d : Nat) (f g : List Tm) (w : World) (hf : TimesAt w A f) (hg : TimesAt w B g) (hn : f.length ≤ 4194304) (hm : g.length ≤ 4194304) :
    Calls Try.prog 43 #[.slice A f.length c, .slice B g.length d] w fun e w' => ∃ A' c', e = .returned (.slice A' (MeetF f g).length c') ∧ TmOwn w' w.heap.size A' c' (MeetF f g) ∧ Below w.heap.size w w' := by
  have con := fun A c xs W (h : TimesAt W A xs) (hn : xs.length ≤ 4194304) => validFrontier_s A c xs W h hn
  cases h1 : frB f
  · have con1 := fun W (h : TimesAt W A f) => con A c f W h hn
    simp only [h1] at con1
    have HR : Hid (MeetF f g = []) := by unfold MeetF; rw [h1]; exact rfl
    clear h1 con
    go_enter Try.func43, Try.ntmps43
    go_wp2_with fail
    refine (con1 _ hf).mono ?_
    rintro e w1 ⟨rfl, b1⟩
    have HB := Lib.hid b1
    clear b1
    go_wp2
    go_ret
    have hsz := HB.out.size
    exact ⟨_, _, by rw [HR.out]; rfl, by rw [HR.out]; exact (TmOwn.lit _).mono hsz, bal HB.out _⟩
  cases h2 : frB g
  · have con1 := fun W (h : TimesAt W A f) => con A c f W h hn
    have con2 := fun W (h : TimesAt W B g) => con B d g W h hm
    simp only [h1] at con1
    simp only [h2] at con2
    have HR : Hid (MeetF f g = []) := by unfold MeetF; rw [h1, h2]; exact rfl
    clear h1 h2 con
    go_enter Try.func43, Try.ntmps43
    go_wp2_with fail
    refine (con1 _ hf).mono ?_
    rintro e w1 ⟨rfl, b1⟩
    go_wp2_with fail
    refine (con2 _ (hg.below b1)).mono ?_
    rintro e w2 ⟨rfl, b2⟩
    have HB := Lib.hid (btr b1 b2)
    clear b1 b2
    go_wp2
    go_ret
    have hsz := HB.out.size
    exact ⟨_, _, by rw [HR.out]; rfl, by rw [HR.out]; exact (TmOwn.lit _).mono hsz, bal HB.out _⟩
  have con1 := fun W (h : TimesAt W A f) => con A c f W h hn
  have con2 := fun W (h : TimesAt W B g) => con B d g W h hm
  simp only [h1] at con1
  simp only [h2] at con2
  have lf := frB_len h1
  have lg := frB_len h2
  have HR : Hid (MeetF f g = minT (f ++ g)) := by unfold MeetF; rw [h1, h2]; exact rfl
  clear h1 h2 con
  go_enter Try.func43, Try.ntmps43
  go_wp2_with fail
  refine (con1 _ hf).mono ?_
  rintro e w1 ⟨rfl, b1⟩
  go_wp2_with fail
  refine (con2 _ (hg.below b1)).mono ?_
  rintro e w2 ⟨rfl, b2⟩
  have hB2 := btr b1 b2
  have hf2 := hf.below hB2
  have hg2 := hg.below hB2
  clear b1 b2 con1 con2
  obtain ⟨i0, hi, hz0, hz1, hz2⟩ := info_parts Try.infoTime
  have hb3 := bal (Below.refl w2.heap.size w2) (.cells #[] 52)
  have ho3 := TmOwn.lit w2
  have hs1 := tms_src (hf2.below hb3)
  go_wp2_with (at_builtin; refine wpList_append_src _ rfl _ _ 30 rfl w2.heap.size 52 i0 (.agg #[.int .i64 0, .int .i64 0]) 2 16 Try.underlying30 hi hz0 hz1 hz2 rfl (by decide) _ _ _ rfl ho3 A f.length c (timeL f) rfl (timeL_len f) hs1.1 hs1.2 (tms_one f) (by simp [maxLen]; omega) (by simp; omega) (by simp) ?_)
  intro v' w4 hown' hgrow _
  have hb4 : Below w2.heap.size w2 w4 := hb3.grown hgrow (by simp) (fun k hk => (ho3.lt k (by rw [ownBlock_slice] at hk; exact hk)).1)
  obtain ⟨A4, c4, hv⟩ := own_slice hown'
  subst hv
  have ho4 : TmOwn w4 w2.heap.size A4 c4 f := by unfold TmOwn; simpa [timeL] using hown'
  have ho4' : w4.ownsRow w2.heap.size 52 2 (.slice A4 (0 + f.length) c4) f.length (timeL f) := by rw [Nat.zero_add]; exact ho4
  have hs2 := tms_src (hg2.below hb4)
  have hsz4 := hb4.size
  simp only [List.length_nil, Nat.zero_add] at ho4' ⊢
  clear hown' hgrow hb3 ho3 hs1
  go_wp2_with (at_builtin; refine wpList_append_src _ rfl _ _ 30 rfl w2.heap.size 52 i0 (.agg #[.int .i64 0, .int .i64 0]) 2 16 Try.underlying30 hi hz0 hz1 hz2 rfl (by decide) _ _ _ rfl ho4' B g.length d (timeL g) rfl (timeL_len g) hs2.1 hs2.2 (tms_one g) (by unfold maxLen; omega) (by omega) hsz4 ?_)
  intro v' w5 hown' hgrow _
  have hb5 : Below w2.heap.size w2 w5 := hb4.grown hgrow hsz4 (fun k hk => (ho4.lt k (by rw [ownBlock_slice] at hk; exact hk)).1)
  obtain ⟨A5, c5, hv⟩ := own_slice hown'
  subst hv
  have ho5 : TmOwn w5 w2.heap.size A5 c5 (f ++ g) := by unfold TmOwn; rw [timeL_append, List.length_append]; exact hown'
  have hB5 := btr hB2 hb5
  have hcon := minimal_s A5 c5 (f ++ g) w5 ho5.at_ (by simp; omega)
  rw [List.length_append] at hcon
  have hsz := hB5.size
  clear hown' hgrow hb4 ho4 ho4' hs2 hb5 ho5
  go_wp2_with fail
  refine hcon.mono ?_
  rintro e w6 ⟨A', c', rfl, ho, hb6⟩
  have HO := Lib.hid ho
  have HB := Lib.hid (btr hB5 hb6)
  clear ho hcon hB5 hb6
  go_wp2
  go_ret
  exact ⟨A', c', by rw [HR.out]; rfl, by rw [HR.out]; exact HO.out.mono hsz, HB.out⟩
end Go.Proofs.Ytkonhjdfcfljpaa
