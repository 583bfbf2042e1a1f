/- HELPER, no statement of the seat: a region that draws its order, inside a round of a range over a function: none of its operations is a defer, so what is shown of it as of a region of a function's body holds of it there. -/
import Derived.Test.YtifjenleoagefaaGreatGrf
import Derived.OwnWalkIn
import Derived.RangeFuncCalls
namespace Go.Proofs.YtifjenleoagefaaGreat
open Go.RowKit
set_option linter.unusedSimpArgs false
set_option linter.unusedVariables false

def noDefer (ops : Array Oper) : Bool := ops.all fun o => !isDefer o.op
section
variable {P : Program} {ops : Array Oper} {Q : Exit → Act → World → Prop} {l n : Nat}
theorem oper_round {o : Oper} {a : Act} {K K' : Act → World → Prop} {w : World} (hd : isDefer o.op = false) (hno : ¬ LetsOut Q) (hK : ∀ a w, K a w → K' a w) (h : o.wp P a w K Q) : o.wpIn (Fence.wide.inRound l) n P a w K' Q := by
  unfold Oper.wpIn
  refine ⟨fun _ _ => trivial, ?_⟩
  rw [Oper.semAt_plain _ _ _ (fun c hc => by rw [hc] at hd; cases hd)]
  unfold Oper.wp at h
  generalize (execOp a.eval o).run P w = r at *
  cases r with
  | ok x w' =>
    cases x <;> simp only [Oper.upon, Oper.uponIn] at h ⊢
    case value u => exact hK _ _ h
    case skip => exact hK _ _ h
    case defer d => exact hK _ _ h
    case enter f args =>
      refine ⟨fun h => by simp [Fence.wide, Fence.inRound] at h, CallsIn.inRound l (callsIn_wide.2 (Calls.mono h fun e w'' he => ?_))⟩
      cases e with
      | returned u => exact hK _ _ he
      | panicked c => exact he
      | outgrown => exact he
    case row row args => exact ⟨fun h => by simp [Fence.wide, Fence.inRound] at h, fun c cs _ => let ⟨v, w2, r, s⟩ := h c cs; ⟨v, w2, hK _ _ r, stepsIn_wide.2 s⟩⟩
  | halt x w' =>
    cases x <;> simp only [Oper.upon, Oper.uponIn] at h ⊢
    case panic u => exact h
theorem wpAny_round (hd : noDefer ops = true) (hno : ¬ LetsOut Q) : ∀ (fuel : Nat) (listed : Array Bool) (a : Act) (w : World), wpAny P .any ops Q fuel listed a w → wpAnyIn (Fence.wide.inRound l) n P .any ops Q fuel listed a w
  | 0, _, _, _, h => h
  | fuel + 1, listed, a, w, h => ⟨h.1, fun i hi => by
    have h2 := h.2 i hi
    unfold wpOp at h2
    unfold wpOpIn
    cases ho : ops[i]? with
    | none => rw [ho] at h2; exact wpAny_round hd hno fuel _ a w h2
    | some o =>
      rw [ho] at h2
      have hdo : isDefer o.op = false := by
        have := Array.all_eq_true_iff_forall_mem.1 hd o (Array.mem_of_getElem? ho)
        simpa using this
      simp only at h2 ⊢
      split
      · rename_i hw
        rw [if_pos hw] at h2
        rcases h2 with h2 | ⟨_, h2⟩
        · exact oper_round hdo hno (fun a w h => wpAny_round hd hno fuel _ a w h) h2
        · exact absurd h2 hno
      · rename_i hw
        rw [if_neg hw] at h2
        exact ⟨fun _ _ => trivial, wpAny_round hd hno fuel _ _ w h2⟩⟩
/-- wp_region_facts, inside a round. -/
theorem wp_region_factsR {id : Nat} {ol : List Oper} {w : World} {a0 : Act} (pre : List (List Nat)) (Ds : List (Value → World → Prop)) (hm : P.follows .mixedOrders = true) (hB : factsB ol.toArray pre pre.length = true) (hlen : pre.length = Ds.length) (hD : allStable Ds) (hd : noDefer ol.toArray = true) (hno : ∀ a w, ¬ Q .outgrown a w)
    (h : wpFacts P ol.toArray w (fun a w => wpList P ol.toArray Q (ol.drop pre.length) a w) (pre.zip Ds) ol [] a0) : (Code.region id ol.toArray true).wpIn (Fence.wide.inRound l) n P Q a0 w := by
  have ht := textOk hB
  refine wpIn_region_any hm (wpAny_round hd (fun ⟨a, w, h⟩ => hno a w h) _ _ _ _ ?_)
  have key : ∀ vs : Nat → Value, _ := fun vs => wpFacts_spec (P := P) (ops := ol.toArray) (w0 := w) (a0 := a0) (D := fun k => Ds.getD k (fun _ _ => True)) (pr := fun k => if k < pre.length then pre.getD k [] else []) (by
      intro k j hj
      by_cases hk : k < pre.length
      · rw [if_pos hk] at hj
        have hks : k < ol.toArray.size := Nat.lt_of_lt_of_le hk ht.le
        exact (ht.waits k _ (Array.getElem?_eq_getElem hks) j (by simpa [preOf, hk] using hj)).1
      · rw [if_neg hk] at hj; cases hj) vs (pre.zip Ds) ol 0 [] a0 (by
      intro m p d hmd
      rw [List.getElem?_zip_eq_some] at hmd
      obtain ⟨h1, h2⟩ := hmd
      have hml : m < pre.length := (List.getElem?_eq_some_iff.1 h1).1
      simp [hml, List.getD, h1, h2] at *
      simp [h1]) rfl rfl (by simp) (by simp [List.length_zip, hlen]; have := ht.le; simp [hlen] at this; omega) h
  have hzl : (pre.zip Ds).length = pre.length := by simp [List.length_zip, hlen]
  have hlay : layL ol.toArray a0 (Array.replicate ol.toArray.size false) (fun _ => undef) pre.length = a0 := by
    have : ∀ m, layL ol.toArray a0 (Array.replicate ol.toArray.size false) (fun _ => undef) m = a0 := by
      intro m
      induction m with
      | zero => rfl
      | succ m ih =>
        unfold layL
        rw [if_neg (by simp [Array.getElem?_replicate]; split <;> simp), ih]
    exact this _
  have hnof : ∀ k, (Array.replicate ol.toArray.size false).getD k false = false := by
    intro k; simp [Array.getElem?_replicate]; split <;> simp
  have := facts_sound (P := P) (Q := Q) (ops := ol.toArray) (w0 := w) (a0 := a0) (n := pre.length) (D := fun k => Ds.getD k (fun _ _ => True)) ht (fun k v w w' hb hd => allStable_get hD k v w w' hb hd)
    (fun k o hk ho vs w hb hf => by
      have := (key vs).1 k o (by rw [hzl]; exact hk) (by rw [Nat.zero_add]; exact ho) w hb (fun j hj => hf j (by simpa [preOf, hk] using hj))
      simpa using this)
    (fun vs w hb hf => by
      have := (key vs).2 w hb (fun j hj => hf j (by rw [hzl] at hj; omega))
      rw [hzl, Nat.zero_add] at this
      exact this)
    ol.toArray.size (Array.replicate ol.toArray.size false) (fun _ => undef) w.drew (by simp) (fun k _ hl => by rw [hnof] at hl; cases hl) (fun k _ => hnof k) (Below.refl _ _).drew (fun k _ hl => by rw [hnof] at hl; cases hl)
    (by
      have : ∀ m, cnt (Array.replicate ol.toArray.size false) m = m := by
        intro m
        induction m with
        | zero => rfl
        | succ m ih => unfold cnt; rw [ih, hnof]; simp
      exact this _)
  rw [hlay] at this
  exact this
end
end Go.Proofs.YtifjenleoagefaaGreat
