/- HELPER, no statement of the seat: the program's certificate of a closure. -/
import Derived.Test.YtdaikdenpabfgaaDsw
import Derived.Test.YtdaikdenpabfgaaDss
import Derived.Test.YtdaikdenpabfgaaRb
import Derived.Test.YtdaikdenpabfgaaEdg
namespace Go.Proofs.Ytdaikdenpabfgaa
open Go.RowKit Go.Sort
set_option linter.unusedSimpArgs false
set_option linter.unusedVariables false
set_option maxHeartbeats 1600000 in
theorem CertifyClosure_i (A : Option Addr) (c : Nat) (es : List Ent) (w : World) (hx : EntsAt w A es) (hn : es.length ≤ 4194304) (hr : rowsIn es 4194304) :
    Calls Try.prog 48 #[.slice A es.length c] w fun e w' => ∃ A' c', e = .returned (.slice A' (CerF es).length c') ∧ EntsOw w' (news w w') A' c' (CerF es) ∧ Below w.heap.size w w' := by
  have hv := ValidEdges_i A c es w hx hn hr
  have HX := Lib.hid hx
  cases h1 : edgB es
  · have HT : Hid (CerF es = []) := by simp [Hid, CerF, h1]
    rw [h1] at hv
    clear h1
    go_enter Try.func48, Try.ntmps48
    go_wp2_with fail
    refine hv.mono ?_
    rintro e w1 ⟨rfl, b1⟩
    clear hv
    go_wp2_with fail
    go_ret
    rw [HT.out]
    exact ⟨none, 0, rfl, ⟨_, _, SlF.nil (fun k hk => hk.2)⟩, b1⟩
  · have hro := relOf_ok h1
    have hdl := distT_len hro
    have HT : Hid (CerF es = entT (distT (relOf es))) := by simp [Hid, CerF, h1]
    have HE := Lib.hid h1
    rw [h1] at hv
    clear h1
    go_enter Try.func48, Try.ntmps48
    go_wp2_with fail
    refine hv.mono ?_
    rintro e w1 ⟨rfl, b1⟩
    clear hv
    go_wp2_with fail
    refine (relationOf_i _ _ es _ (HX.out.below entR b1) HE.out).mono ?_
    rintro e w3 ⟨rfl, b3⟩
    have HB3 := Lib.hid (btr b1 b3)
    clear b1 b3
    go_wp2_with fail
    refine (distances_w _ _ hro).mono ?_
    rintro e w4 ⟨rfl, b4⟩
    have HB4 := Lib.hid (btr HB3.out b4)
    clear b4 HB3
    go_wp2_with fail
    refine (entries_w _ _ hdl).mono ?_
    rintro e w5 ⟨A', c', rfl, ho, b5⟩
    have HO := Lib.hid (ho.mono (S' := news w w5) (fun k hk => ⟨by have := hk.1; have := HB4.out.size; omega, hk.2⟩) (fun k hk => hk.2))
    have HB5 := Lib.hid (btr HB4.out b5)
    clear ho b5 HB4
    go_wp2_with fail
    go_ret
    rw [HT.out]
    exact ⟨A', c', rfl, HO.out, HB5.out⟩
end Go.Proofs.Ytdaikdenpabfgaa
