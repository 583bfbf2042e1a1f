/- HELPER, no statement of the seat: marks on lists of Z-sets; lists of Z-sets that have the room that they say. -/
import Derived.Test.YtdaikdenpabfgaaZss
import Derived.Test.YtdaikdenpabfgaaEntM
namespace Go.Proofs.Ytdaikdenpabfgaa
open Go.RowKit Go.Sort
set_option linter.unusedSimpArgs false
set_option linter.unusedVariables false

/-! ### Room -/
def ZlC : Rd Zs := fun w cs z => ∃ A c, cs = [.slice A z.length c] ∧ z.length ≤ c ∧ c ≤ maxLen ∧ EntsAt w A z
theorem zlC : ROk ZlC 1 := ⟨fun ⟨_, _, e, _⟩ => by rw [e]; rfl, fun ⟨A, c, e, l, m, h⟩ hb => ⟨A, c, e, l, m, h.below entR hb⟩⟩
abbrev ZssC (w : World) (A : Option Addr) (zs : List Zs) : Prop := SlAt ZlC 1 w A zs
theorem ZssC.at_ {w : World} {A : Option Addr} {zs : List Zs} (h : ZssC w A zs) : ZssAt w A zs := fun hn => by
  obtain ⟨b, off, e, hlt, hc⟩ := h hn
  refine ⟨b, off, e, hlt, fun j hj => ?_⟩
  obtain ⟨cs, h1, h2, A', c', e', l, m, h3⟩ := hc j hj
  exact ⟨cs, h1, h2, A', c', e', Nat.le_trans l m, h3⟩
theorem ZssC.get {w : World} {A : Option Addr} {zs : List Zs} (h : ZssC w A zs) (k : Nat) (hk : k < zs.length) :
    ∃ b off ZA zc, A = some ⟨b, off, none⟩ ∧ b < w.heap.size ∧ w.cell? ⟨b, off + k, none⟩ = some (.slice ZA zs[k].length zc) ∧ zs[k].length ≤ zc ∧ zc ≤ maxLen ∧ EntsAt w ZA zs[k] := by
  obtain ⟨b, off, e, hlt, hc⟩ := h (by omega)
  obtain ⟨cs, hl, hcell, ZA, zc, hcs, l, m, hz⟩ := hc k hk
  have := hcell 0 (by omega)
  simp only [Nat.mul_one, Nat.add_zero] at this
  rw [hcs] at this
  exact ⟨b, off, ZA, zc, e, hlt, this, l, m, hz⟩
abbrev ZssOw (w : World) (S : Fp) (A : Option Addr) (c : Nat) (zs : List Zs) : Prop := SlOw ZlO 1 24 w S A c zs
theorem EntsOw.len_cap {w : World} {S : Fp} {A : Option Addr} {c : Nat} {es : List Ent} (h : EntsOw w S A c es) : es.length ≤ c ∧ c ≤ maxLen := by
  obtain ⟨css, F, h⟩ := h
  rcases h.form with ⟨_, rfl, rfl⟩ | ⟨g, _, _, _, h1, h2⟩
  · simp
  · exact ⟨h1, h2⟩
theorem ZssOw.len_cap {w : World} {S : Fp} {A : Option Addr} {c : Nat} {zs : List Zs} (h : ZssOw w S A c zs) : zs.length ≤ c ∧ c ≤ maxLen := by
  obtain ⟨css, F, h⟩ := h
  rcases h.form with ⟨_, rfl, rfl⟩ | ⟨g, _, _, _, h1, h2⟩
  · simp
  · exact ⟨h1, h2⟩
theorem ZssOw.at_ {w : World} {S : Fp} {A : Option Addr} {c : Nat} {zs : List Zs} (h : ZssOw w S A c zs) : SlAt ZlR 1 w A zs := SlOw.at_ zlO h
theorem ZssOw.atC {w : World} {S : Fp} {A : Option Addr} {c : Nat} {zs : List Zs} (h : ZssOw w S A c zs) : ZssC w A zs := fun hn => by
  obtain ⟨css, F, h⟩ := h
  rcases h.form with ⟨_, _, rfl⟩ | ⟨g, rfl, _, hlt, _⟩
  · simp at hn
  · refine ⟨g, 0, rfl, hlt, fun j hj => ?_⟩
    have h1 : j < css.length := by rw [h.clen]; exact hj
    refine ⟨css[j], h.elen _ (List.getElem_mem h1), fun i hi => by rw [Nat.zero_add, h.cell j h1 i hi], ?_⟩
    obtain ⟨ZA, zc, hcs, hown⟩ := h.elt j h1 hj
    have hcap := EntsOw.len_cap hown
    exact ⟨ZA, zc, hcs, hcap.1, hcap.2, SlOw.at_ entO hown⟩

/-! ### Marks -/
def cntZ (z : Zs) : Nat := cntL cntE z
def mkZ (k : Int) (z : Zs) : Zs := mkL cntE mkE k z
theorem mkZ_length (k : Int) (z : Zs) : (mkZ k z).length = z.length := mkL_length z k
theorem cntZ_sz (z : Zs) : (cntZ z : Int) = entSz z := by
  induction z with
  | nil => rfl
  | cons e l ih =>
    simp only [cntZ, cntL, entSz, lenSum, List.map_cons, List.sum_cons, List.length_cons, cntE] at *
    omega
theorem cnt_zs (zs : List Zs) : (cntL cntZ zs : Int) = zSum zs := by
  induction zs with
  | nil => rfl
  | cons z l ih =>
    have h := cntZ_sz z
    simp only [cntL, zSum, List.map_cons, List.sum_cons] at *
    omega
theorem cnt_zsz (zs : List Zs) : (cntL cntZ zs : Int) ≤ zsSz zs := by rw [cnt_zs]; unfold zsSz; omega
set_option maxHeartbeats 800000 in
theorem markEntrySS_any (S : Fp) (A : Option Addr) (c : Nat) (zs : List Zs) (k : Int) (w : World) (hx : ZssOw w S A c zs) (hn : zs.length ≤ 4194304) (hr : zsIn zs 4194304) (hk0 : 0 ≤ k) (hk1 : k + cntL cntZ zs ≤ 4611686018427387904) :
    Calls Try.prog 25 #[.slice A zs.length c, .int .i64 k] w fun e w' => e = .returned (.int .i64 (k + cntL cntZ zs)) ∧ ZssOw w' S A c (mkL cntZ mkZ k zs) ∧ GrownS w w' S := by
  obtain ⟨css, F, hx⟩ := hx
  rcases hx.form with ⟨rfl, rfl, rfl⟩ | ⟨g, rfl, hSg, hlt, _, _⟩
  · have HX := Lib.hid hx
    clear hx
    go_enter Try.func25, Try.ntmps25
    go_wp2
    refine wp_loop_rounds 1 ?_
    rw [rounds_succ]
    go_wp2
    go_ret
    exact ⟨ret_int (by simp [cntL]), ⟨_, _, HX.out⟩, GrownS.refl _ _⟩
  · have HX := Lib.hid hx
    clear hx
    go_enter Try.func25, Try.ntmps25
    go_wp2
    go_loopw [1, 5] (fun q i wr => ∃ j : Nat, j ≤ zs.length ∧ i = .int .i64 j ∧ q = .int .i64 (k + cntL cntZ (zs.take j)) ∧ (∃ css', SlF ZlO 1 24 wr S (some ⟨g, 0, none⟩) c (mkTo cntZ mkZ k zs j) css' F) ∧ GrownS w wr S) (fun _ i _ => zs.length - (intOf i).toNat)
    case atStart => exact ⟨0, by omega, rfl, by simp [cntL], ⟨css, by simpa [mkTo, mkL] using HX.out⟩, GrownS.refl _ _⟩
    case round =>
      obtain ⟨j, hj, rfl, rfl, ⟨css', hown⟩, hgr⟩ := hrel
      by_cases hjl : j < zs.length
      · have hcl : j < css'.length := by rw [hown.clen, mkTo_length]; exact hjl
        have hml : j < (mkTo cntZ mkZ k zs j).length := by rw [mkTo_length]; exact hjl
        have hel := hown.elt j hcl hml
        rw [mkTo_get hjl] at hel
        obtain ⟨ZA, zc, hcs, hz⟩ := hel
        have hc0 := hown.cell j hcl 0 (by omega)
        rw [hcs] at hc0
        simp at hc0
        have hsum := cntL_step (cnt := cntZ) hjl
        have hle := cntL_le (cnt := cntZ) zs (j + 1)
        have hrl := hr.get hjl
        have hce : cntZ zs[j] = cntL cntE zs[j] := rfl
        have hq0 : 0 ≤ k + (cntL cntZ (zs.take j) : Int) := by omega
        have hq1 : k + (cntL cntZ (zs.take j) : Int) + cntL cntE zs[j] ≤ 4611686018427387904 := by omega
        have HS := Lib.hid hsum
        have HO := Lib.hid hown
        have HC := Lib.hid hcs
        have HE := Lib.hid hce
        clear hsum hown hcs hce hle
        generalize hK : k + (cntL cntZ (zs.take j) : Int) = K at hq0 hq1
        have HK := Lib.hid hK
        clear hK
        go_wp2_with fail
        refine (markEntryS_any (F j) _ _ zs[j] _ _ hz hrl.1 hrl.2 hq0 hq1).mono ?_
        rintro e w1 ⟨rfl, ho1, hg1⟩
        have hin := HO.out.inner zlO (x' := mkZ K zs[j]) hml hg1 hcl ⟨ZA, zc, by rw [HC.out, mkZ_length], ho1⟩
        rw [← HK.out, mkTo_step hjl] at hin
        have HT := Lib.hid hin
        have HG := Lib.hid (hgr.trans (hg1.mono (fun q hq => (HO.out.sub j q hq).1)))
        clear HC hin hg1 ho1 hgr hml
        go_wp2
        go_roundw
        case rel => exact ⟨j + 1, by omega, by go_num, by rw [HS.out, HE.out, ← HK.out]; go_num, ⟨_, HT.out⟩, HG.out⟩
        case measure => simp [intOf]; omega
      · obtain rfl : j = zs.length := by omega
        rw [mkTo_end] at hown
        have HO := Lib.hid hown
        have HG := Lib.hid hgr
        have HT := Lib.hid (List.take_length (l := zs))
        clear hown hgr
        go_wp2
        go_ret
        exact ⟨ret_int (by rw [HT.out]), ⟨_, _, HO.out⟩, HG.out⟩
set_option maxHeartbeats 400000 in
theorem heldEntrySS_any (A : Option Addr) (c : Nat) (zs : List Zs) (k : Int) (w : World) (hx : ZssAt w A (mkL cntZ mkZ k zs)) (hn : zs.length ≤ 4194304) (hr : zsIn zs 4194304) (hk0 : 0 ≤ k) (hk1 : k + cntL cntZ zs ≤ 4611686018427387904) :
    Calls Try.prog 26 #[.slice A zs.length c, .int .i64 k] w fun e w' => e = .returned (.int .i64 (k + cntL cntZ zs)) ∧ w = w' := by
  go_enter Try.func26, Try.ntmps26
  go_wp2
  go_loopw [1, 5] (fun q i wr => ∃ j : Nat, j ≤ zs.length ∧ i = .int .i64 j ∧ q = .int .i64 (k + cntL cntZ (zs.take j)) ∧ w = wr) (fun _ i _ => zs.length - (intOf i).toNat)
  case atStart => exact ⟨0, by omega, rfl, by simp [cntL], rfl⟩
  case round =>
    obtain ⟨j, hj, rfl, rfl, rfl⟩ := hrel
    by_cases hjl : j < zs.length
    · obtain ⟨b, off, ZA, zc, rfl, hbl, hc0, -, hz⟩ := hx.get j (by rw [mkL_length]; exact hjl)
      rw [mkL_get hjl] at hz
      have hc0' : w.cell? ⟨b, off + j, none⟩ = some (.slice ZA zs[j].length zc) := by rw [hc0, mkL_get hjl, mkZ_length]
      clear hc0
      have hsum := cntL_step (cnt := cntZ) hjl
      have hle := cntL_le (cnt := cntZ) zs (j + 1)
      have hrl := hr.get hjl
      have hce : cntZ zs[j] = cntL cntE zs[j] := rfl
      have hq0 : 0 ≤ k + (cntL cntZ (zs.take j) : Int) := by omega
      have hq1 : k + (cntL cntZ (zs.take j) : Int) + cntL cntE zs[j] ≤ 4611686018427387904 := by omega
      have HS := Lib.hid hsum
      have HE := Lib.hid hce
      clear hsum hce hle
      generalize hK : k + (cntL cntZ (zs.take j) : Int) = K at hq0 hq1 hz
      have HK := Lib.hid hK
      clear hK
      go_wp2_with fail
      refine (heldEntryS_any _ _ zs[j] _ _ hz hrl.1 hrl.2 hq0 hq1).mono ?_
      rintro e w1 ⟨rfl, rfl⟩
      have hnn : 0 ≤ K + (cntL cntE zs[j] : Int) := by omega
      go_wp2
      go_roundw
      case rel => exact ⟨j + 1, by omega, by go_num, by rw [HS.out, HE.out, ← HK.out]; go_num, by trivial⟩
      case measure => simp [intOf]; omega
    · obtain rfl : j = zs.length := by omega
      have HT := Lib.hid (List.take_length (l := zs))
      clear hx
      go_wp2
      go_ret
      exact ⟨ret_int (by rw [HT.out]), rfl⟩
end Go.Proofs.Ytdaikdenpabfgaa
