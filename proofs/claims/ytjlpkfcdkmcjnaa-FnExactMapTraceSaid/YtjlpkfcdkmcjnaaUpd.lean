/- HELPER, no statement of the seat: updates and lists of updates: what they read as, and contracts of the functions that copy, measure and compare them. -/
import Derived.Test.YtjlpkfcdkmcjnaaEntA
import Derived.Test.YtjlpkfcdkmcjnaaTimeBase
namespace Go.Proofs.Ytjlpkfcdkmcjnaa
open Go.RowKit Go.Sort
set_option linter.unusedSimpArgs false
set_option linter.unusedVariables false

abbrev Upd := (List Int × (Int × Int)) × Int
def UpdR : Rd Upd := PairR (PairR RowR (PairR IntR IntR)) IntR
def UpdO : Ow Upd := PairO (PairO RowO (PairO IntO IntO)) IntO
theorem updR : ROk UpdR 4 := pairR (pairR rowR (pairR intR intR)) intR
theorem updO : OOk UpdO UpdR 4 := pairO (pairO rowO (pairO intO intO)) intO
theorem UpdR.form {w : World} {cs : List Value} {e : Upd} (h : UpdR w cs e) : ∃ A c, cs = [.slice A e.1.1.length c, .int .i64 e.1.2.1, .int .i64 e.1.2.2, .int .i64 e.2] ∧ e.1.1.length ≤ maxLen ∧ IntsAt w A e.1.1 := by
  obtain ⟨c1, c2, rfl, ⟨d1, d2, rfl, ⟨A, c, rfl, l, h⟩, ⟨f1, f2, rfl, h1, h2⟩⟩, h3⟩ := h
  rw [h1, h2, h3]
  exact ⟨A, c, rfl, l, h⟩
theorem UpdO.mk {w : World} {S : Fp} {A : Option Addr} {c : Nat} {xs : List Int} {p q x : Int} (hl : ∀ k, S k → k < w.heap.size) (hS : ∀ k, blk A = some k → S k) (h : IntsOwn w 0 A c xs) : UpdO w S [.slice A xs.length c, .int .i64 p, .int .i64 q, .int .i64 x] ((xs, (p, q)), x) :=
  ⟨hl, [_, _, _], [_], S, fun _ => False, rfl, fun _ hk => hk, fun _ hk => hk.elim, fun _ _ hk => hk, ⟨hl, [_], [_, _], S, fun _ => False, rfl, fun _ hk => hk, fun _ hk => hk.elim, fun _ _ hk => hk, ⟨hl, A, c, rfl, hS, h⟩, ⟨fun _ hk => hk.elim, [_], [_], fun _ => False, fun _ => False, rfl, fun _ hk => hk, fun _ hk => hk, fun _ hk _ => hk, ⟨rfl, fun _ hk => hk.elim⟩, ⟨rfl, fun _ hk => hk.elim⟩⟩⟩, rfl, fun _ hk => hk.elim⟩
abbrev UpdsAt (w : World) (A : Option Addr) (es : List Upd) : Prop := SlAt UpdR 4 w A es
abbrev UpdsOw (w : World) (S : Fp) (A : Option Addr) (c : Nat) (es : List Upd) : Prop := SlOw UpdO 4 102 w S A c es
theorem UpdsAt.get {w : World} {A : Option Addr} {es : List Upd} (h : UpdsAt w A es) (j : Nat) (hj : j < es.length) :
    ∃ b off RA rc, A = some ⟨b, off, none⟩ ∧ b < w.heap.size ∧ w.cell? ⟨b, off + j * 4, none⟩ = some (.slice RA es[j].1.1.length rc) ∧ w.cell? ⟨b, off + j * 4 + 1, none⟩ = some (.int .i64 es[j].1.2.1) ∧ w.cell? ⟨b, off + j * 4 + 2, none⟩ = some (.int .i64 es[j].1.2.2) ∧ w.cell? ⟨b, off + j * 4 + 3, none⟩ = some (.int .i64 es[j].2) ∧ es[j].1.1.length ≤ maxLen ∧ IntsAt w RA es[j].1.1 := by
  obtain ⟨b, off, rfl, hlt, hc⟩ := h (by omega)
  obtain ⟨cs, hl, hcell, hr⟩ := hc j hj
  obtain ⟨RA, rc, rfl, l, hi⟩ := hr.form
  exact ⟨b, off, RA, rc, rfl, hlt, by simpa using hcell 0 (by omega), by simpa using hcell 1 (by omega), by simpa using hcell 2 (by omega), by simpa using hcell 3 (by omega), l, hi⟩
def rowsU (es : List Upd) (n : Nat) : Prop := ∀ e ∈ es, e.1.1.length ≤ n
theorem rowsU.get {es : List Upd} {n : Nat} (h : rowsU es n) {j : Nat} (hj : j < es.length) : es[j].1.1.length ≤ n := h _ (List.getElem_mem hj)
theorem Try.infoUpd : (Try.prog.info? 102).map (fun i => (i.zero, i.size, i.bytes)) = some (some (.agg #[.slice none 0 0, .int .i64 0, .int .i64 0, .int .i64 0]), 4, 48) := by kernel_rfl

set_option maxHeartbeats 800000 in
theorem toUpdate_any (RA : Option Addr) (rc : Nat) (x : Upd) (w : World) (hx : IntsAt w RA x.1.1) (hn : x.1.1.length * 8 ≤ 140737488351232) :
    Calls Try.prog 96 #[.agg #[.slice RA x.1.1.length rc, .int .i64 x.1.2.1, .int .i64 x.1.2.2, .int .i64 x.2]] w fun e w' => ∃ g, e = .returned (.agg #[.slice (some ⟨g, 0, none⟩) x.1.1.length x.1.1.length, .int .i64 x.1.2.1, .int .i64 x.1.2.2, .int .i64 x.2]) ∧ w.heap.size ≤ g ∧ Blk w' g 3 (ints x.1.1) ∧ Below w.heap.size w w' := by
  obtain ⟨⟨xs, p, q⟩, y⟩ := x
  simp only at hx hn ⊢
  go_enter Try.func96, Try.ntmps96
  go_wp2_with fail
  have hb0 : Below w.heap.size w (((w.alloc (.cells #[.slice RA xs.length rc, .int .i64 p, .int .i64 q, .int .i64 y] 98)).alloc (.cells #[.slice none 0 0, .int .i64 0, .int .i64 0, .int .i64 0] 102)).alloc (.cells #[.slice none 0 0, .int .i64 0, .int .i64 0, .int .i64 0] 102)) := bal (bal (bal (Below.refl _ _) _) _) _
  refine (toIntS_any _ _ _ _ (hx.below hb0) hn).mono ?_
  rintro e w1 ⟨rfl, hk, hb⟩
  obtain ⟨hc, hf⟩ := bcell hb
  have hz : w.heap.size + 3 ≤ w1.heap.size := by have := hb.size; simpa using this
  have hb1 := btr hb0 hb
  have k0 : Blk w1 w.heap.size 98 #[.slice RA xs.length rc, .int .i64 p, .int .i64 q, .int .i64 y] := Blk.below (((Blk.newAt rfl).alloc _).alloc _) hb
  have k1 : Blk w1 (w.heap.size + 1) 102 #[.slice none 0 0, .int .i64 0, .int .i64 0, .int .i64 0] := Blk.below ((Blk.newAt (by simp)).alloc _) hb
  have k2 : Blk w1 (w.heap.size + 2) 102 #[.slice none 0 0, .int .i64 0, .int .i64 0, .int .i64 0] := Blk.below (Blk.newAt (by simp)) hb
  have k3 : Blk w1 (w.heap.size + 3) 3 (ints xs) := by simpa using hk
  have K0 := Lib.hid k0
  have K1 := Lib.hid k1
  have K2 := Lib.hid k2
  have K3 := Lib.hid k3
  have HB := Lib.hid hb1
  clear k0 k1 k2 k3 hk hb1 hb hb0
  go_wp2_with fail
  refine (toTime_any _ _ _).mono ?_
  rintro e w2 ⟨rfl, b2⟩
  have j0 := (K0.out.far (p := ⟨w.heap.size + 1 + 1, 0, none⟩) (by simp; omega) (.slice (some ⟨w.heap.size + 1 + 1 + 1, 0, none⟩) xs.length xs.length)).below b2
  have j1 := (K1.out.far (p := ⟨w.heap.size + 1 + 1, 0, none⟩) (by simp) (.slice (some ⟨w.heap.size + 1 + 1 + 1, 0, none⟩) xs.length xs.length)).below b2
  have j2 := (Blk.set_ (g := w.heap.size + 1 + 1) K2.out 0 (.slice (some ⟨w.heap.size + 1 + 1 + 1, 0, none⟩) xs.length xs.length)).below b2
  have j3 := (K3.out.far (p := ⟨w.heap.size + 1 + 1, 0, none⟩) (by simp) (.slice (some ⟨w.heap.size + 1 + 1 + 1, 0, none⟩) xs.length xs.length)).below b2
  have jB := btr (bset (p := ⟨w.heap.size + 1 + 1, 0, none⟩) HB.out (by simp; omega) (.slice (some ⟨w.heap.size + 1 + 1 + 1, 0, none⟩) xs.length xs.length)) b2
  have a3 := j0.cell 3
  have u0 := j2.cell 0
  have u1 := j2.cell 1
  have u2 := j2.cell 2
  have u3 := j2.cell 3
  have v0 := j1.cell 0
  have v1 := j1.cell 1
  have v2 := j1.cell 2
  have v3 := j1.cell 3
  have f1 := j2.frozen 1
  have f2 := j2.frozen 2
  have f3 := j2.frozen 3
  have h0 := j1.frozen 0
  have h1 := j1.frozen 1
  have h2 := j1.frozen 2
  have h3 := j1.frozen 3
  simp at a3 u0 u1 u2 u3 v0 v1 v2 v3
  have J3 := Lib.hid j3
  have JB := Lib.hid jB
  clear j0 j1 j2 j3 jB b2 hc hf
  go_wp2_with fail
  refine bodyPost_ret (v := .agg #[.slice (some ⟨w.heap.size + 3, 0, none⟩) xs.length xs.length, .int .i64 p, .int .i64 q, .int .i64 y]) (by simp [results, Try.results96, go_sem, v0, v1, v2, v3]) rfl ⟨_, rfl, by omega, ?_, ?_⟩
  · exact Blk.far (Blk.far (Blk.far (Blk.far (Blk.far (Blk.far (Blk.far (J3.out) (by simp) _) (by simp) _) (by simp) _) (by simp) _) (by simp) _) (by simp) _) (by simp) _
  · exact bset (bset (bset (bset (bset (bset (bset (JB.out) (by simp; try omega) _) (by simp; try omega) _) (by simp; try omega) _) (by simp; try omega) _) (by simp; try omega) _) (by simp; try omega) _) (by simp; try omega) _
end Go.Proofs.Ytjlpkfcdkmcjnaa
