/- HELPER, no statement of the seat: the reader made, and the generators of two times. -/
import Derived.Test.YtjlpkfcdkmcjnaaDrawT
namespace Go.Proofs.Ytjlpkfcdkmcjnaa
open Go.RowKit
set_option linter.unusedSimpArgs false
set_option linter.unusedVariables false

/-- A new reader. -/
def ReaderR (w : World) (g : Nat) (e : Ending) (w' : World) : Prop :=
  ∃ (A : Option Addr) (m c : Nat), e = .returned (.pointer (some ⟨g, 0, none⟩)) ∧ Rdr w' g A m c 0 ∧ Below w.heap.size w w'
set_option maxHeartbeats 800000 in
theorem newReader_r (A : Option Addr) (n c : Nat) (w : World) (hb : BytesAt w w.heap.size A n) (hc : n ≤ c) (hn : n ≤ 1048576) :
    Calls Try.prog 58 #[.slice A n c] w (ReaderR w w.heap.size) := by
  by_cases h : 2000 < n
  · have h' : (2000 : Int) < n := by omega
    have h2 : (2000 : Int) ≤ c := by omega
    have h3 : 2000 ≤ c := by omega
    obtain ⟨b, off, rfl, hlt, hcell⟩ := hb (by omega)
    have HC := Lib.hid hcell
    clear hcell hb
    have K : Blk (w.alloc (.cells #[.slice (some ⟨b, off, none⟩) 2000 c, .int .i64 0] 117)) w.heap.size 117 #[.slice (some ⟨b, off, none⟩) 2000 c, .int .i64 0] := Blk.newAt rfl
    have HK := Lib.hid K
    clear K
    go_enter Try.func58, Try.ntmps58
    go_wp2
    go_ret
    exact ⟨_, 2000, c, rfl, ⟨HK.out, (show BytesAt w w.heap.size (some ⟨b, off, none⟩) 2000 from fun _ => ⟨b, off, rfl, hlt, fun j hj => HC.out j (by omega)⟩).below (bal (Below.refl _ _) _) (Nat.le_refl _), by omega, by omega, by omega⟩, bal (Below.refl _ _) _⟩
  · have h' : (n : Int) ≤ 2000 := by omega
    have K : Blk (w.alloc (.cells #[.slice A n c, .int .i64 0] 117)) w.heap.size 117 #[.slice A n c, .int .i64 0] := Blk.newAt rfl
    have HK := Lib.hid K
    have HB := Lib.hid hb
    clear K hb
    go_enter Try.func58, Try.ntmps58
    go_wp2
    go_ret
    exact ⟨_, n, c, rfl, ⟨HK.out, HB.out.below (bal (Below.refl _ _) _) (Nat.le_refl _), by omega, by omega, by omega⟩, bal (Below.refl _ _) _⟩

def OneR (w : World) (g : Nat) (A : Option Addr) (n c : Nat) (p : Int) (e : Ending) (w' : World) : Prop := ∃ q : Int, e = .returned (.int .i64 q) ∧ Rdr w' g A n c (p + 1) ∧ w.grownBy w' (some g)
set_option maxHeartbeats 800000 in
theorem one_r (g b : Nat) (A : Option Addr) (n c : Nat) (p : Int) (x y z : Int) (w : World) (hr : Rdr w g A n c p) (hp : p + 1 ≤ 1000000000) (hk : Blk w b 3 #[.int .i64 x, .int .i64 y, .int .i64 z]) (hne : b ≠ g) :
    Calls Try.prog 117 #[.pointer (some ⟨g, 0, none⟩), .slice (some ⟨b, 0, none⟩) 3 3] w fun e w' =>
      OneR w g A n c p e w' := by
  have HK := Lib.hid hk
  clear hk
  go_enter Try.func117, Try.ntmps117
  go_wp2_with fail
  refine (pick_r _ _ _ _ _ _ _ hr hp (by omega)).mono ?_
  rintro e w1 ⟨q, rfl, q0, q1, r1, g1⟩
  have hq := q1 (by omega)
  have k1 := HK.out.kept g1 hne
  have H1 := Lib.hid (And.intro r1 g1)
  clear hr HK q1 r1 g1
  have hq3 : q = 0 ∨ q = 1 ∨ q = 2 := by omega
  rcases hq3 with rfl | rfl | rfl
  · have c1 : w1.cell? ⟨b, 0, none⟩ = some (.int .i64 x) := k1.cell 0
    clear k1 q0 hq
    go_wp2_with fail
    go_ret
    exact ⟨x, rfl, H1.out.1, H1.out.2⟩
  · have c1 : w1.cell? ⟨b, 1, none⟩ = some (.int .i64 y) := k1.cell 1
    clear k1 q0 hq
    go_wp2_with fail
    go_ret
    exact ⟨y, rfl, H1.out.1, H1.out.2⟩
  · have c1 : w1.cell? ⟨b, 2, none⟩ = some (.int .i64 z) := k1.cell 2
    clear k1 q0 hq
    go_wp2_with fail
    go_ret
    exact ⟨z, rfl, H1.out.1, H1.out.2⟩

end Go.Proofs.Ytjlpkfcdkmcjnaa
