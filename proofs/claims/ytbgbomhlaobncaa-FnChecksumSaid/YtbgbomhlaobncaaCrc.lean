/- HELPER, no statement of the seat: CRC-32 by bits and by half bytes; both sides. -/
import Derived.Test.YtbgbomhlaobncaaZba
import Derived.Test.YtbgbomhlaobncaaGrf
import Derived.Laws.Rows
import Derived.Laws.BitsAllLaws
namespace Go.Proofs.Ytbgbomhlaobncaa
open Go.RowKit Go.Sort
set_option linter.unusedSimpArgs false
set_option linter.unusedVariables false

/-- One bit of CRC-32. -/
def stC (c : Nat) : Nat := if c % 2 = 1 then (c / 2) ^^^ 3988292384 else c / 2
def stN : Nat → Nat → Nat
  | 0, c => c
  | j + 1, c => stC (stN j c)
theorem stN_comm (j c : Nat) : stN j (stC c) = stC (stN j c) := by
  induction j with
  | zero => rfl
  | succ j ih => simp only [stN, ih]
theorem stN_add (i j c : Nat) : stN i (stN j c) = stN (i + j) c := by
  induction i with
  | zero => simp [stN]
  | succ i ih => rw [Nat.add_right_comm]; simp only [stN, ih]
theorem stC_bit (c i : Nat) : (stC c).testBit i = (c.testBit (i + 1) ^^ (c.testBit 0 && (3988292384 : Nat).testBit i)) := by
  unfold stC
  have h0 : c.testBit 0 = decide (c % 2 = 1) := by rw [Nat.testBit_zero]
  have h1 : (c / 2).testBit i = c.testBit (i + 1) := by rw [Nat.testBit_succ]
  by_cases h : c % 2 = 1
  · rw [if_pos h, Nat.testBit_xor, h1, h0]; simp [h]
  · rw [if_neg h, h1, h0]; simp [h]
theorem stC_xor (a b : Nat) : stC (a ^^^ b) = stC a ^^^ stC b := by
  apply Nat.eq_of_testBit_eq
  intro i
  simp only [stC_bit, Nat.testBit_xor]
  cases a.testBit (i + 1) <;> cases b.testBit (i + 1) <;> cases a.testBit 0 <;> cases b.testBit 0 <;> cases (3988292384 : Nat).testBit i <;> rfl
theorem stN_xor (j a b : Nat) : stN j (a ^^^ b) = stN j a ^^^ stN j b := by
  induction j with
  | zero => rfl
  | succ j ih => simp only [stN, ih, stC_xor]
theorem stC_even (h : Nat) : stC (2 * h) = h := by
  unfold stC
  rw [if_neg (by omega)]
  omega
theorem stN_high (h : Nat) : stN 4 (16 * h) = h := by
  simp only [stN]
  rw [show 16 * h = 2 * (8 * h) from by omega, stC_even, show 8 * h = 2 * (4 * h) from by omega, stC_even, show 4 * h = 2 * (2 * h) from by omega, stC_even, stC_even]
theorem nib_split (c : Nat) : c = (16 * (c / 16)) ^^^ (c % 16) := by
  apply Nat.eq_of_testBit_eq
  intro i
  rw [Nat.testBit_xor, show 16 * (c / 16) = 2 ^ 4 * (c / 2 ^ 4) from rfl, show c % 16 = c % 2 ^ 4 from rfl, Nat.testBit_mod_two_pow]
  rw [Nat.testBit_two_pow_mul, Nat.testBit_div_two_pow]
  by_cases h : 4 ≤ i
  · have : ¬ i < 4 := by omega
    simp [h, this]
  · have : i < 4 := by omega
    simp [h, this]
/-- Four bits at once. -/
theorem stN_four (c : Nat) : stN 4 c = (c / 16) ^^^ stN 4 (c % 16) := by
  conv => lhs; rw [nib_split c]
  rw [stN_xor, stN_high]
theorem stC_lt {c : Nat} (h : c < 4294967296) : stC c < 4294967296 := by
  unfold stC
  split
  · exact Nat.xor_lt_two_pow (n := 32) (by omega) (by omega)
  · omega
theorem stN_lt (j : Nat) {c : Nat} (h : c < 4294967296) : stN j c < 4294967296 := by
  induction j with
  | zero => exact h
  | succ j ih => exact stC_lt ih
def byteAt (s : ByteArray) (k : Nat) : Nat := (s.data.getD k 0).toNat
theorem byteAt_lt (s : ByteArray) (k : Nat) : byteAt s k < 256 := (s.data.getD k 0).toNat_lt
theorem byteAt_get {s : ByteArray} {k : Nat} (h : k < s.size) : s[k]? = some (s.data.getD k 0) := by
  have h' : k < s.data.size := h
  rw [getElem?_pos s k h]
  simp only [Array.getD, dif_pos h']
  rfl
def crcTo (s : ByteArray) : Nat → Nat
  | 0 => 4294967295
  | k + 1 => stN 8 (crcTo s k ^^^ byteAt s k)
theorem crcTo_lt (s : ByteArray) (k : Nat) : crcTo s k < 4294967296 := by
  cases k with
  | zero => show 4294967295 < 4294967296; decide
  | succ k => exact stN_lt 8 (Nat.xor_lt_two_pow (n := 32) (crcTo_lt s k) (Nat.lt_of_lt_of_le (byteAt_lt s k) (by decide)))
theorem xor_lt32 {a b : Nat} (ha : a < 4294967296) (hb : b < 4294967296) : a ^^^ b < 4294967296 := Nat.xor_lt_two_pow (n := 32) ha hb
def CrcF (s : ByteArray) : Int := ((crcTo s s.size ^^^ 4294967295 : Nat) : Int)
set_option maxHeartbeats 1600000 in
theorem crc32_s (s : ByteArray) (w : World) (hs : s.size ≤ 1048576) :
    Calls Try.prog 11 #[.string s] w fun e w' => e = .returned (.int .i64 (CrcF s)) ∧ w = w' := by
  go_enter Try.func11, Try.ntmps11
  go_wp2
  go_loopw [3, 4] (fun c i wr => ∃ k : Nat, k ≤ s.size ∧ i = .int .i64 (k : Int) ∧ c = .int .u32 ((crcTo s k : Nat) : Int) ∧ w = wr) (fun _ i _ => s.size - (intOf i).toNat)
  case atStart => exact ⟨0, by omega, rfl, rfl, rfl⟩
  case round =>
    obtain ⟨k, hk, rfl, rfl, rfl⟩ := hrel
    by_cases hlt : k < s.size
    · have hidx := byteAt_get hlt
      have hlt' : (k : Int) < s.size := by omega
      have hb := byteAt_lt s k
      have hc := crcTo_lt s k
      have hstep : Hid (crcTo s (k + 1) = stN 8 (crcTo s k ^^^ byteAt s k)) := rfl
      have hbe : Hid (byteAt s k = (s.data.getD k 0).toNat) := rfl
      have hxor : bits .xor .u32 ((crcTo s k : Nat) : Int) (((s[k]'hlt).toNat : Int) % 4294967296) = ((crcTo s k ^^^ byteAt s k : Nat) : Int) := by
        have e : ((s[k]'hlt).toNat : Int) % 4294967296 = ((byteAt s k : Nat) : Int) := by
          have h1 : (s[k]'hlt).toNat = byteAt s k := by
            have := hidx
            rw [getElem?_pos s k hlt] at this
            injection this with this
            rw [this]; rfl
          rw [h1]
          omega
        rw [e]
        exact u32_xor_nat _ _ hc (by omega)
      have hy : crcTo s k ^^^ byteAt s k < 4294967296 := xor_lt32 hc (by omega)
      generalize crcTo s k ^^^ byteAt s k = y at *
      generalize crcTo s k = cc at *
      clear hidx hbe hb hc
      go_wp2
      obtain ⟨V, rfl⟩ : ∃ V : World, V = w := ⟨_, rfl⟩
      go_loopw [3, 5] (fun c j wr => ∃ n : Nat, n ≤ 8 ∧ j = .int .i64 (n : Int) ∧ c = .int .u32 ((stN n y : Nat) : Int) ∧ V = wr) (fun _ j _ => 8 - (intOf j).toNat)
      case atStart => exact ⟨0, by omega, rfl, rfl, rfl⟩
      case round =>
        obtain ⟨n, hn, rfl, rfl, rfl⟩ := hrel
        by_cases hl8 : n < 8
        · have hl8' : (n : Int) < 8 := by omega
          have hx := stN_lt n hy
          have hnext : Hid (stN (n + 1) y = stC (stN n y)) := rfl
          generalize stN n y = x at *
          have hdiv : ((x : Nat) : Int).tdiv 2 = ((x / 2 : Nat) : Int) := by rw [Int.tdiv_eq_ediv_of_nonneg (by omega)]; omega
          have hq : x / 2 < 4294967296 := by omega
          have hxo : bits .xor .u32 ((x / 2 : Nat) : Int) 3988292384 = ((x / 2 ^^^ 3988292384 : Nat) : Int) := u32_xor_nat _ 3988292384 hq (by decide)
          by_cases hp : x % 2 = 1
          · have htm : ((x : Nat) : Int).tmod 2 = 1 := by rw [Int.tmod_eq_emod_of_nonneg (by omega)]; omega
            have HS : Hid (stN (n + 1) y = x / 2 ^^^ 3988292384) := by rw [Hid, hnext.out]; unfold stC; rw [if_pos hp]
            generalize x / 2 ^^^ 3988292384 = z at *
            generalize x / 2 = q at *
            clear hp hnext
            go_wp2
            go_roundw
            case rel => exact ⟨n + 1, by omega, by go_num, by rw [HS.out], by trivial⟩
            case measure => simp [intOf]; omega
          · have htm : ((x : Nat) : Int).tmod 2 = 0 := by rw [Int.tmod_eq_emod_of_nonneg (by omega)]; omega
            have HS : Hid (stN (n + 1) y = x / 2) := by rw [Hid, hnext.out]; unfold stC; rw [if_neg hp]
            clear hxo
            generalize x / 2 = q at *
            clear hp hnext
            go_wp2
            go_roundw
            case rel => exact ⟨n + 1, by omega, by go_num, by rw [HS.out], by trivial⟩
            case measure => simp [intOf]; omega
        · obtain rfl : n = 8 := by omega
          go_wp2
          go_roundw
          case rel => exact ⟨k + 1, by omega, by go_num, by rw [hstep.out], by trivial⟩
          case measure => simp [intOf]; omega
    · obtain rfl : k = s.size := by omega
      have hc := crcTo_lt s s.size
      have hxo : bits .xor .u32 ((crcTo s s.size : Nat) : Int) 4294967295 = ((crcTo s s.size ^^^ 4294967295 : Nat) : Int) := u32_xor_nat _ 4294967295 hc (by decide)
      have hz : crcTo s s.size ^^^ 4294967295 < 4294967296 := xor_lt32 hc (by decide)
      have HC : Hid (CrcF s = ((crcTo s s.size ^^^ 4294967295 : Nat) : Int)) := rfl
      generalize crcTo s s.size ^^^ 4294967295 = z at *
      generalize crcTo s s.size = cc at *
      go_wp2
      go_ret
      exact ⟨by rw [HC.out]; rfl, rfl⟩
theorem Checksum_s (s : ByteArray) (w : World) (hs : s.size ≤ 1048576) :
    Calls Try.prog 6 #[.string s] w fun e w' => e = .returned (.int .i64 (CrcF s)) ∧ w = w' := by
  go_enter Try.func6, Try.ntmps6
  go_wp2_with (go_at_call 11; refine (crc32_s s _ hs).mono ?_; rintro e w2 ⟨rfl, rfl⟩)
  go_ret
  exact ⟨rfl, rfl⟩
/-! The table of the half bytes. -/
def nibC (n : Nat) : List Nat := (List.range n).map (stN 4) ++ List.replicate (16 - n) 0
def u32C (r : List Nat) : Array Value := (r.map fun (a : Nat) => Value.int .u32 (a : Int)).toArray
theorem nibC_len {n : Nat} (h : n ≤ 16) : (nibC n).length = 16 := by simp [nibC]; omega
theorem nibC_step {n : Nat} (h : n < 16) : (nibC n).set n (stN 4 n) = nibC (n + 1) := by
  unfold nibC
  rw [List.set_append_right _ _ (by simp), List.length_map, List.length_range, Nat.sub_self, show 16 - n = (16 - (n + 1)) + 1 from by omega, List.replicate_succ, List.set_cons_zero, List.range_succ, List.map_append, List.append_assoc]
  rfl
theorem u32C_set (r : List Nat) (k a : Nat) : (u32C r).setIfInBounds k (.int .u32 (a : Int)) = u32C (r.set k a) := by simp [u32C, List.map_set]
def tabV : Array Value := u32C (nibC 16)
theorem tabV_at {k : Nat} (h : k < 16) : tabV[k]? = some (.int .u32 ((stN 4 k : Nat) : Int)) := by
  simp [tabV, u32C, nibC, h]
theorem underT : Try.prog.underlying 32 = some (.array 16 30) := Try.underlying32
theorem infoT : (Try.prog.info? 32).map (·.size) = some 16 := by kernel_rfl
set_option maxHeartbeats 1600000 in
theorem shifted_w (x : Nat) (w : World) (hx : x < 4294967296) :
    Calls Try.prog 10 #[.agg tabV, .int .u32 (x : Int)] w fun e w' => e = .returned (.int .u32 ((stN 4 x : Nat) : Int)) ∧ Below w.heap.size w w' := by
  have kT : Blk (w.alloc (.cells tabV 32)) w.heap.size 32 tabV := Blk.newAt rfl
  have h16 : x % 16 < 16 := Nat.mod_lt _ (by decide)
  have q := (kT.cell (x % 16)).trans (tabV_at h16)
  have hand : bits .and .u32 ((x : Nat) : Int) 15 = ((x % 16 : Nat) : Int) := by
    have := u32_and_nat x 15 hx (by decide)
    rw [nat_mask4] at this
    exact this
  have hdiv : ((x : Nat) : Int) / 16 = ((x / 16 : Nat) : Int) := by omega
  have hxo : bits .xor .u32 ((x / 16 : Nat) : Int) ((stN 4 (x % 16) : Nat) : Int) = ((stN 4 x : Nat) : Int) := by
    rw [stN_four x]
    exact u32_xor_nat _ _ (by omega) (stN_lt 4 (by omega))
  generalize stN 4 x = z at *
  generalize hv : stN 4 (x % 16) = v at *
  generalize hr : x % 16 = r at *
  generalize hq : x / 16 = qq at *
  have h16' : (r : Int) < 16 := by omega
  clear hv hr hq
  go_enter Try.func10, Try.ntmps10
  go_wp2
  go_ret
  exact ⟨rfl, bal (Below.refl _ _) _⟩
theorem tab_sz (n : Nat) (h : n ≤ 16) : (Try.prog.info? 32).map (·.size) = some (u32C (nibC n)).size := by rw [infoT]; simp [u32C, nibC_len h]
theorem u32C_one (r : List Nat) : (u32C r).all (·.oneCell') = true := by simp [u32C, List.all_map, Value.oneCell']
theorem BlkT.row {w : World} {g : Nat} {t : TypeId} {cs : Array Value} (h : Blk w g t cs) (c : Array Value) : Blk (w.setRow g c) g t c := setRow_heap w g cs c t (0, 0) h
theorem browT {a w : World} (h : Below a.heap.size a w) {g : Nat} (hg : a.heap.size ≤ g) (c : Array Value) : Below a.heap.size a (w.setRow g c) :=
  ⟨h.os, h.tape, h.output, by rw [setRow_size]; exact h.size, fun k hk => (setRow_other w g k c (by omega)).trans (h.block k hk)⟩
set_option maxRecDepth 100000 in
set_option maxHeartbeats 3200000 in
theorem newHalf_w (w : World) :
    Calls Try.prog 9 #[] w fun e w' => e = .returned (.agg tabV) ∧ Below w.heap.size w w' := by
  go_enter Try.func9, Try.ntmps9
  go_wp2
  go_loopw [5] (fun i wr => ∃ k : Nat, k ≤ 16 ∧ i = .int .i64 (k : Int) ∧ Blk wr (w.heap.size + 1) 32 (u32C (nibC k)) ∧ Blk wr w.heap.size 32 (u32C (nibC 0)) ∧ Below w.heap.size w wr) (fun i _ => 16 - (intOf i).toNat)
  case atStart => exact ⟨0, by omega, rfl, Blk.newAt (by simp), (Blk.newAt rfl).alloc _, bal (bal (Below.refl _ _) _) _⟩
  case round =>
    obtain ⟨k, hk, rfl, hT, hZ, hbel⟩ := hrel
    by_cases hlt : k < 16
    · have hlt' : (k : Int) < 16 := by omega
      have hconv : ((k : Nat) : Int) % 4294967296 = (k : Int) := by omega
      have hk32 : k < 4294967296 := by omega
      have hT0 := Lib.hid hT
      have hZ0 := Lib.hid hZ
      have hB0 := Lib.hid hbel
      clear hT hZ hbel
      go_wp2
      obtain ⟨V, rfl⟩ : ∃ V : World, V = wr := ⟨_, rfl⟩
      go_loopw [3, 10] (fun c j wr => ∃ n : Nat, n ≤ 4 ∧ j = .int .i64 (n : Int) ∧ c = .int .u32 ((stN n k : Nat) : Int) ∧ V = wr) (fun _ j _ => 4 - (intOf j).toNat)
      case atStart => exact ⟨0, by omega, rfl, rfl, rfl⟩
      case round =>
        obtain ⟨n, hn, rfl, rfl, rfl⟩ := hrel
        by_cases hl4 : n < 4
        · have hl4' : (n : Int) < 4 := by omega
          have hx := stN_lt n hk32
          have hnext : Hid (stN (n + 1) k = stC (stN n k)) := rfl
          generalize stN n k = x at *
          have hdiv : ((x : Nat) : Int) / 2 = ((x / 2 : Nat) : Int) := by omega
          have hq : x / 2 < 4294967296 := by omega
          have hand : bits .and .u32 ((x : Nat) : Int) 1 = ((x % 2 : Nat) : Int) := by
            have := u32_and_nat x 1 hx (by decide)
            rw [nat_mask1] at this
            exact this
          have hxo : bits .xor .u32 ((x / 2 : Nat) : Int) 3988292384 = ((x / 2 ^^^ 3988292384 : Nat) : Int) := u32_xor_nat _ 3988292384 hq (by decide)
          by_cases hp : x % 2 = 1
          · rw [hp] at hand
            have HS : Hid (stN (n + 1) k = x / 2 ^^^ 3988292384) := by rw [Hid, hnext.out]; unfold stC; rw [if_pos hp]
            generalize x / 2 ^^^ 3988292384 = z at *
            generalize x / 2 = q at *
            have hand' : bits .and .u32 ((x : Nat) : Int) 1 = 1 := hand
            clear hp hnext hand
            go_wp2
            go_roundw
            case rel => exact ⟨n + 1, by omega, by go_num, by rw [HS.out], by trivial⟩
            case measure => simp [intOf]; omega
          · have h0 : x % 2 = 0 := by omega
            rw [h0] at hand
            have HS : Hid (stN (n + 1) k = x / 2) := by rw [Hid, hnext.out]; unfold stC; rw [if_neg hp]
            clear hxo
            generalize x / 2 = q at *
            have hand' : bits .and .u32 ((x : Nat) : Int) 1 = 0 := hand
            clear hp hnext hand h0
            go_wp2
            go_roundw
            case rel => exact ⟨n + 1, by omega, by go_num, by rw [HS.out], by trivial⟩
            case measure => simp [intOf]; omega
        · obtain rfl : n = 4 := by omega
          have cT := (hT0.out.cell k)
          have hget : (u32C (nibC k))[k]? = some (.int .u32 (((nibC k).getD k 0 : Nat) : Int)) := by
            have hl := nibC_len (show k ≤ 16 by omega)
            simp [u32C, List.getD, show k < (nibC k).length by omega]
          rw [hget] at cT
          have fT := hT0.out.frozen k
          have HS : Hid ((u32C (nibC k)).setIfInBounds k (.int .u32 ((stN 4 k : Nat) : Int)) = u32C (nibC (k + 1))) := by rw [Hid, u32C_set, nibC_step hlt]
          have hsz : w.heap.size + 1 < V.heap.size := hT0.out.lt
          generalize (nibC k).getD k 0 = old at *
          clear hget
          go_wp2
          go_roundw
          case rel => exact ⟨k + 1, by omega, by go_num, by rw [← HS.out]; exact hT0.out.set_ _ _, hZ0.out.far (by simp) _, bset hB0.out (by simp) _⟩
          case measure => simp [intOf]; omega
    · obtain rfl : k = 16 := by omega
      have HR := Lib.hid (BlkT.row hZ (u32C (nibC 16)))
      have H3 := Lib.hid hbel
      clear hbel
      go_wp2_with (first | refine wpList_load_row rfl 32 _ rfl (w.heap.size + 1) rfl 32 (u32C (nibC 16)) (0, 0) _ hT underT rfl (tab_sz 16 (by omega)) ?_ | refine wpList_store_row rfl 32 _ _ rfl w.heap.size (u32C (nibC 16)) rfl rfl 32 (u32C (nibC 0)) hZ (tab_sz 16 (by omega)) rfl (u32C_one _) ?_)
      refine bodyPost_ret (results_cell_row rfl _ _ w.heap.size 32 (u32C (nibC 16)) (0, 0) _ rfl HR.out underT rfl (tab_sz 16 (by omega))) rfl ?_
      exact ⟨rfl, browT H3.out (Nat.le_refl _) _⟩
set_option maxRecDepth 100000 in
set_option maxHeartbeats 3200000 in
theorem Checksum_i (s : ByteArray) (w : World) (hs : s.size ≤ 1048576) :
    Calls Try.prog 5 #[.string s] w fun e w' => e = .returned (.int .i64 (CrcF s)) ∧ Below w.heap.size w w' := by
  obtain ⟨B, hB⟩ : ∃ B, B = w := ⟨_, rfl⟩
  go_enter Try.func5, Try.ntmps5
  go_wp2_with (first | (go_at_call 9; refine (newHalf_w _).mono ?_; rintro e w1 ⟨rfl, b1⟩) | refine wpList_store_row rfl 32 _ _ rfl w1.heap.size tabV rfl rfl 32 (u32C (nibC 0)) (show Blk _ w1.heap.size 32 (u32C (nibC 0)) from Blk.newAt rfl) (tab_sz 16 (by omega)) rfl (u32C_one _) ?_)
  refine abs_world (fun wB => Blk wB w1.heap.size 32 tabV ∧ Below w.heap.size w wB) ⟨BlkT.row (cs := u32C (nibC 0)) (Blk.newAt rfl) _, browT (bal b1 _) b1.size _⟩ (fun wB hW => ?_)
  obtain ⟨hk, hBw⟩ := hW
  have HB := Lib.hid hBw
  generalize w1.heap.size = BT at *
  clear b1 hBw
  go_wp2_with fail
  go_loopw [4, 9] (fun c i wr => ∃ k : Nat, k ≤ s.size ∧ i = .int .i64 (k : Int) ∧ c = .int .u32 ((crcTo s k : Nat) : Int) ∧ Blk wr BT 32 tabV ∧ Below w.heap.size w wr) (fun _ i _ => s.size - (intOf i).toNat)
  case atStart => exact ⟨0, by omega, rfl, rfl, hk, HB.out⟩
  case round =>
    clear hk HB
    obtain ⟨k, hkk, rfl, rfl, hk, hbel⟩ := hrel
    by_cases hlt : k < s.size
    · have hidx := byteAt_get hlt
      have hlt' : (k : Int) < s.size := by omega
      have hb := byteAt_lt s k
      have hc := crcTo_lt s k
      have hstep : Hid (crcTo s (k + 1) = stN 4 (stN 4 (crcTo s k ^^^ byteAt s k))) := by rw [Hid, stN_add]; rfl
      have hxor : bits .xor .u32 ((crcTo s k : Nat) : Int) (((s[k]'hlt).toNat : Int) % 4294967296) = ((crcTo s k ^^^ byteAt s k : Nat) : Int) := by
        have e : ((s[k]'hlt).toNat : Int) % 4294967296 = ((byteAt s k : Nat) : Int) := by
          have h1 : (s[k]'hlt).toNat = byteAt s k := by
            have := hidx
            rw [getElem?_pos s k hlt] at this
            injection this with this
            rw [this]; rfl
          rw [h1]
          omega
        rw [e]
        exact u32_xor_nat _ _ hc (by omega)
      have hy : crcTo s k ^^^ byteAt s k < 4294967296 := xor_lt32 hc (by omega)
      generalize crcTo s k ^^^ byteAt s k = y at *
      generalize crcTo s k = cc at *
      have HB := Lib.hid hbel
      clear hidx hb hc hbel
      go_wp2_with fail
      refine wp_region_facts [[], [], [], [], [], [3, 4], [3, 4, 5], [2, 3, 4, 5, 6], [1, 2, 3, 4, 5, 6, 7], List.range 9]
        [fun v' _ => v' = .agg tabV, fun v' _ => v' = .agg tabV, fun v' _ => v' = .int .u32 (cc : Int), fun v' _ => v' = .string s, fun v' _ => v' = .int .i64 (k : Int), fun v' _ => v' = .int .u8 ((s[k]'hlt).toNat : Int), fun v' _ => v' = .int .u32 (((s[k]'hlt).toNat : Int) % 4294967296), fun v' _ => v' = .int .u32 (y : Int), fun v' _ => v' = .int .u32 ((stN 4 y : Nat) : Int), fun v' _ => v' = .int .u32 ((stN 4 (stN 4 y) : Nat) : Int)]
        (by kernel_rfl) (by kernel_rfl) rfl ⟨stable_pure _, stable_pure _, stable_pure _, stable_pure _, stable_pure _, stable_pure _, stable_pure _, stable_pure _, stable_pure _, stable_pure _, trivial⟩ ?_
      refine wf_stepK [] [] (by kernel_rfl) (by kernel_rfl) (fun wf hb hf => ?_) (fun t0 => ?_)
      · refine ⟨?_⟩
        go_wp2_with (refine wpList_load_row rfl 32 _ rfl BT rfl 32 tabV (0, 0) _ (hk.below hb) underT rfl (tab_sz 16 (by omega)) ?_)
        exact ⟨rfl, _, by kernel_rfl, Below.refl _ _, rfl⟩
      refine wf_stepK [] [] (by kernel_rfl) (by kernel_rfl) (fun wf hb hf => ?_) (fun t1 => ?_)
      · refine ⟨?_⟩
        go_wp2_with (refine wpList_load_row rfl 32 _ rfl BT rfl 32 tabV (0, 0) _ (hk.below hb) underT rfl (tab_sz 16 (by omega)) ?_)
        exact ⟨rfl, _, by kernel_rfl, Below.refl _ _, rfl⟩
      refine wf_stepK [] [] (by kernel_rfl) (by kernel_rfl) (fun wf hb hf => ?_) (fun t2 => ?_)
      · refine ⟨?_⟩
        go_wp2
        exact ⟨rfl, .int .u32 (cc : Int), by kernel_rfl, Below.refl _ _, rfl⟩
      refine wf_stepK [] [] (by kernel_rfl) (by kernel_rfl) (fun wf hb hf => ?_) (fun t3 => ?_)
      · refine ⟨?_⟩
        go_wp2
        exact ⟨rfl, .string s, by kernel_rfl, Below.refl _ _, rfl⟩
      refine wf_stepK [] [] (by kernel_rfl) (by kernel_rfl) (fun wf hb hf => ?_) (fun t4 => ?_)
      · refine ⟨?_⟩
        go_wp2
        exact ⟨rfl, .int .i64 (k : Int), by kernel_rfl, Below.refl _ _, rfl⟩
      refine wf_stepK [3, 4] [fun _ => t3 = .string s, fun _ => t4 = .int .i64 (k : Int)] (by kernel_rfl) (by kernel_rfl) (fun wf hb hf => ?_) (fun t5 => ?_)
      · obtain ⟨rfl, rfl, -⟩ := hf
        refine ⟨?_⟩
        go_wp2
        exact ⟨rfl, .int .u8 ((s[k]'hlt).toNat : Int), by kernel_rfl, Below.refl _ _, rfl⟩
      refine wf_stepK [5] [fun _ => t5 = .int .u8 ((s[k]'hlt).toNat : Int)] (by kernel_rfl) (by kernel_rfl) (fun wf hb hf => ?_) (fun t6 => ?_)
      · obtain ⟨rfl, -⟩ := hf
        refine ⟨?_⟩
        go_wp2
        exact ⟨rfl, .int .u32 (((s[k]'hlt).toNat : Int) % 4294967296), by kernel_rfl, Below.refl _ _, rfl⟩
      refine wf_stepK [2, 6] [fun _ => t2 = .int .u32 (cc : Int), fun _ => t6 = .int .u32 (((s[k]'hlt).toNat : Int) % 4294967296)] (by kernel_rfl) (by kernel_rfl) (fun wf hb hf => ?_) (fun t7 => ?_)
      · obtain ⟨rfl, rfl, -⟩ := hf
        refine ⟨?_⟩
        go_wp2
        exact ⟨rfl, .int .u32 (y : Int), by kernel_rfl, Below.refl _ _, rfl⟩
      refine wf_stepK [1, 7] [fun _ => t1 = .agg tabV, fun _ => t7 = .int .u32 (y : Int)] (by kernel_rfl) (by kernel_rfl) (fun wf hb hf => ?_) (fun t8 => ?_)
      · obtain ⟨rfl, rfl, -⟩ := hf
        refine ⟨?_⟩
        go_wp2_with (go_at_call 10; refine (shifted_w y _ hy).mono ?_; rintro e w2 ⟨rfl, hb2⟩)
        exact ⟨rfl, _, by kernel_rfl, hb2, rfl⟩
      refine wf_stepK [0, 8] [fun _ => t0 = .agg tabV, fun _ => t8 = .int .u32 ((stN 4 y : Nat) : Int)] (by kernel_rfl) (by kernel_rfl) (fun wf hb hf => ?_) (fun t9 => ?_)
      · obtain ⟨rfl, rfl, -⟩ := hf
        refine ⟨?_⟩
        go_wp2_with (go_at_call 10; refine (shifted_w (stN 4 y) _ (stN_lt 4 hy)).mono ?_; rintro e w2 ⟨rfl, hb2⟩)
        exact ⟨rfl, _, by kernel_rfl, hb2, rfl⟩
      refine wf_doneK [9] [fun _ => t9 = .int .u32 ((stN 4 (stN 4 y) : Nat) : Int)] (by kernel_rfl) (by kernel_rfl) (fun w6 b6 hf => ?_)
      obtain ⟨rfl, -⟩ := hf
      show wpList _ _ _ [_] _ _
      refine wpList_frame (by simp [Act.put]; rfl) ?_
      have HB2 := Lib.hid (btr HB.out b6)
      have HK2 := Lib.hid (hk.below b6)
      clear b6 hk HB
      go_wp2
      go_roundw
      case rel => exact ⟨k + 1, by omega, by go_num, by rw [hstep.out], HK2.out, HB2.out⟩
      case measure => simp [intOf]; omega
    · obtain rfl : k = s.size := by omega
      have hc := crcTo_lt s s.size
      have hxo : bits .xor .u32 ((crcTo s s.size : Nat) : Int) 4294967295 = ((crcTo s s.size ^^^ 4294967295 : Nat) : Int) := u32_xor_nat _ 4294967295 hc (by decide)
      have hz : crcTo s s.size ^^^ 4294967295 < 4294967296 := xor_lt32 hc (by decide)
      have HC : Hid (CrcF s = ((crcTo s s.size ^^^ 4294967295 : Nat) : Int)) := rfl
      have HB := Lib.hid hbel
      have hmx : bits .xor .u32 IntKind.u32.max ((crcTo s s.size : Nat) : Int) = ((crcTo s s.size ^^^ 4294967295 : Nat) : Int) := by
        rw [Nat.xor_comm]
        exact u32_xor_nat 4294967295 _ (by decide) hc
      generalize crcTo s s.size ^^^ 4294967295 = z at *
      generalize crcTo s s.size = cc at *
      have hwz : wrap64 ((z : Nat) : Int) = (z : Int) := by unfold wrap64; omega
      clear hbel hk
      go_wp2
      go_ret
      exact ⟨by rw [HC.out]; rfl, HB.out⟩
end Go.Proofs.Ytbgbomhlaobncaa
