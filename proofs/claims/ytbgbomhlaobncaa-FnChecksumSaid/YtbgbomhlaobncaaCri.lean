/- HELPER, no statement of the seat: CRC-32 tells a bit that was turned; no program. -/
import Derived.Test.YtbgbomhlaobncaaCrc
import Derived.Laws.BytesArg
namespace Go.Proofs.Ytbgbomhlaobncaa
open Go.RowKit Go.Sort
set_option linter.unusedSimpArgs false
set_option linter.unusedVariables false

theorem stC_zero {x : Nat} (hx : x < 4294967296) (h : stC x = 0) : x = 0 := by
  unfold stC at h
  split at h
  · rename_i h1
    exfalso
    have h2 : x / 2 = 3988292384 := by
      have h3 : (x / 2 ^^^ 3988292384) ^^^ 3988292384 = 0 ^^^ 3988292384 := by rw [h]
      rw [Nat.xor_assoc, Nat.xor_self, Nat.xor_zero, Nat.zero_xor] at h3
      exact h3
    omega
  · omega
theorem stN_zero (j : Nat) {x : Nat} (hx : x < 4294967296) (h : stN j x = 0) : x = 0 := by
  induction j with
  | zero => exact h
  | succ j ih => exact ih (stC_zero (stN_lt j hx) h)
theorem xor_zero_eq {a b : Nat} (h : a ^^^ b = 0) : a = b := by
  have h1 : (a ^^^ b) ^^^ b = 0 ^^^ b := by rw [h]
  rwa [Nat.xor_assoc, Nat.xor_self, Nat.xor_zero, Nat.zero_xor] at h1
theorem stN_inj (j : Nat) {a b : Nat} (ha : a < 4294967296) (hb : b < 4294967296) (h : stN j a = stN j b) : a = b := by
  have h1 : stN j (a ^^^ b) = 0 := by rw [stN_xor, h, Nat.xor_self]
  exact xor_zero_eq (stN_zero j (xor_lt32 ha hb) h1)
theorem crcTo_same {s t : ByteArray} {i : Nat} (h : ∀ k, k < i → byteAt t k = byteAt s k) : crcTo t i = crcTo s i := by
  induction i with
  | zero => rfl
  | succ i ih =>
    show stN 8 (crcTo t i ^^^ byteAt t i) = stN 8 (crcTo s i ^^^ byteAt s i)
    rw [ih (fun k hk => h k (by omega)), h i (by omega)]
theorem crcTo_apart {s t : ByteArray} {i : Nat} (h0 : ∀ k, k < i → byteAt t k = byteAt s k) (h1 : byteAt t i ≠ byteAt s i) (h2 : ∀ k, i < k → byteAt t k = byteAt s k) : ∀ m, crcTo t (i + 1 + m) ≠ crcTo s (i + 1 + m)
  | 0 => fun h => by
    have h3 : stN 8 (crcTo t i ^^^ byteAt t i) = stN 8 (crcTo s i ^^^ byteAt s i) := h
    have hb : ∀ (u : ByteArray), crcTo u i ^^^ byteAt u i < 4294967296 := fun u => xor_lt32 (crcTo_lt u i) (Nat.lt_of_lt_of_le (byteAt_lt u i) (by decide))
    have h4 := stN_inj 8 (hb t) (hb s) h3
    rw [crcTo_same h0] at h4
    apply h1
    have h5 : crcTo s i ^^^ (crcTo s i ^^^ byteAt t i) = crcTo s i ^^^ (crcTo s i ^^^ byteAt s i) := by rw [h4]
    rwa [← Nat.xor_assoc, ← Nat.xor_assoc, Nat.xor_self, Nat.zero_xor, Nat.zero_xor] at h5
  | m + 1 => fun h => by
    have h3 : stN 8 (crcTo t (i + 1 + m) ^^^ byteAt t (i + 1 + m)) = stN 8 (crcTo s (i + 1 + m) ^^^ byteAt s (i + 1 + m)) := h
    have hb : ∀ (u : ByteArray), crcTo u (i + 1 + m) ^^^ byteAt u (i + 1 + m) < 4294967296 := fun u => xor_lt32 (crcTo_lt u _) (Nat.lt_of_lt_of_le (byteAt_lt u _) (by decide))
    have h4 := stN_inj 8 (hb t) (hb s) h3
    rw [h2 (i + 1 + m) (by omega)] at h4
    apply crcTo_apart h0 h1 h2 m
    have h5 : (crcTo t (i + 1 + m) ^^^ byteAt s (i + 1 + m)) ^^^ byteAt s (i + 1 + m) = (crcTo s (i + 1 + m) ^^^ byteAt s (i + 1 + m)) ^^^ byteAt s (i + 1 + m) := by rw [h4]
    rwa [Nat.xor_assoc, Nat.xor_assoc, Nat.xor_self, Nat.xor_zero, Nat.xor_zero] at h5
/-- A text of the same length that differs in one byte has another sum. -/
theorem crc_apart {s t : ByteArray} (hsz : t.size = s.size) {i : Nat} (hi : i < s.size) (h1 : byteAt t i ≠ byteAt s i) (h2 : ∀ k, k ≠ i → byteAt t k = byteAt s k) : CrcF t ≠ CrcF s := by
  intro h
  unfold CrcF at h
  have h3 : crcTo t t.size ^^^ 4294967295 = crcTo s s.size ^^^ 4294967295 := by omega
  obtain ⟨m, hm⟩ : ∃ m, s.size = i + 1 + m := ⟨s.size - (i + 1), by omega⟩
  rw [hsz, hm] at h3
  apply crcTo_apart (fun k hk => h2 k (by omega)) h1 (fun k hk => h2 k (by omega)) m
  have h5 : (crcTo t (i + 1 + m) ^^^ 4294967295) ^^^ 4294967295 = (crcTo s (i + 1 + m) ^^^ 4294967295) ^^^ 4294967295 := by rw [h3]
  rwa [Nat.xor_assoc, Nat.xor_assoc, Nat.xor_self, Nat.xor_zero, Nat.xor_zero] at h5
theorem CrcF_nn (s : ByteArray) : 0 ≤ CrcF s := by unfold CrcF; omega
theorem CrcF_digits : CrcF ⟨#[49, 50, 51, 52, 53, 54, 55, 56, 57]⟩ = 3421780262 := by decide +kernel
theorem xor4_ne {b : Nat} : b ^^^ 4 ≠ b := by
  intro h
  have h1 : (b ^^^ 4) ^^^ b = b ^^^ b := by rw [h]
  rw [Nat.xor_comm b 4, Nat.xor_assoc, Nat.xor_self, Nat.xor_zero] at h1
  cases h1
/-! ### A text with one bit turned -/
def flipC (s : ByteArray) (i : Nat) : ByteArray := s.extract 0 i ++ strOfNums [((byteAt s i ^^^ 4 : Nat) : Int)] ++ s.extract (i + 1) s.size
theorem flip_size {s : ByteArray} {i : Nat} (hi : i < s.size) : (flipC s i).size = s.size := by
  have h : i < s.data.size := hi
  unfold flipC
  rw [ByteArray.size_append, ByteArray.size_append, strOfNums_size, ByteArray.size_extract, ByteArray.size_extract]
  simp; omega
theorem flip_data {s : ByteArray} {i : Nat} : (flipC s i).data.toList = s.data.toList.take i ++ [UInt8.ofNat (byteAt s i ^^^ 4)] ++ s.data.toList.drop (i + 1) := by
  unfold flipC
  rw [ByteArray.data_append, ByteArray.data_append, ByteArray.data_extract, ByteArray.data_extract, Array.toList_append, Array.toList_append, strOfNums_data]
  simp only [Array.toList_extract]
  have e : s.size = s.data.toList.length := rfl
  rw [e]
  simp
  exact List.take_of_length_le (by rw [List.length_drop, e]; omega)
theorem byteAt_list (s : ByteArray) (k : Nat) : byteAt s k = (s.data.toList.getD k 0).toNat := by simp [byteAt, List.getD, Array.getD_eq_getD_getElem?]
theorem flip_ne {s : ByteArray} {i k : Nat} (hi : i < s.size) (h : k ≠ i) : byteAt (flipC s i) k = byteAt s k := by
  have hl : i < s.data.toList.length := hi
  rw [byteAt_list, byteAt_list, flip_data]
  generalize s.data.toList = l at *
  congr 1
  simp only [List.getD]
  rcases Nat.lt_or_ge k i with h1 | h1
  · rw [List.append_assoc, List.getElem?_append_left (by simp; omega), List.getElem?_take, if_pos h1]
  · rw [List.getElem?_append_right (by simp; omega), List.getElem?_drop]
    congr 2
    simp; omega
theorem flip_at {s : ByteArray} {i : Nat} (hi : i < s.size) : byteAt (flipC s i) i = byteAt s i ^^^ 4 := by
  have hl : i < s.data.toList.length := hi
  have hb := byteAt_lt s i
  have hx : byteAt s i ^^^ 4 < 256 := Nat.xor_lt_two_pow (n := 8) (by omega) (by omega)
  rw [byteAt_list (flipC s i), flip_data]
  generalize byteAt s i ^^^ 4 = v at *
  rw [List.append_assoc]
  simp only [List.getD]
  rw [List.getElem?_append_right (by simp; omega), show i - (List.take i s.data.toList).length = 0 by rw [List.length_take]; omega]
  simp
  omega
theorem flip_crc {s : ByteArray} {i : Nat} (hi : i < s.size) : CrcF (flipC s i) ≠ CrcF s := crc_apart (flip_size hi) hi (by rw [flip_at hi]; exact xor4_ne) (fun k hk => flip_ne hi hk)
end Go.Proofs.Ytbgbomhlaobncaa
