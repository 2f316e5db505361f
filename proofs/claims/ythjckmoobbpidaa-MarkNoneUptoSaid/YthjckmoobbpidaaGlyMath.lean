/-
  Plain facts about runes in a string of bytes: which rune stands at a byte, how wide it is, that a piece of the string holds the same rune. No program is run here.
-/
import Derived.Lib.MapLaws
import Derived.Lib.TrimUEq
import Derived.Lib.IndexBytes
namespace Go.Proofs.Ythjckmoobbpidaa.Gly
open Go.Lib

/-- The rune at a byte, and its width; 0 and 0 outside the string. -/
def runeAt (s : ByteArray) (i : Int) : Int × Int :=
  if 0 ≤ i ∧ i < s.size then ((((Utf8.decode s i.toNat).1 : Nat) : Int), (((Utf8.decode s i.toNat).2 : Nat) : Int)) else (0, 0)

theorem runeAt_in (s : ByteArray) (n : Nat) (h : n < s.size) : runeAt s (n : Int) = ((((Utf8.decode s n).1 : Nat) : Int), (((Utf8.decode s n).2 : Nat) : Int)) := by
  unfold runeAt
  rw [if_pos ⟨by omega, by omega⟩, Int.toNat_natCast]
theorem runeAt_low (s : ByteArray) (i : Int) (h : i < 0) : runeAt s i = (0, 0) := by
  unfold runeAt
  rw [if_neg (by omega)]
theorem runeAt_high (s : ByteArray) (i : Int) (h : (s.size : Int) ≤ i) : runeAt s i = (0, 0) := by
  unfold runeAt
  rw [if_neg (by omega)]

theorem width_ge (s : ByteArray) (n : Nat) : 1 ≤ (Utf8.decode s n).2 := width_pos s n
theorem width_fits (s : ByteArray) (n : Nat) (h : n < s.size) : n + (Utf8.decode s n).2 ≤ s.size := by
  have hne : s.data.toList.drop n ≠ [] := by
    intro h0
    have := congrArg List.length h0
    rw [List.length_drop, ← size_eq] at this
    simp at this
    omega
  have := decodeL_le (s.data.toList.drop n) hne
  rw [decodeL_drop, List.length_drop, ← size_eq] at this
  omega
theorem width_four (s : ByteArray) (n : Nat) : (Utf8.decode s n).2 ≤ 4 := by
  rw [decode_N]
  rcases decodeN_shape (s.data.toList.length - n) (s.data.toList.getD n 0).toNat (s.data.toList.getD (n + 1) 0).toNat (s.data.toList.getD (n + 2) 0).toNat (s.data.toList.getD (n + 3) 0).toNat with ⟨c, e⟩ | ⟨c1, c2, c3, cv, e⟩ | ⟨c1, c2, c3, c4, cv, cs, e⟩ | ⟨c1, c2, c3, c4, c5, cv, cw, e⟩ | e
  all_goals rw [e]
  all_goals simp
theorem rune_le (s : ByteArray) (n : Nat) : (Utf8.decode s n).1 ≤ 1114111 := by
  have k0 := (s.data.toList.getD n 0).toNat_lt
  rw [decode_N]
  rcases decodeN_shape (s.data.toList.length - n) (s.data.toList.getD n 0).toNat (s.data.toList.getD (n + 1) 0).toNat (s.data.toList.getD (n + 2) 0).toNat (s.data.toList.getD (n + 3) 0).toNat with ⟨c, e⟩ | ⟨c1, c2, c3, cv, e⟩ | ⟨c1, c2, c3, c4, cv, cs, e⟩ | ⟨c1, c2, c3, c4, c5, cv, cw, e⟩ | e
  all_goals rw [e]
  all_goals dsimp only
  all_goals omega

theorem size_tail (s : ByteArray) (n : Nat) : (s.extract n s.size).size = s.size - n := by
  rw [size_eq, extract_to_end, List.length_drop, ← size_eq]
/-- What is left of a string from n on begins with the rune at n. -/
theorem decode_tail (s : ByteArray) (n : Nat) : Utf8.decode (s.extract n s.size) 0 = Utf8.decode s n := by
  rw [← decodeL_drop, ← decodeL_drop, extract_to_end, List.drop_zero]
theorem decode_tail_at (s : ByteArray) (n k : Nat) : Utf8.decode (s.extract n s.size) k = Utf8.decode s (n + k) := by
  rw [← decodeL_drop, ← decodeL_drop, extract_to_end, List.drop_drop]

end Go.Proofs.Ythjckmoobbpidaa.Gly
