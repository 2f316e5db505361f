/-
  The contracts of the document's own at and Next: at answers the byte, or -1; Next answers the rune at a byte and its width, as a decoder of UTF-8 does. Condition: the string has at most 2^50 bytes.
-/
import Derived.Test.YthjckmoobbpidaaGlyMath
import Derived.Test.YthjckmoobbpidaaRows
import Derived.WalkKit
import Derived.LoopTactic
import Derived.Handy
import Derived.WalkLawsBesides
import Derived.WalkSpells
import Derived.Laws.RangeAny
import Derived.Lib.Hide
import Derived.Outline
namespace Go.Proofs.Ythjckmoobbpidaa.Gly
open Go.RowKit
set_option linter.unusedSimpArgs false

/-- The byte at a place; -1: none. -/
def byteI (s : ByteArray) (i : Int) : Int := if 0 ≤ i ∧ i < s.size then (((s.get! i.toNat).toNat : Nat) : Int) else -1
theorem byteI_bd (s : ByteArray) (i : Int) : -1 ≤ byteI s i ∧ byteI s i ≤ 255 := by
  unfold byteI
  split
  · have := (s.get! i.toNat).toNat_lt
    omega
  · omega
theorem byteI_out (s : ByteArray) (i : Int) (h : ¬ (0 ≤ i ∧ i < s.size)) : byteI s i = -1 := by unfold byteI; rw [if_neg h]
theorem byteI_get (s : ByteArray) (n : Nat) (h : n < s.size) : byteI s (n : Int) = (((s.get! n).toNat : Nat) : Int) := by
  unfold byteI
  rw [if_pos ⟨by omega, by omega⟩, Int.toNat_natCast]
theorem byteI_in (s : ByteArray) (n : Nat) (h : n < s.size) : byteI s (n : Int) = ((s[n].toNat : Nat) : Int) := by
  have := get_at s n h
  rw [Nat.add_zero] at this
  rw [byteI_get s n h, this]
/-- The rune and its width out of four bytes, a byte that is not there being -1. -/
def fourI (a b c d : Int) : Int × Int :=
  if a < 0 then (0, 0)
  else if a < 128 then (a, 1)
  else if 194 ≤ a ∧ a ≤ 223 then
    (if b < 128 ∨ 191 < b then (65533, 1) else ((a - 192) * 64 + b - 128, 2))
  else if 224 ≤ a ∧ a ≤ 239 then
    (if b < 128 ∨ 191 < b then (65533, 1) else if c < 128 ∨ 191 < c then (65533, 1)
     else if ((a - 224) * 64 + b - 128) * 64 + c - 128 < 2048 ∨ (55296 ≤ ((a - 224) * 64 + b - 128) * 64 + c - 128 ∧ ((a - 224) * 64 + b - 128) * 64 + c - 128 ≤ 57343) then (65533, 1)
     else (((a - 224) * 64 + b - 128) * 64 + c - 128, 3))
  else if 240 ≤ a ∧ a ≤ 244 then
    (if b < 128 ∨ 191 < b then (65533, 1) else if c < 128 ∨ 191 < c then (65533, 1) else if d < 128 ∨ 191 < d then (65533, 1)
     else if (((a - 240) * 64 + b - 128) * 64 + c - 128) * 64 + d - 128 < 65536 ∨ 1114111 < (((a - 240) * 64 + b - 128) * 64 + c - 128) * 64 + d - 128 then (65533, 1)
     else ((((a - 240) * 64 + b - 128) * 64 + c - 128) * 64 + d - 128, 4))
  else (65533, 1)
theorem byteI_at (s : ByteArray) (n k : Nat) : (n + k < s.size ∧ byteI s ((n : Int) + (k : Int)) = (((s.get! (n + k)).toNat : Nat) : Int)) ∨ (¬ n + k < s.size ∧ byteI s ((n : Int) + (k : Int)) = -1) := by
  by_cases h : n + k < s.size
  · left
    refine ⟨h, ?_⟩
    rw [← byteI_get s (n + k) h]
    rfl
  · right
    exact ⟨h, byteI_out s _ (by omega)⟩
set_option maxRecDepth 100000 in
set_option maxHeartbeats 4000000 in
theorem four_plain (n a b c d : Nat) (h0 : 1 ≤ n) (_ha : a < 256) (hb : b < 256) (hc : c < 256) (_hd : d < 256) (B C D : Int)
    (eB : (1 < n ∧ B = b) ∨ (¬ 1 < n ∧ B = -1)) (eC : (2 < n ∧ C = c) ∨ (¬ 2 < n ∧ C = -1)) (eD : (3 < n ∧ D = d) ∨ (¬ 3 < n ∧ D = -1)) :
    fourI (a : Int) B C D = ((((Lib.decodeN n a b c d).1 : Nat) : Int), (((Lib.decodeN n a b c d).2 : Nat) : Int)) := by
  unfold fourI Lib.decodeN
  repeat' split
  all_goals first | (exfalso; omega) | (apply Prod.ext <;> simp only <;> omega)
theorem runeAt_four (s : ByteArray) (i : Int) : runeAt s i = fourI (byteI s i) (byteI s (i + 1)) (byteI s (i + 2)) (byteI s (i + 3)) := by
  by_cases h : 0 ≤ i ∧ i < s.size
  · obtain ⟨n, rfl⟩ := Int.eq_ofNat_of_zero_le h.1
    have hn : n < s.size := by omega
    rw [runeAt_in s n hn, Lib.decode_at, byteI_get s n hn]
    symm
    have k1 := byteI_at s n 1
    have k2 := byteI_at s n 2
    have k3 := byteI_at s n 3
    refine four_plain (s.size - n) _ _ _ _ (by omega) (UInt8.toNat_lt _) (UInt8.toNat_lt _) (UInt8.toNat_lt _) (UInt8.toNat_lt _) _ _ _ ?_ ?_ ?_
    · rcases k1 with ⟨x, y⟩ | ⟨x, y⟩
      · exact .inl ⟨by omega, y⟩
      · exact .inr ⟨by omega, y⟩
    · rcases k2 with ⟨x, y⟩ | ⟨x, y⟩
      · exact .inl ⟨by omega, y⟩
      · exact .inr ⟨by omega, y⟩
    · rcases k3 with ⟨x, y⟩ | ⟨x, y⟩
      · exact .inl ⟨by omega, y⟩
      · exact .inr ⟨by omega, y⟩
  · rw [byteI_out s i h]
    unfold runeAt
    rw [if_neg h]
    rfl

end Go.Proofs.Ythjckmoobbpidaa.Gly
