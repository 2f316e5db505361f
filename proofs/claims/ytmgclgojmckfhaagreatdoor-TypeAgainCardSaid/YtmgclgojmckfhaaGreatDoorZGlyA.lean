/-
  Plain facts about runes in a string of bytes: which rune stands at a byte, how wide it is, that a piece of the string holds the same rune. No program is run here.
-/
import Derived.Test.YtmgclgojmckfhaaGreatDoorRows
import Derived.Lib.MapLaws
import Derived.Lib.TrimUEq
import Derived.Lib.IndexBytes
import Derived.WalkKit
import Derived.RegionTactic
import Derived.BigQuiet
import Derived.Deep.QuietTactic
import Derived.WalkLawsBesides
import Derived.WalkSpells
import Derived.Outline
namespace Go.Proofs.YtmgclgojmckfhaaGreatDoor.Gly
open Go.Lib

/-- The rune at a byte, and its width; 0 and 0 outside the string. -/
def runeAt (s : ByteArray) (i : Int) : Int × Int :=
  if 0 ≤ i ∧ i < s.size then ((((Utf8.decode s i.toNat).1 : Nat) : Int), (((Utf8.decode s i.toNat).2 : Nat) : Int)) else (0, 0)

theorem runeAt_in (s : ByteArray) (n : Nat) (h : n < s.size) : runeAt s (n : Int) = ((((Utf8.decode s n).1 : Nat) : Int), (((Utf8.decode s n).2 : Nat) : Int)) := by
  unfold runeAt
  rw [if_pos ⟨by omega, by omega⟩, Int.toNat_natCast]
theorem runeAt_low (s : ByteArray) (i : Int) (h : i < 0) : runeAt s i = (0, 0) := by
  unfold runeAt
  rw [if_neg (by omega)]
theorem runeAt_high (s : ByteArray) (i : Int) (h : (s.size : Int) ≤ i) : runeAt s i = (0, 0) := by
  unfold runeAt
  rw [if_neg (by omega)]

theorem width_ge (s : ByteArray) (n : Nat) : 1 ≤ (Utf8.decode s n).2 := width_pos s n
theorem width_fits (s : ByteArray) (n : Nat) (h : n < s.size) : n + (Utf8.decode s n).2 ≤ s.size := by
  have hne : s.data.toList.drop n ≠ [] := by
    intro h0
    have := congrArg List.length h0
    rw [List.length_drop, ← size_eq] at this
    simp at this
    omega
  have := decodeL_le (s.data.toList.drop n) hne
  rw [decodeL_drop, List.length_drop, ← size_eq] at this
  omega
theorem rune_le (s : ByteArray) (n : Nat) : (Utf8.decode s n).1 ≤ 1114111 := by
  have k0 := (s.data.toList.getD n 0).toNat_lt
  rw [decode_N]
  rcases decodeN_shape (s.data.toList.length - n) (s.data.toList.getD n 0).toNat (s.data.toList.getD (n + 1) 0).toNat (s.data.toList.getD (n + 2) 0).toNat (s.data.toList.getD (n + 3) 0).toNat with ⟨c, e⟩ | ⟨c1, c2, c3, cv, e⟩ | ⟨c1, c2, c3, c4, cv, cs, e⟩ | ⟨c1, c2, c3, c4, c5, cv, cw, e⟩ | e
  all_goals rw [e]
  all_goals dsimp only
  all_goals omega

theorem size_tail (s : ByteArray) (n : Nat) : (s.extract n s.size).size = s.size - n := by
  rw [size_eq, extract_to_end, List.length_drop, ← size_eq]
/-- What is left of a string from n on begins with the rune at n. -/
theorem decode_tail (s : ByteArray) (n : Nat) : Utf8.decode (s.extract n s.size) 0 = Utf8.decode s n := by
  rw [← decodeL_drop, ← decodeL_drop, extract_to_end, List.drop_zero]
theorem decode_tail_at (s : ByteArray) (n k : Nat) : Utf8.decode (s.extract n s.size) k = Utf8.decode s (n + k) := by
  rw [← decodeL_drop, ← decodeL_drop, extract_to_end, List.drop_drop]

end Go.Proofs.YtmgclgojmckfhaaGreatDoor.Gly
/-
  The contracts of package glyph's small functions, and of the document's own classes and digits: what each answers for any rune; the world stays as it was.
-/
namespace Go.Proofs.YtmgclgojmckfhaaGreatDoor.Gly
open Go.RowKit
set_option linter.unusedSimpArgs false

/-- is c from a to b? -/
def wthn (c a b : Int) : Bool := decide (a ≤ c) && decide (c ≤ b)


theorem within_any (c a b : Int) (w : World) :
    Calls Tryz.prog 54 #[.int .i32 c, .int .i32 a, .int .i32 b] w fun e w' => e = .returned (.bool (wthn c a b)) ∧ w = w' := by
  by_cases h1 : a ≤ c
  · by_cases h2 : c ≤ b
    · go_enter Tryz.func54, Tryz.ntmps54
      go_wp2
      go_ret
      exact ⟨by simp [wthn] <;> omega, rfl⟩
    · go_enter Tryz.func54, Tryz.ntmps54
      go_wp2
      go_ret
      exact ⟨by simp [wthn] <;> omega, rfl⟩
  · go_enter Tryz.func54, Tryz.ntmps54
    go_wp2
    go_ret
    exact ⟨by simp [wthn] <;> omega, rfl⟩

/-- isBlank. -/
def blankB (c : Int) : Bool := wthn c 9 13 || (c == 32)

set_option maxHeartbeats 4000000 in
theorem blankB_any (c : Int) (w : World) :
    Calls Tryz.prog 35 #[.int .i32 c] w fun e w' => e = .returned (.bool (blankB c)) ∧ w = w' := by
  by_cases h1 : wthn c 9 13 = true
  · go_enter Tryz.func35, Tryz.ntmps35
    go_wp2_with (go_at_call 54; refine (within_any _ _ _ _).mono ?_; rintro e w1 ⟨rfl, rfl⟩)
    go_ret
    exact ⟨by simp [blankB, h1], rfl⟩
  have g1 : wthn c 9 13 = false := by simpa using h1
  clear h1
  by_cases h2 : (c == 32) = true
  · go_enter Tryz.func35, Tryz.ntmps35
    go_wp2_with (go_at_call 54; refine (within_any _ _ _ _).mono ?_; rintro e w1 ⟨rfl, rfl⟩)
    go_ret
    exact ⟨by simp [blankB, g1, h2], rfl⟩
  have g2 : (c == 32) = false := by simpa using h2
  clear h2
  go_enter Tryz.func35, Tryz.ntmps35
  go_wp2_with (go_at_call 54; refine (within_any _ _ _ _).mono ?_; rintro e w1 ⟨rfl, rfl⟩)
  go_ret
  exact ⟨by simp [blankB, g1, g2], rfl⟩

/-- isSmall. -/
def smallB (c : Int) : Bool := wthn c 97 122 || (c == 95) || wthn c 223 246 || wthn c 248 255 || wthn c 945 969

set_option maxHeartbeats 4000000 in
theorem smallB_any (c : Int) (w : World) :
    Calls Tryz.prog 36 #[.int .i32 c] w fun e w' => e = .returned (.bool (smallB c)) ∧ w = w' := by
  by_cases h3 : wthn c 97 122 = true
  · go_enter Tryz.func36, Tryz.ntmps36
    go_wp2_with (go_at_call 54; refine (within_any _ _ _ _).mono ?_; rintro e w1 ⟨rfl, rfl⟩)
    go_ret
    exact ⟨by simp [smallB, h3], rfl⟩
  have g3 : wthn c 97 122 = false := by simpa using h3
  clear h3
  by_cases h4 : (c == 95) = true
  · go_enter Tryz.func36, Tryz.ntmps36
    go_wp2_with (go_at_call 54; refine (within_any _ _ _ _).mono ?_; rintro e w1 ⟨rfl, rfl⟩)
    go_ret
    exact ⟨by simp [smallB, g3, h4], rfl⟩
  have g4 : (c == 95) = false := by simpa using h4
  clear h4
  by_cases h5 : wthn c 223 246 = true
  · go_enter Tryz.func36, Tryz.ntmps36
    go_wp2_with (go_at_call 54; refine (within_any _ _ _ _).mono ?_; rintro e w1 ⟨rfl, rfl⟩)
    go_ret
    exact ⟨by simp [smallB, g3, g4, h5], rfl⟩
  have g5 : wthn c 223 246 = false := by simpa using h5
  clear h5
  by_cases h6 : wthn c 248 255 = true
  · go_enter Tryz.func36, Tryz.ntmps36
    go_wp2_with (go_at_call 54; refine (within_any _ _ _ _).mono ?_; rintro e w1 ⟨rfl, rfl⟩)
    go_ret
    exact ⟨by simp [smallB, g3, g4, g5, h6], rfl⟩
  have g6 : wthn c 248 255 = false := by simpa using h6
  clear h6
  by_cases h7 : wthn c 945 969 = true
  · go_enter Tryz.func36, Tryz.ntmps36
    go_wp2_with (go_at_call 54; refine (within_any _ _ _ _).mono ?_; rintro e w1 ⟨rfl, rfl⟩)
    go_ret
    exact ⟨by simp [smallB, g3, g4, g5, g6, h7], rfl⟩
  have g7 : wthn c 945 969 = false := by simpa using h7
  clear h7
  go_enter Tryz.func36, Tryz.ntmps36
  go_wp2_with (go_at_call 54; refine (within_any _ _ _ _).mono ?_; rintro e w1 ⟨rfl, rfl⟩)
  go_ret
  exact ⟨by simp [smallB, g3, g4, g5, g6, g7], rfl⟩

/-- isLarge. -/
def largeB (c : Int) : Bool := wthn c 65 90 || wthn c 192 214 || wthn c 216 222 || (wthn c 913 937 && (c != 930))

set_option maxHeartbeats 4000000 in
theorem largeB_any (c : Int) (w : World) :
    Calls Tryz.prog 37 #[.int .i32 c] w fun e w' => e = .returned (.bool (largeB c)) ∧ w = w' := by
  by_cases h8 : wthn c 65 90 = true
  · go_enter Tryz.func37, Tryz.ntmps37
    go_wp2_with (go_at_call 54; refine (within_any _ _ _ _).mono ?_; rintro e w1 ⟨rfl, rfl⟩)
    go_ret
    exact ⟨by simp [largeB, h8], rfl⟩
  have g8 : wthn c 65 90 = false := by simpa using h8
  clear h8
  by_cases h9 : wthn c 192 214 = true
  · go_enter Tryz.func37, Tryz.ntmps37
    go_wp2_with (go_at_call 54; refine (within_any _ _ _ _).mono ?_; rintro e w1 ⟨rfl, rfl⟩)
    go_ret
    exact ⟨by simp [largeB, g8, h9], rfl⟩
  have g9 : wthn c 192 214 = false := by simpa using h9
  clear h9
  by_cases h10 : wthn c 216 222 = true
  · go_enter Tryz.func37, Tryz.ntmps37
    go_wp2_with (go_at_call 54; refine (within_any _ _ _ _).mono ?_; rintro e w1 ⟨rfl, rfl⟩)
    go_ret
    exact ⟨by simp [largeB, g8, g9, h10], rfl⟩
  have g10 : wthn c 216 222 = false := by simpa using h10
  clear h10
  by_cases h11 : (wthn c 913 937 && (c != 930)) = true
  · have a11 : wthn c 913 937 = true := by simp at h11; exact h11.1
    have b11 : (c != 930) = true := by simp at h11; simpa using h11.2
    clear h11
    go_enter Tryz.func37, Tryz.ntmps37
    go_wp2_with (go_at_call 54; refine (within_any _ _ _ _).mono ?_; rintro e w1 ⟨rfl, rfl⟩)
    go_ret
    exact ⟨by simp [largeB, g8, g9, g10, a11, b11], rfl⟩
  by_cases k11 : wthn c 913 937 = true
  · have g11 : (c != 930) = false := by simp [k11] at h11; simpa using h11
    clear h11
    obtain rfl : c = 930 := by simpa using g11
    go_enter Tryz.func37, Tryz.ntmps37
    go_wp2_with (go_at_call 54; refine (within_any _ _ _ _).mono ?_; rintro e w1 ⟨rfl, rfl⟩)
    go_ret
    exact ⟨by kernel_rfl, rfl⟩
  have g11 : wthn c 913 937 = false := by simpa using k11
  clear h11 k11
  go_enter Tryz.func37, Tryz.ntmps37
  go_wp2_with (go_at_call 54; refine (within_any _ _ _ _).mono ?_; rintro e w1 ⟨rfl, rfl⟩)
  go_ret
  exact ⟨by simp [largeB, g8, g9, g10, g11], rfl⟩

/-- isDecimal. -/
def decB (c : Int) : Bool := wthn c 48 57

set_option maxHeartbeats 4000000 in
theorem decB_any (c : Int) (w : World) :
    Calls Tryz.prog 38 #[.int .i32 c] w fun e w' => e = .returned (.bool (decB c)) ∧ w = w' := by
  by_cases h12 : wthn c 48 57 = true
  · go_enter Tryz.func38, Tryz.ntmps38
    go_wp2_with (go_at_call 54; refine (within_any _ _ _ _).mono ?_; rintro e w1 ⟨rfl, rfl⟩)
    go_ret
    exact ⟨by simp [decB, h12], rfl⟩
  have g12 : wthn c 48 57 = false := by simpa using h12
  clear h12
  go_enter Tryz.func38, Tryz.ntmps38
  go_wp2_with (go_at_call 54; refine (within_any _ _ _ _).mono ?_; rintro e w1 ⟨rfl, rfl⟩)
  go_ret
  exact ⟨by simp [decB, g12], rfl⟩

/-- isQuote. -/
def quotB (c : Int) : Bool := (c == 34) || (c == 39)

set_option maxHeartbeats 4000000 in
theorem quotB_any (c : Int) (w : World) :
    Calls Tryz.prog 40 #[.int .i32 c] w fun e w' => e = .returned (.bool (quotB c)) ∧ w = w' := by
  by_cases h13 : (c == 34) = true
  · go_enter Tryz.func40, Tryz.ntmps40
    go_wp2_with (go_at_call 54; refine (within_any _ _ _ _).mono ?_; rintro e w1 ⟨rfl, rfl⟩)
    go_ret
    exact ⟨by simp [quotB, h13], rfl⟩
  have g13 : (c == 34) = false := by simpa using h13
  clear h13
  by_cases h14 : (c == 39) = true
  · go_enter Tryz.func40, Tryz.ntmps40
    go_wp2_with (go_at_call 54; refine (within_any _ _ _ _).mono ?_; rintro e w1 ⟨rfl, rfl⟩)
    go_ret
    exact ⟨by simp [quotB, g13, h14], rfl⟩
  have g14 : (c == 39) = false := by simpa using h14
  clear h14
  go_enter Tryz.func40, Tryz.ntmps40
  go_wp2_with (go_at_call 54; refine (within_any _ _ _ _).mono ?_; rintro e w1 ⟨rfl, rfl⟩)
  go_ret
  exact ⟨by simp [quotB, g13, g14], rfl⟩

/-- isSymbol. -/
def symbB (c : Int) : Bool := wthn c 33 126 || (wthn c 161 191 && (c != 173)) || (c == 215) || (c == 247) || wthn c 8592 8959

set_option maxHeartbeats 4000000 in
theorem symbB_any (c : Int) (w : World) :
    Calls Tryz.prog 41 #[.int .i32 c] w fun e w' => e = .returned (.bool (symbB c)) ∧ w = w' := by
  by_cases h15 : wthn c 33 126 = true
  · go_enter Tryz.func41, Tryz.ntmps41
    go_wp2_with (go_at_call 54; refine (within_any _ _ _ _).mono ?_; rintro e w1 ⟨rfl, rfl⟩)
    go_ret
    exact ⟨by simp [symbB, h15], rfl⟩
  have g15 : wthn c 33 126 = false := by simpa using h15
  clear h15
  by_cases h16 : (wthn c 161 191 && (c != 173)) = true
  · have a16 : wthn c 161 191 = true := by simp at h16; exact h16.1
    have b16 : (c != 173) = true := by simp at h16; simpa using h16.2
    clear h16
    go_enter Tryz.func41, Tryz.ntmps41
    go_wp2_with (go_at_call 54; refine (within_any _ _ _ _).mono ?_; rintro e w1 ⟨rfl, rfl⟩)
    go_ret
    exact ⟨by simp [symbB, g15, a16, b16], rfl⟩
  by_cases k16 : wthn c 161 191 = true
  · have g16 : (c != 173) = false := by simp [k16] at h16; simpa using h16
    clear h16
    obtain rfl : c = 173 := by simpa using g16
    go_enter Tryz.func41, Tryz.ntmps41
    go_wp2_with (go_at_call 54; refine (within_any _ _ _ _).mono ?_; rintro e w1 ⟨rfl, rfl⟩)
    go_ret
    exact ⟨by kernel_rfl, rfl⟩
  have g16 : wthn c 161 191 = false := by simpa using k16
  clear h16 k16
  by_cases h17 : (c == 215) = true
  · go_enter Tryz.func41, Tryz.ntmps41
    go_wp2_with (go_at_call 54; refine (within_any _ _ _ _).mono ?_; rintro e w1 ⟨rfl, rfl⟩)
    go_ret
    exact ⟨by simp [symbB, g15, g16, h17], rfl⟩
  have g17 : (c == 215) = false := by simpa using h17
  clear h17
  by_cases h18 : (c == 247) = true
  · go_enter Tryz.func41, Tryz.ntmps41
    go_wp2_with (go_at_call 54; refine (within_any _ _ _ _).mono ?_; rintro e w1 ⟨rfl, rfl⟩)
    go_ret
    exact ⟨by simp [symbB, g15, g16, g17, h18], rfl⟩
  have g18 : (c == 247) = false := by simpa using h18
  clear h18
  by_cases h19 : wthn c 8592 8959 = true
  · go_enter Tryz.func41, Tryz.ntmps41
    go_wp2_with (go_at_call 54; refine (within_any _ _ _ _).mono ?_; rintro e w1 ⟨rfl, rfl⟩)
    go_ret
    exact ⟨by simp [symbB, g15, g16, g17, g18, h19], rfl⟩
  have g19 : wthn c 8592 8959 = false := by simpa using h19
  clear h19
  go_enter Tryz.func41, Tryz.ntmps41
  go_wp2_with (go_at_call 54; refine (within_any _ _ _ _).mono ?_; rintro e w1 ⟨rfl, rfl⟩)
  go_ret
  exact ⟨by simp [symbB, g15, g16, g17, g18, g19], rfl⟩

/-- isNothing. -/
def nothB (c : Int) : Bool := decide (c < 160) || (c == 173) || wthn c 55296 57343 || decide (1114111 < c)

set_option maxHeartbeats 4000000 in
theorem nothB_any (c : Int) (w : World) :
    Calls Tryz.prog 42 #[.int .i32 c] w fun e w' => e = .returned (.bool (nothB c)) ∧ w = w' := by
  by_cases h20 : decide (c < 160) = true
  · go_enter Tryz.func42, Tryz.ntmps42
    go_wp2_with (go_at_call 54; refine (within_any _ _ _ _).mono ?_; rintro e w1 ⟨rfl, rfl⟩)
    go_ret
    exact ⟨by simp [nothB, h20], rfl⟩
  have g20 : decide (c < 160) = false := by simpa using h20
  clear h20
  by_cases h21 : (c == 173) = true
  · go_enter Tryz.func42, Tryz.ntmps42
    go_wp2_with (go_at_call 54; refine (within_any _ _ _ _).mono ?_; rintro e w1 ⟨rfl, rfl⟩)
    go_ret
    exact ⟨by simp [nothB, g20, h21], rfl⟩
  have g21 : (c == 173) = false := by simpa using h21
  clear h21
  by_cases h22 : wthn c 55296 57343 = true
  · go_enter Tryz.func42, Tryz.ntmps42
    go_wp2_with (go_at_call 54; refine (within_any _ _ _ _).mono ?_; rintro e w1 ⟨rfl, rfl⟩)
    go_ret
    exact ⟨by simp [nothB, g20, g21, h22], rfl⟩
  have g22 : wthn c 55296 57343 = false := by simpa using h22
  clear h22
  by_cases h23 : decide (1114111 < c) = true
  · go_enter Tryz.func42, Tryz.ntmps42
    go_wp2_with (go_at_call 54; refine (within_any _ _ _ _).mono ?_; rintro e w1 ⟨rfl, rfl⟩)
    go_ret
    exact ⟨by simp [nothB, g20, g21, g22, h23], rfl⟩
  have g23 : decide (1114111 < c) = false := by simpa using h23
  clear h23
  go_enter Tryz.func42, Tryz.ntmps42
  go_wp2_with (go_at_call 54; refine (within_any _ _ _ _).mono ?_; rintro e w1 ⟨rfl, rfl⟩)
  go_ret
  exact ⟨by simp [nothB, g20, g21, g22, g23], rfl⟩

/-- isSpecial. -/
def specB (c : Int) : Bool := (c == 40) || (c == 41) || (c == 44) || (c == 59) || (c == 91) || (c == 93) || (c == 96) || (c == 123) || (c == 125)

set_option maxHeartbeats 4000000 in
theorem specB_any (c : Int) (w : World) :
    Calls Tryz.prog 39 #[.int .i32 c] w fun e w' => e = .returned (.bool (specB c)) ∧ w = w' := by
  by_cases h24 : (c == 40) = true
  · go_enter Tryz.func39, Tryz.ntmps39
    go_wp2_with (go_at_call 54; refine (within_any _ _ _ _).mono ?_; rintro e w1 ⟨rfl, rfl⟩)
    go_ret
    exact ⟨by simp [specB, h24], rfl⟩
  have g24 : (c == 40) = false := by simpa using h24
  clear h24
  by_cases h25 : (c == 41) = true
  · go_enter Tryz.func39, Tryz.ntmps39
    go_wp2_with (go_at_call 54; refine (within_any _ _ _ _).mono ?_; rintro e w1 ⟨rfl, rfl⟩)
    go_ret
    exact ⟨by simp [specB, g24, h25], rfl⟩
  have g25 : (c == 41) = false := by simpa using h25
  clear h25
  by_cases h26 : (c == 44) = true
  · go_enter Tryz.func39, Tryz.ntmps39
    go_wp2_with (go_at_call 54; refine (within_any _ _ _ _).mono ?_; rintro e w1 ⟨rfl, rfl⟩)
    go_ret
    exact ⟨by simp [specB, g24, g25, h26], rfl⟩
  have g26 : (c == 44) = false := by simpa using h26
  clear h26
  by_cases h27 : (c == 59) = true
  · go_enter Tryz.func39, Tryz.ntmps39
    go_wp2_with (go_at_call 54; refine (within_any _ _ _ _).mono ?_; rintro e w1 ⟨rfl, rfl⟩)
    go_ret
    exact ⟨by simp [specB, g24, g25, g26, h27], rfl⟩
  have g27 : (c == 59) = false := by simpa using h27
  clear h27
  by_cases h28 : (c == 91) = true
  · go_enter Tryz.func39, Tryz.ntmps39
    go_wp2_with (go_at_call 54; refine (within_any _ _ _ _).mono ?_; rintro e w1 ⟨rfl, rfl⟩)
    go_ret
    exact ⟨by simp [specB, g24, g25, g26, g27, h28], rfl⟩
  have g28 : (c == 91) = false := by simpa using h28
  clear h28
  by_cases h29 : (c == 93) = true
  · go_enter Tryz.func39, Tryz.ntmps39
    go_wp2_with (go_at_call 54; refine (within_any _ _ _ _).mono ?_; rintro e w1 ⟨rfl, rfl⟩)
    go_ret
    exact ⟨by simp [specB, g24, g25, g26, g27, g28, h29], rfl⟩
  have g29 : (c == 93) = false := by simpa using h29
  clear h29
  by_cases h30 : (c == 96) = true
  · go_enter Tryz.func39, Tryz.ntmps39
    go_wp2_with (go_at_call 54; refine (within_any _ _ _ _).mono ?_; rintro e w1 ⟨rfl, rfl⟩)
    go_ret
    exact ⟨by simp [specB, g24, g25, g26, g27, g28, g29, h30], rfl⟩
  have g30 : (c == 96) = false := by simpa using h30
  clear h30
  by_cases h31 : (c == 123) = true
  · go_enter Tryz.func39, Tryz.ntmps39
    go_wp2_with (go_at_call 54; refine (within_any _ _ _ _).mono ?_; rintro e w1 ⟨rfl, rfl⟩)
    go_ret
    exact ⟨by simp [specB, g24, g25, g26, g27, g28, g29, g30, h31], rfl⟩
  have g31 : (c == 123) = false := by simpa using h31
  clear h31
  by_cases h32 : (c == 125) = true
  · go_enter Tryz.func39, Tryz.ntmps39
    go_wp2_with (go_at_call 54; refine (within_any _ _ _ _).mono ?_; rintro e w1 ⟨rfl, rfl⟩)
    go_ret
    exact ⟨by simp [specB, g24, g25, g26, g27, g28, g29, g30, g31, h32], rfl⟩
  have g32 : (c == 125) = false := by simpa using h32
  clear h32
  go_enter Tryz.func39, Tryz.ntmps39
  go_wp2_with (go_at_call 54; refine (within_any _ _ _ _).mono ?_; rintro e w1 ⟨rfl, rfl⟩)
  go_ret
  exact ⟨by simp [specB, g24, g25, g26, g27, g28, g29, g30, g31, g32], rfl⟩

/-- The class of a rune. -/
def classI (c : Int) : Int :=
  if blankB c = true then 1 else if smallB c = true then 2 else if largeB c = true then 3 else if decB c = true then 4 else if specB c = true then 6 else if quotB c = true then 7 else if symbB c = true then 5 else if nothB c = true then 0 else 8
theorem class_any (c : Int) (w : World) :
    Calls Tryz.prog 20 #[.int .i32 c] w fun e w' => e = .returned (.int .i64 (classI c)) ∧ w = w' := by
  go_enter Tryz.func20, Tryz.ntmps20
  go_wp2_with (first
    | (go_at_call 35; refine (blankB_any _ _).mono ?_; rintro e w1 ⟨rfl, rfl⟩)
    | (go_at_call 36; refine (smallB_any _ _).mono ?_; rintro e w1 ⟨rfl, rfl⟩)
    | (go_at_call 37; refine (largeB_any _ _).mono ?_; rintro e w1 ⟨rfl, rfl⟩)
    | (go_at_call 38; refine (decB_any _ _).mono ?_; rintro e w1 ⟨rfl, rfl⟩)
    | (go_at_call 39; refine (specB_any _ _).mono ?_; rintro e w1 ⟨rfl, rfl⟩)
    | (go_at_call 40; refine (quotB_any _ _).mono ?_; rintro e w1 ⟨rfl, rfl⟩)
    | (go_at_call 41; refine (symbB_any _ _).mono ?_; rintro e w1 ⟨rfl, rfl⟩)
    | (go_at_call 42; refine (nothB_any _ _).mono ?_; rintro e w1 ⟨rfl, rfl⟩))
  all_goals go_ret
  all_goals exact ⟨by simp [classI, *], rfl⟩

/-- What a digit is worth; -1: none. -/
def digV (c : Int) : Int := if wthn c 48 57 = true then c - 48 else if wthn c 97 102 = true then c - 87 else if wthn c 65 70 = true then c - 55 else -1
theorem digV_bd (c : Int) : -1 ≤ digV c ∧ digV c ≤ 15 := by
  unfold digV wthn
  simp only [Bool.and_eq_true, decide_eq_true_eq]
  split
  · omega
  · split
    · omega
    · split <;> omega
theorem wthn_iff (c a b : Int) : wthn c a b = true ↔ a ≤ c ∧ c ≤ b := by simp [wthn]
theorem digitValue_any (c : Int) (w : World) :
    Calls Tryz.prog 133 #[.int .i32 c] w fun e w' => e = .returned (.int .i64 (digV c)) ∧ w = w' := by
  by_cases h1 : 48 ≤ c ∧ c ≤ 57
  · obtain ⟨a1, b1⟩ := h1
    go_enter Tryz.func133, Tryz.ntmps133
    go_wp2
    go_ret
    exact ⟨by simp [digV, wthn, *], rfl⟩
  · by_cases h2 : 97 ≤ c ∧ c ≤ 102
    · obtain ⟨a1, b1⟩ := h2
      go_enter Tryz.func133, Tryz.ntmps133
      go_wp2
      go_ret
      exact ⟨by simp [digV, wthn] <;> omega, rfl⟩
    · by_cases h3 : 65 ≤ c ∧ c ≤ 70
      · obtain ⟨a1, b1⟩ := h3
        go_enter Tryz.func133, Tryz.ntmps133
        go_wp2
        go_ret
        exact ⟨by simp [digV, wthn] <;> omega, rfl⟩
      · have g1 : wthn c 48 57 = false := by rw [Bool.eq_false_iff]; intro h; exact h1 ((wthn_iff _ _ _).1 h)
        have g2 : wthn c 97 102 = false := by rw [Bool.eq_false_iff]; intro h; exact h2 ((wthn_iff _ _ _).1 h)
        have g3 : wthn c 65 70 = false := by rw [Bool.eq_false_iff]; intro h; exact h3 ((wthn_iff _ _ _).1 h)
        clear h1 h2 h3
        go_enter Tryz.func133, Tryz.ntmps133
        go_wp2_with (go_at_call 54; refine (within_any _ _ _ _).mono ?_; rintro e w1 ⟨rfl, rfl⟩)
        go_ret
        exact ⟨by simp [digV, g1, g2, g3], rfl⟩

/-- What c is worth as a digit to a base. -/
def digitI (c b : Int) : Int := if b < 2 ∨ 16 < b ∨ b ≤ digV c then -1 else digV c
theorem digit_any (c b : Int) (w : World) :
    Calls Tryz.prog 122 #[.int .i32 c, .int .i64 b] w fun e w' => e = .returned (.int .i64 (digitI c b)) ∧ w = w' := by
  have hb := digV_bd c
  by_cases h1 : b < 2
  · go_enter Tryz.func122, Tryz.ntmps122
    go_wp2_with (go_at_call 133; refine (digitValue_any _ _).mono ?_; rintro e w1 ⟨rfl, rfl⟩)
    go_ret
    exact ⟨by simp [digitI] <;> omega, rfl⟩
  by_cases h2 : 16 < b
  · go_enter Tryz.func122, Tryz.ntmps122
    go_wp2_with (go_at_call 133; refine (digitValue_any _ _).mono ?_; rintro e w1 ⟨rfl, rfl⟩)
    go_ret
    exact ⟨by simp [digitI] <;> omega, rfl⟩
  by_cases h3 : b ≤ digV c
  · go_enter Tryz.func122, Tryz.ntmps122
    go_wp2_with (go_at_call 133; refine (digitValue_any _ _).mono ?_; rintro e w1 ⟨rfl, rfl⟩)
    go_ret
    exact ⟨by simp [digitI] <;> omega, rfl⟩
  go_enter Tryz.func122, Tryz.ntmps122
  go_wp2_with (go_at_call 133; refine (digitValue_any _ _).mono ?_; rintro e w1 ⟨rfl, rfl⟩)
  go_ret
  exact ⟨by simp [digitI] <;> omega, rfl⟩

end Go.Proofs.YtmgclgojmckfhaaGreatDoor.Gly
/-
  A seat that holds both classes and digits: the contracts of both are XGlyLow's.
-/

/-
  A seat that holds both classes and digits: the contracts of both are XGlyLow's.
-/

