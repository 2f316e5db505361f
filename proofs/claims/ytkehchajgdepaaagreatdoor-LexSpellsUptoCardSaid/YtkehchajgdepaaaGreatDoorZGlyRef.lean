/-
  The contracts of the document's own at and Next: at answers the byte, or -1; Next answers the rune at a byte and its width, as a decoder of UTF-8 does. Condition: the string has at most 2^50 bytes.
-/
import Derived.Test.YtkehchajgdepaaaGreatDoorZGlyA
import Derived.Test.YtkehchajgdepaaaGreatDoorRows
import Derived.WalkKit
import Derived.LoopTactic
import Derived.Handy
import Derived.WalkLawsBesides
import Derived.WalkSpells
import Derived.Laws.RangeAny
import Derived.Lib.Hide
import Derived.Outline
namespace Go.Proofs.YtkehchajgdepaaaGreatDoor.Gly
open Go.RowKit
set_option linter.unusedSimpArgs false

/-- The byte at a place; -1: none. -/
def byteI (s : ByteArray) (i : Int) : Int := if 0 ≤ i ∧ i < s.size then (((s.get! i.toNat).toNat : Nat) : Int) else -1
theorem byteI_bd (s : ByteArray) (i : Int) : -1 ≤ byteI s i ∧ byteI s i ≤ 255 := by
  unfold byteI
  split
  · have := (s.get! i.toNat).toNat_lt
    omega
  · omega
theorem byteI_out (s : ByteArray) (i : Int) (h : ¬ (0 ≤ i ∧ i < s.size)) : byteI s i = -1 := by unfold byteI; rw [if_neg h]
theorem byteI_get (s : ByteArray) (n : Nat) (h : n < s.size) : byteI s (n : Int) = (((s.get! n).toNat : Nat) : Int) := by
  unfold byteI
  rw [if_pos ⟨by omega, by omega⟩, Int.toNat_natCast]
theorem byteI_in (s : ByteArray) (n : Nat) (h : n < s.size) : byteI s (n : Int) = ((s[n].toNat : Nat) : Int) := by
  have := get_at s n h
  rw [Nat.add_zero] at this
  rw [byteI_get s n h, this]
theorem refat_any (s : ByteArray) (i : Int) (_hs : s.size ≤ 1125899906842624) (w : World) :
    Calls Tryz.prog 65 #[.string s, .int .i64 i] w fun e w' => e = .returned (.int .i64 (byteI s i)) ∧ w = w' := by
  by_cases h1 : i < 0
  · have hr : Hid (byteI s i = -1) := byteI_out s i (by omega)
    go_enter Tryz.func65, Tryz.ntmps65
    go_wp2
    go_ret
    exact ⟨by rw [hr.out]; rfl, rfl⟩
  · by_cases h2 : (s.size : Int) ≤ i
    · have hr : Hid (byteI s i = -1) := byteI_out s i (by omega)
      go_enter Tryz.func65, Tryz.ntmps65
      go_wp2
      go_ret
      exact ⟨by rw [hr.out]; rfl, rfl⟩
    · obtain ⟨n, rfl⟩ := Int.eq_ofNat_of_zero_le (a := i) (by omega)
      have hn : n < s.size := by omega
      have hr : Hid (byteI s (n : Int) = ((s[n].toNat : Nat) : Int)) := byteI_in s n hn
      clear h1 h2
      go_enter Tryz.func65, Tryz.ntmps65
      go_wp2
      go_ret
      have hlt := s[n].toNat_lt
      have hwr : wrap64 ((s[n].toNat : Nat) : Int) = ((s[n].toNat : Nat) : Int) := IntWalk.wrap64_in _ ⟨by omega, by omega⟩
      exact ⟨by rw [hr.out]; simp [hwr], rfl⟩

/-- The rune and its width out of four bytes, a byte that is not there being -1. -/
def fourI (a b c d : Int) : Int × Int :=
  if a < 0 then (0, 0)
  else if a < 128 then (a, 1)
  else if 194 ≤ a ∧ a ≤ 223 then
    (if b < 128 ∨ 191 < b then (65533, 1) else ((a - 192) * 64 + b - 128, 2))
  else if 224 ≤ a ∧ a ≤ 239 then
    (if b < 128 ∨ 191 < b then (65533, 1) else if c < 128 ∨ 191 < c then (65533, 1)
     else if ((a - 224) * 64 + b - 128) * 64 + c - 128 < 2048 ∨ (55296 ≤ ((a - 224) * 64 + b - 128) * 64 + c - 128 ∧ ((a - 224) * 64 + b - 128) * 64 + c - 128 ≤ 57343) then (65533, 1)
     else (((a - 224) * 64 + b - 128) * 64 + c - 128, 3))
  else if 240 ≤ a ∧ a ≤ 244 then
    (if b < 128 ∨ 191 < b then (65533, 1) else if c < 128 ∨ 191 < c then (65533, 1) else if d < 128 ∨ 191 < d then (65533, 1)
     else if (((a - 240) * 64 + b - 128) * 64 + c - 128) * 64 + d - 128 < 65536 ∨ 1114111 < (((a - 240) * 64 + b - 128) * 64 + c - 128) * 64 + d - 128 then (65533, 1)
     else ((((a - 240) * 64 + b - 128) * 64 + c - 128) * 64 + d - 128, 4))
  else (65533, 1)
theorem byteI_at (s : ByteArray) (n k : Nat) : (n + k < s.size ∧ byteI s ((n : Int) + (k : Int)) = (((s.get! (n + k)).toNat : Nat) : Int)) ∨ (¬ n + k < s.size ∧ byteI s ((n : Int) + (k : Int)) = -1) := by
  by_cases h : n + k < s.size
  · left
    refine ⟨h, ?_⟩
    rw [← byteI_get s (n + k) h]
    rfl
  · right
    exact ⟨h, byteI_out s _ (by omega)⟩
set_option maxRecDepth 100000 in
set_option maxHeartbeats 4000000 in
theorem four_plain (n a b c d : Nat) (h0 : 1 ≤ n) (_ha : a < 256) (hb : b < 256) (hc : c < 256) (_hd : d < 256) (B C D : Int)
    (eB : (1 < n ∧ B = b) ∨ (¬ 1 < n ∧ B = -1)) (eC : (2 < n ∧ C = c) ∨ (¬ 2 < n ∧ C = -1)) (eD : (3 < n ∧ D = d) ∨ (¬ 3 < n ∧ D = -1)) :
    fourI (a : Int) B C D = ((((Lib.decodeN n a b c d).1 : Nat) : Int), (((Lib.decodeN n a b c d).2 : Nat) : Int)) := by
  unfold fourI Lib.decodeN
  repeat' split
  all_goals first | (exfalso; omega) | (apply Prod.ext <;> simp only <;> omega)
theorem runeAt_four (s : ByteArray) (i : Int) : runeAt s i = fourI (byteI s i) (byteI s (i + 1)) (byteI s (i + 2)) (byteI s (i + 3)) := by
  by_cases h : 0 ≤ i ∧ i < s.size
  · obtain ⟨n, rfl⟩ := Int.eq_ofNat_of_zero_le h.1
    have hn : n < s.size := by omega
    rw [runeAt_in s n hn, Lib.decode_at, byteI_get s n hn]
    symm
    have k1 := byteI_at s n 1
    have k2 := byteI_at s n 2
    have k3 := byteI_at s n 3
    refine four_plain (s.size - n) _ _ _ _ (by omega) (UInt8.toNat_lt _) (UInt8.toNat_lt _) (UInt8.toNat_lt _) (UInt8.toNat_lt _) _ _ _ ?_ ?_ ?_
    · rcases k1 with ⟨x, y⟩ | ⟨x, y⟩
      · exact .inl ⟨by omega, y⟩
      · exact .inr ⟨by omega, y⟩
    · rcases k2 with ⟨x, y⟩ | ⟨x, y⟩
      · exact .inl ⟨by omega, y⟩
      · exact .inr ⟨by omega, y⟩
    · rcases k3 with ⟨x, y⟩ | ⟨x, y⟩
      · exact .inl ⟨by omega, y⟩
      · exact .inr ⟨by omega, y⟩
  · rw [byteI_out s i h]
    unfold runeAt
    rw [if_neg h]
    rfl

set_option maxHeartbeats 1000000 in
theorem rn_out (s : ByteArray) (i : Int) (hs : s.size ≤ 1125899906842624) (q0 : byteI s i < 0) (w : World) :
    Calls Tryz.prog 37 #[.string s, .int .i64 i] w fun e w' => e = .returned (.tuple #[.int .i64 0, .int .i64 0]) ∧ w = w' := by
  have b0 := byteI_bd s i
  have b1 := byteI_bd s (i + 1)
  have b2 := byteI_bd s (i + 2)
  have b3 := byteI_bd s (i + 3)
  obtain ⟨b00, b01⟩ := b0
  obtain ⟨b10, b11⟩ := b1
  obtain ⟨b20, b21⟩ := b2
  obtain ⟨b30, b31⟩ := b3
  go_enter Tryz.func37, Tryz.ntmps37
  go_wp2_with (go_at_call 65; refine (refat_any _ _ (by omega) _).mono ?_; rintro e w1 ⟨rfl, rfl⟩)
  all_goals go_ret2
  all_goals exact ⟨rfl, rfl⟩

set_option maxHeartbeats 1000000 in
theorem rn_ascii (s : ByteArray) (i : Int) (hs : s.size ≤ 1125899906842624) (q0 : 0 ≤ byteI s i) (q1 : byteI s i < 128) (w : World) :
    Calls Tryz.prog 37 #[.string s, .int .i64 i] w fun e w' => e = .returned (.tuple #[.int .i64 (byteI s i), .int .i64 1]) ∧ w = w' := by
  have b0 := byteI_bd s i
  have b1 := byteI_bd s (i + 1)
  have b2 := byteI_bd s (i + 2)
  have b3 := byteI_bd s (i + 3)
  obtain ⟨b00, b01⟩ := b0
  obtain ⟨b10, b11⟩ := b1
  obtain ⟨b20, b21⟩ := b2
  obtain ⟨b30, b31⟩ := b3
  go_enter Tryz.func37, Tryz.ntmps37
  go_wp2_with (go_at_call 65; refine (refat_any _ _ (by omega) _).mono ?_; rintro e w1 ⟨rfl, rfl⟩)
  all_goals go_ret2
  all_goals exact ⟨rfl, rfl⟩

set_option maxHeartbeats 1000000 in
theorem rn_lead1 (s : ByteArray) (i : Int) (hs : s.size ≤ 1125899906842624) (q0 : 128 ≤ byteI s i) (q1 : byteI s i < 194) (w : World) :
    Calls Tryz.prog 37 #[.string s, .int .i64 i] w fun e w' => e = .returned (.tuple #[.int .i64 65533, .int .i64 1]) ∧ w = w' := by
  have b0 := byteI_bd s i
  have b1 := byteI_bd s (i + 1)
  have b2 := byteI_bd s (i + 2)
  have b3 := byteI_bd s (i + 3)
  obtain ⟨b00, b01⟩ := b0
  obtain ⟨b10, b11⟩ := b1
  obtain ⟨b20, b21⟩ := b2
  obtain ⟨b30, b31⟩ := b3
  go_enter Tryz.func37, Tryz.ntmps37
  go_wp2_with (go_at_call 65; refine (refat_any _ _ (by omega) _).mono ?_; rintro e w1 ⟨rfl, rfl⟩)
  all_goals go_ret2
  all_goals exact ⟨rfl, rfl⟩

set_option maxHeartbeats 1000000 in
theorem rn_lead2 (s : ByteArray) (i : Int) (hs : s.size ≤ 1125899906842624) (q0 : 244 < byteI s i) (w : World) :
    Calls Tryz.prog 37 #[.string s, .int .i64 i] w fun e w' => e = .returned (.tuple #[.int .i64 65533, .int .i64 1]) ∧ w = w' := by
  have b0 := byteI_bd s i
  have b1 := byteI_bd s (i + 1)
  have b2 := byteI_bd s (i + 2)
  have b3 := byteI_bd s (i + 3)
  obtain ⟨b00, b01⟩ := b0
  obtain ⟨b10, b11⟩ := b1
  obtain ⟨b20, b21⟩ := b2
  obtain ⟨b30, b31⟩ := b3
  go_enter Tryz.func37, Tryz.ntmps37
  go_wp2_with (go_at_call 65; refine (refat_any _ _ (by omega) _).mono ?_; rintro e w1 ⟨rfl, rfl⟩)
  all_goals go_ret2
  all_goals exact ⟨rfl, rfl⟩

set_option maxHeartbeats 1000000 in
theorem rn_two_1lo (s : ByteArray) (i : Int) (hs : s.size ≤ 1125899906842624) (q0 : 0 ≤ i) (q1 : i < 1125899906842624) (q2 : 194 ≤ byteI s i) (q3 : byteI s i ≤ 223) (q4 : byteI s (i + 1) < 128) (w : World) :
    Calls Tryz.prog 37 #[.string s, .int .i64 i] w fun e w' => e = .returned (.tuple #[.int .i64 65533, .int .i64 1]) ∧ w = w' := by
  have b0 := byteI_bd s i
  have b1 := byteI_bd s (i + 1)
  have b2 := byteI_bd s (i + 2)
  have b3 := byteI_bd s (i + 3)
  obtain ⟨b00, b01⟩ := b0
  obtain ⟨b10, b11⟩ := b1
  obtain ⟨b20, b21⟩ := b2
  obtain ⟨b30, b31⟩ := b3
  go_enter Tryz.func37, Tryz.ntmps37
  go_wp2_with (go_at_call 65; refine (refat_any _ _ (by omega) _).mono ?_; rintro e w1 ⟨rfl, rfl⟩)
  refine wp_loop_rounds 2 ?_
  repeat any_goals (rw [rounds_succ]; go_wp2_with (go_at_call 65; refine (refat_any _ _ (by omega) _).mono ?_; rintro e w1 ⟨rfl, rfl⟩))
  all_goals go_ret2
  all_goals exact ⟨rfl, rfl⟩

set_option maxHeartbeats 1000000 in
theorem rn_two_1hi (s : ByteArray) (i : Int) (hs : s.size ≤ 1125899906842624) (q0 : 0 ≤ i) (q1 : i < 1125899906842624) (q2 : 194 ≤ byteI s i) (q3 : byteI s i ≤ 223) (q4 : 191 < byteI s (i + 1)) (w : World) :
    Calls Tryz.prog 37 #[.string s, .int .i64 i] w fun e w' => e = .returned (.tuple #[.int .i64 65533, .int .i64 1]) ∧ w = w' := by
  have b0 := byteI_bd s i
  have b1 := byteI_bd s (i + 1)
  have b2 := byteI_bd s (i + 2)
  have b3 := byteI_bd s (i + 3)
  obtain ⟨b00, b01⟩ := b0
  obtain ⟨b10, b11⟩ := b1
  obtain ⟨b20, b21⟩ := b2
  obtain ⟨b30, b31⟩ := b3
  go_enter Tryz.func37, Tryz.ntmps37
  go_wp2_with (go_at_call 65; refine (refat_any _ _ (by omega) _).mono ?_; rintro e w1 ⟨rfl, rfl⟩)
  refine wp_loop_rounds 2 ?_
  repeat any_goals (rw [rounds_succ]; go_wp2_with (go_at_call 65; refine (refat_any _ _ (by omega) _).mono ?_; rintro e w1 ⟨rfl, rfl⟩))
  all_goals go_ret2
  all_goals exact ⟨rfl, rfl⟩

set_option maxHeartbeats 1000000 in
theorem rn_two_ok (s : ByteArray) (i : Int) (hs : s.size ≤ 1125899906842624) (q0 : 0 ≤ i) (q1 : i < 1125899906842624) (q2 : 194 ≤ byteI s i) (q3 : byteI s i ≤ 223) (q4 : 128 ≤ byteI s (i + 1)) (q5 : byteI s (i + 1) ≤ 191) (w : World) :
    Calls Tryz.prog 37 #[.string s, .int .i64 i] w fun e w' => e = .returned (.tuple #[.int .i64 ((byteI s i - 192) * 64 + byteI s (i + 1) - 128), .int .i64 2]) ∧ w = w' := by
  have b0 := byteI_bd s i
  have b1 := byteI_bd s (i + 1)
  have b2 := byteI_bd s (i + 2)
  have b3 := byteI_bd s (i + 3)
  obtain ⟨b00, b01⟩ := b0
  obtain ⟨b10, b11⟩ := b1
  obtain ⟨b20, b21⟩ := b2
  obtain ⟨b30, b31⟩ := b3
  go_enter Tryz.func37, Tryz.ntmps37
  go_wp2_with (go_at_call 65; refine (refat_any _ _ (by omega) _).mono ?_; rintro e w1 ⟨rfl, rfl⟩)
  refine wp_loop_rounds 2 ?_
  repeat any_goals (rw [rounds_succ]; go_wp2_with (go_at_call 65; refine (refat_any _ _ (by omega) _).mono ?_; rintro e w1 ⟨rfl, rfl⟩))
  all_goals go_ret2
  all_goals exact ⟨rfl, rfl⟩

set_option maxHeartbeats 1000000 in
theorem rn_three_1lo (s : ByteArray) (i : Int) (hs : s.size ≤ 1125899906842624) (q0 : 0 ≤ i) (q1 : i < 1125899906842624) (q2 : 224 ≤ byteI s i) (q3 : byteI s i ≤ 239) (q4 : byteI s (i + 1) < 128) (w : World) :
    Calls Tryz.prog 37 #[.string s, .int .i64 i] w fun e w' => e = .returned (.tuple #[.int .i64 65533, .int .i64 1]) ∧ w = w' := by
  have b0 := byteI_bd s i
  have b1 := byteI_bd s (i + 1)
  have b2 := byteI_bd s (i + 2)
  have b3 := byteI_bd s (i + 3)
  obtain ⟨b00, b01⟩ := b0
  obtain ⟨b10, b11⟩ := b1
  obtain ⟨b20, b21⟩ := b2
  obtain ⟨b30, b31⟩ := b3
  go_enter Tryz.func37, Tryz.ntmps37
  go_wp2_with (go_at_call 65; refine (refat_any _ _ (by omega) _).mono ?_; rintro e w1 ⟨rfl, rfl⟩)
  refine wp_loop_rounds 3 ?_
  repeat any_goals (rw [rounds_succ]; go_wp2_with (go_at_call 65; refine (refat_any _ _ (by omega) _).mono ?_; rintro e w1 ⟨rfl, rfl⟩))
  all_goals go_ret2
  all_goals exact ⟨rfl, rfl⟩

set_option maxHeartbeats 1000000 in
theorem rn_three_1hi (s : ByteArray) (i : Int) (hs : s.size ≤ 1125899906842624) (q0 : 0 ≤ i) (q1 : i < 1125899906842624) (q2 : 224 ≤ byteI s i) (q3 : byteI s i ≤ 239) (q4 : 191 < byteI s (i + 1)) (w : World) :
    Calls Tryz.prog 37 #[.string s, .int .i64 i] w fun e w' => e = .returned (.tuple #[.int .i64 65533, .int .i64 1]) ∧ w = w' := by
  have b0 := byteI_bd s i
  have b1 := byteI_bd s (i + 1)
  have b2 := byteI_bd s (i + 2)
  have b3 := byteI_bd s (i + 3)
  obtain ⟨b00, b01⟩ := b0
  obtain ⟨b10, b11⟩ := b1
  obtain ⟨b20, b21⟩ := b2
  obtain ⟨b30, b31⟩ := b3
  go_enter Tryz.func37, Tryz.ntmps37
  go_wp2_with (go_at_call 65; refine (refat_any _ _ (by omega) _).mono ?_; rintro e w1 ⟨rfl, rfl⟩)
  refine wp_loop_rounds 3 ?_
  repeat any_goals (rw [rounds_succ]; go_wp2_with (go_at_call 65; refine (refat_any _ _ (by omega) _).mono ?_; rintro e w1 ⟨rfl, rfl⟩))
  all_goals go_ret2
  all_goals exact ⟨rfl, rfl⟩

set_option maxHeartbeats 1000000 in
theorem rn_three_2lo (s : ByteArray) (i : Int) (hs : s.size ≤ 1125899906842624) (q0 : 0 ≤ i) (q1 : i < 1125899906842624) (q2 : 224 ≤ byteI s i) (q3 : byteI s i ≤ 239) (q4 : 128 ≤ byteI s (i + 1)) (q5 : byteI s (i + 1) ≤ 191) (q6 : byteI s (i + 2) < 128) (w : World) :
    Calls Tryz.prog 37 #[.string s, .int .i64 i] w fun e w' => e = .returned (.tuple #[.int .i64 65533, .int .i64 1]) ∧ w = w' := by
  have b0 := byteI_bd s i
  have b1 := byteI_bd s (i + 1)
  have b2 := byteI_bd s (i + 2)
  have b3 := byteI_bd s (i + 3)
  obtain ⟨b00, b01⟩ := b0
  obtain ⟨b10, b11⟩ := b1
  obtain ⟨b20, b21⟩ := b2
  obtain ⟨b30, b31⟩ := b3
  go_enter Tryz.func37, Tryz.ntmps37
  go_wp2_with (go_at_call 65; refine (refat_any _ _ (by omega) _).mono ?_; rintro e w1 ⟨rfl, rfl⟩)
  refine wp_loop_rounds 3 ?_
  repeat any_goals (rw [rounds_succ]; go_wp2_with (go_at_call 65; refine (refat_any _ _ (by omega) _).mono ?_; rintro e w1 ⟨rfl, rfl⟩))
  all_goals go_ret2
  all_goals exact ⟨rfl, rfl⟩

set_option maxHeartbeats 1000000 in
theorem rn_three_2hi (s : ByteArray) (i : Int) (hs : s.size ≤ 1125899906842624) (q0 : 0 ≤ i) (q1 : i < 1125899906842624) (q2 : 224 ≤ byteI s i) (q3 : byteI s i ≤ 239) (q4 : 128 ≤ byteI s (i + 1)) (q5 : byteI s (i + 1) ≤ 191) (q6 : 191 < byteI s (i + 2)) (w : World) :
    Calls Tryz.prog 37 #[.string s, .int .i64 i] w fun e w' => e = .returned (.tuple #[.int .i64 65533, .int .i64 1]) ∧ w = w' := by
  have b0 := byteI_bd s i
  have b1 := byteI_bd s (i + 1)
  have b2 := byteI_bd s (i + 2)
  have b3 := byteI_bd s (i + 3)
  obtain ⟨b00, b01⟩ := b0
  obtain ⟨b10, b11⟩ := b1
  obtain ⟨b20, b21⟩ := b2
  obtain ⟨b30, b31⟩ := b3
  go_enter Tryz.func37, Tryz.ntmps37
  go_wp2_with (go_at_call 65; refine (refat_any _ _ (by omega) _).mono ?_; rintro e w1 ⟨rfl, rfl⟩)
  refine wp_loop_rounds 3 ?_
  repeat any_goals (rw [rounds_succ]; go_wp2_with (go_at_call 65; refine (refat_any _ _ (by omega) _).mono ?_; rintro e w1 ⟨rfl, rfl⟩))
  all_goals go_ret2
  all_goals exact ⟨rfl, rfl⟩

set_option maxHeartbeats 1000000 in
theorem rn_three_small (s : ByteArray) (i : Int) (hs : s.size ≤ 1125899906842624) (q0 : 0 ≤ i) (q1 : i < 1125899906842624) (q2 : 224 ≤ byteI s i) (q3 : byteI s i ≤ 239) (q4 : 128 ≤ byteI s (i + 1)) (q5 : byteI s (i + 1) ≤ 191) (q6 : 128 ≤ byteI s (i + 2)) (q7 : byteI s (i + 2) ≤ 191) (q8 : (((byteI s i - 224) * 64 + byteI s (i + 1) - 128) * 64 + byteI s (i + 2) - 128) < 2048) (w : World) :
    Calls Tryz.prog 37 #[.string s, .int .i64 i] w fun e w' => e = .returned (.tuple #[.int .i64 65533, .int .i64 1]) ∧ w = w' := by
  have b0 := byteI_bd s i
  have b1 := byteI_bd s (i + 1)
  have b2 := byteI_bd s (i + 2)
  have b3 := byteI_bd s (i + 3)
  obtain ⟨b00, b01⟩ := b0
  obtain ⟨b10, b11⟩ := b1
  obtain ⟨b20, b21⟩ := b2
  obtain ⟨b30, b31⟩ := b3
  go_enter Tryz.func37, Tryz.ntmps37
  go_wp2_with (go_at_call 65; refine (refat_any _ _ (by omega) _).mono ?_; rintro e w1 ⟨rfl, rfl⟩)
  refine wp_loop_rounds 3 ?_
  repeat any_goals (rw [rounds_succ]; go_wp2_with (go_at_call 65; refine (refat_any _ _ (by omega) _).mono ?_; rintro e w1 ⟨rfl, rfl⟩))
  all_goals go_ret2
  all_goals exact ⟨rfl, rfl⟩

set_option maxHeartbeats 1000000 in
theorem rn_three_sur (s : ByteArray) (i : Int) (hs : s.size ≤ 1125899906842624) (q0 : 0 ≤ i) (q1 : i < 1125899906842624) (q2 : 224 ≤ byteI s i) (q3 : byteI s i ≤ 239) (q4 : 128 ≤ byteI s (i + 1)) (q5 : byteI s (i + 1) ≤ 191) (q6 : 128 ≤ byteI s (i + 2)) (q7 : byteI s (i + 2) ≤ 191) (q8 : 55296 ≤ (((byteI s i - 224) * 64 + byteI s (i + 1) - 128) * 64 + byteI s (i + 2) - 128)) (q9 : (((byteI s i - 224) * 64 + byteI s (i + 1) - 128) * 64 + byteI s (i + 2) - 128) ≤ 57343) (w : World) :
    Calls Tryz.prog 37 #[.string s, .int .i64 i] w fun e w' => e = .returned (.tuple #[.int .i64 65533, .int .i64 1]) ∧ w = w' := by
  have b0 := byteI_bd s i
  have b1 := byteI_bd s (i + 1)
  have b2 := byteI_bd s (i + 2)
  have b3 := byteI_bd s (i + 3)
  obtain ⟨b00, b01⟩ := b0
  obtain ⟨b10, b11⟩ := b1
  obtain ⟨b20, b21⟩ := b2
  obtain ⟨b30, b31⟩ := b3
  go_enter Tryz.func37, Tryz.ntmps37
  go_wp2_with (go_at_call 65; refine (refat_any _ _ (by omega) _).mono ?_; rintro e w1 ⟨rfl, rfl⟩)
  refine wp_loop_rounds 3 ?_
  repeat any_goals (rw [rounds_succ]; go_wp2_with (go_at_call 65; refine (refat_any _ _ (by omega) _).mono ?_; rintro e w1 ⟨rfl, rfl⟩))
  all_goals go_ret2
  all_goals exact ⟨rfl, rfl⟩

set_option maxHeartbeats 1000000 in
theorem rn_three_ok1 (s : ByteArray) (i : Int) (hs : s.size ≤ 1125899906842624) (q0 : 0 ≤ i) (q1 : i < 1125899906842624) (q2 : 224 ≤ byteI s i) (q3 : byteI s i ≤ 239) (q4 : 128 ≤ byteI s (i + 1)) (q5 : byteI s (i + 1) ≤ 191) (q6 : 128 ≤ byteI s (i + 2)) (q7 : byteI s (i + 2) ≤ 191) (q8 : 2048 ≤ (((byteI s i - 224) * 64 + byteI s (i + 1) - 128) * 64 + byteI s (i + 2) - 128)) (q9 : (((byteI s i - 224) * 64 + byteI s (i + 1) - 128) * 64 + byteI s (i + 2) - 128) < 55296) (w : World) :
    Calls Tryz.prog 37 #[.string s, .int .i64 i] w fun e w' => e = .returned (.tuple #[.int .i64 (((byteI s i - 224) * 64 + byteI s (i + 1) - 128) * 64 + byteI s (i + 2) - 128), .int .i64 3]) ∧ w = w' := by
  have b0 := byteI_bd s i
  have b1 := byteI_bd s (i + 1)
  have b2 := byteI_bd s (i + 2)
  have b3 := byteI_bd s (i + 3)
  obtain ⟨b00, b01⟩ := b0
  obtain ⟨b10, b11⟩ := b1
  obtain ⟨b20, b21⟩ := b2
  obtain ⟨b30, b31⟩ := b3
  go_enter Tryz.func37, Tryz.ntmps37
  go_wp2_with (go_at_call 65; refine (refat_any _ _ (by omega) _).mono ?_; rintro e w1 ⟨rfl, rfl⟩)
  refine wp_loop_rounds 3 ?_
  repeat any_goals (rw [rounds_succ]; go_wp2_with (go_at_call 65; refine (refat_any _ _ (by omega) _).mono ?_; rintro e w1 ⟨rfl, rfl⟩))
  all_goals go_ret2
  all_goals exact ⟨rfl, rfl⟩

set_option maxHeartbeats 1000000 in
theorem rn_three_ok2 (s : ByteArray) (i : Int) (hs : s.size ≤ 1125899906842624) (q0 : 0 ≤ i) (q1 : i < 1125899906842624) (q2 : 224 ≤ byteI s i) (q3 : byteI s i ≤ 239) (q4 : 128 ≤ byteI s (i + 1)) (q5 : byteI s (i + 1) ≤ 191) (q6 : 128 ≤ byteI s (i + 2)) (q7 : byteI s (i + 2) ≤ 191) (q8 : 57343 < (((byteI s i - 224) * 64 + byteI s (i + 1) - 128) * 64 + byteI s (i + 2) - 128)) (w : World) :
    Calls Tryz.prog 37 #[.string s, .int .i64 i] w fun e w' => e = .returned (.tuple #[.int .i64 (((byteI s i - 224) * 64 + byteI s (i + 1) - 128) * 64 + byteI s (i + 2) - 128), .int .i64 3]) ∧ w = w' := by
  have b0 := byteI_bd s i
  have b1 := byteI_bd s (i + 1)
  have b2 := byteI_bd s (i + 2)
  have b3 := byteI_bd s (i + 3)
  obtain ⟨b00, b01⟩ := b0
  obtain ⟨b10, b11⟩ := b1
  obtain ⟨b20, b21⟩ := b2
  obtain ⟨b30, b31⟩ := b3
  go_enter Tryz.func37, Tryz.ntmps37
  go_wp2_with (go_at_call 65; refine (refat_any _ _ (by omega) _).mono ?_; rintro e w1 ⟨rfl, rfl⟩)
  refine wp_loop_rounds 3 ?_
  repeat any_goals (rw [rounds_succ]; go_wp2_with (go_at_call 65; refine (refat_any _ _ (by omega) _).mono ?_; rintro e w1 ⟨rfl, rfl⟩))
  all_goals go_ret2
  all_goals exact ⟨rfl, rfl⟩

set_option maxHeartbeats 1000000 in
theorem rn_four_1lo (s : ByteArray) (i : Int) (hs : s.size ≤ 1125899906842624) (q0 : 0 ≤ i) (q1 : i < 1125899906842624) (q2 : 240 ≤ byteI s i) (q3 : byteI s i ≤ 244) (q4 : byteI s (i + 1) < 128) (w : World) :
    Calls Tryz.prog 37 #[.string s, .int .i64 i] w fun e w' => e = .returned (.tuple #[.int .i64 65533, .int .i64 1]) ∧ w = w' := by
  have b0 := byteI_bd s i
  have b1 := byteI_bd s (i + 1)
  have b2 := byteI_bd s (i + 2)
  have b3 := byteI_bd s (i + 3)
  obtain ⟨b00, b01⟩ := b0
  obtain ⟨b10, b11⟩ := b1
  obtain ⟨b20, b21⟩ := b2
  obtain ⟨b30, b31⟩ := b3
  go_enter Tryz.func37, Tryz.ntmps37
  go_wp2_with (go_at_call 65; refine (refat_any _ _ (by omega) _).mono ?_; rintro e w1 ⟨rfl, rfl⟩)
  refine wp_loop_rounds 4 ?_
  repeat any_goals (rw [rounds_succ]; go_wp2_with (go_at_call 65; refine (refat_any _ _ (by omega) _).mono ?_; rintro e w1 ⟨rfl, rfl⟩))
  all_goals go_ret2
  all_goals exact ⟨rfl, rfl⟩

set_option maxHeartbeats 1000000 in
theorem rn_four_1hi (s : ByteArray) (i : Int) (hs : s.size ≤ 1125899906842624) (q0 : 0 ≤ i) (q1 : i < 1125899906842624) (q2 : 240 ≤ byteI s i) (q3 : byteI s i ≤ 244) (q4 : 191 < byteI s (i + 1)) (w : World) :
    Calls Tryz.prog 37 #[.string s, .int .i64 i] w fun e w' => e = .returned (.tuple #[.int .i64 65533, .int .i64 1]) ∧ w = w' := by
  have b0 := byteI_bd s i
  have b1 := byteI_bd s (i + 1)
  have b2 := byteI_bd s (i + 2)
  have b3 := byteI_bd s (i + 3)
  obtain ⟨b00, b01⟩ := b0
  obtain ⟨b10, b11⟩ := b1
  obtain ⟨b20, b21⟩ := b2
  obtain ⟨b30, b31⟩ := b3
  go_enter Tryz.func37, Tryz.ntmps37
  go_wp2_with (go_at_call 65; refine (refat_any _ _ (by omega) _).mono ?_; rintro e w1 ⟨rfl, rfl⟩)
  refine wp_loop_rounds 4 ?_
  repeat any_goals (rw [rounds_succ]; go_wp2_with (go_at_call 65; refine (refat_any _ _ (by omega) _).mono ?_; rintro e w1 ⟨rfl, rfl⟩))
  all_goals go_ret2
  all_goals exact ⟨rfl, rfl⟩

set_option maxHeartbeats 1000000 in
theorem rn_four_2lo (s : ByteArray) (i : Int) (hs : s.size ≤ 1125899906842624) (q0 : 0 ≤ i) (q1 : i < 1125899906842624) (q2 : 240 ≤ byteI s i) (q3 : byteI s i ≤ 244) (q4 : 128 ≤ byteI s (i + 1)) (q5 : byteI s (i + 1) ≤ 191) (q6 : byteI s (i + 2) < 128) (w : World) :
    Calls Tryz.prog 37 #[.string s, .int .i64 i] w fun e w' => e = .returned (.tuple #[.int .i64 65533, .int .i64 1]) ∧ w = w' := by
  have b0 := byteI_bd s i
  have b1 := byteI_bd s (i + 1)
  have b2 := byteI_bd s (i + 2)
  have b3 := byteI_bd s (i + 3)
  obtain ⟨b00, b01⟩ := b0
  obtain ⟨b10, b11⟩ := b1
  obtain ⟨b20, b21⟩ := b2
  obtain ⟨b30, b31⟩ := b3
  go_enter Tryz.func37, Tryz.ntmps37
  go_wp2_with (go_at_call 65; refine (refat_any _ _ (by omega) _).mono ?_; rintro e w1 ⟨rfl, rfl⟩)
  refine wp_loop_rounds 4 ?_
  repeat any_goals (rw [rounds_succ]; go_wp2_with (go_at_call 65; refine (refat_any _ _ (by omega) _).mono ?_; rintro e w1 ⟨rfl, rfl⟩))
  all_goals go_ret2
  all_goals exact ⟨rfl, rfl⟩

set_option maxHeartbeats 1000000 in
theorem rn_four_2hi (s : ByteArray) (i : Int) (hs : s.size ≤ 1125899906842624) (q0 : 0 ≤ i) (q1 : i < 1125899906842624) (q2 : 240 ≤ byteI s i) (q3 : byteI s i ≤ 244) (q4 : 128 ≤ byteI s (i + 1)) (q5 : byteI s (i + 1) ≤ 191) (q6 : 191 < byteI s (i + 2)) (w : World) :
    Calls Tryz.prog 37 #[.string s, .int .i64 i] w fun e w' => e = .returned (.tuple #[.int .i64 65533, .int .i64 1]) ∧ w = w' := by
  have b0 := byteI_bd s i
  have b1 := byteI_bd s (i + 1)
  have b2 := byteI_bd s (i + 2)
  have b3 := byteI_bd s (i + 3)
  obtain ⟨b00, b01⟩ := b0
  obtain ⟨b10, b11⟩ := b1
  obtain ⟨b20, b21⟩ := b2
  obtain ⟨b30, b31⟩ := b3
  go_enter Tryz.func37, Tryz.ntmps37
  go_wp2_with (go_at_call 65; refine (refat_any _ _ (by omega) _).mono ?_; rintro e w1 ⟨rfl, rfl⟩)
  refine wp_loop_rounds 4 ?_
  repeat any_goals (rw [rounds_succ]; go_wp2_with (go_at_call 65; refine (refat_any _ _ (by omega) _).mono ?_; rintro e w1 ⟨rfl, rfl⟩))
  all_goals go_ret2
  all_goals exact ⟨rfl, rfl⟩

set_option maxHeartbeats 1000000 in
theorem rn_four_3lo (s : ByteArray) (i : Int) (hs : s.size ≤ 1125899906842624) (q0 : 0 ≤ i) (q1 : i < 1125899906842624) (q2 : 240 ≤ byteI s i) (q3 : byteI s i ≤ 244) (q4 : 128 ≤ byteI s (i + 1)) (q5 : byteI s (i + 1) ≤ 191) (q6 : 128 ≤ byteI s (i + 2)) (q7 : byteI s (i + 2) ≤ 191) (q8 : byteI s (i + 3) < 128) (w : World) :
    Calls Tryz.prog 37 #[.string s, .int .i64 i] w fun e w' => e = .returned (.tuple #[.int .i64 65533, .int .i64 1]) ∧ w = w' := by
  have b0 := byteI_bd s i
  have b1 := byteI_bd s (i + 1)
  have b2 := byteI_bd s (i + 2)
  have b3 := byteI_bd s (i + 3)
  obtain ⟨b00, b01⟩ := b0
  obtain ⟨b10, b11⟩ := b1
  obtain ⟨b20, b21⟩ := b2
  obtain ⟨b30, b31⟩ := b3
  go_enter Tryz.func37, Tryz.ntmps37
  go_wp2_with (go_at_call 65; refine (refat_any _ _ (by omega) _).mono ?_; rintro e w1 ⟨rfl, rfl⟩)
  refine wp_loop_rounds 4 ?_
  repeat any_goals (rw [rounds_succ]; go_wp2_with (go_at_call 65; refine (refat_any _ _ (by omega) _).mono ?_; rintro e w1 ⟨rfl, rfl⟩))
  all_goals go_ret2
  all_goals exact ⟨rfl, rfl⟩

set_option maxHeartbeats 1000000 in
theorem rn_four_3hi (s : ByteArray) (i : Int) (hs : s.size ≤ 1125899906842624) (q0 : 0 ≤ i) (q1 : i < 1125899906842624) (q2 : 240 ≤ byteI s i) (q3 : byteI s i ≤ 244) (q4 : 128 ≤ byteI s (i + 1)) (q5 : byteI s (i + 1) ≤ 191) (q6 : 128 ≤ byteI s (i + 2)) (q7 : byteI s (i + 2) ≤ 191) (q8 : 191 < byteI s (i + 3)) (w : World) :
    Calls Tryz.prog 37 #[.string s, .int .i64 i] w fun e w' => e = .returned (.tuple #[.int .i64 65533, .int .i64 1]) ∧ w = w' := by
  have b0 := byteI_bd s i
  have b1 := byteI_bd s (i + 1)
  have b2 := byteI_bd s (i + 2)
  have b3 := byteI_bd s (i + 3)
  obtain ⟨b00, b01⟩ := b0
  obtain ⟨b10, b11⟩ := b1
  obtain ⟨b20, b21⟩ := b2
  obtain ⟨b30, b31⟩ := b3
  go_enter Tryz.func37, Tryz.ntmps37
  go_wp2_with (go_at_call 65; refine (refat_any _ _ (by omega) _).mono ?_; rintro e w1 ⟨rfl, rfl⟩)
  refine wp_loop_rounds 4 ?_
  repeat any_goals (rw [rounds_succ]; go_wp2_with (go_at_call 65; refine (refat_any _ _ (by omega) _).mono ?_; rintro e w1 ⟨rfl, rfl⟩))
  all_goals go_ret2
  all_goals exact ⟨rfl, rfl⟩

set_option maxHeartbeats 1000000 in
theorem rn_four_small (s : ByteArray) (i : Int) (hs : s.size ≤ 1125899906842624) (q0 : 0 ≤ i) (q1 : i < 1125899906842624) (q2 : 240 ≤ byteI s i) (q3 : byteI s i ≤ 244) (q4 : 128 ≤ byteI s (i + 1)) (q5 : byteI s (i + 1) ≤ 191) (q6 : 128 ≤ byteI s (i + 2)) (q7 : byteI s (i + 2) ≤ 191) (q8 : 128 ≤ byteI s (i + 3)) (q9 : byteI s (i + 3) ≤ 191) (q10 : ((((byteI s i - 240) * 64 + byteI s (i + 1) - 128) * 64 + byteI s (i + 2) - 128) * 64 + byteI s (i + 3) - 128) < 65536) (w : World) :
    Calls Tryz.prog 37 #[.string s, .int .i64 i] w fun e w' => e = .returned (.tuple #[.int .i64 65533, .int .i64 1]) ∧ w = w' := by
  have b0 := byteI_bd s i
  have b1 := byteI_bd s (i + 1)
  have b2 := byteI_bd s (i + 2)
  have b3 := byteI_bd s (i + 3)
  obtain ⟨b00, b01⟩ := b0
  obtain ⟨b10, b11⟩ := b1
  obtain ⟨b20, b21⟩ := b2
  obtain ⟨b30, b31⟩ := b3
  go_enter Tryz.func37, Tryz.ntmps37
  go_wp2_with (go_at_call 65; refine (refat_any _ _ (by omega) _).mono ?_; rintro e w1 ⟨rfl, rfl⟩)
  refine wp_loop_rounds 4 ?_
  repeat any_goals (rw [rounds_succ]; go_wp2_with (go_at_call 65; refine (refat_any _ _ (by omega) _).mono ?_; rintro e w1 ⟨rfl, rfl⟩))
  all_goals go_ret2
  all_goals exact ⟨rfl, rfl⟩

set_option maxHeartbeats 1000000 in
theorem rn_four_large (s : ByteArray) (i : Int) (hs : s.size ≤ 1125899906842624) (q0 : 0 ≤ i) (q1 : i < 1125899906842624) (q2 : 240 ≤ byteI s i) (q3 : byteI s i ≤ 244) (q4 : 128 ≤ byteI s (i + 1)) (q5 : byteI s (i + 1) ≤ 191) (q6 : 128 ≤ byteI s (i + 2)) (q7 : byteI s (i + 2) ≤ 191) (q8 : 128 ≤ byteI s (i + 3)) (q9 : byteI s (i + 3) ≤ 191) (q10 : 1114111 < ((((byteI s i - 240) * 64 + byteI s (i + 1) - 128) * 64 + byteI s (i + 2) - 128) * 64 + byteI s (i + 3) - 128)) (w : World) :
    Calls Tryz.prog 37 #[.string s, .int .i64 i] w fun e w' => e = .returned (.tuple #[.int .i64 65533, .int .i64 1]) ∧ w = w' := by
  have b0 := byteI_bd s i
  have b1 := byteI_bd s (i + 1)
  have b2 := byteI_bd s (i + 2)
  have b3 := byteI_bd s (i + 3)
  obtain ⟨b00, b01⟩ := b0
  obtain ⟨b10, b11⟩ := b1
  obtain ⟨b20, b21⟩ := b2
  obtain ⟨b30, b31⟩ := b3
  go_enter Tryz.func37, Tryz.ntmps37
  go_wp2_with (go_at_call 65; refine (refat_any _ _ (by omega) _).mono ?_; rintro e w1 ⟨rfl, rfl⟩)
  refine wp_loop_rounds 4 ?_
  repeat any_goals (rw [rounds_succ]; go_wp2_with (go_at_call 65; refine (refat_any _ _ (by omega) _).mono ?_; rintro e w1 ⟨rfl, rfl⟩))
  all_goals go_ret2
  all_goals exact ⟨rfl, rfl⟩

set_option maxHeartbeats 1000000 in
theorem rn_four_ok (s : ByteArray) (i : Int) (hs : s.size ≤ 1125899906842624) (q0 : 0 ≤ i) (q1 : i < 1125899906842624) (q2 : 240 ≤ byteI s i) (q3 : byteI s i ≤ 244) (q4 : 128 ≤ byteI s (i + 1)) (q5 : byteI s (i + 1) ≤ 191) (q6 : 128 ≤ byteI s (i + 2)) (q7 : byteI s (i + 2) ≤ 191) (q8 : 128 ≤ byteI s (i + 3)) (q9 : byteI s (i + 3) ≤ 191) (q10 : 65536 ≤ ((((byteI s i - 240) * 64 + byteI s (i + 1) - 128) * 64 + byteI s (i + 2) - 128) * 64 + byteI s (i + 3) - 128)) (q11 : ((((byteI s i - 240) * 64 + byteI s (i + 1) - 128) * 64 + byteI s (i + 2) - 128) * 64 + byteI s (i + 3) - 128) ≤ 1114111) (w : World) :
    Calls Tryz.prog 37 #[.string s, .int .i64 i] w fun e w' => e = .returned (.tuple #[.int .i64 ((((byteI s i - 240) * 64 + byteI s (i + 1) - 128) * 64 + byteI s (i + 2) - 128) * 64 + byteI s (i + 3) - 128), .int .i64 4]) ∧ w = w' := by
  have b0 := byteI_bd s i
  have b1 := byteI_bd s (i + 1)
  have b2 := byteI_bd s (i + 2)
  have b3 := byteI_bd s (i + 3)
  obtain ⟨b00, b01⟩ := b0
  obtain ⟨b10, b11⟩ := b1
  obtain ⟨b20, b21⟩ := b2
  obtain ⟨b30, b31⟩ := b3
  go_enter Tryz.func37, Tryz.ntmps37
  go_wp2_with (go_at_call 65; refine (refat_any _ _ (by omega) _).mono ?_; rintro e w1 ⟨rfl, rfl⟩)
  refine wp_loop_rounds 4 ?_
  repeat any_goals (rw [rounds_succ]; go_wp2_with (go_at_call 65; refine (refat_any _ _ (by omega) _).mono ?_; rintro e w1 ⟨rfl, rfl⟩))
  all_goals go_ret2
  all_goals exact ⟨rfl, rfl⟩


end Go.Proofs.YtkehchajgdepaaaGreatDoor.Gly
