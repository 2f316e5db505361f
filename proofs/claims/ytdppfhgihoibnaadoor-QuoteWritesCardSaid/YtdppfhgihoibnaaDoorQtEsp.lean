/-
  The contract of package quote's escape, put together out of its ways. Conditions: the string has at most 2^50 bytes; the program's list of names stands.
-/
import Derived.Test.YtdppfhgihoibnaaDoorQtNam
namespace Go.Proofs.YtdppfhgihoibnaaDoor.Qt
open Go.RowKit Gly
open Wrd (rn wd)
set_option linter.unusedSimpArgs false
set_option linter.unusedVariables false

/-- Where a byte stands among the letters. -/
def ltI (n : Nat) : Int := Lib.indexByte [97, 98, 116, 110, 118, 102, 114] ((n : Int).toNat.toUInt8)
theorem lt_yes : ∀ n : Nat, n < 256 → 0 ≤ ltI n → short n ≠ 0 ∧ (short n : Int) = 7 + ltI n ∧ ltI n ≤ 6 := by decide +kernel
theorem lt_no : ∀ n : Nat, n < 256 → ltI n < 0 → short n = if n = 92 ∨ n = 34 ∨ n = 39 then n else 0 := by decide +kernel
theorem let_any (n : Nat) (w : World) : Calls Tryd.prog 69 #[.string ⟨#[97, 98, 116, 110, 118, 102, 114]⟩, .int .u8 (n : Int)] w fun e w' => e = .returned (.int .i64 (ltI n)) ∧ w = w' := index_any _ _ w
theorem dig_is (n : Nat) (w : World) : Calls Tryd.prog 27 #[.int .i64 (n : Int)] w fun e w' => e = .returned (.bool (isDig n)) ∧ w = w' := by
  by_cases h1 : 48 ≤ n
  · by_cases h2 : n ≤ 57
    · have a1 : decide ((48 : Int) ≤ (n : Int)) = true := decide_eq_true (by omega)
      have a2 : decide ((n : Int) ≤ 57) = true := decide_eq_true (by omega)
      go_enter Tryd.func27, Tryd.ntmps27
      go_wp2
      go_ret
      exact ⟨by unfold isDig; rw [decide_eq_true h1, decide_eq_true h2]; rfl, rfl⟩
    · have a1 : decide ((48 : Int) ≤ (n : Int)) = true := decide_eq_true (by omega)
      have a2 : decide ((n : Int) ≤ 57) = false := decide_eq_false (by omega)
      go_enter Tryd.func27, Tryd.ntmps27
      go_wp2
      go_ret
      exact ⟨by unfold isDig; rw [decide_eq_true h1, decide_eq_false h2]; rfl, rfl⟩
  · have a1 : decide ((48 : Int) ≤ (n : Int)) = false := decide_eq_false (by omega)
    go_enter Tryd.func27, Tryd.ntmps27
    go_wp2
    go_ret
    exact ⟨by unfold isDig; rw [decide_eq_false h1]; rfl, rfl⟩

/-- escape, put together. -/
theorem escape_any (t : ByteArray) (hs : t.size ≤ 1125899906842624) (w : World) (hN : Nam w) :
    Calls Tryd.prog 62 #[.string t] w fun e w' => e = .returned (.tuple #[.int .i64 ((escE t.data.toList).1 : Int), .int .i64 ((escE t.data.toList).2 : Int)]) ∧ Below w.heap.size w w' := by
  by_cases h0 : t.size = 0
  · obtain rfl : t = ⟨#[]⟩ := bytes_ext (List.eq_nil_of_length_eq_zero (by rw [← Lib.size_eq]; exact h0))
    have HE : Hid (escE [] = (0, 0)) := by unfold Hid; decide +kernel
    clear hN
    go_enter Tryd.func62, Tryd.ntmps62
    go_wp2_with fail
    go_ret2
    exact ⟨by rw [HE.out]; rfl, Below.refl _ _⟩
  have hpos : 0 < t.size := by omega
  have hne : (t.toList == ([] : List UInt8)) = false := by
    rw [beq_eq_false_iff_ne, Lib.toList_data]
    intro e
    have := congrArg List.length e
    rw [← Lib.size_eq] at this
    exact h0 this
  obtain ⟨n, hn⟩ : ∃ n, t[0].toNat = n := ⟨_, rfl⟩
  have hh : hd t.data.toList = n := by rw [← hn]; exact hd_rest t 0 hpos
  have hlt : n < 256 := by rw [← hn]; exact t[0].toNat_lt
  obtain ⟨z, hz⟩ : ∃ z, escE t.data.toList = z := ⟨_, rfl⟩
  rw [hz]
  have hz2 : z = if short n ≠ 0 then (short n, 1)
    else if n = 94 then (if 64 ≤ hd (rest t 1) ∧ hd (rest t 1) ≤ 95 then (hd (rest t 1) - 64, 2) else (0, 0))
    else if n = 111 then lettE 8 (rest t 1)
    else if n = 120 then lettE 16 (rest t 1)
    else if 48 ≤ n ∧ n ≤ 57 then digE 10 t.data.toList
    else nameE t.data.toList := by rw [← hz, ← hh]; rfl
  have c1 := fun W => let_any n W
  have c2 := fun W => dig_is n W
  have c3 := fun W => control_any t hpos hs W
  have c4 := fun W => lettered_any t 8 (by omega) (by omega) hpos hs W
  have c5 := fun W => lettered_any t 16 (by omega) (by omega) hpos hs W
  have c6 := fun W => digits_any t 10 (by omega) (by omega) hs W
  have c7 : Calls Tryd.prog 73 #[.string t] w _ := named_any t hs w hN
  have hl1 := lt_yes n hlt
  have hl2 := lt_no n hlt
  clear hN h0 hz hh
  generalize lettE 8 (rest t 1) = z4 at *
  generalize lettE 16 (rest t 1) = z5 at *
  generalize digE 10 t.data.toList = z6 at *
  generalize nameE t.data.toList = z7 at *
  generalize ((if 64 ≤ hd (rest t 1) ∧ hd (rest t 1) ≤ 95 then (hd (rest t 1) - 64, 2) else (0, 0)) : Nat × Nat) = z3 at *
  generalize ltI n = l at *
  have C1 := Lib.hid c1
  have C3 := Lib.hid c3
  have C4 := Lib.hid c4
  have C5 := Lib.hid c5
  have C6 := Lib.hid c6
  have C7 := Lib.hid c7
  clear c1 c3 c4 c5 c6 c7
  by_cases hl : 0 ≤ l
  · obtain ⟨g1, g2, g3⟩ := hl1 hl
    rw [if_pos g1] at hz2
    have HZ : Hid (z = (short n, 1)) := hz2
    have HS := Lib.hid g2
    clear hz2 c2 hl1 hl2 g1 g2 hlt
    go_enter Tryd.func62, Tryd.ntmps62
    go_wp2_with fail
    refine (C1.out _).mono ?_
    rintro e w1 ⟨rfl, rfl⟩
    go_wp2_with fail
    refine (C1.out _).mono ?_
    rintro e w1 ⟨rfl, rfl⟩
    go_wp2_with fail
    go_ret2
    refine ⟨?_, Below.refl _ _⟩
    rw [HZ.out]
    dsimp only
    rw [HS.out]
    rfl
  have hl3 := hl2 (by omega)
  have b0 : decide ((0 : Int) ≤ l) = false := decide_eq_false hl
  clear hl1 hl2 hl
  by_cases q1 : n = 92 ∨ n = 34 ∨ n = 39
  · rw [if_pos q1] at hl3
    rw [hl3, if_pos (by omega)] at hz2
    have HZ : Hid (z = (n, 1)) := hz2
    clear hz2 hl3 c2 C3 C4 C5 C6 C7
    rcases q1 with rfl | rfl | rfl
    · go_enter Tryd.func62, Tryd.ntmps62
      go_wp2_with fail
      refine (C1.out _).mono ?_
      rintro e w1 ⟨rfl, rfl⟩
      go_wp2_with fail
      go_ret2
      exact ⟨by rw [HZ.out] <;> rfl, Below.refl _ _⟩
    · go_enter Tryd.func62, Tryd.ntmps62
      go_wp2_with fail
      refine (C1.out _).mono ?_
      rintro e w1 ⟨rfl, rfl⟩
      go_wp2_with fail
      go_ret2
      exact ⟨by rw [HZ.out] <;> rfl, Below.refl _ _⟩
    · go_enter Tryd.func62, Tryd.ntmps62
      go_wp2_with fail
      refine (C1.out _).mono ?_
      rintro e w1 ⟨rfl, rfl⟩
      go_wp2_with fail
      go_ret2
      exact ⟨by rw [HZ.out] <;> rfl, Below.refl _ _⟩
  rw [if_neg q1] at hl3
  rw [hl3, if_neg (by omega)] at hz2
  have b1 : (((n : Nat) : Int) == 92) = false := by rw [beq_eq_false_iff_ne]; omega
  have b2 : (((n : Nat) : Int) == 34) = false := by rw [beq_eq_false_iff_ne]; omega
  have b3 : (((n : Nat) : Int) == 39) = false := by rw [beq_eq_false_iff_ne]; omega
  clear hl3 q1
  by_cases q : n = 94
  · rw [if_pos q] at hz2
    have HZ := Lib.hid hz2
    subst q
    clear hz2 c2
    go_enter Tryd.func62, Tryd.ntmps62
    go_wp2_with fail
    refine (C1.out _).mono ?_
    rintro e w1 ⟨rfl, rfl⟩
    go_wp2_with fail
    refine (C3.out _).mono ?_
    rintro e w2 ⟨rfl, rfl⟩
    go_wp2_with fail
    go_ret2
    exact ⟨by rw [HZ.out] <;> rfl, Below.refl _ _⟩
  rw [if_neg q] at hz2
  have b94 : (((n : Nat) : Int) == 94) = false := by rw [beq_eq_false_iff_ne]; omega
  clear q
  by_cases q : n = 111
  · rw [if_pos q] at hz2
    have HZ := Lib.hid hz2
    subst q
    clear hz2 c2
    go_enter Tryd.func62, Tryd.ntmps62
    go_wp2_with fail
    refine (C1.out _).mono ?_
    rintro e w1 ⟨rfl, rfl⟩
    go_wp2_with fail
    refine (C4.out _).mono ?_
    rintro e w2 ⟨rfl, hb2⟩
    have HB2 := Lib.hid hb2
    clear hb2
    go_wp2_with fail
    go_ret2
    exact ⟨by rw [HZ.out] <;> rfl, HB2.out⟩
  rw [if_neg q] at hz2
  have b111 : (((n : Nat) : Int) == 111) = false := by rw [beq_eq_false_iff_ne]; omega
  clear q
  by_cases q : n = 120
  · rw [if_pos q] at hz2
    have HZ := Lib.hid hz2
    subst q
    clear hz2 c2
    go_enter Tryd.func62, Tryd.ntmps62
    go_wp2_with fail
    refine (C1.out _).mono ?_
    rintro e w1 ⟨rfl, rfl⟩
    go_wp2_with fail
    refine (C5.out _).mono ?_
    rintro e w2 ⟨rfl, hb2⟩
    have HB2 := Lib.hid hb2
    clear hb2
    go_wp2_with fail
    go_ret2
    exact ⟨by rw [HZ.out] <;> rfl, HB2.out⟩
  rw [if_neg q] at hz2
  have b120 : (((n : Nat) : Int) == 120) = false := by rw [beq_eq_false_iff_ne]; omega
  clear q
  by_cases q : 48 ≤ n ∧ n ≤ 57
  · rw [if_pos q] at hz2
    have HZ := Lib.hid hz2
    have C2 : Hid (∀ W, Calls Tryd.prog 27 #[.int .i64 (n : Int)] W fun e w' => e = .returned (.bool true) ∧ W = w') := fun W => by
      have := c2 W
      rw [show isDig n = true by unfold isDig; rw [decide_eq_true q.1, decide_eq_true q.2]; rfl] at this
      exact this
    clear hz2 c2 q
    go_enter Tryd.func62, Tryd.ntmps62
    go_wp2_with fail
    refine (C1.out _).mono ?_
    rintro e w1 ⟨rfl, rfl⟩
    go_wp2_with fail
    refine (C2.out _).mono ?_
    rintro e w1 ⟨rfl, rfl⟩
    go_wp2_with fail
    refine (C6.out _).mono ?_
    rintro e w2 ⟨rfl, hb2⟩
    have HB2 := Lib.hid hb2
    clear hb2
    go_wp2_with fail
    go_ret2
    exact ⟨by rw [HZ.out] <;> rfl, HB2.out⟩
  · rw [if_neg q] at hz2
    have HZ := Lib.hid hz2
    have C2 : Hid (∀ W, Calls Tryd.prog 27 #[.int .i64 (n : Int)] W fun e w' => e = .returned (.bool false) ∧ W = w') := fun W => by
      have := c2 W
      rw [show isDig n = false by unfold isDig; rw [Bool.and_eq_false_iff, decide_eq_false_iff_not, decide_eq_false_iff_not]; omega] at this
      exact this
    clear hz2 c2 q
    go_enter Tryd.func62, Tryd.ntmps62
    go_wp2_with fail
    refine (C1.out _).mono ?_
    rintro e w1 ⟨rfl, rfl⟩
    go_wp2_with fail
    refine (C2.out _).mono ?_
    rintro e w1 ⟨rfl, rfl⟩
    go_wp2_with fail
    refine C7.out.mono ?_
    rintro e w2 ⟨rfl, rfl⟩
    go_wp2_with fail
    go_ret2
    exact ⟨by rw [HZ.out] <;> rfl, Below.refl _ _⟩
end Go.Proofs.YtdppfhgihoibnaaDoor.Qt
