/-
  The contracts of the document's own Scan at any place, whole, parts. Condition: the string has at most 2^50 bytes.
-/
import Derived.Test.YtiifjegjmhbhkaaDoorNumRefs
namespace Go.Proofs.YtiifjegjmhbhkaaDoor.Num
open Go.RowKit Gly
set_option linter.unusedSimpArgs false
set_option linter.unusedVariables false

theorem readL_none (L : List UInt8) (h : run 10 L = 0) : readL L = Nl.none := by
  have hl : lett L = 0 := by
    unfold lett
    split
    · rename_i h48
      exfalso
      cases L with
      | nil => simp [bt] at h48
      | cons x M =>
        have hx : isD 10 x = true := by
          rw [isD_ten]
          have : x.toNat = 48 := h48
          exact decide_eq_true (by omega)
        rw [run, if_pos hx] at h
        omega
    · rfl
  unfold readL decL
  rw [hl, run_small 0 (by omega), if_neg (by omega), if_pos h]

theorem refScan_any (s : ByteArray) (i : Int) (hs : s.size ≤ 1125899906842624) (w : World) :
    Calls Tryd.prog 12 #[.string s, .int .i64 i] w fun e w' => e = .returned (.tuple #[.int .i64 ((scanN s i).1 : Int), .int .i64 ((scanN s i).2 : Int)]) ∧ w = w' := by
  by_cases h1 : i < 0
  · have e : scanN s i = (0, 0) := by unfold scanN; rw [if_neg (by omega)]
    rw [e]
    clear e
    go_enter Tryd.func12, Tryd.ntmps12
    go_wp2_with fail
    go_ret2
    exact ⟨rfl, rfl⟩
  obtain ⟨n, rfl⟩ : ∃ n : Nat, i = n := ⟨i.toNat, by omega⟩
  by_cases h0 : n < s.size
  · by_cases hr : run 10 (rest s n) = 0
    · have e : scanN s (n : Int) = (0, 0) := by
        unfold scanN
        rw [if_pos (by omega), Int.toNat_natCast, readL_none _ hr]
        rfl
      rw [e]
      have C : Hid (∀ W, Calls Tryd.prog 23 #[.string s, .int .i64 (n : Int), .int .i64 10] W fun e w' => e = .returned (.int .i64 (n : Int)) ∧ W = w') := fun W => by
        have := refdigits_any s n 10 hs W
        rw [hr] at this
        exact this
      clear e hr
      go_enter Tryd.func12, Tryd.ntmps12
      go_wp2_with (go_at_call 23; refine (C.out _).mono ?_; rintro e1 w1 ⟨rfl, rfl⟩)
      go_ret2
      exact ⟨rfl, rfl⟩
    · exact refScan_in s n hs h0 hr w
  · have e : scanN s (n : Int) = (0, 0) := by unfold scanN; rw [if_neg (by omega)]
    rw [e]
    clear e
    go_enter Tryd.func12, Tryd.ntmps12
    go_wp2_with fail
    go_ret2
    exact ⟨rfl, rfl⟩

theorem scanN_zero (s : ByteArray) : scanN s 0 = (if s.size = 0 then (0, 0) else ((readL s.data.toList).kind, (readL s.data.toList).fin)) := by
  unfold scanN
  by_cases h : s.size = 0
  · rw [if_neg (by omega), if_pos h]
  · rw [if_pos (by omega), if_neg h]
    show (if (readL (rest s 0)).kind = 0 then (0, 0) else ((readL (rest s 0)).kind, 0 + (readL (rest s 0)).fin)) = _
    rw [rest_zero, Nat.zero_add]
    rcases readL_kind s.data.toList with ⟨h1, h2⟩ | h1 | h1
    · rw [if_pos h1, h2]
      rfl
    · rw [if_neg (by omega)]
    · rw [if_neg (by omega)]

theorem wh_all (s : ByteArray) (a f k : Int) (h0 : 0 < s.size) (ha : (a == k) = true) (hf : (f == (s.size : Int)) = true)
    (C : Hid (∀ W, Calls Tryd.prog 12 #[.string s, .int .i64 0] W fun e w' => e = .returned (.tuple #[.int .i64 a, .int .i64 f]) ∧ W = w')) (w : World) :
    Calls Tryd.prog 26 #[.string s, .int .i64 k] w fun e w' => e = .returned (.bool true) ∧ w = w' := by
  go_enter Tryd.func26, Tryd.ntmps26
  go_wp2_with (go_at_call 12; refine (C.out _).mono ?_; rintro e1 w1 ⟨rfl, rfl⟩)
  go_ret
  exact ⟨rfl, rfl⟩
theorem wh_fin (s : ByteArray) (a f k : Int) (h0 : 0 < s.size) (ha : (a == k) = true) (hf : (f == (s.size : Int)) = false)
    (C : Hid (∀ W, Calls Tryd.prog 12 #[.string s, .int .i64 0] W fun e w' => e = .returned (.tuple #[.int .i64 a, .int .i64 f]) ∧ W = w')) (w : World) :
    Calls Tryd.prog 26 #[.string s, .int .i64 k] w fun e w' => e = .returned (.bool false) ∧ w = w' := by
  go_enter Tryd.func26, Tryd.ntmps26
  go_wp2_with (go_at_call 12; refine (C.out _).mono ?_; rintro e1 w1 ⟨rfl, rfl⟩)
  go_ret
  exact ⟨rfl, rfl⟩
theorem wh_kind (s : ByteArray) (a f k : Int) (h0 : 0 < s.size) (ha : (a == k) = false)
    (C : Hid (∀ W, Calls Tryd.prog 12 #[.string s, .int .i64 0] W fun e w' => e = .returned (.tuple #[.int .i64 a, .int .i64 f]) ∧ W = w')) (w : World) :
    Calls Tryd.prog 26 #[.string s, .int .i64 k] w fun e w' => e = .returned (.bool false) ∧ w = w' := by
  go_enter Tryd.func26, Tryd.ntmps26
  go_wp2_with (go_at_call 12; refine (C.out _).mono ?_; rintro e1 w1 ⟨rfl, rfl⟩)
  go_ret
  exact ⟨rfl, rfl⟩
theorem wh_nil (s : ByteArray) (a f k : Int) (h0 : s.size = 0)
    (C : Hid (∀ W, Calls Tryd.prog 12 #[.string s, .int .i64 0] W fun e w' => e = .returned (.tuple #[.int .i64 a, .int .i64 f]) ∧ W = w')) (w : World) :
    Calls Tryd.prog 26 #[.string s, .int .i64 k] w fun e w' => e = .returned (.bool false) ∧ w = w' := by
  go_enter Tryd.func26, Tryd.ntmps26
  go_wp2_with (go_at_call 12; refine (C.out _).mono ?_; rintro e1 w1 ⟨rfl, rfl⟩)
  go_ret
  exact ⟨rfl, rfl⟩
theorem refwhole_any (s : ByteArray) (k : Nat) (hk : k = 11 ∨ k = 12) (hs : s.size ≤ 1125899906842624) (w : World) :
    Calls Tryd.prog 26 #[.string s, .int .i64 (k : Int)] w fun e w' => e = .returned (.bool (decide ((wholeL s.data.toList).kind = k))) ∧ w = w' := by
  have c0 := fun W => refScan_any s 0 hs W
  rw [scanN_zero] at c0
  unfold wholeL
  rw [← Lib.size_eq]
  by_cases h0 : s.size = 0
  · have e : (readL s.data.toList) = Nl.none := by
      have : s.data.toList = [] := List.eq_nil_of_length_eq_zero (by rw [← Lib.size_eq]; exact h0)
      rw [this]
      exact readL_none _ rfl
    rw [e, ite_self, decide_eq_false (by show ¬ 0 = k; omega)]
    rw [if_pos h0] at c0
    exact wh_nil s _ _ _ h0 c0 w
  · rw [if_neg h0] at c0
    dsimp only at c0
    by_cases hf : (readL s.data.toList).fin = s.size
    · rw [if_pos hf]
      by_cases ha : (readL s.data.toList).kind = k
      · rw [decide_eq_true ha]
        exact wh_all s _ _ _ (by omega) (by rw [beq_iff_eq]; omega) (by rw [beq_iff_eq]; omega) c0 w
      · rw [decide_eq_false ha]
        exact wh_kind s _ _ _ (by omega) (by rw [beq_eq_false_iff_ne]; omega) c0 w
    · rw [if_neg hf, decide_eq_false (by show ¬ 0 = k; omega)]
      by_cases ha : (readL s.data.toList).kind = k
      · exact wh_fin s _ _ _ (by omega) (by rw [beq_iff_eq]; omega) (by rw [beq_eq_false_iff_ne]; omega) c0 w
      · exact wh_kind s _ _ _ (by omega) (by rw [beq_eq_false_iff_ne]; omega) c0 w

/-- parts' answer. -/
def partsL (L : List UInt8) : Nat × Nat := if 2 < L.length ∧ 0 < lett L then (lett L, 2) else (10, 0)
theorem parts_short (s : ByteArray) (x0 : decide ((2 : Int) < (s.size : Int)) = false) (w : World) :
    Calls Tryd.prog 27 #[.string s] w fun e w' => e = .returned (.tuple #[.int .i64 10, .int .i64 0]) ∧ w = w' := by
  go_enter Tryd.func27, Tryd.ntmps27
  go_wp2_with fail
  go_ret2
  exact ⟨rfl, rfl⟩
theorem parts_other (s : ByteArray) (h2 : 2 < s.size) (x0 : decide ((2 : Int) < (s.size : Int)) = true) (x1 : (((s[0].toNat : Nat) : Int) == 48) = false) (w : World) :
    Calls Tryd.prog 27 #[.string s] w fun e w' => e = .returned (.tuple #[.int .i64 10, .int .i64 0]) ∧ w = w' := by
  go_enter Tryd.func27, Tryd.ntmps27
  go_wp2_with fail
  go_ret2
  exact ⟨rfl, rfl⟩
theorem parts_o (s : ByteArray) (h2 : 2 < s.size) (x0 : decide ((2 : Int) < (s.size : Int)) = true) (x1 : (((s[0].toNat : Nat) : Int) == 48) = true) (x111 : (((s[1].toNat : Nat) : Int) == 111) = true) (w : World) :
    Calls Tryd.prog 27 #[.string s] w fun e w' => e = .returned (.tuple #[.int .i64 8, .int .i64 2]) ∧ w = w' := by
  go_enter Tryd.func27, Tryd.ntmps27
  go_wp2_with fail
  go_ret2
  exact ⟨rfl, rfl⟩
theorem parts_O (s : ByteArray) (h2 : 2 < s.size) (x0 : decide ((2 : Int) < (s.size : Int)) = true) (x1 : (((s[0].toNat : Nat) : Int) == 48) = true) (x111 : (((s[1].toNat : Nat) : Int) == 111) = false)(x79 : (((s[1].toNat : Nat) : Int) == 79) = true) (w : World) :
    Calls Tryd.prog 27 #[.string s] w fun e w' => e = .returned (.tuple #[.int .i64 8, .int .i64 2]) ∧ w = w' := by
  go_enter Tryd.func27, Tryd.ntmps27
  go_wp2_with fail
  go_ret2
  exact ⟨rfl, rfl⟩
theorem parts_x (s : ByteArray) (h2 : 2 < s.size) (x0 : decide ((2 : Int) < (s.size : Int)) = true) (x1 : (((s[0].toNat : Nat) : Int) == 48) = true) (x111 : (((s[1].toNat : Nat) : Int) == 111) = false)(x79 : (((s[1].toNat : Nat) : Int) == 79) = false)(x120 : (((s[1].toNat : Nat) : Int) == 120) = true) (w : World) :
    Calls Tryd.prog 27 #[.string s] w fun e w' => e = .returned (.tuple #[.int .i64 16, .int .i64 2]) ∧ w = w' := by
  go_enter Tryd.func27, Tryd.ntmps27
  go_wp2_with fail
  go_ret2
  exact ⟨rfl, rfl⟩
theorem parts_X (s : ByteArray) (h2 : 2 < s.size) (x0 : decide ((2 : Int) < (s.size : Int)) = true) (x1 : (((s[0].toNat : Nat) : Int) == 48) = true) (x111 : (((s[1].toNat : Nat) : Int) == 111) = false)(x79 : (((s[1].toNat : Nat) : Int) == 79) = false)(x120 : (((s[1].toNat : Nat) : Int) == 120) = false)(x88 : (((s[1].toNat : Nat) : Int) == 88) = true) (w : World) :
    Calls Tryd.prog 27 #[.string s] w fun e w' => e = .returned (.tuple #[.int .i64 16, .int .i64 2]) ∧ w = w' := by
  go_enter Tryd.func27, Tryd.ntmps27
  go_wp2_with fail
  go_ret2
  exact ⟨rfl, rfl⟩
theorem parts_none (s : ByteArray) (h2 : 2 < s.size) (x0 : decide ((2 : Int) < (s.size : Int)) = true) (x1 : (((s[0].toNat : Nat) : Int) == 48) = true) (x111 : (((s[1].toNat : Nat) : Int) == 111) = false)(x79 : (((s[1].toNat : Nat) : Int) == 79) = false)(x120 : (((s[1].toNat : Nat) : Int) == 120) = false)(x88 : (((s[1].toNat : Nat) : Int) == 88) = false) (w : World) :
    Calls Tryd.prog 27 #[.string s] w fun e w' => e = .returned (.tuple #[.int .i64 10, .int .i64 0]) ∧ w = w' := by
  go_enter Tryd.func27, Tryd.ntmps27
  go_wp2_with fail
  go_ret2
  exact ⟨rfl, rfl⟩
theorem refparts_any (s : ByteArray) (w : World) :
    Calls Tryd.prog 27 #[.string s] w fun e w' => e = .returned (.tuple #[.int .i64 ((partsL s.data.toList).1 : Int), .int .i64 ((partsL s.data.toList).2 : Int)]) ∧ w = w' := by
  have hp : partsL s.data.toList = if 2 < s.size ∧ 0 < lett s.data.toList then (lett s.data.toList, 2) else (10, 0) := by
    unfold partsL
    rw [← Lib.size_eq]
  by_cases h2 : 2 < s.size
  · have x0 : decide ((2 : Int) < (s.size : Int)) = true := decide_eq_true (by omega)
    have hl : lett s.data.toList = if s[0].toNat = 48 then letter s[1].toNat else 0 := by
      unfold lett
      rw [bt_in s 0 (by omega), bt_in s 1 (by omega)]
    by_cases h1 : s[0].toNat = 48
    · rw [if_pos h1] at hl
      by_cases c1 : s[1].toNat = 111
      · have e : lett s.data.toList = 8 := by rw [hl, c1]; rfl
        rw [e, if_pos ⟨h2, by omega⟩] at hp
        rw [hp]
        exact parts_o s h2 x0 (by rw [beq_iff_eq]; omega) (by rw [beq_iff_eq]; omega) w
      by_cases c2 : s[1].toNat = 79
      · have e : lett s.data.toList = 8 := by rw [hl, c2]; rfl
        rw [e, if_pos ⟨h2, by omega⟩] at hp
        rw [hp]
        exact parts_O s h2 x0 (by rw [beq_iff_eq]; omega) (by rw [beq_eq_false_iff_ne]; omega) (by rw [beq_iff_eq]; omega) w
      by_cases c3 : s[1].toNat = 120
      · have e : lett s.data.toList = 16 := by rw [hl, c3]; rfl
        rw [e, if_pos ⟨h2, by omega⟩] at hp
        rw [hp]
        exact parts_x s h2 x0 (by rw [beq_iff_eq]; omega) (by rw [beq_eq_false_iff_ne]; omega) (by rw [beq_eq_false_iff_ne]; omega) (by rw [beq_iff_eq]; omega) w
      by_cases c4 : s[1].toNat = 88
      · have e : lett s.data.toList = 16 := by rw [hl, c4]; rfl
        rw [e, if_pos ⟨h2, by omega⟩] at hp
        rw [hp]
        exact parts_X s h2 x0 (by rw [beq_iff_eq]; omega) (by rw [beq_eq_false_iff_ne]; omega) (by rw [beq_eq_false_iff_ne]; omega) (by rw [beq_eq_false_iff_ne]; omega) (by rw [beq_iff_eq]; omega) w
      have e : lett s.data.toList = 0 := by
        rw [hl]
        unfold letter
        rw [if_neg (by omega), if_neg (by omega)]
      rw [e, if_neg (by omega)] at hp
      rw [hp]
      exact parts_none s h2 x0 (by rw [beq_iff_eq]; omega) (by rw [beq_eq_false_iff_ne]; omega) (by rw [beq_eq_false_iff_ne]; omega) (by rw [beq_eq_false_iff_ne]; omega) (by rw [beq_eq_false_iff_ne]; omega) w
    · rw [if_neg h1] at hl
      rw [hl, if_neg (by omega)] at hp
      rw [hp]
      exact parts_other s h2 x0 (by rw [beq_eq_false_iff_ne]; omega) w
  · rw [if_neg (by omega)] at hp
    rw [hp]
    exact parts_short s (decide_eq_false (by omega)) w
end Go.Proofs.YtiifjegjmhbhkaaDoor.Num
