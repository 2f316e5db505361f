/-
  The contracts of package glyph's Digit and what it calls, and of the document's own: what each answers for any rune; the world stays as it was.
-/
import Derived.Test.YtiifjegjmhbhkaaDoorRows
import Derived.WalkKit
import Derived.RegionTactic
import Derived.BigQuiet
import Derived.Deep.QuietTactic
import Derived.WalkLawsBesides
import Derived.WalkSpells
import Derived.Outline
namespace Go.Proofs.YtiifjegjmhbhkaaDoor.Gly
open Go.RowKit
set_option linter.unusedSimpArgs false

/-- is c from a to b? -/
def wthn (c a b : Int) : Bool := decide (a ≤ c) && decide (c ≤ b)


theorem within_any (c a b : Int) (w : World) :
    Calls Tryd.prog 53 #[.int .i32 c, .int .i32 a, .int .i32 b] w fun e w' => e = .returned (.bool (wthn c a b)) ∧ w = w' := by
  by_cases h1 : a ≤ c
  · by_cases h2 : c ≤ b
    · go_enter Tryd.func53, Tryd.ntmps53
      go_wp2
      go_ret
      exact ⟨by simp [wthn] <;> omega, rfl⟩
    · go_enter Tryd.func53, Tryd.ntmps53
      go_wp2
      go_ret
      exact ⟨by simp [wthn] <;> omega, rfl⟩
  · go_enter Tryd.func53, Tryd.ntmps53
    go_wp2
    go_ret
    exact ⟨by simp [wthn] <;> omega, rfl⟩

theorem refin_any (c a b : Int) (w : World) :
    Calls Tryd.prog 43 #[.int .i64 c, .int .i64 a, .int .i64 b] w fun e w' => e = .returned (.bool (wthn c a b)) ∧ w = w' := by
  by_cases h1 : a ≤ c
  · by_cases h2 : c ≤ b
    · go_enter Tryd.func43, Tryd.ntmps43
      go_wp2
      go_ret
      exact ⟨by simp [wthn] <;> omega, rfl⟩
    · go_enter Tryd.func43, Tryd.ntmps43
      go_wp2
      go_ret
      exact ⟨by simp [wthn] <;> omega, rfl⟩
  · go_enter Tryd.func43, Tryd.ntmps43
    go_wp2
    go_ret
    exact ⟨by simp [wthn] <;> omega, rfl⟩

/-- What a digit is worth; -1: none. -/
def digV (c : Int) : Int := if wthn c 48 57 = true then c - 48 else if wthn c 97 102 = true then c - 87 else if wthn c 65 70 = true then c - 55 else -1
theorem digV_bd (c : Int) : -1 ≤ digV c ∧ digV c ≤ 15 := by
  unfold digV wthn
  simp only [Bool.and_eq_true, decide_eq_true_eq]
  split
  · omega
  · split
    · omega
    · split <;> omega
theorem wthn_iff (c a b : Int) : wthn c a b = true ↔ a ≤ c ∧ c ≤ b := by simp [wthn]
theorem digitValue_any (c : Int) (w : World) :
    Calls Tryd.prog 42 #[.int .i32 c] w fun e w' => e = .returned (.int .i64 (digV c)) ∧ w = w' := by
  by_cases h1 : 48 ≤ c ∧ c ≤ 57
  · obtain ⟨a1, b1⟩ := h1
    go_enter Tryd.func42, Tryd.ntmps42
    go_wp2
    go_ret
    exact ⟨by simp [digV, wthn, *], rfl⟩
  · by_cases h2 : 97 ≤ c ∧ c ≤ 102
    · obtain ⟨a1, b1⟩ := h2
      go_enter Tryd.func42, Tryd.ntmps42
      go_wp2
      go_ret
      exact ⟨by simp [digV, wthn] <;> omega, rfl⟩
    · by_cases h3 : 65 ≤ c ∧ c ≤ 70
      · obtain ⟨a1, b1⟩ := h3
        go_enter Tryd.func42, Tryd.ntmps42
        go_wp2
        go_ret
        exact ⟨by simp [digV, wthn] <;> omega, rfl⟩
      · have g1 : wthn c 48 57 = false := by rw [Bool.eq_false_iff]; intro h; exact h1 ((wthn_iff _ _ _).1 h)
        have g2 : wthn c 97 102 = false := by rw [Bool.eq_false_iff]; intro h; exact h2 ((wthn_iff _ _ _).1 h)
        have g3 : wthn c 65 70 = false := by rw [Bool.eq_false_iff]; intro h; exact h3 ((wthn_iff _ _ _).1 h)
        clear h1 h2 h3
        go_enter Tryd.func42, Tryd.ntmps42
        go_wp2_with (go_at_call 53; refine (within_any _ _ _ _).mono ?_; rintro e w1 ⟨rfl, rfl⟩)
        go_ret
        exact ⟨by simp [digV, g1, g2, g3], rfl⟩

/-- What c is worth as a digit to a base. -/
def digitI (c b : Int) : Int := if b < 2 ∨ 16 < b ∨ b ≤ digV c then -1 else digV c
theorem digit_any (c b : Int) (w : World) :
    Calls Tryd.prog 25 #[.int .i32 c, .int .i64 b] w fun e w' => e = .returned (.int .i64 (digitI c b)) ∧ w = w' := by
  have hb := digV_bd c
  by_cases h1 : b < 2
  · go_enter Tryd.func25, Tryd.ntmps25
    go_wp2_with (go_at_call 42; refine (digitValue_any _ _).mono ?_; rintro e w1 ⟨rfl, rfl⟩)
    go_ret
    exact ⟨by simp [digitI] <;> omega, rfl⟩
  by_cases h2 : 16 < b
  · go_enter Tryd.func25, Tryd.ntmps25
    go_wp2_with (go_at_call 42; refine (digitValue_any _ _).mono ?_; rintro e w1 ⟨rfl, rfl⟩)
    go_ret
    exact ⟨by simp [digitI] <;> omega, rfl⟩
  by_cases h3 : b ≤ digV c
  · go_enter Tryd.func25, Tryd.ntmps25
    go_wp2_with (go_at_call 42; refine (digitValue_any _ _).mono ?_; rintro e w1 ⟨rfl, rfl⟩)
    go_ret
    exact ⟨by simp [digitI] <;> omega, rfl⟩
  go_enter Tryd.func25, Tryd.ntmps25
  go_wp2_with (go_at_call 42; refine (digitValue_any _ _).mono ?_; rintro e w1 ⟨rfl, rfl⟩)
  go_ret
  exact ⟨by simp [digitI] <;> omega, rfl⟩

theorem refdigit_any (c b : Int) (lo : -2147483648 ≤ c) (hi : c ≤ 2147483647) (w : World) :
    Calls Tryd.prog 28 #[.int .i64 c, .int .i64 b] w fun e w' => e = .returned (.int .i64 (digitI c b)) ∧ w = w' := by
  by_cases h1 : wthn c 48 57 = true
  · have hb := (wthn_iff _ _ _).1 h1
    by_cases q0 : b < 2
    · go_enter Tryd.func28, Tryd.ntmps28
      go_wp2_with (go_at_call 43; refine (refin_any _ _ _ _).mono ?_; rintro e w1 ⟨rfl, rfl⟩)
      go_ret
      exact ⟨by simp [digitI, digV, h1] <;> omega, rfl⟩
    by_cases q1 : 16 < b
    · go_enter Tryd.func28, Tryd.ntmps28
      go_wp2_with (go_at_call 43; refine (refin_any _ _ _ _).mono ?_; rintro e w1 ⟨rfl, rfl⟩)
      go_ret
      exact ⟨by simp [digitI, digV, h1] <;> omega, rfl⟩
    by_cases q2 : b ≤ c - 48
    · go_enter Tryd.func28, Tryd.ntmps28
      go_wp2_with (go_at_call 43; refine (refin_any _ _ _ _).mono ?_; rintro e w1 ⟨rfl, rfl⟩)
      go_ret
      exact ⟨by simp [digitI, digV, h1] <;> omega, rfl⟩
    go_enter Tryd.func28, Tryd.ntmps28
    go_wp2_with (go_at_call 43; refine (refin_any _ _ _ _).mono ?_; rintro e w1 ⟨rfl, rfl⟩)
    go_ret
    exact ⟨by simp [digitI, digV, h1] <;> omega, rfl⟩
  have g1 : wthn c 48 57 = false := by simpa using h1
  clear h1
  by_cases h2 : wthn c 97 102 = true
  · have hb := (wthn_iff _ _ _).1 h2
    by_cases q0 : b < 2
    · go_enter Tryd.func28, Tryd.ntmps28
      go_wp2_with (go_at_call 43; refine (refin_any _ _ _ _).mono ?_; rintro e w1 ⟨rfl, rfl⟩)
      go_ret
      exact ⟨by simp [digitI, digV, g1, h2] <;> omega, rfl⟩
    by_cases q1 : 16 < b
    · go_enter Tryd.func28, Tryd.ntmps28
      go_wp2_with (go_at_call 43; refine (refin_any _ _ _ _).mono ?_; rintro e w1 ⟨rfl, rfl⟩)
      go_ret
      exact ⟨by simp [digitI, digV, g1, h2] <;> omega, rfl⟩
    by_cases q2 : b ≤ c - 87
    · go_enter Tryd.func28, Tryd.ntmps28
      go_wp2_with (go_at_call 43; refine (refin_any _ _ _ _).mono ?_; rintro e w1 ⟨rfl, rfl⟩)
      go_ret
      exact ⟨by simp [digitI, digV, g1, h2] <;> omega, rfl⟩
    go_enter Tryd.func28, Tryd.ntmps28
    go_wp2_with (go_at_call 43; refine (refin_any _ _ _ _).mono ?_; rintro e w1 ⟨rfl, rfl⟩)
    go_ret
    exact ⟨by simp [digitI, digV, g1, h2] <;> omega, rfl⟩
  have g2 : wthn c 97 102 = false := by simpa using h2
  clear h2
  by_cases h3 : wthn c 65 70 = true
  · have hb := (wthn_iff _ _ _).1 h3
    by_cases q0 : b < 2
    · go_enter Tryd.func28, Tryd.ntmps28
      go_wp2_with (go_at_call 43; refine (refin_any _ _ _ _).mono ?_; rintro e w1 ⟨rfl, rfl⟩)
      go_ret
      exact ⟨by simp [digitI, digV, g1, g2, h3] <;> omega, rfl⟩
    by_cases q1 : 16 < b
    · go_enter Tryd.func28, Tryd.ntmps28
      go_wp2_with (go_at_call 43; refine (refin_any _ _ _ _).mono ?_; rintro e w1 ⟨rfl, rfl⟩)
      go_ret
      exact ⟨by simp [digitI, digV, g1, g2, h3] <;> omega, rfl⟩
    by_cases q2 : b ≤ c - 55
    · go_enter Tryd.func28, Tryd.ntmps28
      go_wp2_with (go_at_call 43; refine (refin_any _ _ _ _).mono ?_; rintro e w1 ⟨rfl, rfl⟩)
      go_ret
      exact ⟨by simp [digitI, digV, g1, g2, h3] <;> omega, rfl⟩
    go_enter Tryd.func28, Tryd.ntmps28
    go_wp2_with (go_at_call 43; refine (refin_any _ _ _ _).mono ?_; rintro e w1 ⟨rfl, rfl⟩)
    go_ret
    exact ⟨by simp [digitI, digV, g1, g2, h3] <;> omega, rfl⟩
  have g3 : wthn c 65 70 = false := by simpa using h3
  clear h3
  by_cases q0 : b < 2
  · go_enter Tryd.func28, Tryd.ntmps28
    go_wp2_with (go_at_call 43; refine (refin_any _ _ _ _).mono ?_; rintro e w1 ⟨rfl, rfl⟩)
    go_ret
    exact ⟨by simp [digitI, digV, g1, g2, g3] <;> omega, rfl⟩
  by_cases q1 : 16 < b
  · go_enter Tryd.func28, Tryd.ntmps28
    go_wp2_with (go_at_call 43; refine (refin_any _ _ _ _).mono ?_; rintro e w1 ⟨rfl, rfl⟩)
    go_ret
    exact ⟨by simp [digitI, digV, g1, g2, g3] <;> omega, rfl⟩
  by_cases q2 : b ≤ -1
  · go_enter Tryd.func28, Tryd.ntmps28
    go_wp2_with (go_at_call 43; refine (refin_any _ _ _ _).mono ?_; rintro e w1 ⟨rfl, rfl⟩)
    go_ret
    exact ⟨by simp [digitI, digV, g1, g2, g3] <;> omega, rfl⟩
  go_enter Tryd.func28, Tryd.ntmps28
  go_wp2_with (go_at_call 43; refine (refin_any _ _ _ _).mono ?_; rintro e w1 ⟨rfl, rfl⟩)
  go_ret
  exact ⟨by simp [digitI, digV, g1, g2, g3] <;> omega, rfl⟩

end Go.Proofs.YtiifjegjmhbhkaaDoor.Gly
