/-
  The contracts of the document's own End, Width and Of. Condition: the string has at most 2^50 bytes.
-/
import Derived.Test.YthjckmoobbpidaaPlcMath
import Derived.Test.YthjckmoobbpidaaGlyRefn
namespace Go.Proofs.Ythjckmoobbpidaa.Plc
open Go.RowKit Gly
set_option linter.unusedSimpArgs false

theorem refEnd_any (s : ByteArray) (n : Nat) (_hs : s.size ≤ 1125899906842624) (_hn : n ≤ s.size) (w : World) :
    Calls Try.prog 27 #[.string s, .int .i64 (n : Int)] w fun e w' => e = .returned (.int .i64 ((nlAt s n : Nat) : Int)) ∧ w = w' := by
  by_cases h0 : s.size ≤ n
  · have hr : Hid (nlAt s n = 0) := by unfold Hid nlAt; rw [if_pos h0]
    go_enter Try.func27, Try.ntmps27
    go_wp2
    go_ret
    exact ⟨by rw [hr.out]; rfl, rfl⟩
  have h : n < s.size := by omega
  have hb := bt_in s n h
  by_cases c10 : bt s n = 10
  · have hr : Hid (nlAt s n = 1) := by unfold Hid nlAt; rw [if_neg (by omega), if_pos (Or.inl c10)]
    have x : s[n].toNat = 10 := by omega
    clear hb c10
    go_enter Try.func27, Try.ntmps27
    go_wp2
    go_ret
    exact ⟨by rw [hr.out]; rfl, rfl⟩
  by_cases c12 : bt s n = 12
  · have hr : Hid (nlAt s n = 1) := by unfold Hid nlAt; rw [if_neg (by omega), if_pos (Or.inr c12)]
    have x : s[n].toNat = 12 := by omega
    clear hb c10 c12
    go_enter Try.func27, Try.ntmps27
    go_wp2
    go_ret
    exact ⟨by rw [hr.out]; rfl, rfl⟩
  by_cases c13 : bt s n = 13
  · have x : s[n].toNat = 13 := by omega
    by_cases hz : n + 1 < s.size
    · have hb1 := bt_in s (n + 1) hz
      by_cases cn : bt s (n + 1) = 10
      · have hr : Hid (nlAt s n = 2) := by unfold Hid nlAt; rw [if_neg (by omega), if_neg (by omega), if_pos c13, if_pos ⟨by omega, cn⟩]
        have y : s[n + 1].toNat = 10 := by omega
        clear hb c10 c12 c13 cn hb1
        go_enter Try.func27, Try.ntmps27
        go_wp2
        go_ret
        exact ⟨by rw [hr.out]; rfl, rfl⟩
      · have hr : Hid (nlAt s n = 1) := by unfold Hid nlAt; rw [if_neg (by omega), if_neg (by omega), if_pos c13, if_neg (fun q => cn q.2)]
        have y : ¬ s[n + 1].toNat = 10 := by omega
        clear hb c10 c12 c13 cn hb1
        go_enter Try.func27, Try.ntmps27
        go_wp2
        go_ret
        exact ⟨by rw [hr.out]; rfl, rfl⟩
    · have hr : Hid (nlAt s n = 1) := by unfold Hid nlAt; rw [if_neg (by omega), if_neg (by omega), if_pos c13, if_neg (fun q => by omega)]
      clear hb c10 c12 c13
      go_enter Try.func27, Try.ntmps27
      go_wp2
      go_ret
      exact ⟨by rw [hr.out]; rfl, rfl⟩
  · have hr : Hid (nlAt s n = 0) := by unfold Hid nlAt; rw [if_neg (by omega), if_neg (by omega), if_neg c13]
    have x1 : ¬ s[n].toNat = 10 := by omega
    have x2 : ¬ s[n].toNat = 12 := by omega
    have x3 : ¬ s[n].toNat = 13 := by omega
    clear hb c10 c12 c13
    go_enter Try.func27, Try.ntmps27
    go_wp2
    go_ret
    exact ⟨by rw [hr.out]; rfl, rfl⟩

theorem end_is (s : ByteArray) (n k : Nat) (hs : s.size ≤ 1125899906842624) (hn : n ≤ s.size) (h : nlAt s n = k) :
    Hid (∀ w : World, Calls Try.prog 27 #[.string s, .int .i64 (n : Int)] w fun e w' => e = .returned (.int .i64 (k : Int)) ∧ w = w') := by
  subst h
  exact fun w => refEnd_any s n hs hn w

/-- Width's answer. -/
def widthI (s : ByteArray) (col : Int) : Int × Int := if col < 1 ∨ 2147483648 < col then (0, 1) else ((spot s col s.size).2, 0)

/-- Of's answer. -/
def ofI (s : ByteArray) (i : Int) : Int × Int × Int := if i < 0 ∨ (s.size : Int) < i then (0, 0, 1) else ((spot s 1 i.toNat).1, (spot s 1 i.toNat).2, 0)

end Go.Proofs.Ythjckmoobbpidaa.Plc
