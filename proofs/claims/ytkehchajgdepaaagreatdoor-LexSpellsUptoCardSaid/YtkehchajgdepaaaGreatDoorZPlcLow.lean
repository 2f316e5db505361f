/-
  The contracts of the small functions of package place: newline, start, afterTab, past. Conditions: lengths and columns that are far from the greatest int.
-/
import Derived.Test.YtkehchajgdepaaaGreatDoorZMthB
import Derived.Test.YtkehchajgdepaaaGreatDoorRows
import Derived.WalkKit
import Derived.RegionTactic
import Derived.BigQuiet
import Derived.Deep.RegionHeld3
import Derived.WalkLawsBesides
import Derived.WalkSpells
import Derived.Outline
import Derived.Lib.Hide
import Derived.Handy
namespace Go.Proofs.YtkehchajgdepaaaGreatDoor.Plc
open Go.RowKit Gly
set_option linter.unusedSimpArgs false

theorem newline_any (r : ByteArray) (h : 0 < r.size) (_hs : r.size ≤ maxLen) (w : World) :
    Calls Tryz.prog 115 #[.string r] w fun e w' => e = .returned (.int .i64 ((nlAt r 0 : Nat) : Int)) ∧ w = w' := by
  have hb := bt_in r 0 h
  have hlt := bt_lt r 0
  by_cases c10 : bt r 0 = 10
  · have hr : Hid (nlAt r 0 = 1) := by unfold Hid nlAt; rw [if_neg (by omega), if_pos (Or.inl c10)]
    have x : r[0].toNat = 10 := by omega
    clear hb c10 hlt
    go_enter Tryz.func115, Tryz.ntmps115
    go_wp2
    go_ret
    exact ⟨by rw [hr.out]; rfl, rfl⟩
  by_cases c12 : bt r 0 = 12
  · have hr : Hid (nlAt r 0 = 1) := by unfold Hid nlAt; rw [if_neg (by omega), if_pos (Or.inr c12)]
    have x : r[0].toNat = 12 := by omega
    clear hb c10 c12 hlt
    go_enter Tryz.func115, Tryz.ntmps115
    go_wp2
    go_ret
    exact ⟨by rw [hr.out]; rfl, rfl⟩
  by_cases c13 : bt r 0 = 13
  · have x : r[0].toNat = 13 := by omega
    by_cases hz : 1 < r.size
    · have hb1 := bt_in r 1 hz
      by_cases cn : bt r 1 = 10
      · have hr : Hid (nlAt r 0 = 2) := by unfold Hid nlAt; rw [if_neg (by omega), if_neg (by omega), if_pos c13, if_pos ⟨by omega, cn⟩]
        have y : r[1].toNat = 10 := by omega
        clear hb c10 c12 c13 cn hb1 hlt
        go_enter Tryz.func115, Tryz.ntmps115
        go_wp2
        go_ret
        exact ⟨by rw [hr.out]; rfl, rfl⟩
      · have hr : Hid (nlAt r 0 = 1) := by unfold Hid nlAt; rw [if_neg (by omega), if_neg (by omega), if_pos c13, if_neg (fun q => cn q.2)]
        have y : ¬ r[1].toNat = 10 := by omega
        clear hb c10 c12 c13 cn hb1 hlt
        go_enter Tryz.func115, Tryz.ntmps115
        go_wp2
        go_ret
        exact ⟨by rw [hr.out]; rfl, rfl⟩
    · have hr : Hid (nlAt r 0 = 1) := by unfold Hid nlAt; rw [if_neg (by omega), if_neg (by omega), if_pos c13, if_neg (fun q => by omega)]
      clear hb c10 c12 c13 hlt
      go_enter Tryz.func115, Tryz.ntmps115
      go_wp2
      go_ret
      exact ⟨by rw [hr.out]; rfl, rfl⟩
  · have hr : Hid (nlAt r 0 = 0) := by unfold Hid nlAt; rw [if_neg (by omega), if_neg (by omega), if_neg c13]
    have x1 : ¬ r[0].toNat = 10 := by omega
    have x2 : ¬ r[0].toNat = 12 := by omega
    have x3 : ¬ r[0].toNat = 13 := by omega
    clear hb c10 c12 c13 hlt
    go_enter Tryz.func115, Tryz.ntmps115
    go_wp2
    go_ret
    exact ⟨by rw [hr.out]; rfl, rfl⟩

theorem start_any (c : Int) (w : World) :
    Calls Tryz.prog 96 #[.int .i64 c] w fun e w' => e = .returned (.agg #[.int .i64 1, .int .i64 c]) ∧ Below w.heap.size w w' := by
  go_enter Tryz.func96, Tryz.ntmps96
  go_wp2
  go_returns
  exact ⟨rfl, (Below.refl _ _).alloc (Nat.le_refl _) _⟩

theorem afterTab_any (c : Int) (h1 : 1 ≤ c) (h2 : c ≤ 1152921504606846976) (w : World) :
    Calls Tryz.prog 116 #[.int .i64 c] w fun e w' => e = .returned (.int .i64 (tabI c)) ∧ w = w' := by
  have hq : (c - 1).tdiv 8 = (c - 1) / 8 := Int.tdiv_eq_ediv_of_nonneg (by omega)
  have hd : Hid (tabI c = (c - 1) / 8 * 8 + 9) := rfl
  have hb : 0 ≤ (c - 1) / 8 := by omega
  have hb2 : (c - 1) / 8 ≤ 1152921504606846976 := by omega
  go_enter Tryz.func116, Tryz.ntmps116
  go_wp2
  go_ret
  refine ⟨?_, rfl⟩
  rw [hd.out]
  show Ending.returned (Value.int IntKind.i64 ((c - 1) / 8 * 8 + 8 + 1)) = _
  rw [Int.add_assoc]
  rfl

theorem past_any (l c : Int) (r : ByteArray) (h : 0 < r.size) (hs : r.size ≤ maxLen) (_l1 : 1 ≤ l) (_l2 : l ≤ 1152921504606846976) (c1 : 1 ≤ c) (c2 : c ≤ 1152921504606846976) (w : World) :
    Calls Tryz.prog 97 #[.agg #[.int .i64 l, .int .i64 c], .string r] w fun e w' => e = .returned (.agg #[.int .i64 (adv r 0 (l, c)).1, .int .i64 (adv r 0 (l, c)).2]) ∧ Below w.heap.size w w' := by
  by_cases n2 : nlAt r 0 = 2
  · have hr : Hid (adv r 0 (l, c) = (l, c)) := by unfold Hid adv; rw [if_pos n2]
    have N := fun W => newline_any r h hs W
    rw [n2] at N
    have NH := Lib.hid N
    clear N n2
    go_enter Tryz.func97, Tryz.ntmps97
    go_wp2_with (first | (go_at_call 115; refine (NH.out _).mono ?_; rintro e w1 ⟨rfl, rfl⟩))
    go_returns
    exact ⟨by rw [hr.out], by go_grown⟩
  by_cases n1 : nlAt r 0 = 1
  · have hr : Hid (adv r 0 (l, c) = (l + 1, 1)) := by unfold Hid adv; rw [if_neg n2, if_pos n1]
    have N := fun W => newline_any r h hs W
    rw [n1] at N
    have NH := Lib.hid N
    clear N n2 n1
    go_enter Tryz.func97, Tryz.ntmps97
    go_wp2_with (first | (go_at_call 115; refine (NH.out _).mono ?_; rintro e w1 ⟨rfl, rfl⟩))
    go_returns
    exact ⟨by rw [hr.out], by go_grown⟩
  have n0 : nlAt r 0 = 0 := by have := nlAt_le r 0; omega
  have hb := bt_in r 0 h
  by_cases c9 : bt r 0 = 9
  · have hr : Hid (adv r 0 (l, c) = (l, tabI c)) := by unfold Hid adv; rw [if_neg n2, if_neg n1, if_pos c9]
    have N := fun W => newline_any r h hs W
    rw [n0] at N
    have NH := Lib.hid N
    have x : r[0].toNat = 9 := by omega
    clear N n2 n1 n0 c9 hb
    go_enter Tryz.func97, Tryz.ntmps97
    go_wp2_with (first | (go_at_call 115; refine (NH.out _).mono ?_; rintro e w1 ⟨rfl, rfl⟩))
    go_region_held3 (fun w' => w'.cell? ⟨w.heap.size, 0, none⟩ = some (.int .i64 l) ∧ w'.cell? ⟨w.heap.size, 1, none⟩ = some (.int .i64 c)) (go_keep) (first | (go_at_call 116; refine (afterTab_any c c1 c2 _).mono ?_; rintro e w2 ⟨rfl, rfl⟩))
    all_goals go_wp2
    all_goals go_returns
    all_goals exact ⟨by rw [hr.out], by go_grown⟩
  · have hr : Hid (adv r 0 (l, c) = (l, c + 1)) := by unfold Hid adv; rw [if_neg n2, if_neg n1, if_neg c9]
    have N := fun W => newline_any r h hs W
    rw [n0] at N
    have NH := Lib.hid N
    have x : ¬ r[0].toNat = 9 := by omega
    clear N n2 n1 n0 c9 hb
    go_enter Tryz.func97, Tryz.ntmps97
    go_wp2_with (first | (go_at_call 115; refine (NH.out _).mono ?_; rintro e w1 ⟨rfl, rfl⟩))
    go_returns
    exact ⟨by rw [hr.out], by go_grown⟩
end Go.Proofs.YtkehchajgdepaaaGreatDoor.Plc
