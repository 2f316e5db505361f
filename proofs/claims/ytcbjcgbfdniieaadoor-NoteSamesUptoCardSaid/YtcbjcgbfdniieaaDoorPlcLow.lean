/-
  The contract of place.newline. Condition: a length that is far from the greatest int.
-/
import Derived.Test.YtcbjcgbfdniieaaDoorPlcMath
import Derived.Test.YtcbjcgbfdniieaaDoorRows
import Derived.WalkKit
import Derived.RegionTactic
import Derived.BigQuiet
import Derived.Deep.RegionHeld3
import Derived.WalkLawsBesides
import Derived.WalkSpells
import Derived.Outline
import Derived.Lib.Hide
import Derived.Handy
namespace Go.Proofs.YtcbjcgbfdniieaaDoor.Plc
open Go.RowKit Gly
set_option linter.unusedSimpArgs false

theorem newline_any (r : ByteArray) (h : 0 < r.size) (_hs : r.size ≤ maxLen) (w : World) :
    Calls Tryd.prog 45 #[.string r] w fun e w' => e = .returned (.int .i64 ((nlAt r 0 : Nat) : Int)) ∧ w = w' := by
  have hb := bt_in r 0 h
  have hlt := bt_lt r 0
  by_cases c10 : bt r 0 = 10
  · have hr : Hid (nlAt r 0 = 1) := by unfold Hid nlAt; rw [if_neg (by omega), if_pos (Or.inl c10)]
    have x : r[0].toNat = 10 := by omega
    clear hb c10 hlt
    go_enter Tryd.func45, Tryd.ntmps45
    go_wp2
    go_ret
    exact ⟨by rw [hr.out]; rfl, rfl⟩
  by_cases c12 : bt r 0 = 12
  · have hr : Hid (nlAt r 0 = 1) := by unfold Hid nlAt; rw [if_neg (by omega), if_pos (Or.inr c12)]
    have x : r[0].toNat = 12 := by omega
    clear hb c10 c12 hlt
    go_enter Tryd.func45, Tryd.ntmps45
    go_wp2
    go_ret
    exact ⟨by rw [hr.out]; rfl, rfl⟩
  by_cases c13 : bt r 0 = 13
  · have x : r[0].toNat = 13 := by omega
    by_cases hz : 1 < r.size
    · have hb1 := bt_in r 1 hz
      by_cases cn : bt r 1 = 10
      · have hr : Hid (nlAt r 0 = 2) := by unfold Hid nlAt; rw [if_neg (by omega), if_neg (by omega), if_pos c13, if_pos ⟨by omega, cn⟩]
        have y : r[1].toNat = 10 := by omega
        clear hb c10 c12 c13 cn hb1 hlt
        go_enter Tryd.func45, Tryd.ntmps45
        go_wp2
        go_ret
        exact ⟨by rw [hr.out]; rfl, rfl⟩
      · have hr : Hid (nlAt r 0 = 1) := by unfold Hid nlAt; rw [if_neg (by omega), if_neg (by omega), if_pos c13, if_neg (fun q => cn q.2)]
        have y : ¬ r[1].toNat = 10 := by omega
        clear hb c10 c12 c13 cn hb1 hlt
        go_enter Tryd.func45, Tryd.ntmps45
        go_wp2
        go_ret
        exact ⟨by rw [hr.out]; rfl, rfl⟩
    · have hr : Hid (nlAt r 0 = 1) := by unfold Hid nlAt; rw [if_neg (by omega), if_neg (by omega), if_pos c13, if_neg (fun q => by omega)]
      clear hb c10 c12 c13 hlt
      go_enter Tryd.func45, Tryd.ntmps45
      go_wp2
      go_ret
      exact ⟨by rw [hr.out]; rfl, rfl⟩
  · have hr : Hid (nlAt r 0 = 0) := by unfold Hid nlAt; rw [if_neg (by omega), if_neg (by omega), if_neg c13]
    have x1 : ¬ r[0].toNat = 10 := by omega
    have x2 : ¬ r[0].toNat = 12 := by omega
    have x3 : ¬ r[0].toNat = 13 := by omega
    clear hb c10 c12 c13 hlt
    go_enter Tryd.func45, Tryd.ntmps45
    go_wp2
    go_ret
    exact ⟨by rw [hr.out]; rfl, rfl⟩

end Go.Proofs.YtcbjcgbfdniieaaDoor.Plc
