/-
  The contracts of the document's own End, Width and Of. Condition: the string has at most 2^50 bytes.
-/
import Derived.Test.YtkehchajgdepaaaGreatDoorZMthB
import Derived.Test.YtkehchajgdepaaaGreatDoorZRefA
namespace Go.Proofs.YtkehchajgdepaaaGreatDoor.Plc
open Go.RowKit Gly
set_option linter.unusedSimpArgs false

theorem refEnd_any (s : ByteArray) (n : Nat) (_hs : s.size ≤ 1125899906842624) (_hn : n ≤ s.size) (w : World) :
    Calls Tryz.prog 39 #[.string s, .int .i64 (n : Int)] w fun e w' => e = .returned (.int .i64 ((nlAt s n : Nat) : Int)) ∧ w = w' := by
  by_cases h0 : s.size ≤ n
  · have hr : Hid (nlAt s n = 0) := by unfold Hid nlAt; rw [if_pos h0]
    go_enter Tryz.func39, Tryz.ntmps39
    go_wp2
    go_ret
    exact ⟨by rw [hr.out]; rfl, rfl⟩
  have h : n < s.size := by omega
  have hb := bt_in s n h
  by_cases c10 : bt s n = 10
  · have hr : Hid (nlAt s n = 1) := by unfold Hid nlAt; rw [if_neg (by omega), if_pos (Or.inl c10)]
    have x : s[n].toNat = 10 := by omega
    clear hb c10
    go_enter Tryz.func39, Tryz.ntmps39
    go_wp2
    go_ret
    exact ⟨by rw [hr.out]; rfl, rfl⟩
  by_cases c12 : bt s n = 12
  · have hr : Hid (nlAt s n = 1) := by unfold Hid nlAt; rw [if_neg (by omega), if_pos (Or.inr c12)]
    have x : s[n].toNat = 12 := by omega
    clear hb c10 c12
    go_enter Tryz.func39, Tryz.ntmps39
    go_wp2
    go_ret
    exact ⟨by rw [hr.out]; rfl, rfl⟩
  by_cases c13 : bt s n = 13
  · have x : s[n].toNat = 13 := by omega
    by_cases hz : n + 1 < s.size
    · have hb1 := bt_in s (n + 1) hz
      by_cases cn : bt s (n + 1) = 10
      · have hr : Hid (nlAt s n = 2) := by unfold Hid nlAt; rw [if_neg (by omega), if_neg (by omega), if_pos c13, if_pos ⟨by omega, cn⟩]
        have y : s[n + 1].toNat = 10 := by omega
        clear hb c10 c12 c13 cn hb1
        go_enter Tryz.func39, Tryz.ntmps39
        go_wp2
        go_ret
        exact ⟨by rw [hr.out]; rfl, rfl⟩
      · have hr : Hid (nlAt s n = 1) := by unfold Hid nlAt; rw [if_neg (by omega), if_neg (by omega), if_pos c13, if_neg (fun q => cn q.2)]
        have y : ¬ s[n + 1].toNat = 10 := by omega
        clear hb c10 c12 c13 cn hb1
        go_enter Tryz.func39, Tryz.ntmps39
        go_wp2
        go_ret
        exact ⟨by rw [hr.out]; rfl, rfl⟩
    · have hr : Hid (nlAt s n = 1) := by unfold Hid nlAt; rw [if_neg (by omega), if_neg (by omega), if_pos c13, if_neg (fun q => by omega)]
      clear hb c10 c12 c13
      go_enter Tryz.func39, Tryz.ntmps39
      go_wp2
      go_ret
      exact ⟨by rw [hr.out]; rfl, rfl⟩
  · have hr : Hid (nlAt s n = 0) := by unfold Hid nlAt; rw [if_neg (by omega), if_neg (by omega), if_neg c13]
    have x1 : ¬ s[n].toNat = 10 := by omega
    have x2 : ¬ s[n].toNat = 12 := by omega
    have x3 : ¬ s[n].toNat = 13 := by omega
    clear hb c10 c12 c13
    go_enter Tryz.func39, Tryz.ntmps39
    go_wp2
    go_ret
    exact ⟨by rw [hr.out]; rfl, rfl⟩

theorem end_is (s : ByteArray) (n k : Nat) (hs : s.size ≤ 1125899906842624) (hn : n ≤ s.size) (h : nlAt s n = k) :
    Hid (∀ w : World, Calls Tryz.prog 39 #[.string s, .int .i64 (n : Int)] w fun e w' => e = .returned (.int .i64 (k : Int)) ∧ w = w') := by
  subst h
  exact fun w => refEnd_any s n hs hn w

/-- Width's answer. -/
def widthI (s : ByteArray) (col : Int) : Int × Int := if col < 1 ∨ 2147483648 < col then (0, 1) else ((spot s col s.size).2, 0)

/-- Of's answer. -/
def ofI (s : ByteArray) (i : Int) : Int × Int × Int := if i < 0 ∨ (s.size : Int) < i then (0, 0, 1) else ((spot s 1 i.toNat).1, (spot s 1 i.toNat).2, 0)

set_option maxHeartbeats 2000000 in
theorem refOf_any (s : ByteArray) (i : Int) (hs : s.size ≤ 1125899906842624) (w : World) :
    Calls Tryz.prog 22 #[.string s, .int .i64 i] w fun e w' => e = .returned (.tuple #[.int .i64 (ofI s i).1, .int .i64 (ofI s i).2.1, .int .i64 (ofI s i).2.2]) ∧ w = w' := by
  by_cases h1 : i < 0
  · have hr : Hid (ofI s i = (0, 0, 1)) := by unfold Hid ofI; rw [if_pos (Or.inl h1)]
    go_enter Tryz.func22, Tryz.ntmps22
    go_wp2
    go_ret3
    exact ⟨by rw [hr.out]; rfl, rfl⟩
  by_cases h2 : (s.size : Int) < i
  · have hr : Hid (ofI s i = (0, 0, 1)) := by unfold Hid ofI; rw [if_pos (Or.inr h2)]
    go_enter Tryz.func22, Tryz.ntmps22
    go_wp2
    go_ret3
    exact ⟨by rw [hr.out]; rfl, rfl⟩
  obtain ⟨a, rfl⟩ := Int.eq_ofNat_of_zero_le (a := i) (by omega)
  have ha : a ≤ s.size := by omega
  have hr : Hid (ofI s (a : Int) = ((scan s a s.size 0 (1, 1)).1, (scan s a s.size 0 (1, 1)).2, 0)) := by unfold Hid ofI; rw [if_neg (by omega), Int.toNat_natCast]; rfl
  clear h1 h2
  have b1 : decide ((a : Int) < 0) = false := decide_eq_false (by omega)
  have b2 : decide (s.size < a) = false := decide_eq_false (by omega)
  go_enter Tryz.func22, Tryz.ntmps22
  go_wp2
  go_loop [7, 8, 9] (fun lv cv iv => ∃ (p f : Nat) (l c : Int), lv = .int .i64 l ∧ cv = .int .i64 c ∧ iv = .int .i64 (p : Int) ∧ scan s a f p (l, c) = scan s a s.size 0 (1, 1) ∧ p ≤ a ∧ s.size ≤ p + f ∧ 1 ≤ c ∧ c ≤ 1 + 8 * (p : Int) ∧ 1 ≤ l ∧ l ≤ 1 + (p : Int)) (fun _ _ i => s.size - (intOf i).toNat)
  case atStart => exact ⟨0, s.size, 1, 1, rfl, rfl, rfl, rfl, by omega, by omega, by omega, by omega, by omega, by omega⟩
  case round =>
    obtain ⟨p, f, l, c, rfl, rfl, rfl, hq, hp0, hf, k1, k2, k3, k4⟩ := hrel
    have HQ := Lib.hid hq
    clear hq
    by_cases hp : p < a
    · have hps : p < s.size := by omega
      have hw := width_ge s p
      have hw4 := width_four s p
      have hx := width_fits s p hps
      rcases (show nlAt s p = 2 ∨ nlAt s p = 1 ∨ nlAt s p = 0 by have := nlAt_le s p; omega) with e | e | e
      · have E := end_is s p 2 hs (by omega) e
        have HE := Lib.hid e
        clear e hw hx hw4
        by_cases ho : a < p + 2
        · go_wp2_with fail
          refine (E.out _).mono ?_
          rintro e w1 ⟨rfl, rfl⟩
          go_wp2_with fail
          go_ret3
          refine ⟨?_, rfl⟩
          rw [hr.out, ← HQ.out, scan_mid s a f p _ HE.out ho hf]
          rfl
        · go_wp2_with fail
          refine (E.out _).mono ?_
          rintro e w1 ⟨rfl, rfl⟩
          go_wp2_with fail
          go_round
          case rel => exact ⟨p + 2, f - 2, l + 1, 1, by go_num, rfl, by go_num, by rw [← HQ.out, scan_two s _ f p _ HE.out (by omega) hf], by omega, by omega, by omega, by omega, by omega, by omega⟩
          case measure => simp [intOf]; omega
      · have E := end_is s p 1 hs (by omega) e
        have HE := Lib.hid e
        clear e hw hx hw4
        go_wp2_with fail
        refine (E.out _).mono ?_
        rintro e w1 ⟨rfl, rfl⟩
        go_wp2_with fail
        go_round
        case rel => exact ⟨p + 1, f - 1, l + 1, 1, by go_num, rfl, by go_num, by rw [← HQ.out, scan_one s _ f p _ HE.out (by omega) hf], by omega, by omega, by omega, by omega, by omega, by omega⟩
        case measure => simp [intOf]; omega
      · have E := end_is s p 0 hs (by omega) e
        have HE := Lib.hid e
        clear e
        have hru : Hid (runeAt s (p : Int) = ((((Utf8.decode s p).1 : Nat) : Int), (((Utf8.decode s p).2 : Nat) : Int))) := runeAt_in s p hps
        by_cases ho : a < p + (Utf8.decode s p).2
        · go_wp2_with fail
          refine (E.out _).mono ?_
          rintro e w1 ⟨rfl, rfl⟩
          go_wp2_with fail
          refine (refnext_any s p hs _).mono ?_
          rintro e w1 ⟨rfl, rfl⟩
          rw [hru.out]
          go_wp2_with fail
          go_ret3
          refine ⟨?_, rfl⟩
          rw [hr.out, ← HQ.out, scan_stop s a f p _ (by omega)]
          rfl
        have hb := bt_in s p hps
        by_cases c9 : bt s p = 9
        · have x : s[p].toNat = 9 := by omega
          have HC := Lib.hid c9
          clear hb c9
          have hm : (c - 1).tmod 8 = (c - 1) % 8 := Int.tmod_eq_emod_of_nonneg (by omega)
          go_wp2_with fail
          refine (E.out _).mono ?_
          rintro e w1 ⟨rfl, rfl⟩
          go_wp2_with fail
          refine (refnext_any s p hs _).mono ?_
          rintro e w1 ⟨rfl, rfl⟩
          rw [hru.out]
          go_wp2_with fail
          go_round
          case rel => exact ⟨p + (Utf8.decode s p).2, f - 1, l, tabI c, rfl, by unfold tabI; go_num, by go_num, by rw [← HQ.out, scan_char s _ f p _ HE.out hps (by omega) hf, if_pos HC.out], by omega, by omega, by unfold tabI; omega, by unfold tabI; omega, by omega, by omega⟩
          case measure => simp [intOf]; omega
        · have x : ¬ s[p].toNat = 9 := by omega
          have HC := Lib.hid c9
          clear hb c9
          go_wp2_with fail
          refine (E.out _).mono ?_
          rintro e w1 ⟨rfl, rfl⟩
          go_wp2_with fail
          refine (refnext_any s p hs _).mono ?_
          rintro e w1 ⟨rfl, rfl⟩
          rw [hru.out]
          go_wp2_with fail
          go_round
          case rel => exact ⟨p + (Utf8.decode s p).2, f - 1, l, c + 1, rfl, by go_num, by go_num, by rw [← HQ.out, scan_char s _ f p _ HE.out hps (by omega) hf, if_neg HC.out], by omega, by omega, by omega, by omega, by omega, by omega⟩
          case measure => simp [intOf]; omega
    · obtain rfl : p = a := by omega
      go_wp2_with fail
      go_ret3
      refine ⟨?_, rfl⟩
      have hw := width_ge s p
      rw [hr.out, ← HQ.out, scan_stop _ _ _ _ _ (by omega)]
      rfl
end Go.Proofs.YtkehchajgdepaaaGreatDoor.Plc
