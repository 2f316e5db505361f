/-
  The contracts of the document's own Scan, whole, parts. Condition: the string has at most 2^50 bytes.
-/
import Derived.Test.YtkehchajgdepaaaGreatDoorZNumRead
import Derived.Deep.Cut
namespace Go.Proofs.YtkehchajgdepaaaGreatDoor.Num
open Go.RowKit Gly
set_option linter.unusedSimpArgs false
set_option linter.unusedVariables false

theorem endOr_abs (L : List UInt8) (n a o : Nat) : n + endOr (L.drop n) a o = endOr L (n + a) (n + o) := by
  unfold endOr
  rw [List.drop_drop]
  split <;> omega
theorem fracE_abs (L : List UInt8) (n a : Nat) : n + fracE (L.drop n) a = fracE L (n + a) := by
  unfold fracE
  rw [bt_drop, Nat.add_assoc, ← endOr_abs]
  split <;> rfl
theorem expF_abs (L : List UInt8) (n a : Nat) : n + expF (L.drop n) a = expF L (n + a) := by
  unfold expF
  rw [bt_drop, Nat.add_assoc]
  split <;> omega
theorem expE_abs (L : List UInt8) (n a : Nat) : n + expE (L.drop n) a = expE L (n + a) := by
  unfold expE
  rw [bt_drop, ← expF_abs, ← endOr_abs]
  split <;> rfl

set_option maxRecDepth 100000 in
set_option maxHeartbeats 8000000 in
set_option maxRecDepth 100000 in
set_option maxHeartbeats 8000000 in
theorem refScan_in (s : ByteArray) (n : Nat) (hs : s.size ≤ 1125899906842624) (h0 : n < s.size) (h1 : run 10 (rest s n) ≠ 0) (w : World) :
    Calls Tryz.prog 42 #[.string s, .int .i64 (n : Int)] w fun e w' => e = .returned (.tuple #[.int .i64 ((scanN s n).1 : Int), .int .i64 ((scanN s n).2 : Int)]) ∧ w = w' := by
  have D : Hid (∀ k b : Nat, ∀ W, Calls Tryz.prog 67 #[.string s, .int .i64 (k : Int), .int .i64 (b : Int)] W fun e w' => e = .returned (.int .i64 ((k + run b (rest s k) : Nat) : Int)) ∧ W = w') := fun k b W => refdigits_any s k b hs W
  have d1 : (((n : Int) + ((run 10 (rest s n) : Nat) : Int)) == (n : Int)) = false := by rw [beq_eq_false_iff_ne]; omega
  have hrl := run_le 10 (rest s n)
  rw [rest_len] at hrl
  obtain ⟨B, hB⟩ : ∃ B : Bool, B = decide (s[n].toNat = 48 ∧ n + 1 < s.size) := ⟨_, rfl⟩
  have HB := Lib.hid hB
  clear hB
  -- where the digits end
  obtain ⟨e, he⟩ : ∃ e, e = n + run 10 (rest s n) := ⟨_, rfl⟩
  have hes : e ≤ s.size := by omega
  have HE := Lib.hid he
  have De : Hid (∀ W, Calls Tryz.prog 67 #[.string s, .int .i64 (n : Int), .int .i64 10] W fun e' w' => e' = .returned (.int .i64 (e : Int)) ∧ W = w') := fun W => by
    have := D.out n 10 W
    rw [← HE.out] at this
    exact this
  have d2 : ((e : Int) == (n : Int)) = false := by rw [beq_eq_false_iff_ne]; omega
  have HN : Hid (run 10 (rest s n) ≠ 0) := h1
  clear he d1 hrl h1
  go_enter Tryz.func42, Tryz.ntmps42
  go_upto_region 3 with (go_at_call 67; refine (De.out _).mono ?_; rintro e1 w1 ⟨rfl, rfl⟩)
  go_cut [35] from 10 (fun b wx => b = .bool B ∧ wx = w)
  case first =>
    by_cases q1 : s[n].toNat = 48
    · by_cases q2 : n + 1 < s.size
      · have x1 : decide ((n : Int) + 1 < (s.size : Int)) = true := decide_eq_true (by omega)
        have x2 : (((s[n].toNat : Nat) : Int) == 48) = true := by rw [beq_iff_eq]; omega
        go_wp2_with fail
        go_meet
        case rel => exact ⟨by rw [HB.out]; simp [q1, q2], rfl⟩
      · have x1 : decide ((n : Int) + 1 < (s.size : Int)) = false := decide_eq_false (by omega)
        have x2 : (((s[n].toNat : Nat) : Int) == 48) = true := by rw [beq_iff_eq]; omega
        go_wp2_with fail
        go_meet
        case rel => exact ⟨by rw [HB.out]; simp [q1, q2], rfl⟩
    · have x2 : (((s[n].toNat : Nat) : Int) == 48) = false := by rw [beq_eq_false_iff_ne]; omega
      go_wp2_with fail
      go_meet
      case rel => exact ⟨by rw [HB.out]; simp [q1], rfl⟩
  case rest =>
    obtain ⟨rfl, rfl⟩ := hcut
    go_upto_if 35 with fail
    go_cut [] from 10 (fun wx => wx = wc ∧ ¬ 0 < run (lett (rest s n)) ((rest s n).drop 2))
    case first =>
      cases B with
      | false =>
        have hno : ¬ 0 < run (lett (rest s n)) ((rest s n).drop 2) := by
          have hh := of_decide_eq_false HB.out.symm
          have hlt : lett (rest s n) = 0 := by
            unfold lett
            rw [bt_rest, bt_rest, Nat.add_zero, bt_in s n h0]
            by_cases q1 : s[n].toNat = 48
            · rw [if_pos q1, bt_out _ _ (by rw [← Lib.size_eq]; omega)]
              rfl
            · rw [if_neg q1]
          rw [hlt, run_small 0 (by omega)]
          omega
        have HNO := Lib.hid hno
        clear hno
        go_wp2_with fail
        go_meet
        case rel => exact ⟨rfl, HNO.out⟩
      | true =>
        obtain ⟨q1, q2⟩ := of_decide_eq_true HB.out.symm
        have hl : lett (rest s n) = letter s[n + 1].toNat := by
          unfold lett
          rw [bt_rest, bt_rest, Nat.add_zero, bt_in s n h0, bt_in s (n + 1) q2, if_pos q1]
        have HL := Lib.hid hl
        clear hl De d2 HE
        by_cases c111 : s[n + 1].toNat = 111
        · have hlt : lett (rest s n) = 8 := by rw [HL.out, c111]; rfl
          have HSC : Hid (0 < run 8 (rest s (n + 2)) → scanN s (n : Int) = (11, n + 2 + run 8 (rest s (n + 2)))) := fun h => by
            have h' : 0 < run (lett (rest s n)) ((rest s n).drop 2) := by rw [hlt, rest_drop]; exact h
            unfold scanN readL lettL
            rw [if_pos (by omega), Int.toNat_natCast, if_pos h', if_pos h', if_neg (by dsimp only; omega), hlt, rest_drop, Nat.add_assoc]
          have HNO : Hid (¬ 0 < run 8 (rest s (n + 2)) → ¬ 0 < run (lett (rest s n)) ((rest s n).drop 2)) := fun h => by rw [hlt, rest_drop]; exact h
          have C : Hid (∀ W, _) := fun W => D.out (n + 2) 8 W
          clear hlt
          generalize run 8 (rest s (n + 2)) = k at C HSC HNO
          by_cases hk : 0 < k
          · have z : decide (((n + 2 : Nat) : Int) < ((n + 2 + k : Nat) : Int)) = true := decide_eq_true (by omega)
            go_wp2_with (go_at_call 67; refine (C.out _).mono ?_; rintro e1 w1 ⟨rfl, rfl⟩)
            go_ret2
            rw [HSC.out hk]
            exact ⟨rfl, rfl⟩
          · obtain rfl : k = 0 := by omega
            go_wp2_with (go_at_call 67; refine (C.out _).mono ?_; rintro e1 w1 ⟨rfl, rfl⟩)
            go_meet
            case rel => exact ⟨rfl, HNO.out hk⟩
        by_cases c79 : s[n + 1].toNat = 79
        · have hlt : lett (rest s n) = 8 := by rw [HL.out, c79]; rfl
          have HSC : Hid (0 < run 8 (rest s (n + 2)) → scanN s (n : Int) = (11, n + 2 + run 8 (rest s (n + 2)))) := fun h => by
            have h' : 0 < run (lett (rest s n)) ((rest s n).drop 2) := by rw [hlt, rest_drop]; exact h
            unfold scanN readL lettL
            rw [if_pos (by omega), Int.toNat_natCast, if_pos h', if_pos h', if_neg (by dsimp only; omega), hlt, rest_drop, Nat.add_assoc]
          have HNO : Hid (¬ 0 < run 8 (rest s (n + 2)) → ¬ 0 < run (lett (rest s n)) ((rest s n).drop 2)) := fun h => by rw [hlt, rest_drop]; exact h
          have C : Hid (∀ W, _) := fun W => D.out (n + 2) 8 W
          clear hlt
          generalize run 8 (rest s (n + 2)) = k at C HSC HNO
          by_cases hk : 0 < k
          · have z : decide (((n + 2 : Nat) : Int) < ((n + 2 + k : Nat) : Int)) = true := decide_eq_true (by omega)
            go_wp2_with (go_at_call 67; refine (C.out _).mono ?_; rintro e1 w1 ⟨rfl, rfl⟩)
            go_ret2
            rw [HSC.out hk]
            exact ⟨rfl, rfl⟩
          · obtain rfl : k = 0 := by omega
            go_wp2_with (go_at_call 67; refine (C.out _).mono ?_; rintro e1 w1 ⟨rfl, rfl⟩)
            go_meet
            case rel => exact ⟨rfl, HNO.out hk⟩
        by_cases c120 : s[n + 1].toNat = 120
        · have hlt : lett (rest s n) = 16 := by rw [HL.out, c120]; rfl
          have HSC : Hid (0 < run 16 (rest s (n + 2)) → scanN s (n : Int) = (11, n + 2 + run 16 (rest s (n + 2)))) := fun h => by
            have h' : 0 < run (lett (rest s n)) ((rest s n).drop 2) := by rw [hlt, rest_drop]; exact h
            unfold scanN readL lettL
            rw [if_pos (by omega), Int.toNat_natCast, if_pos h', if_pos h', if_neg (by dsimp only; omega), hlt, rest_drop, Nat.add_assoc]
          have HNO : Hid (¬ 0 < run 16 (rest s (n + 2)) → ¬ 0 < run (lett (rest s n)) ((rest s n).drop 2)) := fun h => by rw [hlt, rest_drop]; exact h
          have C : Hid (∀ W, _) := fun W => D.out (n + 2) 16 W
          clear hlt
          generalize run 16 (rest s (n + 2)) = k at C HSC HNO
          by_cases hk : 0 < k
          · have z : decide (((n + 2 : Nat) : Int) < ((n + 2 + k : Nat) : Int)) = true := decide_eq_true (by omega)
            go_wp2_with (go_at_call 67; refine (C.out _).mono ?_; rintro e1 w1 ⟨rfl, rfl⟩)
            go_ret2
            rw [HSC.out hk]
            exact ⟨rfl, rfl⟩
          · obtain rfl : k = 0 := by omega
            go_wp2_with (go_at_call 67; refine (C.out _).mono ?_; rintro e1 w1 ⟨rfl, rfl⟩)
            go_meet
            case rel => exact ⟨rfl, HNO.out hk⟩
        by_cases c88 : s[n + 1].toNat = 88
        · have hlt : lett (rest s n) = 16 := by rw [HL.out, c88]; rfl
          have HSC : Hid (0 < run 16 (rest s (n + 2)) → scanN s (n : Int) = (11, n + 2 + run 16 (rest s (n + 2)))) := fun h => by
            have h' : 0 < run (lett (rest s n)) ((rest s n).drop 2) := by rw [hlt, rest_drop]; exact h
            unfold scanN readL lettL
            rw [if_pos (by omega), Int.toNat_natCast, if_pos h', if_pos h', if_neg (by dsimp only; omega), hlt, rest_drop, Nat.add_assoc]
          have HNO : Hid (¬ 0 < run 16 (rest s (n + 2)) → ¬ 0 < run (lett (rest s n)) ((rest s n).drop 2)) := fun h => by rw [hlt, rest_drop]; exact h
          have C : Hid (∀ W, _) := fun W => D.out (n + 2) 16 W
          clear hlt
          generalize run 16 (rest s (n + 2)) = k at C HSC HNO
          by_cases hk : 0 < k
          · have z : decide (((n + 2 : Nat) : Int) < ((n + 2 + k : Nat) : Int)) = true := decide_eq_true (by omega)
            go_wp2_with (go_at_call 67; refine (C.out _).mono ?_; rintro e1 w1 ⟨rfl, rfl⟩)
            go_ret2
            rw [HSC.out hk]
            exact ⟨rfl, rfl⟩
          · obtain rfl : k = 0 := by omega
            go_wp2_with (go_at_call 67; refine (C.out _).mono ?_; rintro e1 w1 ⟨rfl, rfl⟩)
            go_meet
            case rel => exact ⟨rfl, HNO.out hk⟩
        have g1 : (((s[n + 1].toNat : Nat) : Int) == 111) = false := by rw [beq_eq_false_iff_ne]; omega
        have g2 : (((s[n + 1].toNat : Nat) : Int) == 79) = false := by rw [beq_eq_false_iff_ne]; omega
        have g3 : (((s[n + 1].toNat : Nat) : Int) == 120) = false := by rw [beq_eq_false_iff_ne]; omega
        have g4 : (((s[n + 1].toNat : Nat) : Int) == 88) = false := by rw [beq_eq_false_iff_ne]; omega
        have hlt : lett (rest s n) = 0 := by
          rw [HL.out]
          unfold letter
          rw [if_neg (by omega), if_neg (by omega)]
        have HNO : Hid (¬ 0 < run (lett (rest s n)) ((rest s n).drop 2)) := by
          rw [hlt, run_small 0 (by omega)]
          unfold Hid
          omega
        clear hlt c111 c79 c120 c88
        go_wp2_with fail
        go_meet
        case rel => exact ⟨rfl, HNO.out⟩
    case rest =>
      obtain ⟨rfl, hno⟩ := hcut
      have hm1 := fracE_ge s.data.toList e
      have hm2 := fracE_le s.data.toList e (by rw [← Lib.size_eq]; exact hes)
      rw [← Lib.size_eq] at hm2
      have hq1 := expE_ge s.data.toList (fracE s.data.toList e)
      have hsc : scanN s (n : Int) = (if e < expE s.data.toList (fracE s.data.toList e) then 12 else 11, expE s.data.toList (fracE s.data.toList e)) := by
        have e1 : fracE (rest s n) (run 10 (rest s n)) + n = fracE s.data.toList e := by
          rw [HE.out, Nat.add_comm]
          exact fracE_abs _ _ _
        have e2 : expE (rest s n) (fracE (rest s n) (run 10 (rest s n))) + n = expE s.data.toList (fracE s.data.toList e) := by
          rw [← e1, Nat.add_comm, Nat.add_comm _ n]
          exact expE_abs _ _ _
        have hn0 := HN.out
        have hen := HE.out
        unfold scanN readL decL
        rw [if_pos (by omega), Int.toNat_natCast, if_neg hno, if_neg hn0]
        by_cases q : run 10 (rest s n) < expE (rest s n) (fracE (rest s n) (run 10 (rest s n)))
        · rw [if_pos (show e < _ by omega)]
          dsimp only
          rw [if_pos q, if_neg (by decide), ← e2, Nat.add_comm]
        · rw [if_neg (show ¬ e < _ by omega)]
          dsimp only
          rw [if_neg q, if_neg (by decide), ← e2, Nat.add_comm]
      have HSC := Lib.hid hsc
      have hf : fracE s.data.toList e = if bt s.data.toList e = 46 then endOr s.data.toList (e + 1) e else e := rfl
      have hx : expE s.data.toList (fracE s.data.toList e) = if bt s.data.toList (fracE s.data.toList e) = 101 ∨ bt s.data.toList (fracE s.data.toList e) = 69 then endOr s.data.toList (expF s.data.toList (fracE s.data.toList e)) (fracE s.data.toList e) else fracE s.data.toList e := rfl
      generalize expE s.data.toList (fracE s.data.toList e) = q at *
      generalize fracE s.data.toList e = m at *
      have HF := Lib.hid hf
      have HX := Lib.hid hx
      clear hf hx hsc hno HN HB
      obtain ⟨F, hF⟩ : ∃ F : Bool, F = decide (e < m) := ⟨_, rfl⟩
      have FF := Lib.hid hF
      clear hF
      have C1 : Hid (∀ W, _) := fun W => D.out (e + 1) 10 W
      go_upto_region 13 with (go_at_call 67; refine (De.out _).mono ?_; rintro e1 w1 ⟨rfl, rfl⟩)
      go_cut [98] from 10 (fun b wx => b = .bool F ∧ wx = wc)
      case first =>
        by_cases q1 : e < s.size
        · have x1 : decide ((e : Int) < (s.size : Int)) = true := decide_eq_true (by omega)
          by_cases q2 : s[e].toNat = 46
          · have x2 : (((s[e].toNat : Nat) : Int) == 46) = true := by rw [beq_iff_eq]; omega
            have hh := HF.out
            rw [bt_in s e q1, if_pos q2] at hh
            have hr : endOr s.data.toList (e + 1) e = if 0 < run 10 (rest s (e + 1)) then e + 1 + run 10 (rest s (e + 1)) else e := rfl
            rw [hr] at hh
            clear hr
            generalize run 10 (rest s (e + 1)) = k at C1 hh
            by_cases hk : 0 < k
            · rw [if_pos hk] at hh
              have HH : Hid (F = true) := by rw [FF.out]; exact decide_eq_true (by omega)
              have z : decide (((e + 1 : Nat) : Int) < ((e + 1 + k : Nat) : Int)) = true := decide_eq_true (by omega)
              clear hh
              go_wp2_with (go_at_call 67; refine (C1.out _).mono ?_; rintro e1 w1 ⟨rfl, rfl⟩)
              go_meet
              case rel => exact ⟨by rw [HH.out]; first | done | rfl | (simp; done) | (simp; omega), rfl⟩
            · rw [if_neg hk] at hh
              have HH : Hid (F = false) := by rw [FF.out]; exact decide_eq_false (by omega)
              obtain rfl : k = 0 := by omega
              clear hh
              go_wp2_with (go_at_call 67; refine (C1.out _).mono ?_; rintro e1 w1 ⟨rfl, rfl⟩)
              go_meet
              case rel => exact ⟨by rw [HH.out]; first | done | rfl | (simp; done) | (simp; omega), rfl⟩
          · have x2 : (((s[e].toNat : Nat) : Int) == 46) = false := by rw [beq_eq_false_iff_ne]; omega
            have hh := HF.out
            rw [bt_in s e q1, if_neg q2] at hh
            have HH : Hid (F = false) := by rw [FF.out]; exact decide_eq_false (by omega)
            clear hh
            go_wp2_with fail
            go_meet
            case rel => exact ⟨by rw [HH.out]; first | done | rfl | (simp; done) | (simp; omega), rfl⟩
        · have x1 : decide ((e : Int) < (s.size : Int)) = false := decide_eq_false (by omega)
          have hh := HF.out
          rw [bt_out _ _ (by rw [← Lib.size_eq]; omega), if_neg (by omega)] at hh
          have HH : Hid (F = false) := by rw [FF.out]; exact decide_eq_false (by omega)
          clear hh
          go_wp2_with fail
          go_meet
          case rel => exact ⟨by rw [HH.out]; first | done | rfl | (simp; done) | (simp; omega), rfl⟩
      case rest =>
        obtain ⟨rfl, rfl⟩ := hcut
        obtain ⟨kd, hkd⟩ : ∃ kd : Int, kd = if e < m then 12 else 11 := ⟨_, rfl⟩
        have HKD := Lib.hid hkd
        clear hkd
        go_upto_if 98 with fail
        go_cut [7, 8] from 10 (fun a b wx => a = .int .i64 kd ∧ b = .int .i64 (m : Int) ∧ wx = wc)
        case first =>
          cases F with
          | true =>
            have hlt := of_decide_eq_true FF.out.symm
            have hh := HF.out
            have HK2 : Hid (kd = 12) := by rw [HKD.out, if_pos hlt]; rfl
            have hM : Hid (m = e + 1 + run 10 (rest s (e + 1))) := by
              by_cases q2 : bt s.data.toList e = 46
              · rw [if_pos q2] at hh
                have hr : endOr s.data.toList (e + 1) e = if 0 < run 10 (rest s (e + 1)) then e + 1 + run 10 (rest s (e + 1)) else e := rfl
                rw [hr] at hh
                by_cases hk : 0 < run 10 (rest s (e + 1))
                · rw [if_pos hk] at hh
                  exact hh
                · rw [if_neg hk] at hh
                  omega
              · rw [if_neg q2] at hh
                omega
            have C2 : Hid (∀ W, Calls Tryz.prog 67 #[.string s, .int .i64 ((e : Int) + 1), .int .i64 10] W fun e' w' => e' = .returned (.int .i64 (m : Int)) ∧ W = w') := fun W => by
              have := C1.out W
              rw [← hM.out] at this
              exact this
            clear hh C1 D
            go_wp2_with (go_at_call 67; refine (C2.out _).mono ?_; rintro e1 w1 ⟨rfl, rfl⟩)
            go_meet
            case rel => exact ⟨by rw [HK2.out], rfl, rfl⟩
          | false =>
            have hlt := of_decide_eq_false FF.out.symm
            have HK2 : Hid (kd = 11) := by rw [HKD.out, if_neg hlt]; rfl
            have HM : Hid (m = e) := by unfold Hid; omega
            go_wp2_with fail
            go_meet
            case rel => exact ⟨by rw [HK2.out], by rw [HM.out], rfl⟩
        case rest =>
          obtain ⟨rfl, rfl, rfl⟩ := hcut
          clear C1 De HF FF HE d2
          obtain ⟨X, hX⟩ : ∃ X : Bool, X = decide (bt s.data.toList m = 101 ∨ bt s.data.toList m = 69) := ⟨_, rfl⟩
          have XX := Lib.hid hX
          clear hX
          go_upto_region 16 with fail
          go_cut [118] from 10 (fun b wx => b = .bool X ∧ wx = wc)
          case first =>
            by_cases q1 : m < s.size
            · have x1 : decide ((m : Int) < (s.size : Int)) = true := decide_eq_true (by omega)
              by_cases q2 : s[m].toNat = 101
              · have HH : Hid (X = true) := by rw [XX.out, bt_in s m q1]; exact decide_eq_true (.inl q2)
                go_wp2_with fail
                go_meet
                case rel => exact ⟨by rw [HH.out]; first | done | rfl | (simp; done) | (simp; omega), rfl⟩
              · have x2 : (((s[m].toNat : Nat) : Int) == 101) = false := by rw [beq_eq_false_iff_ne]; omega
                by_cases q3 : s[m].toNat = 69
                · have HH : Hid (X = true) := by rw [XX.out, bt_in s m q1]; exact decide_eq_true (.inr q3)
                  clear x2 q2
                  go_wp2_with fail
                  go_meet
                  case rel => exact ⟨by rw [HH.out]; first | done | rfl | (simp; done) | (simp; omega), rfl⟩
                · have x3 : (((s[m].toNat : Nat) : Int) == 69) = false := by rw [beq_eq_false_iff_ne]; omega
                  have HH : Hid (X = false) := by rw [XX.out, bt_in s m q1]; exact decide_eq_false (by omega)
                  go_wp2_with fail
                  go_meet
                  case rel => exact ⟨by rw [HH.out]; first | done | rfl | (simp; done) | (simp; omega), rfl⟩
            · have x1 : decide ((m : Int) < (s.size : Int)) = false := decide_eq_false (by omega)
              have HH : Hid (X = false) := by rw [XX.out, bt_out _ _ (by rw [← Lib.size_eq]; omega)]; exact decide_eq_false (by omega)
              go_wp2_with fail
              go_meet
              case rel => exact ⟨by rw [HH.out]; first | done | rfl | (simp; done) | (simp; omega), rfl⟩
          case rest =>
            obtain ⟨rfl, rfl⟩ := hcut
            cases X with
            | false =>
              have hX := of_decide_eq_false XX.out.symm
              have hh := HX.out
              rw [if_neg hX] at hh
              have HH := Lib.hid hh
              clear hX hh
              go_wp2_with fail
              go_ret2
              refine ⟨?_, rfl⟩
              rw [HSC.out, HH.out, HKD.out]
              split <;> rfl
            | true =>
              have hX := of_decide_eq_true XX.out.symm
              have hh := HX.out
              rw [if_pos hX] at hh
              have hms : m < s.size := by
                rcases Nat.lt_or_ge m s.size with h | h
                · exact h
                · rw [bt_out _ _ (by rw [← Lib.size_eq]; omega)] at hX
                  omega
              have hr : endOr s.data.toList (expF s.data.toList m) m = if 0 < run 10 (rest s (expF s.data.toList m)) then expF s.data.toList m + run 10 (rest s (expF s.data.toList m)) else m := rfl
              rw [hr] at hh
              have hf2 : expF s.data.toList m = if bt s.data.toList (m + 1) = 43 ∨ bt s.data.toList (m + 1) = 45 then m + 2 else m + 1 := rfl
              have C3 : Hid (∀ W, _) := fun W => D.out (expF s.data.toList m) 10 W
              generalize run 10 (rest s (expF s.data.toList m)) = k at C3 hh
              generalize expF s.data.toList m = f at C3 hh hf2
              have HH := Lib.hid hh
              obtain ⟨G, hG⟩ : ∃ G : Bool, G = decide (bt s.data.toList (m + 1) = 43 ∨ bt s.data.toList (m + 1) = 45) := ⟨_, rfl⟩
              have GG := Lib.hid hG
              have HF2 : Hid (f = if G then m + 2 else m + 1) := by
                rw [hf2, GG.out]
                by_cases q9 : bt s.data.toList (m + 1) = 43 ∨ bt s.data.toList (m + 1) = 45
                · rw [if_pos q9, if_pos (decide_eq_true q9)]
                  rfl
                · rw [if_neg q9, if_neg (by rw [decide_eq_false q9]; decide)]
                  rfl
              clear hX hh hr hf2 hG D
              go_upto_region 18 with fail
              go_cut [136] from 10 (fun b wx => b = .bool G ∧ wx = wc)
              case first =>
                by_cases q1 : m + 1 < s.size
                · have x1 : decide ((m : Int) + 1 < (s.size : Int)) = true := decide_eq_true (by omega)
                  by_cases q2 : s[m + 1].toNat = 43
                  · have H2 : Hid (G = true) := by rw [GG.out, bt_in s (m + 1) q1]; exact decide_eq_true (.inl q2)
                    have x2 : (((s[m + 1].toNat : Nat) : Int) == 43) = true := by rw [beq_iff_eq]; omega
                    go_wp2_with fail
                    go_meet
                    case rel => exact ⟨by rw [H2.out], rfl⟩
                  · have x2 : (((s[m + 1].toNat : Nat) : Int) == 43) = false := by rw [beq_eq_false_iff_ne]; omega
                    by_cases q3 : s[m + 1].toNat = 45
                    · have H2 : Hid (G = true) := by rw [GG.out, bt_in s (m + 1) q1]; exact decide_eq_true (.inr q3)
                      clear q2 x2
                      go_wp2_with fail
                      go_meet
                      case rel => exact ⟨by rw [H2.out], rfl⟩
                    · have x3 : (((s[m + 1].toNat : Nat) : Int) == 45) = false := by rw [beq_eq_false_iff_ne]; omega
                      have H2 : Hid (G = false) := by rw [GG.out, bt_in s (m + 1) q1]; exact decide_eq_false (by omega)
                      go_wp2_with fail
                      go_meet
                      case rel => exact ⟨by rw [H2.out], rfl⟩
                · have x1 : decide ((m : Int) + 1 < (s.size : Int)) = false := decide_eq_false (by omega)
                  have H2 : Hid (G = false) := by rw [GG.out, bt_out _ _ (by rw [← Lib.size_eq]; omega)]; exact decide_eq_false (by omega)
                  go_wp2_with fail
                  go_meet
                  case rel => exact ⟨by rw [H2.out], rfl⟩
              case rest =>
                obtain ⟨rfl, rfl⟩ := hcut
                go_upto_if 136 with fail
                go_cut [9] from 10 (fun a wx => a = .int .i64 (f : Int) ∧ wx = wc)
                case first =>
                  cases G with
                  | true =>
                    have HFF : Hid (((f : Nat) : Int) = (m : Int) + 2) := by
                      have := HF2.out
                      unfold Hid
                      rw [if_pos rfl] at this
                      omega
                    go_wp2_with fail
                    go_meet
                    case rel => exact ⟨by rw [HFF.out]; go_num, rfl⟩
                  | false =>
                    have HFF : Hid (((f : Nat) : Int) = (m : Int) + 1) := by
                      have := HF2.out
                      unfold Hid
                      rw [if_neg (by decide)] at this
                      omega
                    go_wp2_with fail
                    go_meet
                    case rel => exact ⟨by rw [HFF.out], rfl⟩
                case rest =>
                  obtain ⟨rfl, rfl⟩ := hcut
                  have hfm : m + 1 ≤ f := by
                    have := HF2.out
                    split at this <;> omega
                  by_cases hk : 0 < k
                  · have hh := HH.out
                    rw [if_pos hk] at hh
                    have z : decide (((f : Nat) : Int) < ((f + k : Nat) : Int)) = true := decide_eq_true (by omega)
                    have HR : Hid (scanN s (n : Int) = (12, f + k)) := by
                      unfold Hid
                      rw [HSC.out, hh, if_pos (by omega)]
                    clear hh
                    go_wp2_with (go_at_call 67; refine (C3.out _).mono ?_; rintro e1 w1 ⟨rfl, rfl⟩)
                    go_ret2
                    rw [HR.out]
                    exact ⟨rfl, rfl⟩
                  · have hh := HH.out
                    rw [if_neg hk] at hh
                    obtain rfl : k = 0 := by omega
                    have HR := Lib.hid hh
                    clear hh
                    go_wp2_with (go_at_call 67; refine (C3.out _).mono ?_; rintro e1 w1 ⟨rfl, rfl⟩)
                    go_ret2
                    refine ⟨?_, rfl⟩
                    rw [HSC.out, HR.out, HKD.out]
                    split <;> rfl

end Go.Proofs.YtkehchajgdepaaaGreatDoor.Num
/-
  The contracts of the document's own Scan at any place, whole, parts. Condition: the string has at most 2^50 bytes.
-/
namespace Go.Proofs.YtkehchajgdepaaaGreatDoor.Num
open Go.RowKit Gly
set_option linter.unusedSimpArgs false
set_option linter.unusedVariables false

theorem readL_none (L : List UInt8) (h : run 10 L = 0) : readL L = Nl.none := by
  have hl : lett L = 0 := by
    unfold lett
    split
    · rename_i h48
      exfalso
      cases L with
      | nil => simp [bt] at h48
      | cons x M =>
        have hx : isD 10 x = true := by
          rw [isD_ten]
          have : x.toNat = 48 := h48
          exact decide_eq_true (by omega)
        rw [run, if_pos hx] at h
        omega
    · rfl
  unfold readL decL
  rw [hl, run_small 0 (by omega), if_neg (by omega), if_pos h]

theorem refScan_any (s : ByteArray) (i : Int) (hs : s.size ≤ 1125899906842624) (w : World) :
    Calls Tryz.prog 42 #[.string s, .int .i64 i] w fun e w' => e = .returned (.tuple #[.int .i64 ((scanN s i).1 : Int), .int .i64 ((scanN s i).2 : Int)]) ∧ w = w' := by
  by_cases h1 : i < 0
  · have e : scanN s i = (0, 0) := by unfold scanN; rw [if_neg (by omega)]
    rw [e]
    clear e
    go_enter Tryz.func42, Tryz.ntmps42
    go_wp2_with fail
    go_ret2
    exact ⟨rfl, rfl⟩
  obtain ⟨n, rfl⟩ : ∃ n : Nat, i = n := ⟨i.toNat, by omega⟩
  by_cases h0 : n < s.size
  · by_cases hr : run 10 (rest s n) = 0
    · have e : scanN s (n : Int) = (0, 0) := by
        unfold scanN
        rw [if_pos (by omega), Int.toNat_natCast, readL_none _ hr]
        rfl
      rw [e]
      have C : Hid (∀ W, Calls Tryz.prog 67 #[.string s, .int .i64 (n : Int), .int .i64 10] W fun e w' => e = .returned (.int .i64 (n : Int)) ∧ W = w') := fun W => by
        have := refdigits_any s n 10 hs W
        rw [hr] at this
        exact this
      clear e hr
      go_enter Tryz.func42, Tryz.ntmps42
      go_wp2_with (go_at_call 67; refine (C.out _).mono ?_; rintro e1 w1 ⟨rfl, rfl⟩)
      go_ret2
      exact ⟨rfl, rfl⟩
    · exact refScan_in s n hs h0 hr w
  · have e : scanN s (n : Int) = (0, 0) := by unfold scanN; rw [if_neg (by omega)]
    rw [e]
    clear e
    go_enter Tryz.func42, Tryz.ntmps42
    go_wp2_with fail
    go_ret2
    exact ⟨rfl, rfl⟩

theorem scanN_zero (s : ByteArray) : scanN s 0 = (if s.size = 0 then (0, 0) else ((readL s.data.toList).kind, (readL s.data.toList).fin)) := by
  unfold scanN
  by_cases h : s.size = 0
  · rw [if_neg (by omega), if_pos h]
  · rw [if_pos (by omega), if_neg h]
    show (if (readL (rest s 0)).kind = 0 then (0, 0) else ((readL (rest s 0)).kind, 0 + (readL (rest s 0)).fin)) = _
    rw [rest_zero, Nat.zero_add]
    rcases readL_kind s.data.toList with ⟨h1, h2⟩ | h1 | h1
    · rw [if_pos h1, h2]
      rfl
    · rw [if_neg (by omega)]
    · rw [if_neg (by omega)]

/-- parts' answer. -/
def partsL (L : List UInt8) : Nat × Nat := if 2 < L.length ∧ 0 < lett L then (lett L, 2) else (10, 0)
end Go.Proofs.YtkehchajgdepaaaGreatDoor.Num
