/-
  The walk of the statement NumberNoughts. Conditions: the library's table of powers of ten stands.
-/
import Derived.Test.YtiifjegjmhbhkaaDoorNumLaw
import Derived.Laws.BitsLemmas
namespace Go.Proofs.YtiifjegjmhbhkaaDoor.Num
open Go.RowKit Gly
open Go.Lib (decDigits)
set_option linter.unusedSimpArgs false
set_option linter.unusedVariables false

theorem and_31 (n : Int) : bits .and .i64 n 31 = n % 32 := by
  have h31 : (BitVec.ofInt 64 31).toNat = 2 ^ 5 - 1 := by decide
  have key : (BitVec.ofInt 64 n &&& BitVec.ofInt 64 31).toNat = (n % ((2 ^ 64 : Nat) : Int)).toNat % 2 ^ 5 := by
    rw [BitVec.toNat_and, BitVec.toNat_ofInt, h31, Nat.and_two_pow_sub_one_eq_mod]
  show IntKind.i64.wrap ((BitVec.ofInt 64 n &&& BitVec.ofInt 64 31).toNat : Nat) = n % 32
  rw [key, IntKind.wrap_i64]
  omega
/-- Digits, a point and noughts. -/
def tt (L : List UInt8) (i : Nat) : ByteArray := ⟨(L ++ 46 :: List.replicate i 48).toArray⟩
theorem tt_size (L : List UInt8) (i : Nat) : (tt L i).size = L.length + 1 + i := by
  unfold tt
  rw [Lib.size_eq]
  show (L ++ 46 :: List.replicate i 48).length = _
  rw [List.length_append, List.length_cons, List.length_replicate]
  omega
theorem tt_more (L : List UInt8) (i : Nat) : tt L i ++ ⟨#[48]⟩ = tt L (i + 1) := by
  apply bytes_ext
  rw [Go.Joins.data_append]
  show (L ++ 46 :: List.replicate i 48) ++ [48] = L ++ 46 :: List.replicate (i + 1) 48
  rw [List.append_assoc, List.cons_append, ← List.replicate_succ']
theorem tt_zero (s : ByteArray) : s ++ ⟨#[46]⟩ = tt s.data.toList 0 := by
  apply bytes_ext
  rw [Go.Joins.data_append]
  rfl

set_option maxHeartbeats 2000000 in
set_option maxRecDepth 100000 in
theorem noughts_at (s T : ByteArray) (more : Int) (q k e0 : Nat) (r : Bool) (hT : (400 < s.size ∧ T = s.extract 0 400) ∨ (s.size ≤ 400 ∧ T = s)) (hTs : T.size ≤ 400) (hk0 : k ≠ 0 → 0 < T.size) (hq : bits .and .i64 more 31 = (q : Int)) (hq31 : q ≤ 31)
    (C0 : Hid (∀ W, Calls Tryd.prog 11 #[.string T, .int .i64 0] W fun e w' => e = .returned (.tuple #[.int .i64 (k : Int), .int .i64 (e0 : Int)]) ∧ Below W.heap.size W w'))
    (C1 : Hid (∀ W, Tab W → Calls Tryd.prog 20 #[.string T, .string T] W fun e w' => e = .returned (.bool r) ∧ Below W.heap.size W w'))
    (C2 : Hid (∀ (x y : ByteArray), x.size ≤ 500 → y.size ≤ 500 → sameS x.data.toList y.data.toList = true → ∀ W, Tab W → Calls Tryd.prog 20 #[.string x, .string y] W fun e w' => e = .returned (.bool true) ∧ Below W.heap.size W w')) (w : World) (ht : Tab w) :
    Calls Tryd.prog 10 #[.string s, .int .i64 more] w fun e w' => e = .returned (.bool true) ∧ Below w.heap.size w w' := by
  have HT := Lib.hid ht
  have HS := Lib.hid hT
  have HK := Lib.hid hk0
  clear ht hT hk0
  go_enter Tryd.func10, Tryd.ntmps10
  go_wp2_with fail
  refine (awake_any _ HT.out).mono ?_
  rintro e w1 ⟨rfl, hb1⟩
  have HB1 := Lib.hid hb1
  clear hb1
  go_upto_if 14 with fail
  go_cut [0] from 11 (fun s0 wx => s0 = .string T ∧ wx = w1)
  case first =>
    rcases HS.out with ⟨h1, h2⟩ | ⟨h1, h2⟩
    · have x1 : decide (400 < s.size) = true := decide_eq_true h1
      have x2 : decide ((400 : Int) < (s.size : Int)) = true := decide_eq_true (by omega)
      have H2 := Lib.hid h2
      clear h2
      go_wp2_with fail
      go_meet
      case rel => exact ⟨by rw [H2.out], rfl⟩
    · have x1 : decide (400 < s.size) = false := decide_eq_false (by omega)
      have x2 : decide ((400 : Int) < (s.size : Int)) = false := decide_eq_false (by omega)
      have H2 := Lib.hid h2
      clear h2
      go_wp2_with fail
      go_meet
      case rel => exact ⟨by rw [H2.out], rfl⟩
  case rest =>
    obtain ⟨rfl, rfl⟩ := hcut
    go_wp2_with fail
    refine (C0.out _).mono ?_
    rintro e w2 ⟨rfl, hb2⟩
    have HB2 := Lib.hid (HB1.out.trans (hb2.mono HB1.out.size))
    clear hb2
    by_cases hk : k = 0
    · subst hk
      go_wp2_with fail
      go_ret
      exact ⟨by first | rfl | simp, HB2.out⟩
    have x0 : (((k : Nat) : Int) == 0) = false := by rw [beq_eq_false_iff_ne]; omega
    have hpos := HK.out hk
    by_cases he : e0 = T.size
    · subst he
      cases r
      · go_wp2_with fail
        refine (C1.out _ (HT.out.below HB2.out (Nat.le_refl _))).mono ?_
        rintro e w3 ⟨rfl, hb3⟩
        have HB3 := Lib.hid (HB2.out.trans (hb3.mono HB2.out.size))
        clear hb3
        go_wp2_with fail
        go_ret
        exact ⟨by first | rfl | simp, HB3.out⟩
      · go_wp2_with fail
        refine (C1.out _ (HT.out.below HB2.out (Nat.le_refl _))).mono ?_
        rintro e w3 ⟨rfl, hb3⟩
        have HB3 := Lib.hid (HB2.out.trans (hb3.mono HB2.out.size))
        have HT3 := Lib.hid (HT.out.below HB3.out (Nat.le_refl _))
        have hL := Lib.hid (Lib.size_eq T)
        clear hb3
        go_wp2_with fail
        go_loop [8] (fun iv => ∃ p : Nat, iv = .int .i64 (p : Int) ∧ p ≤ T.size ∧ (T.data.toList.take p).all (isD 10) = true) (fun iv => T.size - (intOf iv).toNat)
        case atStart => exact ⟨0, rfl, Nat.zero_le _, rfl⟩
        case round =>
          obtain ⟨p, rfl, hp, ha⟩ := hrel
          have HA := Lib.hid ha
          clear ha
          by_cases hlt : p < T.size
          · by_cases hd : 48 ≤ T[p].toNat ∧ T[p].toNat ≤ 57
            · have HA2 : Hid ((T.data.toList.take (p + 1)).all (isD 10) = true) := by
                have hl := hL.out
                have e : T.data.toList.take (p + 1) = T.data.toList.take p ++ [T[p]] := by
                  rw [List.take_succ_eq_append_getElem (by omega)]
                  rfl
                unfold Hid
                rw [e, List.all_append, HA.out, List.all_cons, isD_ten, decide_eq_true hd]
                rfl
              have y1 : decide (((T[p].toNat : Nat) : Int) < 48) = false := decide_eq_false (by omega)
              have y2 : decide (57 < ((T[p].toNat : Nat) : Int)) = false := decide_eq_false (by omega)
              go_wp2_with fail
              go_round
              case rel => exact ⟨p + 1, by go_num, by omega, HA2.out⟩
              case measure => simp [intOf]; omega
            · by_cases h48 : T[p].toNat < 48
              · have y1 : decide (((T[p].toNat : Nat) : Int) < 48) = true := decide_eq_true (by omega)
                clear hd
                go_wp2_with fail
                go_ret
                exact ⟨by first | rfl | simp, HB3.out⟩
              · have y1 : decide (((T[p].toNat : Nat) : Int) < 48) = false := decide_eq_false (by omega)
                have y2 : decide (57 < ((T[p].toNat : Nat) : Int)) = true := decide_eq_true (by omega)
                clear hd
                go_wp2_with fail
                go_ret
                exact ⟨by first | rfl | simp, HB3.out⟩
          · have hdig : Hid (T.data.toList.all (isD 10) = true) := by
              have := HA.out
              rw [List.take_of_length_le (by rw [← hL.out]; omega)] at this
              exact this
            have hne : Hid (T.data.toList ≠ []) := by
              intro h9
              have := hL.out
              rw [h9, List.length_nil] at this
              omega
            have hlL : T.data.toList.length ≤ 400 := by rw [← hL.out]; exact hTs
            have A0 := Lib.hid (amS_digits T.data.toList hne.out hdig.out (by omega))
            have TZ := Lib.hid (tt_zero T)
            have hTT := TZ.out
            go_wp2_with fail
            go_loop [9, 10] (fun tv iv => ∃ i : Nat, iv = .int .i64 (i : Int) ∧ tv = .string (tt T.data.toList i) ∧ i ≤ q + 1) (fun _ iv => q + 1 - (intOf iv).toNat)
            case atStart => exact ⟨0, rfl, by rw [← TZ.out], Nat.zero_le _⟩
            case round =>
              obtain ⟨i, rfl, rfl, hi⟩ := hrel
              have hsz : (tt T.data.toList i).size ≤ 500 := by rw [tt_size]; omega
              by_cases hiq : i ≤ q
              · have MO := Lib.hid (tt_more T.data.toList i)
                have z1 : decide ((i : Int) ≤ (q : Int)) = true := decide_eq_true (by omega)
                generalize tt T.data.toList i = X at hsz MO ⊢
                go_wp2_with fail
                go_round
                case rel => exact ⟨i + 1, by go_num, by rw [← MO.out], by omega⟩
                case measure => simp [intOf]; omega
              · obtain rfl : i = q + 1 := by omega
                have z1 : decide ((((q + 1 : Nat) : Nat) : Int) ≤ (q : Int)) = false := decide_eq_false (by omega)
                have P0 := Lib.hid (amS_point T.data.toList (q + 1) hne.out hdig.out (by omega) (by omega))
                have E0 := Lib.hid (amS_exp T.data.toList hne.out hdig.out (by omega))
                have s1 : sameS T.data.toList (48 :: T.data.toList) = true := by
                  refine sameS_of A0.out ?_
                  have := amS_digits (48 :: T.data.toList) (by simp) (by rw [List.all_cons, hdig.out]; decide) (by rw [List.length_cons]; omega)
                  rw [short_ahead] at this
                  exact this
                have s2 : sameS T.data.toList (tt T.data.toList (q + 1)).data.toList = true := sameS_of A0.out P0.out
                have s3 : sameS (tt T.data.toList (q + 1)).data.toList (T.data.toList ++ [101, 48]) = true := sameS_of P0.out E0.out
                have S1 := Lib.hid (C2.out T (⟨#[48]⟩ ++ T) (by omega) (by rw [Lib.size_eq, Go.Joins.data_append, List.length_append]; show 1 + _ ≤ _; omega) (by rw [Go.Joins.data_append]; exact s1))
                have S2 := Lib.hid (C2.out T (tt T.data.toList (q + 1)) (by omega) hsz s2)
                have S3 := Lib.hid (C2.out (tt T.data.toList (q + 1)) (T ++ ⟨#[101, 48]⟩) hsz (by rw [Lib.size_eq, Go.Joins.data_append, List.length_append]; show _ + 2 ≤ _; omega) (by rw [Go.Joins.data_append]; exact s3))
                clear s1 s2 s3
                generalize tt T.data.toList (q + 1) = X at hsz S2 S3 ⊢
                go_wp2_with fail
                refine (S1.out _ HT3.out).mono ?_
                rintro e w4 ⟨rfl, hb4⟩
                have HB4 := Lib.hid (HB3.out.trans (hb4.mono HB3.out.size))
                clear hb4
                go_wp2_with fail
                refine (S2.out _ (HT.out.below HB4.out (Nat.le_refl _))).mono ?_
                rintro e w5 ⟨rfl, hb5⟩
                have HB5 := Lib.hid (HB4.out.trans (hb5.mono HB4.out.size))
                clear hb5
                go_wp2_with fail
                refine (S3.out _ (HT.out.below HB5.out (Nat.le_refl _))).mono ?_
                rintro e w6 ⟨rfl, hb6⟩
                have HB6 := Lib.hid (HB5.out.trans (hb6.mono HB5.out.size))
                clear hb6
                go_wp2_with fail
                go_ret
                exact ⟨by first | rfl | simp, HB6.out⟩
    · have x1 : (((e0 : Nat) : Int) != ((T.size : Nat) : Int)) = true := by rw [bne_iff_ne]; omega
      have x2 : (e0 != T.size) = true := by rw [bne_iff_ne]; exact he
      go_wp2_with fail
      go_ret
      exact ⟨by first | rfl | simp, HB2.out⟩
theorem noughts_walk (a0 : ByteArray) (a1 : Int) (z0 : a0.size ≤ 140737488351232) (_w1 : (Lit.int .i64 a1).wf = true) (w : World) (ht : Tab w) :
    Calls Tryd.prog 10 #[.string a0, .int .i64 a1] w fun e w' => e = .returned (.bool true) ∧ Below w.heap.size w w' := by
  obtain ⟨T, hT, hTs⟩ : ∃ T : ByteArray, ((400 < a0.size ∧ T = a0.extract 0 400) ∨ (a0.size ≤ 400 ∧ T = a0)) ∧ T.size ≤ 400 := by
    by_cases h : 400 < a0.size
    · refine ⟨a0.extract 0 400, .inl ⟨h, rfl⟩, ?_⟩
      rw [Lib.size_eq, Lib.extract_data, List.length_take]
      omega
    · exact ⟨a0, .inr ⟨by omega, rfl⟩, by omega⟩
  have c0 := fun W => Scan_any T 0 (by omega) W
  have hk : (scanN T 0).1 ≠ 0 → 0 < T.size := by
    intro h
    rcases Nat.eq_zero_or_pos T.size with h0 | h0
    · rw [scanN_zero, if_pos h0] at h
      exact absurd rfl h
    · exact h0
  have hq : bits .and .i64 a1 31 = (((a1 % 32).toNat : Nat) : Int) := by
    rw [and_31]
    omega
  exact noughts_at a0 T a1 _ _ _ _ hT hTs hk hq (by omega) c0 (fun W hW => Same_any T T (by omega) (by omega) W hW) (fun x y hx hy h W hW => by
    have := Same_any x y (by omega) (by omega) W hW
    rw [h] at this
    exact this) w ht
end Go.Proofs.YtiifjegjmhbhkaaDoor.Num
