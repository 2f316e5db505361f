/-
  The contracts of package quote's escapes: control, digits, lettered, named, escape. Conditions: the string has at most 2^50 bytes; the program's list of names stands.
-/
import Derived.Test.YtdppfhgihoibnaaDoorQtCode
namespace Go.Proofs.YtdppfhgihoibnaaDoor.Qt
open Go.RowKit Gly
open Wrd (rn wd)
set_option linter.unusedSimpArgs false
set_option linter.unusedVariables false

theorem dig_rune (s : ByteArray) (p : Nat) (hp : p < s.size) (b : Nat) : digitI (((Utf8.decode s p).1 : Nat) : Int) (b : Int) = Num.dg b s[p] ∧ (Num.isD b s[p] = true → (Utf8.decode s p).2 = 1) := by
  have hl := Lib.size_eq s
  have hg : (s.data.toList.getD p 0) = s[p] := by
    rw [List.getD_eq_getElem?_getD, List.getElem?_eq_getElem (by omega)]
    rfl
  have none : ∀ c : Int, 128 ≤ c → digitI c (b : Int) = -1 := by
    intro c hc
    have : digV c = -1 := by
      unfold digV wthn
      simp only [Bool.and_eq_true, decide_eq_true_eq]
      rw [if_neg (by omega), if_neg (by omega), if_neg (by omega)]
    unfold digitI
    rw [this]
    split <;> rfl
  by_cases ha : (s[p]).toNat < 128
  · rw [Lib.decode_N, hg, Lib.decodeN_ascii _ _ _ _ _ ha]
    exact ⟨rfl, fun _ => rfl⟩
  · have := (decode_high s p hp (by omega)).1
    rw [none _ (by omega)]
    have e : Num.dg b s[p] = -1 := none _ (by omega)
    refine ⟨e.symm, fun h => ?_⟩
    unfold Num.isD at h
    rw [e] at h
    simp at h
/-- Digits read one by one, the number never beyond one more than the greatest. -/
def digG (b : Nat) : Nat → List UInt8 → Nat × Nat
  | v, [] => (v, 0)
  | v, x :: L => if Num.isD b x = true then ((digG b (min (v * b + (Num.dg b x).toNat) 1114112) L).1, (digG b (min (v * b + (Num.dg b x).toNat) 1114112) L).2 + 1) else (v, 0)
theorem digG_is (b : Nat) (hb : 1 ≤ b) : ∀ (L : List UInt8) (v : Nat), digG b (min v 1114112) L = (min (Num.valOf b v (L.take (Num.run b L))) 1114112, Num.run b L)
  | [], v => rfl
  | x :: L, v => by
    rw [digG, Num.run]
    by_cases q : Num.isD b x = true
    · rw [if_pos q, if_pos q, List.take_succ_cons, Num.valOf]
      have e : min (min v 1114112 * b + (Num.dg b x).toNat) 1114112 = min (v * b + (Num.dg b x).toNat) 1114112 := by
        rcases Nat.le_total v 1114112 with h | h
        · rw [Nat.min_eq_left h]
        · rw [Nat.min_eq_right h]
          have h1 : 1114112 * 1 ≤ 1114112 * b := Nat.mul_le_mul_left _ hb
          have h2 : v * 1 ≤ v * b := Nat.mul_le_mul_left _ hb
          omega
      rw [e, digG_is b hb L]
    · rw [if_neg q, if_neg q, List.take_zero, Num.valOf]
theorem digG_zero (b : Nat) (hb : 1 ≤ b) (L : List UInt8) : digG b 0 L = digE b L := digG_is b hb L 0

theorem control_any (t : ByteArray) (h0 : 0 < t.size) (hs : t.size ≤ 1125899906842624) (w : World) :
    Calls Tryd.prog 70 #[.string t] w fun e w' => e = .returned (.tuple #[.int .i64 (((if 64 ≤ hd (rest t 1) ∧ hd (rest t 1) ≤ 95 then (hd (rest t 1) - 64, 2) else (0, 0)) : Nat × Nat).1 : Int), .int .i64 (((if 64 ≤ hd (rest t 1) ∧ hd (rest t 1) ≤ 95 then (hd (rest t 1) - 64, 2) else (0, 0)) : Nat × Nat).2 : Int)]) ∧ w = w' := by
  by_cases h1 : t.size = 1
  · have x0 : ((t.size : Int) == 1) = true := by rw [beq_iff_eq]; omega
    rw [hd_rest_out t 1 (by omega), if_neg (by omega)]
    go_enter Tryd.func70, Tryd.ntmps70
    go_wp2_with fail
    go_ret2
    exact ⟨rfl, rfl⟩
  · have x0 : ((t.size : Int) == 1) = false := by rw [beq_eq_false_iff_ne]; omega
    have hin : 1 < t.size := by omega
    have hx := t[1].toNat_lt
    rw [hd_rest t 1 hin]
    by_cases h2 : t[1].toNat < 64
    · rw [if_neg (by omega)]
      have x1 : decide (((t[1].toNat : Nat) : Int) < 64) = true := decide_eq_true (by omega)
      go_enter Tryd.func70, Tryd.ntmps70
      go_wp2_with fail
      go_ret2
      exact ⟨rfl, rfl⟩
    · have x1 : decide (((t[1].toNat : Nat) : Int) < 64) = false := decide_eq_false (by omega)
      by_cases h3 : 95 < t[1].toNat
      · rw [if_neg (by omega)]
        have x2 : decide ((95 : Int) < ((t[1].toNat : Nat) : Int)) = true := decide_eq_true (by omega)
        go_enter Tryd.func70, Tryd.ntmps70
        go_wp2_with fail
        go_ret2
        exact ⟨rfl, rfl⟩
      · rw [if_pos (by omega)]
        have x2 : decide ((95 : Int) < ((t[1].toNat : Nat) : Int)) = false := decide_eq_false (by omega)
        have hsub : ((t[1].toNat - 64 : Nat) : Int) = ((t[1].toNat : Nat) : Int) - 64 := by omega
        dsimp only
        rw [hsub]
        clear hsub
        go_enter Tryd.func70, Tryd.ntmps70
        go_wp2_with fail
        go_ret2
        exact ⟨rfl, rfl⟩

set_option maxHeartbeats 1000000 in
theorem digits_any (t : ByteArray) (b : Nat) (hb : 2 ≤ b) (hb2 : b ≤ 16) (hs : t.size ≤ 1125899906842624) (w : World) :
    Calls Tryd.prog 72 #[.string t, .int .i64 (b : Int)] w fun e w' => e = .returned (.tuple #[.int .i64 ((digE b t.data.toList).1 : Int), .int .i64 ((digE b t.data.toList).2 : Int)]) ∧ Below w.heap.size w w' := by
  rw [← digG_zero b (by omega)]
  obtain ⟨V, hV⟩ : ∃ V, (digG b 0 (rest t 0)).1 = V := ⟨_, rfl⟩
  obtain ⟨R, hR⟩ : ∃ R, (digG b 0 (rest t 0)).2 = R := ⟨_, rfl⟩
  have e0 : rest t 0 = t.data.toList := rfl
  rw [e0] at hV hR
  rw [hV, hR]
  rw [← e0] at hV hR
  have HV := Lib.hid hV
  have HR := Lib.hid hR
  clear hV hR e0
  go_enter Tryd.func72, Tryd.ntmps72
  go_wp2_with fail
  go_loopw [4] (fun v wr => ∃ (p x : Nat), v = .int .i64 (x : Int) ∧ wr = w.iter t p ∧ p ≤ t.size ∧ x ≤ 1114112 ∧ (digG b x (rest t p)).1 = V ∧ p + (digG b x (rest t p)).2 = R) (fun _ wr => t.size - wr.iterPos w.heap.size)
  case atStart => exact ⟨0, 0, rfl, rfl, Nat.zero_le _, by omega, HV.out, by rw [Nat.zero_add]; exact HR.out⟩
  case round =>
    obtain ⟨p, x, rfl, rfl, hp0, hx0, hv, hr⟩ := hrel
    have HV2 := Lib.hid hv
    have HR2 := Lib.hid hr
    clear hv hr
    by_cases hp : p < t.size
    · have hw := width_fits t p hp
      have hc := rune_le t p
      obtain ⟨hd1, hd2⟩ := dig_rune t p hp b
      have C : Hid (∀ W, Calls Tryd.prog 88 #[.int .i32 (((Utf8.decode t p).1 : Nat) : Int), .int .i64 (b : Int)] W fun e w' => e = .returned (.int .i64 (Num.dg b t[p])) ∧ W = w') := fun W => by have := digit_any (((Utf8.decode t p).1 : Nat) : Int) b W; rw [hd1] at this; exact this
      have hbd := Num.dg_bd b t[p]
      have hnx : ∀ ty, (Instr.next (.pointer (some ⟨w.heap.size, 0, none⟩)) true ty).run Tryd.prog (w.iter t p) = .ok (.tuple #[.bool true, .int .i64 (p : Int), .int .i32 (((Utf8.decode t p).1 : Nat) : Int)]) (w.iter t (p + (Utf8.decode t p).2)) := fun ty =>
        run_next_any (P := Tryd.prog) w t p ty hp
      have hcons := rest_cons t p hp
      have hv := HV2.out
      have hr := HR2.out
      rw [hcons, digG] at hv hr
      by_cases hd0 : Num.isD b t[p] = true
      · rw [if_pos hd0] at hv hr
        dsimp only at hv hr
        have hdd : 0 ≤ Num.dg b t[p] := of_decide_eq_true hd0
        obtain ⟨dd, hdd2⟩ : ∃ dd : Nat, Num.dg b t[p] = (dd : Int) := ⟨(Num.dg b t[p]).toNat, by omega⟩
        rw [hdd2] at C hv hr hbd hdd
        rw [Int.toNat_natCast] at hv hr
        have W1 := Lib.hid (hd2 hd0)
        have hd15 : dd ≤ 15 := by omega
        have hm1 : ((x : Int) * (b : Int)) = ((x * b : Nat) : Int) := (Int.natCast_mul x b).symm
        have hm0 : x * b ≤ 1114112 * 16 := Nat.mul_le_mul hx0 hb2
        have hm2 : (x : Int) * (b : Int) ≤ 17825792 := by omega
        have hm3 : 0 ≤ (x : Int) * (b : Int) := by omega
        have HM := Lib.hid hm1
        have HV3 := Lib.hid hv
        have HR3 := Lib.hid hr
        have hneg : decide ((dd : Int) < 0) = false := decide_eq_false (by omega)
        clear hv hr hd1 hd2 hd0 hcons hbd hdd hdd2 hm1 hm0
        go_wp2_with fail
        refine (C.out _).mono ?_
        rintro e w1 ⟨rfl, rfl⟩
        go_wp2_with fail
        go_roundw
        case rel =>
          refine ⟨p + 1, min (x * b + dd) 1114112, ?_, ?_, by omega, by omega, HV3.out, by rw [← HR3.out]; omega⟩
          · have := HM.out
            rw [this]
            congr 1
            simp
            omega
          · rw [W1.out]
        case measure => have := W1.out; simp; omega
      · rw [if_neg hd0] at hv hr
        dsimp only at hv hr
        have hdd : Num.dg b t[p] = -1 := by
          unfold Num.isD at hd0
          have := of_decide_eq_false (Bool.eq_false_iff.2 hd0)
          omega
        rw [hdd] at C
        have HV3 := Lib.hid hv
        have HR3 := Lib.hid hr
        clear hv hr hd1 hd2 hd0 hcons hbd hdd
        go_wp2_with fail
        refine (C.out _).mono ?_
        rintro e w1 ⟨rfl, rfl⟩
        go_wp2_with fail
        go_ret2
        refine ⟨?_, (Below.refl _ _).alloc (Nat.le_refl _) _⟩
        rw [← HV3.out, ← HR3.out]
        rfl
    · have hnx : ∀ ty, (Instr.next (.pointer (some ⟨w.heap.size, 0, none⟩)) true ty).run Tryd.prog (w.iter t p) = _ := fun ty =>
        run_next_end (P := Tryd.prog) w t p ty hp
      go_wp2_with fail
      go_ret2
      refine ⟨?_, (Below.refl _ _).alloc (Nat.le_refl _) _⟩
      have hv := HV2.out
      have hr := HR2.out
      rw [rest_nil t p (by omega), digG] at hv hr
      dsimp only at hv hr
      have : t.size = R := by omega
      rw [← hv, ← this]
      rfl
theorem lettered_any (t : ByteArray) (b : Nat) (hb : 2 ≤ b) (hb2 : b ≤ 16) (h0 : 0 < t.size) (hs : t.size ≤ 1125899906842624) (w : World) :
    Calls Tryd.prog 71 #[.string t, .int .i64 (b : Int)] w fun e w' => e = .returned (.tuple #[.int .i64 ((lettE b (rest t 1)).1 : Int), .int .i64 ((lettE b (rest t 1)).2 : Int)]) ∧ Below w.heap.size w w' := by
  have hz := size_tail t 1
  have c1 := fun W => digits_any (t.extract 1 t.size) b hb hb2 (by omega) W
  have e1 : (t.extract 1 t.size).data.toList = rest t 1 := by rw [Lib.extract_to_end]; rfl
  rw [e1] at c1
  have hle := Num.run_le b (rest t 1)
  rw [rest_len] at hle
  have hq : lettE b (rest t 1) = if (digE b (rest t 1)).2 = 0 then (0, 0) else ((digE b (rest t 1)).1, (digE b (rest t 1)).2 + 1) := rfl
  have hd2 : (digE b (rest t 1)).2 = Num.run b (rest t 1) := rfl
  rw [← hd2] at hle
  generalize lettE b (rest t 1) = z at *
  generalize digE b (rest t 1) = y at *
  obtain ⟨y1, y2⟩ := y
  dsimp only at hle hq c1
  have C1 := Lib.hid c1
  have i1 : (1 : Int) ≤ (t.size : Int) := by omega
  by_cases h : y2 = 0
  · subst h
    rw [if_pos rfl] at hq
    subst hq
    clear c1 e1 hd2
    go_enter Tryd.func71, Tryd.ntmps71
    go_wp2_with fail
    refine (C1.out _).mono ?_
    rintro e w1 ⟨rfl, hb1⟩
    have HB1 := Lib.hid hb1
    clear hb1
    go_wp2_with fail
    go_ret2
    exact ⟨rfl, HB1.out⟩
  · rw [if_neg h] at hq
    subst hq
    have x0 : ((y2 : Int) == 0) = false := by rw [beq_eq_false_iff_ne]; omega
    clear c1 e1 hd2 h
    go_enter Tryd.func71, Tryd.ntmps71
    go_wp2_with fail
    refine (C1.out _).mono ?_
    rintro e w1 ⟨rfl, hb1⟩
    have HB1 := Lib.hid hb1
    clear hb1
    go_wp2_with fail
    go_ret2
    exact ⟨rfl, HB1.out⟩
end Go.Proofs.YtdppfhgihoibnaaDoor.Qt
