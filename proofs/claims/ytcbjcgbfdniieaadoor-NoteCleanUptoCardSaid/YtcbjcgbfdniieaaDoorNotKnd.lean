/-
  The contracts of note's isPragma and Kind. Condition: the string has at most 2^50 bytes.
-/
import Derived.Test.YtcbjcgbfdniieaaDoorNotScn
namespace Go.Proofs.YtcbjcgbfdniieaaDoor.Not
open Go.RowKit Gly
set_option linter.unusedSimpArgs false
set_option linter.unusedVariables false

theorem u8_beq (b c : UInt8) : (b == c) = (((b.toNat : Nat) : Int) == ((c.toNat : Nat) : Int)) := by
  rw [Bool.eq_iff_iff, beq_iff_eq, beq_iff_eq, Int.natCast_inj, UInt8.toNat_inj]
theorem getD_at (s : ByteArray) (n : Nat) (h : n < s.size) : s.data.toList.getD n 0 = s[n] := by
  have hl := Lib.size_eq s
  rw [List.getD_eq_getElem?_getD, List.getElem?_eq_getElem (by omega)]
  rfl
theorem prag_short (s : ByteArray) (h : s.size < 6) : prag s.data.toList = false := by
  unfold prag
  rw [← Lib.size_eq, decide_eq_false (by omega)]
  rfl
theorem prag_long (s : ByteArray) (h : 6 ≤ s.size) : prag s.data.toList = ((((s[2].toNat : Nat) : Int) == 35) && (((s[s.size - 3].toNat : Nat) : Int) == 35)) := by
  unfold prag
  rw [← Lib.size_eq, decide_eq_true h, Bool.true_and, getD_at s 2 (by omega), getD_at s _ (by omega), u8_beq, u8_beq]
  rfl
theorem pragma_any (s : ByteArray) (hs : s.size ≤ 1125899906842624) (w : World) :
    Calls Tryd.prog 29 #[.string s] w fun e w' => e = .returned (.bool (prag s.data.toList)) ∧ w = w' := by
  by_cases h : s.size < 6
  · rw [prag_short s h]
    have t0 : decide ((6 : Int) ≤ (s.size : Int)) = false := decide_eq_false (by omega)
    go_enter Tryd.func29, Tryd.ntmps29
    go_wp2_with fail
    go_ret
    exact ⟨rfl, rfl⟩
  · rw [prag_long s (by omega)]
    have t0 : decide ((6 : Int) ≤ (s.size : Int)) = true := decide_eq_true (by omega)
    have t1 : (s.size : Int) - 2 - 1 < (s.size : Int) := by omega
    have t2 : (0 : Int) ≤ (s.size : Int) - 2 - 1 := by omega
    have t3 : ((s.size : Int) - 2 - 1).toNat = s.size - 3 := by omega
    have t4 : s.size - 3 < s.size := by omega
    have t5 : (2 : Int) < (s.size : Int) := by omega
    have t6 : 2 < s.size := by omega
    cases h2 : (((s[2].toNat : Nat) : Int) == 35) with
    | false =>
      rw [Bool.false_and]
      go_enter Tryd.func29, Tryd.ntmps29
      go_wp2_with fail
      go_ret
      exact ⟨rfl, rfl⟩
    | true =>
      rw [Bool.true_and]
      go_enter Tryd.func29, Tryd.ntmps29
      go_wp2_with fail
      go_ret
      exact ⟨rfl, rfl⟩

theorem Kind_any (s : ByteArray) (hs : s.size ≤ 1125899906842624) (w : World) :
    Calls Tryd.prog 14 #[.string s] w fun e w' => e = .returned (.int .i64 ((kindN s.data.toList : Nat) : Int)) ∧ Below w.heap.size w w' := by
  have c1 := fun W => Scan_any s 0 hs W
  have he : (scanI s 0).1 = (((scanN s.data.toList).1 : Nat) : Int) := by
    unfold scanI
    split
    · rename_i h
      have : s.data.toList = [] := List.eq_nil_of_length_eq_zero (by rw [← Lib.size_eq]; omega)
      rw [this]
      rfl
    · rw [show (0 : Int).toNat = 0 from rfl, rest_zero]
      dsimp only
      split
      · rename_i h
        rw [h]
        rfl
      · omega
  rw [he] at c1
  have hle := scanN_le s.data.toList
  have hlen := Lib.size_eq s
  unfold kindN
  rw [← hlen]
  rw [← hlen] at hle
  generalize (scanN s.data.toList).1 = E at *
  generalize (scanI s 0).2 = x at *
  have C1 := Lib.hid c1
  have C2 := Lib.hid (fun W => opn_any s W)
  have C3 := Lib.hid (fun W => pragma_any s hs W)
  clear c1 he hlen
  by_cases h0 : E = 0
  · subst h0
    rw [if_pos (.inl rfl)]
    go_enter Tryd.func14, Tryd.ntmps14
    go_wp2_with fail
    refine (C1.out _).mono ?_
    rintro e w1 ⟨rfl, hb⟩
    have HB := Lib.hid hb
    clear hb
    go_wp2_with fail
    go_ret
    exact ⟨rfl, HB.out⟩
  · have t1 : ((E : Int) == 0) = false := by rw [beq_eq_false_iff_ne]; omega
    by_cases h1 : E < s.size
    · rw [if_pos (.inr h1)]
      have t2 : decide ((E : Int) < (s.size : Int)) = true := decide_eq_true (by omega)
      go_enter Tryd.func14, Tryd.ntmps14
      go_wp2_with fail
      refine (C1.out _).mono ?_
      rintro e w1 ⟨rfl, hb⟩
      have HB := Lib.hid hb
      clear hb
      go_wp2_with fail
      go_ret
      exact ⟨rfl, HB.out⟩
    · rw [if_neg (by omega)]
      have t2 : decide ((E : Int) < (s.size : Int)) = false := decide_eq_false (by omega)
      cases ho : opn s.data.toList with
      | false =>
        rw [if_pos rfl]
        rw [ho] at C2
        go_enter Tryd.func14, Tryd.ntmps14
        go_wp2_with fail
        refine (C1.out _).mono ?_
        rintro e w1 ⟨rfl, hb⟩
        have HB := Lib.hid hb
        clear hb
        go_wp2_with fail
        refine (C2.out _).mono ?_
        rintro e w2 ⟨rfl, rfl⟩
        go_wp2_with fail
        go_ret
        exact ⟨rfl, HB.out⟩
      | true =>
        rw [if_neg (by decide)]
        rw [ho] at C2
        cases hp : prag s.data.toList with
        | true =>
          rw [if_pos rfl]
          rw [hp] at C3
          go_enter Tryd.func14, Tryd.ntmps14
          go_wp2_with fail
          refine (C1.out _).mono ?_
          rintro e w1 ⟨rfl, hb⟩
          have HB := Lib.hid hb
          clear hb
          go_wp2_with fail
          refine (C2.out _).mono ?_
          rintro e w2 ⟨rfl, rfl⟩
          go_wp2_with fail
          refine (C3.out _).mono ?_
          rintro e w3 ⟨rfl, rfl⟩
          go_wp2_with fail
          go_ret
          exact ⟨rfl, HB.out⟩
        | false =>
          rw [if_neg (by decide)]
          rw [hp] at C3
          go_enter Tryd.func14, Tryd.ntmps14
          go_wp2_with fail
          refine (C1.out _).mono ?_
          rintro e w1 ⟨rfl, hb⟩
          have HB := Lib.hid hb
          clear hb
          go_wp2_with fail
          refine (C2.out _).mono ?_
          rintro e w2 ⟨rfl, rfl⟩
          go_wp2_with fail
          refine (C3.out _).mono ?_
          rintro e w3 ⟨rfl, rfl⟩
          go_wp2_with fail
          go_ret
          exact ⟨rfl, HB.out⟩
end Go.Proofs.YtcbjcgbfdniieaaDoor.Not
