/-
  The contracts of the document's own Kind, tidy and Lines for comments. Conditions: the string has at most 2^50 bytes; where bytes are laid, at most 2^40; where lines are made, at most 2^20.
-/
import Derived.Test.YtcbjcgbfdniieaaDoorNotRef
import Derived.Test.YtcbjcgbfdniieaaDoorNotLin
import Derived.Lib.AppendStr
import Derived.Lib.BufferRead
namespace Go.Proofs.YtcbjcgbfdniieaaDoor.Not
open Go.RowKit Gly
open Plc (linesL trimS)
set_option linter.unusedSimpArgs false
set_option linter.unusedVariables false

theorem scanN_ok (L : List UInt8) (h : (scanN L).2 ≠ 0) : (scanN L).1 = 0 := by
  unfold scanN at *
  split at h
  · split at h
    · rename_i h1 h2
      rw [if_pos h1, if_pos h2]
    · exact absurd rfl h
  · split at h <;> exact absurd rfl h
theorem first_dash (s : ByteArray) (h0 : 0 < s.size) (h : (scanN s.data.toList).1 ≠ 0) : (((s[0].toNat : Nat) : Int) == 45) = !opn s.data.toList := by
  rw [← show ((45 : UInt8).toNat : Int) = 45 from rfl, ← u8_beq, ← getD_at s 0 h0]
  generalize s.data.toList = L at *
  cases ho : opn L with
  | true =>
    obtain ⟨r, rfl⟩ := opn_split L ho
    rfl
  | false =>
    unfold scanN at h
    rw [if_neg (by rw [ho]; decide)] at h
    by_cases hd : dsh (L.take (Wrd.run symP L)) = true
    · have hb := dsh_bytes hd
      have hl := dsh_len hd
      match L, hl with
      | b :: r, hl =>
        obtain ⟨m, hm⟩ : ∃ m, Wrd.run symP (b :: r) = m + 1 := ⟨Wrd.run symP (b :: r) - 1, by rw [List.length_take] at hl; omega⟩
        rw [hm] at hb
        have := hb b (by simp)
        subst this
        rfl
    · rw [if_neg hd] at h
      exact absurd rfl h
set_option maxRecDepth 100000 in
set_option maxHeartbeats 4000000 in
theorem refKind_any (s : ByteArray) (hs : s.size ≤ 1125899906842624) (w : World) :
    Calls Tryd.prog 15 #[.string s] w fun e w' => e = .returned (.int .i64 ((kindN s.data.toList : Nat) : Int)) ∧ w = w' := by
  have c1 := fun W => refScan_any s 0 hs W
  have hlen := Lib.size_eq s
  by_cases h0 : s.size = 0
  · have hk : kindN s.data.toList = 0 := by
      rw [List.eq_nil_of_length_eq_zero (by omega : s.data.toList.length = 0)]
      rfl
    rw [hk]
    rw [scanI_out s 0 (.inr (by omega))] at c1
    have C1 := Lib.hid c1
    have t0 : ((s.size : Int) == 0) = true := by rw [beq_iff_eq]; omega
    clear c1 hk hlen
    go_enter Tryd.func15, Tryd.ntmps15
    go_wp2_with fail
    refine (C1.out _).mono ?_
    rintro e w1 ⟨rfl, rfl⟩
    go_wp2_with fail
    go_ret
    exact ⟨rfl, rfl⟩
  · have t0 : ((s.size : Int) == 0) = false := by rw [beq_eq_false_iff_ne]; omega
    have h0p : 0 < s.size := by omega
    have hle := scanN_le s.data.toList
    rw [← hlen] at hle
    have hok := scanN_ok s.data.toList
    have hfd := first_dash s h0p
    unfold kindN
    rw [← hlen]
    generalize hEx : scanN s.data.toList = q at *
    obtain ⟨E, x⟩ := q
    have hi := scanI_in s 0 (by omega) E x (by rw [rest_zero]; exact hEx)
    dsimp only at hle hok hfd ⊢
    have hi2 : scanI s 0 = ((E : Int), (x : Int)) := by
      rw [show (0 : Int) = ((0 : Nat) : Int) from rfl, hi]
      split
      · rename_i h
        rw [h]
        rfl
      · rw [Nat.zero_add]
    rw [hi2] at c1
    dsimp only at c1
    have C1 := Lib.hid c1
    clear c1 hi hi2 hEx hlen
    by_cases hx : x = 0
    · subst hx
      by_cases hE : E = s.size
      · subst hE
        rw [if_neg (by omega)]
        have t1 : ((s.size : Int) != (s.size : Int)) = false := by rw [bne_eq_false_iff_eq]
        have hf := hfd (by omega)
        have t2 : 0 < s.size := by omega
        have u1 : ((s.size : Int) - 3).toNat = s.size - 3 := by omega
        clear hfd hok
        cases ho : opn s.data.toList with
        | false =>
          rw [ho] at hf
          have hf : (((s[0].toNat : Nat) : Int) == 45) = true := hf
          rw [if_pos rfl]
          clear ho
          go_enter Tryd.func15, Tryd.ntmps15
          go_wp2_with fail
          refine (C1.out _).mono ?_
          rintro e w1 ⟨rfl, rfl⟩
          go_wp2_with fail
          go_ret
          exact ⟨rfl, rfl⟩
        | true =>
          rw [ho] at hf
          have hf : (((s[0].toNat : Nat) : Int) == 45) = false := hf
          rw [if_neg (by decide)]
          clear ho
          by_cases h6 : s.size < 6
          · rw [prag_short s h6, if_neg (by decide)]
            have t3 : decide ((6 : Int) ≤ (s.size : Int)) = false := decide_eq_false (by omega)
            go_enter Tryd.func15, Tryd.ntmps15
            go_wp2_with fail
            refine (C1.out _).mono ?_
            rintro e w1 ⟨rfl, rfl⟩
            go_wp2_with fail
            go_ret
            exact ⟨rfl, rfl⟩
          · rw [prag_long s (by omega)]
            have t3 : decide ((6 : Int) ≤ (s.size : Int)) = true := decide_eq_true (by omega)
            have t4 : s.size - 3 < s.size := by omega
            have t5 : (2 : Int) < (s.size : Int) := by omega
            have t6 : 2 < s.size := by omega
            have t7 : (s.size : Int) - 3 < (s.size : Int) := by omega
            have t8 : (0 : Int) ≤ (s.size : Int) - 3 := by omega
            cases h2 : (((s[2].toNat : Nat) : Int) == 35) with
            | false =>
              rw [Bool.false_and, if_neg (by decide)]
              go_enter Tryd.func15, Tryd.ntmps15
              go_wp2_with fail
              refine (C1.out _).mono ?_
              rintro e w1 ⟨rfl, rfl⟩
              go_wp2_with fail
              go_ret
              exact ⟨rfl, rfl⟩
            | true =>
              rw [Bool.true_and]
              cases h3 : (((s[s.size - 3].toNat : Nat) : Int) == 35) with
              | false =>
                rw [if_neg (by decide)]
                go_enter Tryd.func15, Tryd.ntmps15
                go_wp2_with fail
                refine (C1.out _).mono ?_
                rintro e w1 ⟨rfl, rfl⟩
                go_wp2_with fail
                go_ret
                exact ⟨rfl, rfl⟩
              | true =>
                rw [if_pos rfl]
                go_enter Tryd.func15, Tryd.ntmps15
                go_wp2_with fail
                refine (C1.out _).mono ?_
                rintro e w1 ⟨rfl, rfl⟩
                go_wp2_with fail
                go_ret
                exact ⟨rfl, rfl⟩
      · rw [if_pos (.inr (by omega))]
        have t1 : ((E : Int) != (s.size : Int)) = true := by rw [bne_iff_ne]; omega
        go_enter Tryd.func15, Tryd.ntmps15
        go_wp2_with fail
        refine (C1.out _).mono ?_
        rintro e w1 ⟨rfl, rfl⟩
        go_wp2_with fail
        go_ret
        exact ⟨rfl, rfl⟩
    · rw [if_pos (.inl (hok hx))]
      have t1 : ((x : Int) != 0) = true := by rw [bne_iff_ne]; omega
      go_enter Tryd.func15, Tryd.ntmps15
      go_wp2_with fail
      refine (C1.out _).mono ?_
      rintro e w1 ⟨rfl, rfl⟩
      go_wp2_with fail
      go_ret
      exact ⟨rfl, rfl⟩
end Go.Proofs.YtcbjcgbfdniieaaDoor.Not
