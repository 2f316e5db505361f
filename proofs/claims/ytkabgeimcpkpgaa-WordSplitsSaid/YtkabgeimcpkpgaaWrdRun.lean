/-
  The contracts of the document's own Run over symbols, great, and Scan. Condition: the string has at most 2^50 bytes.
-/
import Derived.Test.YtkabgeimcpkpgaaWrdRef
import Derived.Deep.RegionWith
import Derived.Deep.QuietTactic
import Derived.BigQuiet
namespace Go.Proofs.Ytkabgeimcpkpgaa.Wrd
open Go.RowKit Gly
set_option linter.unusedSimpArgs false

theorem refrun_any (s : ByteArray) (n : Nat) (hs : s.size ≤ 1125899906842624) (hn : n ≤ s.size) (w : World) :
    Calls Try.prog 21 #[.string s, .int .i64 (n : Int), .int .i64 5] w fun e w' => e = .returned (.int .i64 ((n + run symP (rest s n) : Nat) : Int)) ∧ w = w' := by
  have b1 : decide ((n : Int) < 0) = false := decide_eq_false (by omega)
  have b2 : decide (s.size < n) = false := decide_eq_false (by omega)
  go_enter Try.func21, Try.ntmps21
  go_wp2
  go_loop [1, 6] (fun i _ => ∃ (p : Nat), i = .int .i64 (p : Int) ∧ p ≤ s.size ∧ p + run symP (rest s p) = n + run symP (rest s n)) (fun i _ => s.size - (intOf i).toNat)
  case atStart => exact ⟨n, rfl, hn, rfl⟩
  case round =>
    obtain ⟨p, rfl, hp0, hq⟩ := hrel
    have HQ := Lib.hid hq
    clear hq
    by_cases hp : p < s.size
    · have c1 := fun W => refnext_any s p hs W
      rw [runeAt_rest s p hp] at c1
      dsimp only at c1
      have hw := wd_pos (rest s p)
      have hx := wd_le (rest s p) (rest_ne s p hp)
      have hl := rest_len s p
      have hst := run_step symP (rest s p) (rest_ne s p hp)
      rw [rest_drop] at hst
      have hsp := run_stop symP (rest s p)
      have hsy : symP (rn (rest s p)) = (classI (rn (rest s p)) == 5) := rfl
      generalize rn (rest s p) = c at *
      generalize wd (rest s p) = d at *
      have c2 := fun W => refclass_any c W
      generalize classI c = k at *
      have C1 := Lib.hid c1
      have C2 := Lib.hid c2
      have HST := Lib.hid hst
      have HSP := Lib.hid hsp
      clear c1 c2 hst hsp
      by_cases h : k = 5
      · have E : Hid (symP c = true) := by unfold Hid; rw [hsy, h]; rfl
        have b3 : (k != 5) = false := by rw [bne_eq_false_iff_eq]; exact h
        clear hsy h
        go_wp2_with fail
        refine (C1.out _).mono ?_
        rintro e w1 ⟨rfl, rfl⟩
        go_wp2_with fail
        refine (C2.out _).mono ?_
        rintro e w1 ⟨rfl, rfl⟩
        go_wp2_with fail
        go_round
        case rel => exact ⟨p + d, by go_num, by omega, by rw [← HQ.out, HST.out E.out, Nat.add_assoc]⟩
        case measure => simp [intOf]; omega
      · have E : Hid (symP c = false) := by unfold Hid; rw [hsy, beq_eq_false_iff_ne]; exact h
        have b3 : (k != 5) = true := by rw [bne_iff_ne]; exact h
        clear hsy h
        go_wp2_with fail
        refine (C1.out _).mono ?_
        rintro e w1 ⟨rfl, rfl⟩
        go_wp2_with fail
        refine (C2.out _).mono ?_
        rintro e w1 ⟨rfl, rfl⟩
        go_wp2_with fail
        go_ret
        refine ⟨?_, rfl⟩
        have := HQ.out
        rw [HSP.out (.inr E.out), Nat.add_zero] at this
        rw [← this]
        rfl
    · go_wp2_with fail
      go_ret
      obtain rfl : p = s.size := by omega
      refine ⟨?_, rfl⟩
      have := HQ.out
      rw [run_stop symP (rest s s.size) (.inl (rest_nil s _ (Nat.le_refl _))), Nat.add_zero] at this
      first | (rw [← this]; rfl) | (rw [← Int.natCast_add, ← this]; rfl)

set_option maxHeartbeats 2000000 in
theorem refscan_small (s : ByteArray) (n : Nat) (hs : s.size ≤ 1125899906842624) (hn : n < s.size) (hc : classI (rn (rest s n)) = 2) (w : World) :
    Calls Try.prog 11 #[.string s, .int .i64 (n : Int)] w fun e w' => e = .returned (.tuple #[.int .i64 (smallK (bts ((rest s n).take (run nameB (rest s n))))), .int .i64 ((n + run nameB (rest s n) : Nat) : Int)]) ∧ Below w.heap.size w w' := by
  have c1 := fun W => refcls_any s n hs W
  rw [clsI_in s n hn, hc] at c1
  dsimp only at c1
  have hr := run_le nameB _ (rest s n) (Nat.le_refl _)
  have hl := rest_len s n
  have hx := cut_bts s n (run nameB (rest s n))
  have c2 := fun W => refname_any s n hs (by omega) W
  have hk : smallK (bts ((rest s n).take (run nameB (rest s n)))) = if resB (bts ((rest s n).take (run nameB (rest s n)))) = true then 9 else 1 := rfl
  have c3 := fun g W h => reskind_any (bts ((rest s n).take (run nameB (rest s n)))) g W h
  generalize smallK (bts ((rest s n).take (run nameB (rest s n)))) = sk at *
  generalize bts ((rest s n).take (run nameB (rest s n))) = x at *
  generalize run nameB (rest s n) = m at *
  have C1 := Lib.hid c1
  have C2 := Lib.hid c2
  have HX := Lib.hid hx
  have i0 : (0 : Int) ≤ (n : Int) := by omega
  have i1 : (n : Int) ≤ ((n + m : Nat) : Int) := by omega
  have i2 : ((n + m : Nat) : Int) ≤ (s.size : Int) := by omega
  cases h : resB x with
  | true =>
    rw [h] at hk c3
    have C3 := Lib.hid c3
    have HK : Hid (sk = 9) := hk
    clear c1 c2 c3 hx hk h hc
    go_enter Try.func11, Try.ntmps11
    go_wp2_with fail
    refine (C1.out _).mono ?_
    rintro e w1 ⟨rfl, rfl⟩
    go_wp2_with fail
    refine (C2.out _).mono ?_
    rintro e w1 ⟨rfl, rfl⟩
    go_wp2_with fail
    go_region_with (first | (go_at_call 25; refine (words_any _).mono ?_; rintro e w1 ⟨rfl, hr1, hb1, hl1⟩; have R1 := Lib.hid hr1; have HB1 := Lib.hid hb1; have HL1 := Lib.hid hl1; clear hr1 hb1 hl1) | (go_at_call 24; rw [HX.out]; refine (C3.out _ _ R1.out).mono ?_; rintro e w2 ⟨rfl, rfl⟩))
    all_goals go_wp2_with fail
    all_goals go_ret2
    all_goals exact ⟨by rw [HK.out]; rfl, ⟨HB1.out.os, HB1.out.tape, HB1.out.output, HB1.out.size, HB1.out.block⟩⟩
  | false =>
    rw [h] at hk c3
    have C3 := Lib.hid c3
    have HK : Hid (sk = 1) := hk
    clear c1 c2 c3 hx hk h hc
    go_enter Try.func11, Try.ntmps11
    go_wp2_with fail
    refine (C1.out _).mono ?_
    rintro e w1 ⟨rfl, rfl⟩
    go_wp2_with fail
    refine (C2.out _).mono ?_
    rintro e w1 ⟨rfl, rfl⟩
    go_wp2_with fail
    go_region_with (first | (go_at_call 25; refine (words_any _).mono ?_; rintro e w1 ⟨rfl, hr1, hb1, hl1⟩; have R1 := Lib.hid hr1; have HB1 := Lib.hid hb1; have HL1 := Lib.hid hl1; clear hr1 hb1 hl1) | (go_at_call 24; rw [HX.out]; refine (C3.out _ _ R1.out).mono ?_; rintro e w2 ⟨rfl, rfl⟩))
    all_goals go_wp2_with fail
    all_goals go_ret2
    all_goals exact ⟨by rw [HK.out]; rfl, ⟨HB1.out.os, HB1.out.tape, HB1.out.output, HB1.out.size, HB1.out.block⟩⟩
end Go.Proofs.Ytkabgeimcpkpgaa.Wrd
