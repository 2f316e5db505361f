/-
  The contract of the document's own Check, and the walks of the statements GlyphNexts and GlyphChecks. Condition: the string has at most 2^47 bytes, as every row's input has.
-/
import Derived.Test.YtjfhdapflpmjgaaGlyRefn
import Derived.Test.YtjfhdapflpmjgaaGlyChk
import Derived.Test.YtjfhdapflpmjgaaGlyRun
namespace Go.Proofs.Ytjfhdapflpmjgaa.Gly
open Go.RowKit
set_option linter.unusedSimpArgs false

theorem refcheck_any (s : ByteArray) (hs : s.size ≤ 1125899906842624) (w : World) :
    Calls Try.prog 13 #[.string s] w fun e w' => e = .returned (.tuple #[.int .i64 ((checkN s : Nat) : Int), .int .i64 (checkE s)]) ∧ w = w' := by
  have HM := Lib.hid hs
  go_enter Try.func13, Try.ntmps13
  go_wp2
  go_loop [4] (fun i => ∃ (n f : Nat), i = .int .i64 (n : Int) ∧ firstBad s f n = checkN s ∧ s.size ≤ n + f) (fun i => s.size - (intOf i).toNat)
  case atStart => exact ⟨0, s.size, rfl, rfl, by omega⟩
  case round =>
    obtain ⟨n, f, rfl, hq, hf⟩ := hrel
    have HQ := Lib.hid hq
    clear hq
    by_cases hp : n < s.size
    · have hw := width_ge s n
      have hx := width_fits s n hp
      have hr : Hid (runeAt s (n : Int) = ((((Utf8.decode s n).1 : Nat) : Int), (((Utf8.decode s n).2 : Nat) : Int))) := runeAt_in s n hp
      cases f with
      | zero => omega
      | succ f =>
      by_cases he : (Utf8.decode s n).1 = 65533
      · have he' : ((((Utf8.decode s n).1 : Nat) : Int) == 65533) = true := by rw [he]; rfl
        by_cases h1 : (Utf8.decode s n).2 = 1
        · have HE : Hid (badAt s n = true) := by unfold Hid badAt; simp [he, h1]
          have h1' : ((((Utf8.decode s n).2 : Nat) : Int) == 1) = true := by rw [h1]; rfl
          clear he h1
          go_wp2_with fail
          refine (refnext_any s n HM.out _).mono ?_
          rintro e w1 ⟨rfl, rfl⟩
          rw [hr.out]
          go_wp2_with fail
          go_ret2
          have h := HQ.out
          rw [firstBad, if_pos hp, if_pos HE.out] at h
          refine ⟨?_, rfl⟩
          unfold checkE
          rw [← h, if_pos hp]
          rfl
        · have HE : Hid (badAt s n = false) := by unfold Hid badAt; simp [h1]
          have h1' : ((((Utf8.decode s n).2 : Nat) : Int) == 1) = false := by rw [beq_eq_false_iff_ne]; omega
          clear he h1
          go_wp2_with fail
          refine (refnext_any s n HM.out _).mono ?_
          rintro e w1 ⟨rfl, rfl⟩
          rw [hr.out]
          go_wp2_with fail
          go_round
          case rel =>
            refine ⟨n + (Utf8.decode s n).2, f, by go_num, ?_, by omega⟩
            have h := HQ.out
            rw [firstBad, if_pos hp, HE.out] at h
            simpa using h
          case measure => simp [intOf]; omega
      · have he' : ((((Utf8.decode s n).1 : Nat) : Int) == 65533) = false := by rw [beq_eq_false_iff_ne]; omega
        have HE : Hid (badAt s n = false) := by unfold Hid badAt; simp [he]
        clear he
        go_wp2_with fail
        refine (refnext_any s n HM.out _).mono ?_
        rintro e w1 ⟨rfl, rfl⟩
        rw [hr.out]
        go_wp2_with fail
        go_round
        case rel =>
          refine ⟨n + (Utf8.decode s n).2, f, by go_num, ?_, by omega⟩
          have h := HQ.out
          rw [firstBad, if_pos hp, HE.out] at h
          simpa using h
        case measure => simp [intOf]; omega
    · go_wp2_with fail
      go_ret2
      have h := HQ.out
      rw [firstBad_end s f n hp] at h
      refine ⟨?_, rfl⟩
      unfold checkE
      rw [← h, if_neg (by omega)]
      rfl

theorem nexts_walk (a0 : ByteArray) (a1 : Int) (w0 : a0.size ≤ 140737488351232) (_w1 : (Lit.int .i64 a1).wf = true) (w : World) :
    Calls Try.prog 3 #[.string a0, .int .i64 a1] w fun e w' => e = .returned (.bool true) ∧ Below w.heap.size w w' := by
  have hM : a0.size ≤ maxLen := by unfold maxLen; omega
  have HM := Lib.hid hM
  clear _w1 hM
  have hc : -2147483648 ≤ (runeAt a0 a1).1 ∧ (runeAt a0 a1).1 ≤ 2147483647 := by
    have := rune_le a0 a1.toNat
    unfold runeAt
    split
    · dsimp only; omega
    · dsimp only; omega
  obtain ⟨c1, c2⟩ := hc
  go_enter Try.func3, Try.ntmps3
  go_wp2_with fail
  refine (next_any a0 a1 HM.out _).mono ?_
  rintro e w1 ⟨rfl, hb1⟩
  have HB1 := Lib.hid hb1
  clear hb1
  go_wp2_with fail
  refine (refnext_any a0 a1 (by omega) _).mono ?_
  rintro e w2 ⟨rfl, rfl⟩
  go_wp2_with fail
  refine (awake_any _).mono ?_
  rintro e w2 ⟨rfl, hb2⟩
  have HB2 := Lib.hid hb2
  clear hb2
  go_wp2_with fail
  go_ret
  exact ⟨by simp, HB1.out.trans (HB2.out.mono HB1.out.size)⟩

theorem checks_walk (a0 : ByteArray) (w0 : a0.size ≤ 140737488351232) (w : World) :
    Calls Try.prog 4 #[.string a0] w fun e w' => e = .returned (.bool true) ∧ Below w.heap.size w w' := by
  go_enter Try.func4, Try.ntmps4
  go_wp2_with fail
  refine (check_any a0 (by omega) _).mono ?_
  rintro e w1 ⟨rfl, hb1⟩
  have HB1 := Lib.hid hb1
  clear hb1
  go_wp2_with fail
  refine (refcheck_any a0 (by omega) _).mono ?_
  rintro e w2 ⟨rfl, rfl⟩
  go_wp2_with fail
  refine (awake_any _).mono ?_
  rintro e w2 ⟨rfl, hb2⟩
  have HB2 := Lib.hid hb2
  clear hb2
  go_wp2_with fail
  go_ret
  exact ⟨by simp, HB1.out.trans (HB2.out.mono HB1.out.size)⟩
end Go.Proofs.Ytjfhdapflpmjgaa.Gly
