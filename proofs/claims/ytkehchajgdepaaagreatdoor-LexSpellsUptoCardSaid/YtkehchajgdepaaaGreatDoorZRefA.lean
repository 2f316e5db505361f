/-
  The contract of the document's own Next, put together out of its ways. Condition: the string has at most 2^50 bytes.
-/
import Derived.Test.YtkehchajgdepaaaGreatDoorZGlyRef
import Derived.Test.YtkehchajgdepaaaGreatDoorZMthB
namespace Go.Proofs.YtkehchajgdepaaaGreatDoor.Gly
open Go.RowKit
set_option maxHeartbeats 4000000 in
theorem refnext_four (s : ByteArray) (i : Int) (hs : s.size ≤ 1125899906842624) (w : World) :
    Calls Tryz.prog 37 #[.string s, .int .i64 i] w fun e w' => e = .returned (.tuple #[.int .i64 (fourI (byteI s i) (byteI s (i + 1)) (byteI s (i + 2)) (byteI s (i + 3))).1, .int .i64 (fourI (byteI s i) (byteI s (i + 1)) (byteI s (i + 2)) (byteI s (i + 3))).2]) ∧ w = w' := by
  have key : ∀ (x y : Int), fourI (byteI s i) (byteI s (i + 1)) (byteI s (i + 2)) (byteI s (i + 3)) = (x, y) → (Calls Tryz.prog 37 #[.string s, .int .i64 i] w fun e w' => e = .returned (.tuple #[.int .i64 x, .int .i64 y]) ∧ w = w') →
      Calls Tryz.prog 37 #[.string s, .int .i64 i] w fun e w' => e = .returned (.tuple #[.int .i64 (fourI (byteI s i) (byteI s (i + 1)) (byteI s (i + 2)) (byteI s (i + 3))).1, .int .i64 (fourI (byteI s i) (byteI s (i + 1)) (byteI s (i + 2)) (byteI s (i + 3))).2]) ∧ w = w' := by
    intro x y e h
    rw [e]
    exact h
  by_cases h0 : byteI s i < 0
  · exact key 0 0 (by unfold fourI; rw [if_pos h0]) (rn_out s i hs h0 w)
  have hin : 0 ≤ i ∧ i < s.size := by
    by_cases h : 0 ≤ i ∧ i < s.size
    · exact h
    · have := byteI_out s i h
      omega
  obtain ⟨i0, i1⟩ := hin
  have i2 : i < 1125899906842624 := by omega
  generalize ea : byteI s i = a at *
  generalize eb : byteI s (i + 1) = b at *
  generalize ec : byteI s (i + 2) = c at *
  generalize ed : byteI s (i + 3) = d at *
  by_cases h1 : a < 128
  · exact key a 1 (by unfold fourI; rw [if_neg h0, if_pos h1]) (by subst ea; exact rn_ascii s i hs (by omega) h1 w)
  by_cases h2 : a < 194
  · exact key 65533 1 (by unfold fourI; rw [if_neg h0, if_neg h1, if_neg (by omega), if_neg (by omega), if_neg (by omega)]) (by subst ea; exact rn_lead1 s i hs (by omega) h2 w)
  by_cases h3 : 244 < a
  · exact key 65533 1 (by unfold fourI; rw [if_neg h0, if_neg h1, if_neg (by omega), if_neg (by omega), if_neg (by omega)]) (by subst ea; exact rn_lead2 s i hs h3 w)
  by_cases k1 : b < 128
  · refine key 65533 1 (by clear key; unfold fourI; ((repeat' split) <;> first | (exfalso; omega) | rfl)) ?_
    subst ea eb
    by_cases x : byteI s i ≤ 223
    · exact rn_two_1lo s i hs i0 i2 (by omega) x k1 w
    by_cases y : byteI s i ≤ 239
    · exact rn_three_1lo s i hs i0 i2 (by omega) y k1 w
    exact rn_four_1lo s i hs i0 i2 (by omega) (by omega) k1 w
  by_cases k2 : 191 < b
  · refine key 65533 1 (by clear key; unfold fourI; ((repeat' split) <;> first | (exfalso; omega) | rfl)) ?_
    subst ea eb
    by_cases x : byteI s i ≤ 223
    · exact rn_two_1hi s i hs i0 i2 (by omega) x k2 w
    by_cases y : byteI s i ≤ 239
    · exact rn_three_1hi s i hs i0 i2 (by omega) y k2 w
    exact rn_four_1hi s i hs i0 i2 (by omega) (by omega) k2 w
  by_cases x : a ≤ 223
  · refine key ((a - 192) * 64 + b - 128) 2 (by clear key; unfold fourI; ((repeat' split) <;> first | (exfalso; omega) | rfl)) ?_
    subst ea eb
    exact rn_two_ok s i hs i0 i2 (by omega) x (by omega) (by omega) w
  by_cases l1 : c < 128
  · refine key 65533 1 (by clear key; unfold fourI; ((repeat' split) <;> first | (exfalso; omega) | rfl)) ?_
    subst ea eb ec
    by_cases y : byteI s i ≤ 239
    · exact rn_three_2lo s i hs i0 i2 (by omega) y (by omega) (by omega) l1 w
    exact rn_four_2lo s i hs i0 i2 (by omega) (by omega) (by omega) (by omega) l1 w
  by_cases l2 : 191 < c
  · refine key 65533 1 (by clear key; unfold fourI; ((repeat' split) <;> first | (exfalso; omega) | rfl)) ?_
    subst ea eb ec
    by_cases y : byteI s i ≤ 239
    · exact rn_three_2hi s i hs i0 i2 (by omega) y (by omega) (by omega) l2 w
    exact rn_four_2hi s i hs i0 i2 (by omega) (by omega) (by omega) (by omega) l2 w
  by_cases y : a ≤ 239
  · by_cases v1 : ((a - 224) * 64 + b - 128) * 64 + c - 128 < 2048
    · refine key 65533 1 (by clear key; unfold fourI; ((repeat' split) <;> first | (exfalso; omega) | rfl)) ?_
      subst ea eb ec
      exact rn_three_small s i hs i0 i2 (by omega) y (by omega) (by omega) (by omega) (by omega) v1 w
    by_cases v2 : 57343 < ((a - 224) * 64 + b - 128) * 64 + c - 128
    · refine key (((a - 224) * 64 + b - 128) * 64 + c - 128) 3 (by clear key; unfold fourI; ((repeat' split) <;> first | (exfalso; omega) | rfl)) ?_
      subst ea eb ec
      exact rn_three_ok2 s i hs i0 i2 (by omega) y (by omega) (by omega) (by omega) (by omega) v2 w
    by_cases v3 : ((a - 224) * 64 + b - 128) * 64 + c - 128 < 55296
    · refine key (((a - 224) * 64 + b - 128) * 64 + c - 128) 3 (by clear key; unfold fourI; ((repeat' split) <;> first | (exfalso; omega) | rfl)) ?_
      subst ea eb ec
      exact rn_three_ok1 s i hs i0 i2 (by omega) y (by omega) (by omega) (by omega) (by omega) (by omega) v3 w
    · refine key 65533 1 (by clear key; unfold fourI; ((repeat' split) <;> first | (exfalso; omega) | rfl)) ?_
      subst ea eb ec
      exact rn_three_sur s i hs i0 i2 (by omega) y (by omega) (by omega) (by omega) (by omega) (by omega) (by omega) w
  by_cases m1 : d < 128
  · refine key 65533 1 (by clear key; unfold fourI; ((repeat' split) <;> first | (exfalso; omega) | rfl)) ?_
    subst ea eb ec ed
    exact rn_four_3lo s i hs i0 i2 (by omega) (by omega) (by omega) (by omega) (by omega) (by omega) m1 w
  by_cases m2 : 191 < d
  · refine key 65533 1 (by clear key; unfold fourI; ((repeat' split) <;> first | (exfalso; omega) | rfl)) ?_
    subst ea eb ec ed
    exact rn_four_3hi s i hs i0 i2 (by omega) (by omega) (by omega) (by omega) (by omega) (by omega) m2 w
  by_cases v1 : (((a - 240) * 64 + b - 128) * 64 + c - 128) * 64 + d - 128 < 65536
  · refine key 65533 1 (by clear key; unfold fourI; ((repeat' split) <;> first | (exfalso; omega) | rfl)) ?_
    subst ea eb ec ed
    exact rn_four_small s i hs i0 i2 (by omega) (by omega) (by omega) (by omega) (by omega) (by omega) (by omega) (by omega) v1 w
  by_cases v2 : 1114111 < (((a - 240) * 64 + b - 128) * 64 + c - 128) * 64 + d - 128
  · refine key 65533 1 (by clear key; unfold fourI; ((repeat' split) <;> first | (exfalso; omega) | rfl)) ?_
    subst ea eb ec ed
    exact rn_four_large s i hs i0 i2 (by omega) (by omega) (by omega) (by omega) (by omega) (by omega) (by omega) (by omega) v2 w
  · refine key ((((a - 240) * 64 + b - 128) * 64 + c - 128) * 64 + d - 128) 4 (by clear key; unfold fourI; ((repeat' split) <;> first | (exfalso; omega) | rfl)) ?_
    subst ea eb ec ed
    exact rn_four_ok s i hs i0 i2 (by omega) (by omega) (by omega) (by omega) (by omega) (by omega) (by omega) (by omega) (by omega) (by omega) w
theorem refnext_any (s : ByteArray) (i : Int) (hs : s.size ≤ 1125899906842624) (w : World) :
    Calls Tryz.prog 37 #[.string s, .int .i64 i] w fun e w' => e = .returned (.tuple #[.int .i64 (runeAt s i).1, .int .i64 (runeAt s i).2]) ∧ w = w' := by
  rw [runeAt_four]
  exact refnext_four s i hs w

end Go.Proofs.YtkehchajgdepaaaGreatDoor.Gly
/-
  The contract of the document's own Check. Condition: the string has at most 2^50 bytes.
-/
namespace Go.Proofs.YtkehchajgdepaaaGreatDoor.Gly
open Go.RowKit
set_option linter.unusedSimpArgs false

theorem refcheck_any (s : ByteArray) (hs : s.size ≤ 1125899906842624) (w : World) :
    Calls Tryz.prog 36 #[.string s] w fun e w' => e = .returned (.tuple #[.int .i64 ((checkN s : Nat) : Int), .int .i64 (checkE s)]) ∧ w = w' := by
  have HM := Lib.hid hs
  go_enter Tryz.func36, Tryz.ntmps36
  go_wp2
  go_loop [4] (fun i => ∃ (n f : Nat), i = .int .i64 (n : Int) ∧ firstBad s f n = checkN s ∧ s.size ≤ n + f) (fun i => s.size - (intOf i).toNat)
  case atStart => exact ⟨0, s.size, rfl, rfl, by omega⟩
  case round =>
    obtain ⟨n, f, rfl, hq, hf⟩ := hrel
    have HQ := Lib.hid hq
    clear hq
    by_cases hp : n < s.size
    · have hw := width_ge s n
      have hx := width_fits s n hp
      have hr : Hid (runeAt s (n : Int) = ((((Utf8.decode s n).1 : Nat) : Int), (((Utf8.decode s n).2 : Nat) : Int))) := runeAt_in s n hp
      cases f with
      | zero => omega
      | succ f =>
      by_cases he : (Utf8.decode s n).1 = 65533
      · have he' : ((((Utf8.decode s n).1 : Nat) : Int) == 65533) = true := by rw [he]; rfl
        by_cases h1 : (Utf8.decode s n).2 = 1
        · have HE : Hid (badAt s n = true) := by unfold Hid badAt; simp [he, h1]
          have h1' : ((((Utf8.decode s n).2 : Nat) : Int) == 1) = true := by rw [h1]; rfl
          clear he h1
          go_wp2_with fail
          refine (refnext_any s n HM.out _).mono ?_
          rintro e w1 ⟨rfl, rfl⟩
          rw [hr.out]
          go_wp2_with fail
          go_ret2
          have h := HQ.out
          rw [firstBad, if_pos hp, if_pos HE.out] at h
          refine ⟨?_, rfl⟩
          unfold checkE
          rw [← h, if_pos hp]
          rfl
        · have HE : Hid (badAt s n = false) := by unfold Hid badAt; simp [h1]
          have h1' : ((((Utf8.decode s n).2 : Nat) : Int) == 1) = false := by rw [beq_eq_false_iff_ne]; omega
          clear he h1
          go_wp2_with fail
          refine (refnext_any s n HM.out _).mono ?_
          rintro e w1 ⟨rfl, rfl⟩
          rw [hr.out]
          go_wp2_with fail
          go_round
          case rel =>
            refine ⟨n + (Utf8.decode s n).2, f, by go_num, ?_, by omega⟩
            have h := HQ.out
            rw [firstBad, if_pos hp, HE.out] at h
            simpa using h
          case measure => simp [intOf]; omega
      · have he' : ((((Utf8.decode s n).1 : Nat) : Int) == 65533) = false := by rw [beq_eq_false_iff_ne]; omega
        have HE : Hid (badAt s n = false) := by unfold Hid badAt; simp [he]
        clear he
        go_wp2_with fail
        refine (refnext_any s n HM.out _).mono ?_
        rintro e w1 ⟨rfl, rfl⟩
        rw [hr.out]
        go_wp2_with fail
        go_round
        case rel =>
          refine ⟨n + (Utf8.decode s n).2, f, by go_num, ?_, by omega⟩
          have h := HQ.out
          rw [firstBad, if_pos hp, HE.out] at h
          simpa using h
        case measure => simp [intOf]; omega
    · go_wp2_with fail
      go_ret2
      have h := HQ.out
      rw [firstBad_end s f n hp] at h
      refine ⟨?_, rfl⟩
      unfold checkE
      rw [← h, if_neg (by omega)]
      rfl
end Go.Proofs.YtkehchajgdepaaaGreatDoor.Gly
