/-
  How many newlines a text has: the bytes 13, 10 and 12 in it, the pairs 13 10 counted once; one less than the lines that the text has. No program is run here.
-/
import Derived.Test.YthjckmoobbpidaaPlcCut
import Derived.Test.YthjckmoobbpidaaMrkMath
import Derived.Lib.CountLaws
namespace Go.Proofs.Ythjckmoobbpidaa.Mrk
open Plc Go.RowKit
set_option linter.unusedSimpArgs false
set_option linter.unusedVariables false

/-- The bytes 13, 10 and 12. -/
def tot (l : List UInt8) : Nat := Lib.countByte l 13 + Lib.countByte l 10 + Lib.countByte l 12
/-- The pairs 13 10. -/
def prs (l : List UInt8) : Nat := Lib.count l [13, 10]
theorem prs_nil : prs [] = 0 := rfl
theorem prs_pair (r : List UInt8) : prs (13 :: 10 :: r) = 1 + prs r := by
  have := Lib.count_hit (s := 13 :: 10 :: r) (sub := [13, 10]) (i := 0) (by simp) (by unfold Lib.index; rw [if_pos (by simp [List.isPrefixOf])]; rfl)
  simpa [prs] using this
theorem prs_skip (x : UInt8) (r : List UInt8) (h : List.isPrefixOf [13, 10] (x :: r) = false) : prs (x :: r) = prs r := by
  unfold prs
  rcases Lib.index_spec r [13, 10] with ⟨h1, -⟩ | ⟨i, h1, -, -, -⟩
  · rw [Lib.count_miss h1, Lib.count_miss (by unfold Lib.index; rw [h, h1]; rfl)]
  · have e : ((i : Int) == -1) = false := by rw [beq_eq_false_iff_ne]; omega
    rw [Lib.count_hit (by simp) h1, Lib.count_hit (s := x :: r) (i := i + 1) (by simp) (by unfold Lib.index; rw [h, h1]; simp [e])]
    rfl
theorem tot_cons (x : UInt8) (r : List UInt8) : tot (x :: r) = tot r + (if x = 13 ∨ x = 10 ∨ x = 12 then 1 else 0) := by
  unfold tot Lib.countByte
  simp only [List.count_cons, beq_iff_eq]
  by_cases h1 : x = 13
  · subst h1; simp; omega
  · by_cases h2 : x = 10
    · subst h2; simp; omega
    · by_cases h3 : x = 12
      · subst h3; simp; omega
      · simp [h1, h2, h3]
theorem bt_list (s : ByteArray) (i : Nat) (h : i < s.data.toList.length) : bt s i = (s.data.toList[i]).toNat := by
  rw [bt_getD, List.getD_eq_getElem?_getD, List.getElem?_eq_getElem h]
  rfl
theorem u8_of (x : UInt8) (n : Nat) (hn : n < 256) (h : x.toNat = n) : x = UInt8.ofNat n := by
  apply UInt8.toNat_inj.1
  rw [h]
  simp
  omega
theorem cut_count (s : ByteArray) : ∀ (f b i : Nat), s.size ≤ i + f → (cut s f b i).length + prs (s.data.toList.drop i) = tot (s.data.toList.drop i) + 1 := by
  intro f
  induction f using Nat.strongRecOn with
  | _ f ih =>
    intro b i hf
    have hsz : s.data.toList.length = s.size := (Lib.size_eq s).symm
    by_cases h : i < s.size
    · have hd : s.data.toList.drop i = s.data.toList[i]'(by omega) :: s.data.toList.drop (i + 1) := List.drop_eq_getElem_cons (by omega)
      have hb := bt_list s i (by omega)
      generalize s.data.toList[i]'(by omega) = x at hd hb
      have hf0 : 0 < f := by omega
      by_cases n0 : nlAt s i = 0
      · obtain ⟨e1, e2, e3⟩ := nl_none s i n0 h
        rw [cut_one s f b i h n0 hf]
        have := ih (f - 1) (by omega) b (i + 1) (by omega)
        have x1 : x ≠ 13 := fun e => e3 (by rw [hb, e]; rfl)
        have x2 : x ≠ 10 := fun e => e1 (by rw [hb, e]; rfl)
        have x3 : x ≠ 12 := fun e => e2 (by rw [hb, e]; rfl)
        rw [hd, tot_cons, if_neg (by simp [x1, x2, x3]), prs_skip x _ (by simp [List.isPrefixOf, beq_eq_false_iff_ne.2 (Ne.symm x1)])]
        omega
      · have hle := nlAt_le s i
        rw [cut_at s f b i h n0 hf, List.length_cons]
        rcases (by omega : nlAt s i = 1 ∨ nlAt s i = 2) with n1 | n2
        · rw [n1]
          have := ih (f - 1) (by omega) (i + 1) (i + 1) (by omega)
          obtain ⟨-, e⟩ := nl_one s i n1
          have hx : x = 13 ∨ x = 10 ∨ x = 12 := by
            rcases e with e | e | e
            · exact .inr (.inl (u8_of x 10 (by omega) (by omega)))
            · exact .inr (.inr (u8_of x 12 (by omega) (by omega)))
            · exact .inl (u8_of x 13 (by omega) (by omega))
          have hp : List.isPrefixOf [13, 10] (x :: s.data.toList.drop (i + 1)) = false := by
            by_cases h13 : x = 13
            · subst h13
              by_cases h2 : i + 1 < s.size
              · have hd2 : s.data.toList.drop (i + 1) = s.data.toList[i + 1]'(by omega) :: s.data.toList.drop (i + 2) := List.drop_eq_getElem_cons (by omega)
                have hb2 := bt_list s (i + 1) (by omega)
                generalize s.data.toList[i + 1]'(by omega) = y at hd2 hb2
                have hy : y ≠ 10 := by
                  intro e
                  have hb3 : bt s (i + 1) = 10 := by rw [hb2, e]; rfl
                  have hb4 : bt s i = 13 := by rw [hb]; rfl
                  unfold nlAt at n1
                  rw [if_neg (by omega), if_neg (by omega), if_pos hb4, if_pos ⟨h2, hb3⟩] at n1
                  omega
                rw [hd2]
                simp [List.isPrefixOf, beq_eq_false_iff_ne.2 (Ne.symm hy)]
              · rw [List.drop_eq_nil_of_le (by omega)]
                rfl
            · simp [List.isPrefixOf, beq_eq_false_iff_ne.2 (Ne.symm h13)]
          rw [hd, tot_cons, if_pos hx, prs_skip x _ hp]
          omega
        · rw [n2]
          have := ih (f - 1) (by omega) (i + 2) (i + 2) (by omega)
          obtain ⟨h2, e1, e2, -⟩ := nl_two s i n2
          have hd2 : s.data.toList.drop (i + 1) = s.data.toList[i + 1]'(by omega) :: s.data.toList.drop (i + 2) := List.drop_eq_getElem_cons (by omega)
          have hb2 := bt_list s (i + 1) (by omega)
          generalize s.data.toList[i + 1]'(by omega) = y at hd2 hb2
          obtain rfl : x = 13 := u8_of x 13 (by omega) (by omega)
          obtain rfl : y = 10 := u8_of y 10 (by omega) (by omega)
          rw [hd, hd2, prs_pair, tot_cons, tot_cons, if_pos (by simp), if_pos (by simp)]
          omega
    · rw [cut_end s f b i h, List.drop_eq_nil_of_le (by omega)]
      rfl
theorem lines_count (s : ByteArray) : (linesL s).length + prs s.data.toList = tot s.data.toList + 1 := cut_count s s.size 0 0 (by omega)
theorem tot_le (s : ByteArray) : Lib.countByte s.data.toList 13 ≤ s.size ∧ Lib.countByte s.data.toList 10 ≤ s.size ∧ Lib.countByte s.data.toList 12 ≤ s.size := by
  have hsz : s.data.toList.length = s.size := (Lib.size_eq s).symm
  refine ⟨?_, ?_, ?_⟩
  · rw [← hsz]; exact List.count_le_length
  · rw [← hsz]; exact List.count_le_length
  · rw [← hsz]; exact List.count_le_length
/-- How many lines more a text has than one. -/
def nlS (s : ByteArray) : Int := wrap64 (((linesL s).length : Int) - 1)
theorem nlS_is (s : ByteArray) (hs : s.size ≤ 4294967280) : nlS s = (((linesL s).length : Nat) : Int) - 1 := by
  have := linesL_le s
  exact IntWalk.wrap64_in _ ⟨by omega, by omega⟩
theorem nlS_range (s : ByteArray) (hs : s.size ≤ 4294967280) : 0 ≤ nlS s ∧ nlS s ≤ 4294967280 := by
  rw [nlS_is s hs]
  have := linesL_le s
  have : 0 < (linesL s).length := cut_length s _ _ _
  omega
/-- What the four counts come to. -/
theorem nl_counts (s : ByteArray) (hs : s.size ≤ 4294967280) :
    wrap64 (wrap64 (wrap64 ((Lib.countByte s.data.toList 13 : Nat) + (Lib.countByte s.data.toList 10 : Nat)) + (Lib.countByte s.data.toList 12 : Nat)) - (prs s.data.toList : Nat)) = nlS s := by
  have h1 := lines_count s
  obtain ⟨a, b, c⟩ := tot_le s
  have h2 : prs s.data.toList ≤ s.size + 1 := by
    have := Lib.count_le s.data.toList [13, 10]
    rw [← Lib.size_eq] at this
    exact this
  rw [nlS_is s hs]
  unfold tot at h1
  generalize Lib.countByte s.data.toList 13 = x at *
  generalize Lib.countByte s.data.toList 10 = y at *
  generalize Lib.countByte s.data.toList 12 = z at *
  generalize prs s.data.toList = p at *
  rw [IntWalk.wrap64_in ((x : Int) + (y : Int)) ⟨by omega, by omega⟩, IntWalk.wrap64_in ((x : Int) + (y : Int) + (z : Int)) ⟨by omega, by omega⟩, IntWalk.wrap64_in _ ⟨by omega, by omega⟩]
  omega
end Go.Proofs.Ythjckmoobbpidaa.Mrk
