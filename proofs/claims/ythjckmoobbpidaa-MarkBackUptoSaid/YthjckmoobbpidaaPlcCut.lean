/-
  Plain facts about the lines of a string of bytes. No program is run here.
-/
import Derived.Test.YthjckmoobbpidaaPlcMath
namespace Go.Proofs.Ythjckmoobbpidaa.Plc
open Go.Lib Gly

/-- The lines from a beginning on, looked for from a byte on; f: as many rounds as there are bytes. -/
def cut (s : ByteArray) : Nat → Nat → Nat → List ByteArray
  | 0, b, _ => [s.extract b s.size]
  | f + 1, b, i => if i < s.size then (if nlAt s i = 0 then cut s f b (i + 1) else s.extract b i :: cut s f (i + nlAt s i) (i + nlAt s i)) else [s.extract b s.size]
def linesL (s : ByteArray) : List ByteArray := cut s s.size 0 0
theorem cut_end (s : ByteArray) (f b i : Nat) (h : ¬ i < s.size) : cut s f b i = [s.extract b s.size] := by
  cases f with
  | zero => rfl
  | succ f => rw [cut, if_neg h]
theorem cut_fuel (s : ByteArray) : ∀ (f g b i : Nat), s.size ≤ i + f → s.size ≤ i + g → cut s f b i = cut s g b i := by
  intro f
  induction f with
  | zero =>
    intro g b i hf hg
    rw [cut_end _ _ _ _ (by omega), cut_end _ _ _ _ (by omega)]
  | succ f ih =>
    intro g b i hf hg
    by_cases h : i < s.size
    · cases g with
      | zero => omega
      | succ g =>
        rw [cut, if_pos h, cut, if_pos h]
        by_cases h0 : nlAt s i = 0
        · rw [if_pos h0, if_pos h0]
          exact ih g _ _ (by omega) (by omega)
        · rw [if_neg h0, if_neg h0, ih g _ _ (by omega) (by omega)]
    · rw [cut_end _ _ _ _ h, cut_end _ _ _ _ h]
theorem cut_one (s : ByteArray) (f b i : Nat) (h : i < s.size) (h0 : nlAt s i = 0) (hf : s.size ≤ i + f) : cut s f b i = cut s (f - 1) b (i + 1) := by
  cases f with
  | zero => omega
  | succ f => rw [cut, if_pos h, if_pos h0]; rfl
theorem cut_at (s : ByteArray) (f b i : Nat) (h : i < s.size) (h0 : nlAt s i ≠ 0) (hf : s.size ≤ i + f) : cut s f b i = s.extract b i :: cut s (f - 1) (i + nlAt s i) (i + nlAt s i) := by
  cases f with
  | zero => omega
  | succ f => rw [cut, if_pos h, if_neg h0]; rfl
theorem cut_skip (s : ByteArray) (b : Nat) : ∀ (k f i : Nat), i + k ≤ s.size → (∀ j, j < k → nlAt s (i + j) = 0) → s.size ≤ i + f → cut s f b i = cut s (f - k) b (i + k) := by
  intro k
  induction k with
  | zero => intro f i _ _ _; rfl
  | succ k ih =>
    intro f i hk hj hf
    rw [cut_one s f b i (by omega) (hj 0 (by omega)) hf, ih (f - 1) (i + 1) (by omega) (fun j hjk => by have := hj (j + 1) (by omega); rw [← this]; congr 1; omega) (by omega)]
    congr 1
    · omega
    · omega

/-- Within a rune no newline begins. -/
theorem rune_inner (s : ByteArray) (p j : Nat) (h1 : 0 < j) (h2 : j < (Utf8.decode s p).2) : 128 ≤ bt s (p + j) := by
  rw [decode_N] at h2
  rw [bt_getD]
  rcases decodeN_shape (s.data.toList.length - p) (s.data.toList.getD p 0).toNat (s.data.toList.getD (p + 1) 0).toNat (s.data.toList.getD (p + 2) 0).toNat (s.data.toList.getD (p + 3) 0).toNat with ⟨c, e⟩ | ⟨c1, c2, c3, cv, e⟩ | ⟨c1, c2, c3, c4, cv, cs, e⟩ | ⟨c1, c2, c3, c4, c5, cv, cw, e⟩ | e
  all_goals rw [e] at h2
  all_goals dsimp only at h2
  · omega
  · obtain rfl : j = 1 := by omega
    omega
  · rcases (show j = 1 ∨ j = 2 by omega) with rfl | rfl <;> omega
  · rcases (show j = 1 ∨ j = 2 ∨ j = 3 by omega) with rfl | rfl | rfl <;> omega
  · omega
theorem nl_big (s : ByteArray) (n : Nat) (h : 128 ≤ bt s n) : nlAt s n = 0 := by
  unfold nlAt
  by_cases h0 : s.size ≤ n
  · rw [if_pos h0]
  · rw [if_neg h0, if_neg (by omega), if_neg (by omega)]
theorem cut_rune (s : ByteArray) (f b p : Nat) (h : p < s.size) (h0 : nlAt s p = 0) (hf : s.size ≤ p + f) : cut s f b p = cut s (f - (Utf8.decode s p).2) b (p + (Utf8.decode s p).2) := by
  refine cut_skip s b _ f p (width_fits s p h) (fun j hj => ?_) hf
  rcases Nat.eq_zero_or_pos j with rfl | hp
  · exact h0
  · exact nl_big _ _ (rune_inner s p j hp hj)
theorem cut_length (s : ByteArray) : ∀ (f b i : Nat), 0 < (cut s f b i).length := by
  intro f
  induction f with
  | zero => intro b i; simp [cut]
  | succ f ih =>
    intro b i
    rw [cut]
    split
    · split
      · exact ih _ _
      · simp
    · simp

theorem cut_le (s : ByteArray) : ∀ (f b i : Nat), i ≤ s.size → (cut s f b i).length ≤ s.size - i + 1 := by
  intro f
  induction f with
  | zero => intro b i _; simp [cut]
  | succ f ih =>
    intro b i hi
    rw [cut]
    split
    · split
      · have := ih b (i + 1) (by omega)
        omega
      · have h := nlAt_fits s i hi
        have := ih (i + nlAt s i) (i + nlAt s i) h
        rw [List.length_cons]
        omega
    · simp
theorem linesL_le (s : ByteArray) : (linesL s).length ≤ s.size + 1 := by
  have := cut_le s s.size 0 0 (Nat.zero_le _)
  unfold linesL
  omega

end Go.Proofs.Ythjckmoobbpidaa.Plc
