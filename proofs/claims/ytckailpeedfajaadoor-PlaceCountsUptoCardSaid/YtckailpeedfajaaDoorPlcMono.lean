/-
  Plain facts: places rise along a string; the line in which a string ends is how many lines it has, and its column is the one behind its last line. No program is run here.
-/
import Derived.Test.YtckailpeedfajaaDoorPlcCut
namespace Go.Proofs.YtckailpeedfajaaDoor.Plc
open Go.Lib Gly

/-- A later line, or no lesser column of the same one. -/
def le2 (x y : Int × Int) : Prop := x.1 < y.1 ∨ (x.1 = y.1 ∧ x.2 ≤ y.2)
theorem le2.refl (x : Int × Int) : le2 x x := Or.inr ⟨rfl, Int.le_refl _⟩
theorem le2.trans {x y z : Int × Int} (h : le2 x y) (k : le2 y z) : le2 x z := by
  unfold le2 at *
  omega
theorem adv_le2 (s : ByteArray) (n : Nat) (st : Int × Int) : le2 st (adv s n st) := by
  unfold adv le2 tabI
  repeat' split
  all_goals (try dsimp only)
  all_goals omega
theorem scan_ge (s : ByteArray) (b : Nat) : ∀ (f p : Nat) (st : Int × Int), le2 st (scan s b f p st) := by
  intro f
  induction f with
  | zero => intro p st; exact le2.refl _
  | succ f ih =>
    intro p st
    rw [scan]
    split
    · exact (adv_le2 s p st).trans (ih _ _)
    · exact le2.refl _
theorem scan_mono (s : ByteArray) (a b : Nat) (hab : a ≤ b) : ∀ (f p : Nat) (st : Int × Int), le2 (scan s a f p st) (scan s b f p st) := by
  intro f
  induction f with
  | zero => intro p st; exact le2.refl _
  | succ f ih =>
    intro p st
    by_cases h : p < s.size ∧ p + (Utf8.decode s p).2 ≤ a
    · rw [scan, if_pos h, scan, if_pos ⟨h.1, by omega⟩]
      exact ih _ _
    · rw [scan, if_neg h]
      exact scan_ge s b (f + 1) p st

theorem nlAt_tail_at (s : ByteArray) (n k : Nat) : nlAt (s.extract n s.size) k = nlAt s (n + k) := by
  unfold nlAt
  rw [size_tail, bt_tail s n k, bt_tail s n (k + 1)]
  by_cases h0 : s.size ≤ n + k
  · rw [if_pos (by omega), if_pos h0]
  · rw [if_neg (by omega), if_neg h0]
    by_cases h1 : n + k + 1 < s.size
    · have e2 : (k + 1 < s.size - n ∧ bt s (n + (k + 1)) = 10) ↔ (n + k + 1 < s.size ∧ bt s (n + k + 1) = 10) := ⟨fun q => ⟨h1, q.2⟩, fun q => ⟨by omega, q.2⟩⟩
      simp only [e2]
    · have e2 : (k + 1 < s.size - n ∧ bt s (n + (k + 1)) = 10) ↔ (n + k + 1 < s.size ∧ bt s (n + k + 1) = 10) := ⟨fun q => absurd q.1 (by omega), fun q => absurd q.1 h1⟩
      simp only [e2]
theorem adv_tail (s : ByteArray) (n k : Nat) (st : Int × Int) : adv (s.extract n s.size) k st = adv s (n + k) st := by
  unfold adv
  rw [nlAt_tail_at, bt_tail]
/-- What is left of a string is gone through as it is in the string. -/
theorem scan_tail (s : ByteArray) (b : Nat) (hb : b ≤ s.size) : ∀ (f k : Nat) (st : Int × Int), scan (s.extract b s.size) (s.extract b s.size).size f k st = scan s s.size f (b + k) st := by
  intro f
  induction f with
  | zero => intro k st; rfl
  | succ f ih =>
    intro k st
    rw [scan, scan, decode_tail_at, adv_tail, size_tail]
    by_cases h : b + k < s.size ∧ b + k + (Utf8.decode s (b + k)).2 ≤ s.size
    · rw [if_pos h, if_pos ⟨by omega, by omega⟩]
      have := ih (k + (Utf8.decode s (b + k)).2) (adv s (b + k) st)
      rw [size_tail] at this
      rw [this, Nat.add_assoc]
    · rw [if_neg h, if_neg (by omega)]
theorem adv_line (s : ByteArray) (n : Nat) (l l' c : Int) : (adv s n (l, c)).1 - l = (adv s n (l', c)).1 - l' ∧ (adv s n (l, c)).2 = (adv s n (l', c)).2 := by
  unfold adv
  repeat' split
  all_goals (try dsimp only)
  all_goals exact ⟨by omega, rfl⟩
/-- The column does not hang on the line's number. -/
theorem scan_line (s : ByteArray) (a : Nat) : ∀ (f p : Nat) (l l' c : Int), (scan s a f p (l, c)).2 = (scan s a f p (l', c)).2 := by
  intro f
  induction f with
  | zero => intro p l l' c; rfl
  | succ f ih =>
    intro p l l' c
    rw [scan, scan]
    split
    · have h := (adv_line s p l l' c).2
      have h1 : adv s p (l, c) = ((adv s p (l, c)).1, (adv s p (l, c)).2) := rfl
      have h2 : adv s p (l', c) = ((adv s p (l', c)).1, (adv s p (l', c)).2) := rfl
      rw [h1, h2, h]
      exact ih _ _ _ _
    · rfl

theorem cut_scan (s : ByteArray) : ∀ (m i : Nat), s.size - i ≤ m → i ≤ s.size → ∀ (b : Nat) (l c : Int), b ≤ i → scan s s.size s.size b (l, 1) = scan s s.size s.size i (l, c) →
    (((cut s s.size b i).length : Nat) : Int) = (scan s s.size s.size i (l, c)).1 - l + 1 ∧ ∃ b', b' ≤ s.size ∧ (cut s s.size b i).getLast? = some (s.extract b' s.size) ∧ (scan s s.size s.size b' (1, 1)).2 = (scan s s.size s.size i (l, c)).2 := by
  intro m
  induction m with
  | zero =>
    intro i hm hi b l c hb h
    rw [cut_end _ _ _ _ (by omega), scan_stop _ _ _ _ _ (by omega)]
    refine ⟨by simp, b, by omega, rfl, ?_⟩
    rw [scan_line s s.size s.size b 1 l 1, h, scan_stop _ _ _ _ _ (by omega)]
  | succ m ih =>
    intro i hm hi b l c hb h
    by_cases hp : i < s.size
    · have hw := width_ge s i
      have hx := width_fits s i hp
      by_cases h0 : nlAt s i = 0
      · have e1 := cut_rune s s.size b i hp h0 (by omega)
        have e2 := scan_char s s.size s.size i (l, c) h0 hp hx (by omega)
        rw [cut_fuel s (s.size - (Utf8.decode s i).2) s.size b (i + (Utf8.decode s i).2) (by omega) (by omega)] at e1
        rw [scan_fuel s s.size (s.size - 1) s.size (i + (Utf8.decode s i).2) _ (by omega) (by omega)] at e2
        rw [e1, e2]
        exact ih _ (by omega) hx b l _ (by omega) (by rw [h, e2])
      · have hk := nlAt_fits s i hi
        have hle := nlAt_le s i
        have e1 := cut_at s s.size b i hp h0 (by omega)
        have e2 : scan s s.size s.size i (l, c) = scan s s.size s.size (i + nlAt s i) (l + 1, 1) := by
          rcases (show nlAt s i = 1 ∨ nlAt s i = 2 by omega) with e | e
          · rw [scan_one s s.size s.size i _ e (by omega) (by omega), e]
            exact scan_fuel _ _ _ _ _ _ (by omega) (by omega)
          · rw [scan_two s s.size s.size i _ e (by omega) (by omega), e]
            exact scan_fuel _ _ _ _ _ _ (by omega) (by omega)
        rw [cut_fuel s (s.size - 1) s.size (i + nlAt s i) (i + nlAt s i) (by omega) (by omega)] at e1
        obtain ⟨k1, b', k2, k3, k4⟩ := ih (i + nlAt s i) (by omega) hk (i + nlAt s i) (l + 1) 1 (Nat.le_refl _) rfl
        rw [e1, e2]
        refine ⟨by rw [List.length_cons]; omega, b', k2, ?_, k4⟩
        rw [List.getLast?_cons, k3]
        rfl
    · rw [cut_end _ _ _ _ hp, scan_stop _ _ _ _ _ (by omega)]
      refine ⟨by simp, b, by omega, rfl, ?_⟩
      rw [scan_line s s.size s.size b 1 l 1, h, scan_stop _ _ _ _ _ (by omega)]
/-- The line in which a string ends is how many lines it has; its column is the one behind its last line. -/
theorem lines_end (s : ByteArray) : (((linesL s).length : Nat) : Int) = (spot s 1 s.size).1 ∧ ∃ x, (linesL s).getLast? = some x ∧ x.size ≤ s.size ∧ (spot x 1 x.size).2 = (spot s 1 s.size).2 := by
  obtain ⟨h1, b, h2, h3, h4⟩ := cut_scan s s.size 0 (by omega) (by omega) 0 1 1 (Nat.le_refl _) rfl
  refine ⟨by unfold linesL spot; omega, _, h3, by rw [size_tail]; omega, ?_⟩
  unfold spot
  rw [scan_tail s b h2, Nat.add_zero, ← h4]
  rw [scan_fuel s s.size _ s.size b (1, 1) (by rw [size_tail]; omega) (by omega)]

end Go.Proofs.YtckailpeedfajaaDoor.Plc
