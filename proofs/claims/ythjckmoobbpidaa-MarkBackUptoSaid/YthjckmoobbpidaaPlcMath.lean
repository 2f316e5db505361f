/-
  Plain facts about newlines, lines and columns in a string of bytes. No program is run here.
-/
import Derived.Test.YthjckmoobbpidaaGlyMath
import Derived.Laws.RangeAny
namespace Go.Proofs.Ythjckmoobbpidaa.Plc
open Go.Lib Gly

/-- The byte at a place. -/
def bt (s : ByteArray) (n : Nat) : Nat := (s.get! n).toNat
theorem bt_lt (s : ByteArray) (n : Nat) : bt s n < 256 := (s.get! n).toNat_lt
theorem bt_in (s : ByteArray) (n : Nat) (h : n < s.size) : bt s n = s[n].toNat := by
  unfold bt
  have := get_at s n h
  rw [Nat.add_zero] at this
  rw [this]
theorem bt_getD (s : ByteArray) (n : Nat) : bt s n = (s.data.toList.getD n 0).toNat := by
  unfold bt
  rw [getD_get!']
theorem bt_tail (s : ByteArray) (n k : Nat) : bt (s.extract n s.size) k = bt s (n + k) := by
  rw [bt_getD, bt_getD, extract_to_end, Lib.getD_dropU]

/-- How many bytes the newline has that stands at a byte; 0: there is none. -/
def nlAt (s : ByteArray) (n : Nat) : Nat :=
  if s.size ≤ n then 0
  else if bt s n = 10 ∨ bt s n = 12 then 1
  else if bt s n = 13 then (if n + 1 < s.size ∧ bt s (n + 1) = 10 then 2 else 1)
  else 0
theorem nlAt_le (s : ByteArray) (n : Nat) : nlAt s n ≤ 2 := by
  unfold nlAt
  repeat' split
  all_goals omega
theorem nlAt_fits (s : ByteArray) (n : Nat) (h : n ≤ s.size) : n + nlAt s n ≤ s.size := by
  unfold nlAt
  repeat' split
  all_goals omega
theorem nlAt_tail (s : ByteArray) (n : Nat) : nlAt (s.extract n s.size) 0 = nlAt s n := by
  unfold nlAt
  rw [size_tail, bt_tail s n 0, Nat.add_zero, Nat.zero_add, bt_tail s n 1]
  by_cases h0 : s.size ≤ n
  · rw [if_pos (by omega), if_pos h0]
  · rw [if_neg (by omega), if_neg h0]
    by_cases h1 : n + 1 < s.size
    · have e2 : (1 < s.size - n ∧ bt s (n + 1) = 10) ↔ (n + 1 < s.size ∧ bt s (n + 1) = 10) := ⟨fun q => ⟨h1, q.2⟩, fun q => ⟨by omega, q.2⟩⟩
      simp only [e2]
    · have e2 : (1 < s.size - n ∧ bt s (n + 1) = 10) ↔ (n + 1 < s.size ∧ bt s (n + 1) = 10) := ⟨fun q => absurd q.1 (by omega), fun q => absurd q.1 h1⟩
      simp only [e2]

/-- An ASCII byte is a rune of one byte. -/
theorem width_ascii (s : ByteArray) (n : Nat) (h : bt s n < 128) : (Utf8.decode s n).2 = 1 := by
  rw [decode_N]
  rw [bt_getD s n] at h
  rw [decodeN_ascii _ _ _ _ _ h]
theorem rune_ascii (s : ByteArray) (n : Nat) (h : bt s n < 128) : (Utf8.decode s n).1 = bt s n := by
  rw [decode_N]
  rw [bt_getD s n] at h ⊢
  rw [decodeN_ascii _ _ _ _ _ h]

/-- The column behind a tab. -/
def tabI (c : Int) : Int := (c - 1) / 8 * 8 + 9
/-- The place behind what stands at a byte: of a newline of two bytes nothing is over before its second byte. -/
def adv (s : ByteArray) (n : Nat) (st : Int × Int) : Int × Int :=
  if nlAt s n = 2 then st
  else if nlAt s n = 1 then (st.1 + 1, 1)
  else if bt s n = 9 then (st.1, tabI st.2)
  else (st.1, st.2 + 1)
/-- The place at a byte: go on over what ends at or before it. -/
def scan (s : ByteArray) (at_ : Nat) : Nat → Nat → Int × Int → Int × Int
  | 0, _, st => st
  | f + 1, p, st => if p < s.size ∧ p + (Utf8.decode s p).2 ≤ at_ then scan s at_ f (p + (Utf8.decode s p).2) (adv s p st) else st
theorem scan_stop (s : ByteArray) (at_ f p : Nat) (st : Int × Int) (h : ¬ (p < s.size ∧ p + (Utf8.decode s p).2 ≤ at_)) : scan s at_ f p st = st := by
  cases f with
  | zero => rfl
  | succ f => rw [scan, if_neg h]
theorem scan_go (s : ByteArray) (at_ f p : Nat) (st : Int × Int) (h : p < s.size ∧ p + (Utf8.decode s p).2 ≤ at_) (hf : s.size ≤ p + f) :
    scan s at_ f p st = scan s at_ (f - 1) (p + (Utf8.decode s p).2) (adv s p st) := by
  cases f with
  | zero => omega
  | succ f => rw [scan, if_pos h]; rfl
/-- A fuel that is enough is enough. -/
theorem scan_fuel (s : ByteArray) (at_ : Nat) : ∀ (f g p : Nat) (st : Int × Int), s.size ≤ p + f → s.size ≤ p + g → scan s at_ f p st = scan s at_ g p st := by
  intro f
  induction f with
  | zero =>
    intro g p st hf hg
    rw [scan_stop _ _ _ _ _ (by omega), scan_stop _ _ _ _ _ (by omega)]
  | succ f ih =>
    intro g p st hf hg
    by_cases h : p < s.size ∧ p + (Utf8.decode s p).2 ≤ at_
    · have hw := width_ge s p
      cases g with
      | zero => omega
      | succ g =>
        rw [scan, if_pos h, scan, if_pos h]
        exact ih g _ _ (by omega) (by omega)
    · rw [scan_stop _ _ _ _ _ h, scan_stop _ _ _ _ _ h]
/-- The place at a byte, from a column of the first line on. -/
def spot (s : ByteArray) (col : Int) (at_ : Nat) : Int × Int := scan s at_ s.size 0 (1, col)

theorem nl_two (s : ByteArray) (n : Nat) (h : nlAt s n = 2) : n + 1 < s.size ∧ bt s n = 13 ∧ bt s (n + 1) = 10 ∧ nlAt s (n + 1) = 1 := by
  have hh := h
  unfold nlAt at h
  (repeat' split at h) <;> try omega
  rename_i h1 h2 h3 h4
  refine ⟨h4.1, h3, h4.2, ?_⟩
  unfold nlAt
  rw [if_neg (by omega), if_pos (Or.inl h4.2)]
theorem nl_one (s : ByteArray) (n : Nat) (h : nlAt s n = 1) : n < s.size ∧ (bt s n = 10 ∨ bt s n = 12 ∨ bt s n = 13) := by
  unfold nlAt at h
  (repeat' split at h) <;> try omega
theorem nl_none (s : ByteArray) (n : Nat) (h : nlAt s n = 0) (hn : n < s.size) : bt s n ≠ 10 ∧ bt s n ≠ 12 ∧ bt s n ≠ 13 := by
  unfold nlAt at h
  (repeat' split at h) <;> try omega
  all_goals (split at h <;> omega)

/-- Over a newline of two bytes at once. -/
theorem scan_two (s : ByteArray) (at_ f p : Nat) (st : Int × Int) (h : nlAt s p = 2) (ha : p + 2 ≤ at_) (hf : s.size ≤ p + f) :
    scan s at_ f p st = scan s at_ (f - 2) (p + 2) (st.1 + 1, 1) := by
  obtain ⟨h1, h2, h3, h4⟩ := nl_two s p h
  have w1 := width_ascii s p (by omega)
  have w2 := width_ascii s (p + 1) (by omega)
  cases f with
  | zero => omega
  | succ f =>
    cases f with
    | zero => omega
    | succ f =>
      rw [scan, if_pos ⟨by omega, by omega⟩, w1, scan, if_pos ⟨by omega, by omega⟩, w2]
      have e1 : adv s p st = st := by unfold adv; rw [if_pos h]
      have e2 : adv s (p + 1) st = (st.1 + 1, 1) := by unfold adv; rw [if_neg (by omega), if_pos h4]
      rw [e1, e2]
      rfl
/-- Within a newline of two bytes: its beginning's place. -/
theorem scan_mid (s : ByteArray) (at_ f p : Nat) (st : Int × Int) (h : nlAt s p = 2) (ha : at_ < p + 2) (hf : s.size ≤ p + f) : scan s at_ f p st = st := by
  obtain ⟨h1, h2, h3, h4⟩ := nl_two s p h
  have w1 := width_ascii s p (by omega)
  have w2 := width_ascii s (p + 1) (by omega)
  by_cases hh : p + 1 ≤ at_
  · cases f with
    | zero => omega
    | succ f =>
      rw [scan, if_pos ⟨by omega, by omega⟩, w1]
      have e1 : adv s p st = st := by unfold adv; rw [if_pos h]
      rw [e1]
      exact scan_stop _ _ _ _ _ (by omega)
  · exact scan_stop _ _ _ _ _ (by omega)
theorem scan_one (s : ByteArray) (at_ f p : Nat) (st : Int × Int) (h : nlAt s p = 1) (ha : p + 1 ≤ at_) (hf : s.size ≤ p + f) :
    scan s at_ f p st = scan s at_ (f - 1) (p + 1) (st.1 + 1, 1) := by
  obtain ⟨h1, h2⟩ := nl_one s p h
  have w1 := width_ascii s p (by omega)
  cases f with
  | zero => omega
  | succ f =>
    rw [scan, if_pos ⟨by omega, by omega⟩, w1]
    have e1 : adv s p st = (st.1 + 1, 1) := by unfold adv; rw [if_neg (by omega), if_pos h]
    rw [e1]
    rfl
theorem scan_char (s : ByteArray) (at_ f p : Nat) (st : Int × Int) (h : nlAt s p = 0) (hp : p < s.size) (ha : p + (Utf8.decode s p).2 ≤ at_) (hf : s.size ≤ p + f) :
    scan s at_ f p st = scan s at_ (f - 1) (p + (Utf8.decode s p).2) (st.1, if bt s p = 9 then tabI st.2 else st.2 + 1) := by
  cases f with
  | zero => omega
  | succ f =>
    rw [scan, if_pos ⟨by omega, by omega⟩]
    have e1 : adv s p st = (st.1, if bt s p = 9 then tabI st.2 else st.2 + 1) := by
      unfold adv
      rw [if_neg (by omega), if_neg (by omega)]
      split <;> rfl
    rw [e1]
    rfl

theorem adv_bd (s : ByteArray) (n : Nat) (st : Int × Int) (a b : Int) (h1 : 1 ≤ st.1 ∧ st.1 ≤ a) (h2 : 1 ≤ st.2 ∧ st.2 ≤ b) : (1 ≤ (adv s n st).1 ∧ (adv s n st).1 ≤ a + 1) ∧ (1 ≤ (adv s n st).2 ∧ (adv s n st).2 ≤ b + 8) := by
  unfold adv tabI
  repeat' split
  all_goals (try dsimp only)
  all_goals omega

end Go.Proofs.Ythjckmoobbpidaa.Plc
