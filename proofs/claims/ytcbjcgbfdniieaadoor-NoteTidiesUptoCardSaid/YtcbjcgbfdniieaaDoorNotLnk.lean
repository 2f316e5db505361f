/-
  Mathematics: the lines that place cuts are those of the comments' mathematics; Trim's answer likewise; a newline at a byte. No condition.
-/
import Derived.Test.YtcbjcgbfdniieaaDoorNotBase
import Derived.Test.YtcbjcgbfdniieaaDoorPlcTrim
namespace Go.Proofs.YtcbjcgbfdniieaaDoor.Not
open Go.RowKit Gly
open Plc (bt nlAt cut linesL trimS trimEnd bt_in)
set_option linter.unusedSimpArgs false
set_option linter.unusedVariables false

theorem bt_rest (s : ByteArray) (p : Nat) (h : p < s.size) : bt s p = s[p].toNat := bt_in s p h
theorem u8_eq (b : UInt8) (k : Nat) (hk : k < 256) : b.toNat = k ↔ b = UInt8.ofNat k := by
  constructor
  · intro h
    rw [← h]
    simp
  · rintro rfl
    rw [UInt8.toNat_ofNat']
    omega
theorem nl_iff (b : UInt8) : nl b = true ↔ (b.toNat = 10 ∨ b.toNat = 12 ∨ b.toNat = 13) := by
  have h := byte_all (fun b => nl b == (decide (b.toNat = 10) || (decide (b.toNat = 12) || decide (b.toNat = 13)))) (by decide +kernel) b
  rw [beq_iff_eq.1 h]
  simp
theorem nlAt_nl (s : ByteArray) (p : Nat) (h : p < s.size) : nl s[p] = true ↔ nlAt s p ≠ 0 := by
  rw [nl_iff, ← bt_rest s p h]
  unfold Plc.nlAt
  (repeat' split) <;> omega
theorem nlEnd_hit (s : ByteArray) (p : Nat) (h : p < s.size) (hn : nlAt s p ≠ 0) : nlEnd (rest s p) = 0 := by
  rw [rest_cons s p h, nlEnd, if_pos ((nlAt_nl s p h).2 hn)]
theorem nlEnd_miss (s : ByteArray) (p : Nat) (h : p < s.size) (hn : nlAt s p = 0) : nlEnd (rest s p) = nlEnd (rest s (p + 1)) + 1 := by
  rw [rest_cons s p h, nlEnd, if_neg]
  intro e
  exact (nlAt_nl s p h).1 e hn

/-- Bytes put ahead of the first line. -/
def consAll (x : List UInt8) : List (List UInt8) → List (List UInt8)
  | [] => []
  | l :: ls => (x ++ l) :: ls
theorem consAll_nil (L : List (List UInt8)) : consAll [] L = L := by cases L <;> rfl
theorem consAll_one (x : List UInt8) (b : UInt8) (L : List (List UInt8)) (h : L ≠ []) : consAll (x ++ [b]) L = consAll x (consH b L) := by
  cases L with
  | nil => exact absurd rfl h
  | cons l ls =>
    unfold consH consAll
    simp
theorem lines_at (s : ByteArray) (p : Nat) (h : p < s.size) (hn : nlAt s p ≠ 0) : linesB (rest s p) = [] :: linesB (rest s (p + nlAt s p)) := by
  have hle := Plc.nlAt_le s p
  rcases (show nlAt s p = 1 ∨ nlAt s p = 2 by omega) with e | e
  · rw [e, rest_cons s p h]
    refine linesB_one _ _ ((nlAt_nl s p h).2 hn) ?_
    rintro ⟨h1, h2⟩
    have hp : p + 1 < s.size := by
      rcases Nat.lt_or_ge (p + 1) s.size with hh | hh
      · exact hh
      · rw [rest_nil s _ hh] at h2
        exact absurd h2 (by simp)
    rw [rest_cons s _ hp] at h2
    have h2 : s[p + 1] = 10 := by simpa using h2
    have b1 := bt_rest s p h
    have b2 := bt_rest s (p + 1) hp
    rw [h1] at b1
    rw [h2] at b2
    have b1 : bt s p = 13 := b1
    have b2 : bt s (p + 1) = 10 := b2
    unfold Plc.nlAt at e
    rw [if_neg (by omega), if_neg (by omega), if_pos b1, if_pos ⟨hp, b2⟩] at e
    omega
  · obtain ⟨hp, b1, b2, -⟩ := Plc.nl_two s p e
    rw [bt_rest s p h] at b1
    rw [bt_rest s (p + 1) hp] at b2
    rw [e, rest_cons s p h, rest_cons s (p + 1) hp, (u8_eq _ 13 (by decide)).1 b1, (u8_eq _ 10 (by decide)).1 b2]
    exact linesB_two _
theorem piece_step (s : ByteArray) (b p : Nat) (hb : b ≤ p) (hp : p < s.size) : (s.extract b (p + 1)).data.toList = (s.extract b p).data.toList ++ [s[p]] := by
  rw [Lib.extract_data, Lib.extract_data]
  have hl := Lib.size_eq s
  rw [show p + 1 - b = (p - b) + 1 by omega, List.take_add_one]
  congr 1
  rw [List.getElem?_drop, show b + (p - b) = p by omega, List.getElem?_eq_getElem (by omega)]
  rfl
theorem piece_nil (s : ByteArray) (b : Nat) : (s.extract b b).data.toList = [] := by
  rw [Lib.extract_data, Nat.sub_self]
  rfl
theorem cut_lines (s : ByteArray) : ∀ (k f b p : Nat), s.size - p ≤ k → b ≤ p → p ≤ s.size → s.size ≤ p + f → (cut s f b p).map (·.data.toList) = consAll (s.extract b p).data.toList (linesB (rest s p)) := by
  have stop : ∀ (f b p : Nat), p = s.size → (cut s f b p).map (·.data.toList) = consAll (s.extract b p).data.toList (linesB (rest s p)) := by
    rintro f b p rfl
    rw [Plc.cut_end s f b _ (by omega), rest_nil s _ (Nat.le_refl _)]
    show _ = [_ ++ []]
    rw [List.append_nil]
    rfl
  intro k
  induction k with
  | zero => exact fun f b p h0 _ hp _ => stop f b p (by omega)
  | succ k ih =>
    intro f b p h0 hb hp hf
    by_cases h : p < s.size
    · by_cases hn : nlAt s p = 0
      · rw [Plc.cut_one s f b p h hn hf, ih (f - 1) b (p + 1) (by omega) (by omega) (by omega) (by omega), piece_step s b p hb h, consAll_one _ _ _ (linesB_ne _), rest_cons s p h, linesB_plain]
        have := nlAt_nl s p h
        cases hh : nl s[p]
        · rfl
        · exact absurd hn (this.1 hh)
      · have hx := Plc.nlAt_fits s p hp
        rw [Plc.cut_at s f b p h hn hf, List.map_cons, ih (f - 1) _ _ (by omega) (Nat.le_refl _) hx (by omega), piece_nil, consAll_nil, lines_at s p h hn]
        show _ = (_ ++ []) :: _
        rw [List.append_nil]
    · exact stop f b p (by omega)
theorem lines_link (s : ByteArray) : (linesL s).map (·.data.toList) = linesB s.data.toList := by
  unfold Plc.linesL
  rw [cut_lines s s.size s.size 0 0 (by omega) (by omega) (by omega) (by omega), piece_nil, consAll_nil]
  rfl

theorem blank_blk (b : UInt8) : Plc.isBlank b.toNat ↔ blk b = true := by
  unfold Plc.isBlank blk
  rw [decide_eq_true_iff]
theorem trim_link (s : ByteArray) : (trimS s).data.toList = trimR s.data.toList := by
  have hle := Plc.trimEnd_le s s.size
  have hl := Lib.size_eq s
  have hx : (trimS s).data.toList = s.data.toList.take (trimEnd s s.size) := by
    unfold Plc.trimS
    rw [Lib.extract_data, List.drop_zero, Nat.sub_zero]
  rw [hx]
  have hg : ∀ j, (h : j < s.size) → s.data.toList[j]'(by omega) = s[j] := fun _ _ => rfl
  have := trimR_append (s.data.toList.take (trimEnd s s.size)) (s.data.toList.drop (trimEnd s s.size)) ?_ ?_
  · rw [List.take_append_drop] at this
    exact this.symm
  · intro b hb
    obtain ⟨j, hj, rfl⟩ := List.getElem_of_mem hb
    rw [List.length_drop] at hj
    rw [List.getElem_drop, hg _ (by omega), ← blank_blk, ← bt_rest s _ (by omega)]
    exact Plc.trimEnd_blank s s.size _ (by omega) (by omega)
  · intro b hb
    have h0 : 0 < trimEnd s s.size := by
      rcases Nat.eq_zero_or_pos (trimEnd s s.size) with h | h
      · rw [h] at hb
        simp at hb
      · exact h
    rw [List.getLast?_eq_getElem?, List.length_take, Nat.min_eq_left (by omega), List.getElem?_take_of_lt (by omega), List.getElem?_eq_getElem (by omega), hg _ (by omega)] at hb
    obtain rfl := Option.some.inj hb
    cases hh : blk (s[trimEnd s s.size - 1]'(by omega)) with
    | false => rfl
    | true =>
      have := (blank_blk _).2 hh
      rw [← bt_rest s _ (by omega)] at this
      exact absurd this (Plc.trimEnd_last s s.size h0)
/-- A line without its blanks, as a string. -/
def bareS (x : ByteArray) : ByteArray := ⟨(bareB x.data.toList).toArray⟩
theorem bareS_data (x : ByteArray) : (bareS x).data.toList = bareB x.data.toList := rfl
theorem bareS_size (x : ByteArray) : (bareS x).size ≤ x.size := by
  rw [Lib.size_eq, Lib.size_eq, bareS_data]
  exact bareB_le _
/-- The lines of a comment without their blanks. -/
def barS (s : ByteArray) : List ByteArray := (linesL s).map bareS
theorem barS_data (s : ByteArray) : (barS s).map (·.data.toList) = barL s.data.toList := by
  unfold barS barL
  rw [← lines_link, List.map_map, List.map_map]
  rfl
theorem barS_len (s : ByteArray) : (barS s).length ≤ s.size + 1 := by
  unfold barS
  rw [List.length_map]
  exact Plc.linesL_le s
theorem barS_ne (s : ByteArray) : barS s ≠ [] := by
  intro h
  have := barS_data s
  rw [h] at this
  exact barL_ne _ this.symm
theorem line_size (s : ByteArray) (x : ByteArray) (h : x ∈ linesL s) : x.size ≤ s.size := by
  have h1 : x.data.toList ∈ linesB s.data.toList := by
    rw [← lines_link]
    exact List.mem_map_of_mem h
  have h2 := total_mem _ _ h1
  have h3 := (lines_total s.data.toList false).1
  rw [Lib.size_eq, Lib.size_eq]
  exact Nat.le_trans h2 h3
end Go.Proofs.YtcbjcgbfdniieaaDoor.Not
