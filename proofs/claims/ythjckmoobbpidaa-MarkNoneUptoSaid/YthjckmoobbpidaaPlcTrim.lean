/-
  The contracts of place.Trim, of the document's own Trim and Lines, and of Same at one list twice; and that the sample which every statement of this layer asks first ('awake') is answered true. Condition: lengths that an int holds; at most 2^40 bytes where lines are made.
-/
import Derived.Test.YthjckmoobbpidaaPlcLine
import Derived.Test.YthjckmoobbpidaaShf
import Derived.Lib.SlTrimSet
import Derived.Deep.Draws
namespace Go.Proofs.Ythjckmoobbpidaa.Plc
open Go.RowKit Gly
set_option linter.unusedSimpArgs false

theorem bytes_ext {a b : ByteArray} (h : a.data.toList = b.data.toList) : a = b := by
  cases a; cases b; simp at h; subst h; rfl

def isBlank (b : Nat) : Prop := b = 32 ∨ (9 ≤ b ∧ b ≤ 13)
instance (b : Nat) : Decidable (isBlank b) := by unfold isBlank; exact inferInstance
/-- Where the blanks at the end of a head begin. -/
def trimEnd (s : ByteArray) : Nat → Nat
  | 0 => 0
  | n + 1 => if isBlank (bt s n) then trimEnd s n else n + 1
theorem trimEnd_le (s : ByteArray) : ∀ n, trimEnd s n ≤ n
  | 0 => Nat.le_refl _
  | n + 1 => by
    have := trimEnd_le s n
    rw [trimEnd]
    split <;> omega
theorem trimEnd_blank (s : ByteArray) : ∀ (n j : Nat), trimEnd s n ≤ j → j < n → isBlank (bt s j)
  | 0, j, _, h => by omega
  | n + 1, j, h1, h2 => by
    rw [trimEnd] at h1
    split at h1
    · by_cases hj : j < n
      · exact trimEnd_blank s n j h1 hj
      · obtain rfl : j = n := by omega
        assumption
    · omega
theorem trimEnd_last (s : ByteArray) : ∀ (n : Nat), 0 < trimEnd s n → ¬ isBlank (bt s (trimEnd s n - 1))
  | 0, h => by simp [trimEnd] at h
  | n + 1, h => by
    rw [trimEnd] at h ⊢
    split
    · rename_i hb
      rw [if_pos hb] at h
      exact trimEnd_last s n h
    · assumption
theorem blank_in (b : UInt8) : ([9, 10, 11, 12, 13, 32] : List UInt8).contains b = decide (isBlank b.toNat) := by
  have : ∀ k : Fin 256, ([9, 10, 11, 12, 13, 32] : List UInt8).contains (UInt8.ofNat k.val) = decide (isBlank (UInt8.ofNat k.val).toNat) := by decide +kernel
  have h := this ⟨b.toNat, b.toNat_lt⟩
  simpa using h
/-- Trim's answer. -/
def trimS (s : ByteArray) : ByteArray := s.extract 0 (trimEnd s s.size)
theorem trimS_data (s : ByteArray) : (⟨(Lib.trimRightS s.data.toList [9, 10, 11, 12, 13, 32]).toArray⟩ : ByteArray) = trimS s := by
  apply bytes_ext
  have hle := trimEnd_le s s.size
  have get : ∀ (j : Nat) b, s.data.toList[j]? = some b → j < s.size ∧ bt s j = b.toNat := by
    intro j b hb
    have hj : j < s.data.toList.length := by
      rcases Nat.lt_or_ge j s.data.toList.length with h | h
      · exact h
      · rw [List.getElem?_eq_none h] at hb; cases hb
    refine ⟨by rw [Lib.size_eq]; exact hj, ?_⟩
    rw [bt_getD, List.getD_eq_getElem?_getD, hb]
    rfl
  rw [Lib.trimRightS_take s.data.toList _ (trimEnd s s.size) (by rw [← Lib.size_eq]; exact hle)
    (fun j b h1 hb => by
      obtain ⟨h2, h3⟩ := get j b hb
      rw [blank_in, ← h3]
      exact decide_eq_true (trimEnd_blank s s.size j h1 h2))
    (fun b h0 hb => by
      obtain ⟨h2, h3⟩ := get _ b hb
      rw [blank_in, ← h3]
      exact decide_eq_false (trimEnd_last s s.size h0))]
  unfold trimS
  rw [Lib.extract_data, List.drop_zero, Nat.sub_zero]
theorem trimS_size (s : ByteArray) : (trimS s).size ≤ s.size := by
  unfold trimS
  rw [Lib.size_eq, Lib.extract_data, List.length_take, List.length_drop, ← Lib.size_eq]
  omega

set_option maxHeartbeats 2000000 in
theorem refLines_any (s : ByteArray) (hs : s.size ≤ 1099511627776) (w : World) :
    Calls Try.prog 25 #[.string s] w fun e w' => ∃ v, e = .returned v ∧ Texts w' w.heap.size v (linesL s) ∧ Below w.heap.size w w' := by
  obtain ⟨i0, hi, hz0, hz1, hz2⟩ := info_parts infoStr
  go_enter Try.func25, Try.ntmps25
  go_wp2
  go_loopw [3, 4, 5] (fun lv bv iv wr => ∃ (p f b : Nat) (L : List ByteArray), bv = .int .i64 (b : Int) ∧ iv = .int .i64 (p : Int) ∧ Texts wr w.heap.size lv L ∧ Below w.heap.size w wr ∧ L.length ≤ b ∧ b ≤ p ∧ p ≤ s.size ∧
      L ++ cut s f b p = linesL s ∧ s.size ≤ p + f) (fun _ _ i _ => s.size - (intOf i).toNat)
  case atStart => exact ⟨0, s.size, 0, [], rfl, rfl, World.ownsRow_nil _ _ _ _, Below.refl _ _, by simp, by omega, by omega, rfl, by omega⟩
  case round =>
    obtain ⟨p, f, b, L, rfl, rfl, hown, hbw, hL, hb, hp0, hq, hf⟩ := hrel
    have HQ := Lib.hid hq
    have HOWN := Lib.hid hown
    have HBW := Lib.hid hbw
    clear hq hown hbw
    by_cases hp : p < s.size
    · have b0 : (b : Int) ≤ (p : Int) := by omega
      by_cases n0 : nlAt s p = 0
      · have E := end_is s p 0 (by omega) hp0 n0
        have N0 := Lib.hid n0
        clear n0
        go_wp2_with (first | (go_at_call 27; refine (E.out _).mono ?_; rintro e w2 ⟨rfl, rfl⟩))
        go_roundw
        case rel => exact ⟨p + 1, f - 1, b, L, rfl, by go_num, HOWN.out, HBW.out, hL, by omega, by omega, by rw [← cut_one s f b p hp N0.out hf]; exact HQ.out, by omega⟩
        case measure => simp [intOf]; omega
      · have hk := nlAt_fits s p hp0
        obtain ⟨k, hk1, hk2⟩ : ∃ k, nlAt s p = k ∧ 1 ≤ k := ⟨_, rfl, by omega⟩
        have E := end_is s p k (by omega) hp0 hk1
        rw [hk1] at hk
        have hk3 : k ≤ 2 := by rw [← hk1]; exact nlAt_le s p
        have NK := Lib.hid hk1
        have N0 := Lib.hid n0
        have kb : (((k : Nat) : Int) == 0) = false := by rw [beq_eq_false_iff_ne]; omega
        clear hk1 n0
        go_wp2_with (first | (go_at_call 27; refine (E.out _).mono ?_; rintro e w2 ⟨rfl, rfl⟩) | (at_builtin; refine wpList_append_own _ rfl _ _ 30 rfl w.heap.size 9 i0 (.string ⟨#[]⟩) 1 16 Try.underlying30 hi hz0 hz1 hz2 rfl (by decide) _ _ _ rfl (HOWN.out.alloc _) ⟨wr.heap.size, 0, none⟩ 1 1 [.string (s.extract b p)] rfl rfl ?c1 ?c2 ?c3 ?c4 ?c5 ?_))
        case c1 =>
          intro j u hj
          match j, hj with
          | 0, hj => simp at hj; subst hj; simp [Addr.add]
        case c2 => intro u hu; simp at hu; subst hu; rfl
        case c3 => unfold maxLen; omega
        case c4 => omega
        case c5 => have := HBW.out.size; simp; omega
        intro v' w3 hown' hgrow _
        have R := after_push HOWN.out HBW.out HBW.out.size hown' hgrow
        have R2 := Lib.hid R
        clear R hown' hgrow
        go_wp2_with fail
        go_roundw
        case rel =>
          have hc := cut_at s f b p hp N0.out hf
          rw [NK.out] at hc
          refine ⟨p + k, f - 1, p + k, L ++ [s.extract b p], by go_num, by go_num, R2.out.1, R2.out.2, by simp; omega, by omega, by omega, ?_, by omega⟩
          rw [List.append_assoc, List.singleton_append, ← hc]
          exact HQ.out
        case measure => simp [intOf]; omega
    · have b0 : (b : Int) ≤ (s.size : Int) := by omega
      have Q : Hid (L ++ [s.extract b s.size] = linesL s) := by
        have := HQ.out
        rw [cut_end _ _ _ _ hp] at this
        exact this
      go_wp2_with (first | (at_builtin; refine wpList_append_own _ rfl _ _ 30 rfl w.heap.size 9 i0 (.string ⟨#[]⟩) 1 16 Try.underlying30 hi hz0 hz1 hz2 rfl (by decide) _ _ _ rfl (HOWN.out.alloc _) ⟨wr.heap.size, 0, none⟩ 1 1 [.string (s.extract b s.size)] rfl rfl ?d1 ?d2 ?d3 ?d4 ?d5 ?_))
      case d1 =>
        intro j u hj
        match j, hj with
        | 0, hj => simp at hj; subst hj; simp [Addr.add]
      case d2 => intro u hu; simp at hu; subst hu; rfl
      case d3 => unfold maxLen; omega
      case d4 => omega
      case d5 => have := HBW.out.size; simp; omega
      intro v' w3 hown' hgrow _
      have R := after_push HOWN.out HBW.out HBW.out.size hown' hgrow
      have R2 := Lib.hid R
      clear R hown' hgrow
      go_wp2_with fail
      go_ret
      refine ⟨v', rfl, ?_, R2.out.2⟩
      rw [← Q.out]
      exact R2.out.1

end Go.Proofs.Ythjckmoobbpidaa.Plc
