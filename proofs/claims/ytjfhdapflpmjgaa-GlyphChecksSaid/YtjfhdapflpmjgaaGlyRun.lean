/-
  The contract of glyph.Run, and that the sample which every statement of this layer asks first ('awake') is answered true. Condition: the string is of a length that an int holds.
-/
import Derived.Test.YtjfhdapflpmjgaaGlyNext
import Derived.Test.YtjfhdapflpmjgaaGlyLow
import Derived.Deep.RegionWith
import Derived.Lib.Hide
namespace Go.Proofs.Ytjfhdapflpmjgaa.Gly
open Go.RowKit
set_option linter.unusedSimpArgs false

/-- Where the runes of class k end that stand from byte p on; f: more rounds than there are bytes. -/
def runEnd (s : ByteArray) (k : Int) : Nat → Nat → Nat
  | 0, _ => s.size
  | f + 1, p => if p < s.size then (if classI (((Utf8.decode s p).1 : Nat) : Int) = k then runEnd s k f (p + (Utf8.decode s p).2) else p) else s.size
theorem runEnd_end (s : ByteArray) (k : Int) (f p : Nat) (h : ¬ p < s.size) : runEnd s k f p = s.size := by
  cases f with
  | zero => rfl
  | succ f => simp [runEnd, h]
/-- Run's answer. -/
def runI (s : ByteArray) (i k : Int) : Int := if i < 0 ∨ (s.size : Int) < i then 0 else ((runEnd s k (s.size - i.toNat) i.toNat : Nat) : Int)

theorem run_any (s : ByteArray) (i k : Int) (hs : s.size ≤ maxLen) (w : World) :
    Calls Try.prog 19 #[.string s, .int .i64 i, .int .i64 k] w fun e w' => e = .returned (.int .i64 (runI s i k)) ∧ Below w.heap.size w w' := by
  unfold maxLen at hs
  by_cases h1 : i < 0
  · have hr : Hid (runI s i k = 0) := by unfold Hid runI; rw [if_pos (Or.inl h1)]
    go_enter Try.func19, Try.ntmps19
    go_wp2
    go_ret
    exact ⟨by rw [hr.out]; rfl, Below.refl _ _⟩
  · by_cases h2 : (s.size : Int) < i
    · have hr : Hid (runI s i k = 0) := by unfold Hid runI; rw [if_pos (Or.inr h2)]
      go_enter Try.func19, Try.ntmps19
      go_wp2
      go_ret
      exact ⟨by rw [hr.out]; rfl, Below.refl _ _⟩
    · obtain ⟨n, rfl⟩ := Int.eq_ofNat_of_zero_le (a := i) (by omega)
      have hn : n ≤ s.size := by omega
      have HR : Hid (runI s (n : Int) k = ((runEnd s k (s.size - n) n : Nat) : Int)) := by
        unfold Hid runI
        rw [if_neg (by omega), Int.toNat_natCast]
      clear h1 h2
      have hz : Hid ((s.extract n s.size).size = s.size - n) := size_tail s n
      have b1 : decide ((n : Int) < 0) = false := decide_eq_false (by omega)
      have b2 : decide (s.size < n) = false := decide_eq_false (by omega)
      go_enter Try.func19, Try.ntmps19
      go_wp2
      go_loopw [7] (fun _ wr => ∃ (p f : Nat), wr = w.iter (s.extract n s.size) p ∧ runEnd s k f (n + p) = runEnd s k (s.size - n) n ∧ s.size ≤ n + p + f) (fun _ wr => s.size - wr.iterPos w.heap.size)
      case atStart => exact ⟨0, s.size - n, rfl, rfl, by omega⟩
      case round =>
        obtain ⟨p, f, rfl, hq, hf⟩ := hrel
        have HQ : Hid (runEnd s k f (n + p) = runEnd s k (s.size - n) n) := hq
        clear hq
        by_cases hp : n + p < s.size
        · have hw := width_ge s (n + p)
          have hx := width_fits s (n + p) hp
          have hc := rune_le s (n + p)
          have hnx : ∀ ty, (Instr.next (.pointer (some ⟨w.heap.size, 0, none⟩)) true ty).run Try.prog (w.iter (s.extract n s.size) p) = .ok (.tuple #[.bool true, .int .i64 (p : Int), .int .i32 (((Utf8.decode s (n + p)).1 : Nat) : Int)]) (w.iter (s.extract n s.size) (p + (Utf8.decode s (n + p)).2)) := fun ty => by
            have := run_next_any (P := Try.prog) w (s.extract n s.size) p ty (by rw [hz.out]; omega)
            rw [decode_tail_at] at this
            exact this
          by_cases he : classI (((Utf8.decode s (n + p)).1 : Nat) : Int) = k
          · have he' : (classI (((Utf8.decode s (n + p)).1 : Nat) : Int) != k) = false := by simp [he]
            have HE : Hid (classI (((Utf8.decode s (n + p)).1 : Nat) : Int) = k) := he
            clear he
            go_wp2_with (go_at_call 14; refine (class_any _ _).mono ?_; rintro e w1 ⟨rfl, rfl⟩)
            go_roundw
            case rel =>
              cases f with
              | zero => omega
              | succ f =>
                have h := HQ.out
                rw [runEnd, if_pos hp, if_pos HE.out] at h
                rw [Nat.add_assoc] at h
                exact ⟨_, f, rfl, h, by omega⟩
            case measure => simp; omega
          · have he' : (classI (((Utf8.decode s (n + p)).1 : Nat) : Int) != k) = true := by simp [he]
            have HE : Hid (¬ classI (((Utf8.decode s (n + p)).1 : Nat) : Int) = k) := he
            clear he
            go_wp2_with (go_at_call 14; refine (class_any _ _).mono ?_; rintro e w1 ⟨rfl, rfl⟩)
            go_ret
            refine ⟨?_, (Below.refl _ _).alloc (Nat.le_refl _) _⟩
            rw [HR.out, ← HQ.out]
            cases f with
            | zero => omega
            | succ f => rw [runEnd, if_pos hp, if_neg HE.out]; simp
        · have hnx : ∀ ty, (Instr.next (.pointer (some ⟨w.heap.size, 0, none⟩)) true ty).run Try.prog (w.iter (s.extract n s.size) p) = _ := fun ty =>
            run_next_end (P := Try.prog) w (s.extract n s.size) p ty (by rw [hz.out]; omega)
          go_wp2
          go_ret
          refine ⟨?_, (Below.refl _ _).alloc (Nat.le_refl _) _⟩
          rw [HR.out, ← HQ.out, runEnd_end _ _ _ _ hp]
          rfl

theorem awake_any (w : World) : Calls Try.prog 11 #[] w fun e w' => e = .returned (.bool true) ∧ Below w.heap.size w w' := by
  have c1 := fun W => class_any 955 W
  have hc1 : classI 955 = 2 := by decide +kernel
  rw [hc1] at c1
  have c2 := fun W => digit_any 102 16 W
  have hc2 : digitI 102 16 = 15 := by decide +kernel
  rw [hc2] at c2
  have c3 := fun W => next_any ⟨#[97, 195, 169]⟩ 1 (by decide) W
  have hc3 : runeAt ⟨#[97, 195, 169]⟩ 1 = (233, 2) := by decide +kernel
  rw [hc3] at c3
  have c4 := fun W => run_any ⟨#[43, 42, 97]⟩ 0 5 (by decide) W
  have hc4 : runI ⟨#[43, 42, 97]⟩ 0 5 = 2 := by decide +kernel
  rw [hc4] at c4
  clear hc1 hc2 hc3 hc4
  have C1 := Lib.hid c1
  have C2 := Lib.hid c2
  have C3 := Lib.hid c3
  have C4 := Lib.hid c4
  clear c1 c2 c3 c4
  go_enter Try.func11, Try.ntmps11
  go_wp2_with (first | (go_at_call 9; refine (C3.out _).mono ?_; rintro e w1 ⟨rfl, hb1⟩))
  refine (C1.out _).mono ?_
  rintro e w2 ⟨rfl, rfl⟩
  go_wp2_with fail
  refine (C2.out _).mono ?_
  rintro e w2 ⟨rfl, rfl⟩
  go_wp2_with fail
  refine (C4.out _).mono ?_
  rintro e w2 ⟨rfl, hb2⟩
  go_wp2_with fail
  go_ret
  exact ⟨rfl, hb1.trans (hb2.mono hb1.size)⟩
end Go.Proofs.Ytjfhdapflpmjgaa.Gly
