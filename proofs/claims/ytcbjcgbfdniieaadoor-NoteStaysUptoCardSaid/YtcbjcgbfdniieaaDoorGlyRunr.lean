/-
  The contract of glyph.Run. Condition: the string is of a length that an int holds.
-/
import Derived.Test.YtcbjcgbfdniieaaDoorGlyNext
import Derived.Test.YtcbjcgbfdniieaaDoorGlyLowc
import Derived.Deep.RegionWith
import Derived.Lib.Hide
namespace Go.Proofs.YtcbjcgbfdniieaaDoor.Gly
open Go.RowKit
set_option linter.unusedSimpArgs false

/-- Where the runes of class k end that stand from byte p on; f: more rounds than there are bytes. -/
def runEnd (s : ByteArray) (k : Int) : Nat → Nat → Nat
  | 0, _ => s.size
  | f + 1, p => if p < s.size then (if classI (((Utf8.decode s p).1 : Nat) : Int) = k then runEnd s k f (p + (Utf8.decode s p).2) else p) else s.size
theorem runEnd_end (s : ByteArray) (k : Int) (f p : Nat) (h : ¬ p < s.size) : runEnd s k f p = s.size := by
  cases f with
  | zero => rfl
  | succ f => simp [runEnd, h]
/-- Run's answer. -/
def runI (s : ByteArray) (i k : Int) : Int := if i < 0 ∨ (s.size : Int) < i then 0 else ((runEnd s k (s.size - i.toNat) i.toNat : Nat) : Int)

theorem run_any (s : ByteArray) (i k : Int) (hs : s.size ≤ maxLen) (w : World) :
    Calls Tryd.prog 40 #[.string s, .int .i64 i, .int .i64 k] w fun e w' => e = .returned (.int .i64 (runI s i k)) ∧ Below w.heap.size w w' := by
  unfold maxLen at hs
  by_cases h1 : i < 0
  · have hr : Hid (runI s i k = 0) := by unfold Hid runI; rw [if_pos (Or.inl h1)]
    go_enter Tryd.func40, Tryd.ntmps40
    go_wp2
    go_ret
    exact ⟨by rw [hr.out]; rfl, Below.refl _ _⟩
  · by_cases h2 : (s.size : Int) < i
    · have hr : Hid (runI s i k = 0) := by unfold Hid runI; rw [if_pos (Or.inr h2)]
      go_enter Tryd.func40, Tryd.ntmps40
      go_wp2
      go_ret
      exact ⟨by rw [hr.out]; rfl, Below.refl _ _⟩
    · obtain ⟨n, rfl⟩ := Int.eq_ofNat_of_zero_le (a := i) (by omega)
      have hn : n ≤ s.size := by omega
      have HR : Hid (runI s (n : Int) k = ((runEnd s k (s.size - n) n : Nat) : Int)) := by
        unfold Hid runI
        rw [if_neg (by omega), Int.toNat_natCast]
      clear h1 h2
      have hz : Hid ((s.extract n s.size).size = s.size - n) := size_tail s n
      have b1 : decide ((n : Int) < 0) = false := decide_eq_false (by omega)
      have b2 : decide (s.size < n) = false := decide_eq_false (by omega)
      go_enter Tryd.func40, Tryd.ntmps40
      go_wp2
      go_loopw [7] (fun _ wr => ∃ (p f : Nat), wr = w.iter (s.extract n s.size) p ∧ runEnd s k f (n + p) = runEnd s k (s.size - n) n ∧ s.size ≤ n + p + f) (fun _ wr => s.size - wr.iterPos w.heap.size)
      case atStart => exact ⟨0, s.size - n, rfl, rfl, by omega⟩
      case round =>
        obtain ⟨p, f, rfl, hq, hf⟩ := hrel
        have HQ : Hid (runEnd s k f (n + p) = runEnd s k (s.size - n) n) := hq
        clear hq
        by_cases hp : n + p < s.size
        · have hw := width_ge s (n + p)
          have hx := width_fits s (n + p) hp
          have hc := rune_le s (n + p)
          have hnx : ∀ ty, (Instr.next (.pointer (some ⟨w.heap.size, 0, none⟩)) true ty).run Tryd.prog (w.iter (s.extract n s.size) p) = .ok (.tuple #[.bool true, .int .i64 (p : Int), .int .i32 (((Utf8.decode s (n + p)).1 : Nat) : Int)]) (w.iter (s.extract n s.size) (p + (Utf8.decode s (n + p)).2)) := fun ty => by
            have := run_next_any (P := Tryd.prog) w (s.extract n s.size) p ty (by rw [hz.out]; omega)
            rw [decode_tail_at] at this
            exact this
          by_cases he : classI (((Utf8.decode s (n + p)).1 : Nat) : Int) = k
          · have he' : (classI (((Utf8.decode s (n + p)).1 : Nat) : Int) != k) = false := by simp [he]
            have HE : Hid (classI (((Utf8.decode s (n + p)).1 : Nat) : Int) = k) := he
            clear he
            go_wp2_with (go_at_call 54; refine (class_any _ _).mono ?_; rintro e w1 ⟨rfl, rfl⟩)
            go_roundw
            case rel =>
              cases f with
              | zero => omega
              | succ f =>
                have h := HQ.out
                rw [runEnd, if_pos hp, if_pos HE.out] at h
                rw [Nat.add_assoc] at h
                exact ⟨_, f, rfl, h, by omega⟩
            case measure => simp; omega
          · have he' : (classI (((Utf8.decode s (n + p)).1 : Nat) : Int) != k) = true := by simp [he]
            have HE : Hid (¬ classI (((Utf8.decode s (n + p)).1 : Nat) : Int) = k) := he
            clear he
            go_wp2_with (go_at_call 54; refine (class_any _ _).mono ?_; rintro e w1 ⟨rfl, rfl⟩)
            go_ret
            refine ⟨?_, (Below.refl _ _).alloc (Nat.le_refl _) _⟩
            rw [HR.out, ← HQ.out]
            cases f with
            | zero => omega
            | succ f => rw [runEnd, if_pos hp, if_neg HE.out]; simp
        · have hnx : ∀ ty, (Instr.next (.pointer (some ⟨w.heap.size, 0, none⟩)) true ty).run Tryd.prog (w.iter (s.extract n s.size) p) = _ := fun ty =>
            run_next_end (P := Tryd.prog) w (s.extract n s.size) p ty (by rw [hz.out]; omega)
          go_wp2
          go_ret
          refine ⟨?_, (Below.refl _ _).alloc (Nat.le_refl _) _⟩
          rw [HR.out, ← HQ.out, runEnd_end _ _ _ _ hp]
          rfl
end Go.Proofs.YtcbjcgbfdniieaaDoor.Gly
