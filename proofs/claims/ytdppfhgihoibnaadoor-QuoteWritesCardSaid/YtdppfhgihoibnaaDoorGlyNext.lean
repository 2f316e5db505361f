/-
  The contract of glyph.Next: at any byte of any string it answers the rune and its width; 0 and 0 outside. Condition: the string is of a length that an int holds.
-/
import Derived.Test.YtdppfhgihoibnaaDoorGlyMath
import Derived.Test.YtdppfhgihoibnaaDoorRows
import Derived.WalkKit
import Derived.LoopTactic
import Derived.Laws.RangeAny
import Derived.WalkLawsBesides
import Derived.WalkSpells
import Derived.Outline
namespace Go.Proofs.YtdppfhgihoibnaaDoor.Gly
open Go.RowKit
set_option linter.unusedSimpArgs false

theorem next_any (s : ByteArray) (i : Int) (hs : s.size ≤ maxLen) (w : World) :
    Calls Tryd.prog 55 #[.string s, .int .i64 i] w fun e w' => e = .returned (.tuple #[.int .i32 (runeAt s i).1, .int .i64 (runeAt s i).2]) ∧ Below w.heap.size w w' := by
  unfold maxLen at hs
  by_cases h1 : i < 0
  · have hr : Hid (runeAt s i = (0, 0)) := runeAt_low s i h1
    go_enter Tryd.func55, Tryd.ntmps55
    go_wp2
    go_ret2
    exact ⟨by rw [hr.out]; rfl, Below.refl _ _⟩
  · by_cases h2 : (s.size : Int) ≤ i
    · have hr : Hid (runeAt s i = (0, 0)) := runeAt_high s i h2
      go_enter Tryd.func55, Tryd.ntmps55
      go_wp2
      go_ret2
      exact ⟨by rw [hr.out]; rfl, Below.refl _ _⟩
    · obtain ⟨n, rfl⟩ := Int.eq_ofNat_of_zero_le (a := i) (by omega)
      have hn : n < s.size := by omega
      clear h1 h2
      have hr := runeAt_in s n hn
      have hf := width_fits s n hn
      have hg := width_ge s n
      have hd : Hid (Utf8.decode (s.extract n s.size) 0 = Utf8.decode s n) := decode_tail s n
      have hz : Hid ((s.extract n s.size).size = s.size - n) := size_tail s n
      have HR : Hid (runeAt s (n : Int) = ((((Utf8.decode s n).1 : Nat) : Int), (((Utf8.decode s n).2 : Nat) : Int))) := hr
      clear hr
      go_enter Tryd.func55, Tryd.ntmps55
      go_wp2
      go_loopw [6] (fun f wr => (wr = w.iter (s.extract n s.size) 0 ∧ f = .int .i32 0) ∨ (wr = w.iter (s.extract n s.size) (Utf8.decode s n).2 ∧ f = .int .i32 (((Utf8.decode s n).1 : Nat) : Int))) (fun _ wr => s.size - wr.iterPos w.heap.size)
      case atStart => exact .inl ⟨rfl, rfl⟩
      case round =>
        rcases hrel with ⟨rfl, rfl⟩ | ⟨rfl, rfl⟩
        · have hnx : ∀ ty, (Instr.next (.pointer (some ⟨w.heap.size, 0, none⟩)) true ty).run Tryd.prog (w.iter (s.extract n s.size) 0) = .ok (.tuple #[.bool true, .int .i64 ((0 : Nat) : Int), .int .i32 (((Utf8.decode s n).1 : Nat) : Int)]) (w.iter (s.extract n s.size) (Utf8.decode s n).2) := fun ty => by
            have := run_next_any (P := Tryd.prog) w (s.extract n s.size) 0 ty (by rw [hz.out]; omega)
            rw [hd.out, Nat.zero_add] at this
            exact this
          go_wp2
          go_roundw
          case rel => exact .inr ⟨trivial, rfl⟩
          case measure => simp; omega
        · by_cases hm : n + (Utf8.decode s n).2 < s.size
          · have hnx : ∀ ty, (Instr.next (.pointer (some ⟨w.heap.size, 0, none⟩)) true ty).run Tryd.prog (w.iter (s.extract n s.size) (Utf8.decode s n).2) = _ := fun ty =>
              run_next_any (P := Tryd.prog) w (s.extract n s.size) (Utf8.decode s n).2 ty (by rw [hz.out]; omega)
            go_wp2
            go_ret2
            exact ⟨by rw [HR.out]; rfl, (Below.refl _ _).alloc (Nat.le_refl _) _⟩
          · have hnx : ∀ ty, (Instr.next (.pointer (some ⟨w.heap.size, 0, none⟩)) true ty).run Tryd.prog (w.iter (s.extract n s.size) (Utf8.decode s n).2) = _ := fun ty =>
              run_next_end (P := Tryd.prog) w (s.extract n s.size) (Utf8.decode s n).2 ty (by rw [hz.out]; omega)
            have hlen : Hid ((s.size : Int) - (n : Int) = (((Utf8.decode s n).2 : Nat) : Int)) := by unfold Hid; omega
            go_wp2
            go_ret2
            exact ⟨by rw [HR.out]; simp [hlen.out], (Below.refl _ _).alloc (Nat.le_refl _) _⟩

end Go.Proofs.YtdppfhgihoibnaaDoor.Gly
