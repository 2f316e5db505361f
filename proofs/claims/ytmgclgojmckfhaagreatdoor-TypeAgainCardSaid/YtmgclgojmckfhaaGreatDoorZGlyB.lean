/-
  The contracts of the document's own at and Next: at answers the byte, or -1; Next answers the rune at a byte and its width, as a decoder of UTF-8 does. Condition: the string has at most 2^50 bytes.
-/
import Derived.Test.YtmgclgojmckfhaaGreatDoorZGlyA
import Derived.Test.YtmgclgojmckfhaaGreatDoorRows
import Derived.Test.YtmgclgojmckfhaaGreatDoorZMthB
import Derived.WalkKit
import Derived.LoopTactic
import Derived.Handy
import Derived.WalkLawsBesides
import Derived.WalkSpells
import Derived.Laws.RangeAny
import Derived.Lib.Hide
import Derived.Outline
import Derived.Deep.RegionWith
import Derived.Lib.OthersKept
namespace Go.Proofs.YtmgclgojmckfhaaGreatDoor.Gly
open Go.RowKit
set_option linter.unusedSimpArgs false

end Go.Proofs.YtmgclgojmckfhaaGreatDoor.Gly
/-
  The contract of the document's own Next, put together out of its ways. Condition: the string has at most 2^50 bytes.
-/
namespace Go.Proofs.YtmgclgojmckfhaaGreatDoor.Gly
open Go.RowKit
end Go.Proofs.YtmgclgojmckfhaaGreatDoor.Gly
/-
  The contract of the document's own Check. Condition: the string has at most 2^50 bytes.
-/
namespace Go.Proofs.YtmgclgojmckfhaaGreatDoor.Gly
open Go.RowKit
set_option linter.unusedSimpArgs false

end Go.Proofs.YtmgclgojmckfhaaGreatDoor.Gly
/-
  The contract of glyph.Next: at any byte of any string it answers the rune and its width; 0 and 0 outside. Condition: the string is of a length that an int holds.
-/
namespace Go.Proofs.YtmgclgojmckfhaaGreatDoor.Gly
open Go.RowKit
set_option linter.unusedSimpArgs false

theorem next_any (s : ByteArray) (i : Int) (hs : s.size ≤ maxLen) (w : World) :
    Calls Tryz.prog 34 #[.string s, .int .i64 i] w fun e w' => e = .returned (.tuple #[.int .i32 (runeAt s i).1, .int .i64 (runeAt s i).2]) ∧ Below w.heap.size w w' := by
  unfold maxLen at hs
  by_cases h1 : i < 0
  · have hr : Hid (runeAt s i = (0, 0)) := runeAt_low s i h1
    go_enter Tryz.func34, Tryz.ntmps34
    go_wp2
    go_ret2
    exact ⟨by rw [hr.out]; rfl, Below.refl _ _⟩
  · by_cases h2 : (s.size : Int) ≤ i
    · have hr : Hid (runeAt s i = (0, 0)) := runeAt_high s i h2
      go_enter Tryz.func34, Tryz.ntmps34
      go_wp2
      go_ret2
      exact ⟨by rw [hr.out]; rfl, Below.refl _ _⟩
    · obtain ⟨n, rfl⟩ := Int.eq_ofNat_of_zero_le (a := i) (by omega)
      have hn : n < s.size := by omega
      clear h1 h2
      have hr := runeAt_in s n hn
      have hf := width_fits s n hn
      have hg := width_ge s n
      have hd : Hid (Utf8.decode (s.extract n s.size) 0 = Utf8.decode s n) := decode_tail s n
      have hz : Hid ((s.extract n s.size).size = s.size - n) := size_tail s n
      have HR : Hid (runeAt s (n : Int) = ((((Utf8.decode s n).1 : Nat) : Int), (((Utf8.decode s n).2 : Nat) : Int))) := hr
      clear hr
      go_enter Tryz.func34, Tryz.ntmps34
      go_wp2
      go_loopw [6] (fun f wr => (wr = w.iter (s.extract n s.size) 0 ∧ f = .int .i32 0) ∨ (wr = w.iter (s.extract n s.size) (Utf8.decode s n).2 ∧ f = .int .i32 (((Utf8.decode s n).1 : Nat) : Int))) (fun _ wr => s.size - wr.iterPos w.heap.size)
      case atStart => exact .inl ⟨rfl, rfl⟩
      case round =>
        rcases hrel with ⟨rfl, rfl⟩ | ⟨rfl, rfl⟩
        · have hnx : ∀ ty, (Instr.next (.pointer (some ⟨w.heap.size, 0, none⟩)) true ty).run Tryz.prog (w.iter (s.extract n s.size) 0) = .ok (.tuple #[.bool true, .int .i64 ((0 : Nat) : Int), .int .i32 (((Utf8.decode s n).1 : Nat) : Int)]) (w.iter (s.extract n s.size) (Utf8.decode s n).2) := fun ty => by
            have := run_next_any (P := Tryz.prog) w (s.extract n s.size) 0 ty (by rw [hz.out]; omega)
            rw [hd.out, Nat.zero_add] at this
            exact this
          go_wp2
          go_roundw
          case rel => exact .inr ⟨trivial, rfl⟩
          case measure => simp; omega
        · by_cases hm : n + (Utf8.decode s n).2 < s.size
          · have hnx : ∀ ty, (Instr.next (.pointer (some ⟨w.heap.size, 0, none⟩)) true ty).run Tryz.prog (w.iter (s.extract n s.size) (Utf8.decode s n).2) = _ := fun ty =>
              run_next_any (P := Tryz.prog) w (s.extract n s.size) (Utf8.decode s n).2 ty (by rw [hz.out]; omega)
            go_wp2
            go_ret2
            exact ⟨by rw [HR.out]; rfl, (Below.refl _ _).alloc (Nat.le_refl _) _⟩
          · have hnx : ∀ ty, (Instr.next (.pointer (some ⟨w.heap.size, 0, none⟩)) true ty).run Tryz.prog (w.iter (s.extract n s.size) (Utf8.decode s n).2) = _ := fun ty =>
              run_next_end (P := Tryz.prog) w (s.extract n s.size) (Utf8.decode s n).2 ty (by rw [hz.out]; omega)
            have hlen : Hid ((s.size : Int) - (n : Int) = (((Utf8.decode s n).2 : Nat) : Int)) := by unfold Hid; omega
            go_wp2
            go_ret2
            exact ⟨by rw [HR.out]; simp [hlen.out], (Below.refl _ _).alloc (Nat.le_refl _) _⟩

end Go.Proofs.YtmgclgojmckfhaaGreatDoor.Gly
/-
  The contract of glyph.Run. Condition: the string is of a length that an int holds.
-/
namespace Go.Proofs.YtmgclgojmckfhaaGreatDoor.Gly
open Go.RowKit
set_option linter.unusedSimpArgs false

/-- Where the runes of class k end that stand from byte p on; f: more rounds than there are bytes. -/
def runEnd (s : ByteArray) (k : Int) : Nat → Nat → Nat
  | 0, _ => s.size
  | f + 1, p => if p < s.size then (if classI (((Utf8.decode s p).1 : Nat) : Int) = k then runEnd s k f (p + (Utf8.decode s p).2) else p) else s.size
theorem runEnd_end (s : ByteArray) (k : Int) (f p : Nat) (h : ¬ p < s.size) : runEnd s k f p = s.size := by
  cases f with
  | zero => rfl
  | succ f => simp [runEnd, h]
/-- Run's answer. -/
def runI (s : ByteArray) (i k : Int) : Int := if i < 0 ∨ (s.size : Int) < i then 0 else ((runEnd s k (s.size - i.toNat) i.toNat : Nat) : Int)

theorem run_any (s : ByteArray) (i k : Int) (hs : s.size ≤ maxLen) (w : World) :
    Calls Tryz.prog 44 #[.string s, .int .i64 i, .int .i64 k] w fun e w' => e = .returned (.int .i64 (runI s i k)) ∧ Below w.heap.size w w' := by
  unfold maxLen at hs
  by_cases h1 : i < 0
  · have hr : Hid (runI s i k = 0) := by unfold Hid runI; rw [if_pos (Or.inl h1)]
    go_enter Tryz.func44, Tryz.ntmps44
    go_wp2
    go_ret
    exact ⟨by rw [hr.out]; rfl, Below.refl _ _⟩
  · by_cases h2 : (s.size : Int) < i
    · have hr : Hid (runI s i k = 0) := by unfold Hid runI; rw [if_pos (Or.inr h2)]
      go_enter Tryz.func44, Tryz.ntmps44
      go_wp2
      go_ret
      exact ⟨by rw [hr.out]; rfl, Below.refl _ _⟩
    · obtain ⟨n, rfl⟩ := Int.eq_ofNat_of_zero_le (a := i) (by omega)
      have hn : n ≤ s.size := by omega
      have HR : Hid (runI s (n : Int) k = ((runEnd s k (s.size - n) n : Nat) : Int)) := by
        unfold Hid runI
        rw [if_neg (by omega), Int.toNat_natCast]
      clear h1 h2
      have hz : Hid ((s.extract n s.size).size = s.size - n) := size_tail s n
      have b1 : decide ((n : Int) < 0) = false := decide_eq_false (by omega)
      have b2 : decide (s.size < n) = false := decide_eq_false (by omega)
      go_enter Tryz.func44, Tryz.ntmps44
      go_wp2
      go_loopw [7] (fun _ wr => ∃ (p f : Nat), wr = w.iter (s.extract n s.size) p ∧ runEnd s k f (n + p) = runEnd s k (s.size - n) n ∧ s.size ≤ n + p + f) (fun _ wr => s.size - wr.iterPos w.heap.size)
      case atStart => exact ⟨0, s.size - n, rfl, rfl, by omega⟩
      case round =>
        obtain ⟨p, f, rfl, hq, hf⟩ := hrel
        have HQ : Hid (runEnd s k f (n + p) = runEnd s k (s.size - n) n) := hq
        clear hq
        by_cases hp : n + p < s.size
        · have hw := width_ge s (n + p)
          have hx := width_fits s (n + p) hp
          have hc := rune_le s (n + p)
          have hnx : ∀ ty, (Instr.next (.pointer (some ⟨w.heap.size, 0, none⟩)) true ty).run Tryz.prog (w.iter (s.extract n s.size) p) = .ok (.tuple #[.bool true, .int .i64 (p : Int), .int .i32 (((Utf8.decode s (n + p)).1 : Nat) : Int)]) (w.iter (s.extract n s.size) (p + (Utf8.decode s (n + p)).2)) := fun ty => by
            have := run_next_any (P := Tryz.prog) w (s.extract n s.size) p ty (by rw [hz.out]; omega)
            rw [decode_tail_at] at this
            exact this
          by_cases he : classI (((Utf8.decode s (n + p)).1 : Nat) : Int) = k
          · have he' : (classI (((Utf8.decode s (n + p)).1 : Nat) : Int) != k) = false := by simp [he]
            have HE : Hid (classI (((Utf8.decode s (n + p)).1 : Nat) : Int) = k) := he
            clear he
            go_wp2_with (go_at_call 20; refine (class_any _ _).mono ?_; rintro e w1 ⟨rfl, rfl⟩)
            go_roundw
            case rel =>
              cases f with
              | zero => omega
              | succ f =>
                have h := HQ.out
                rw [runEnd, if_pos hp, if_pos HE.out] at h
                rw [Nat.add_assoc] at h
                exact ⟨_, f, rfl, h, by omega⟩
            case measure => simp; omega
          · have he' : (classI (((Utf8.decode s (n + p)).1 : Nat) : Int) != k) = true := by simp [he]
            have HE : Hid (¬ classI (((Utf8.decode s (n + p)).1 : Nat) : Int) = k) := he
            clear he
            go_wp2_with (go_at_call 20; refine (class_any _ _).mono ?_; rintro e w1 ⟨rfl, rfl⟩)
            go_ret
            refine ⟨?_, (Below.refl _ _).alloc (Nat.le_refl _) _⟩
            rw [HR.out, ← HQ.out]
            cases f with
            | zero => omega
            | succ f => rw [runEnd, if_pos hp, if_neg HE.out]; simp
        · have hnx : ∀ ty, (Instr.next (.pointer (some ⟨w.heap.size, 0, none⟩)) true ty).run Tryz.prog (w.iter (s.extract n s.size) p) = _ := fun ty =>
            run_next_end (P := Tryz.prog) w (s.extract n s.size) p ty (by rw [hz.out]; omega)
          go_wp2
          go_ret
          refine ⟨?_, (Below.refl _ _).alloc (Nat.le_refl _) _⟩
          rw [HR.out, ← HQ.out, runEnd_end _ _ _ _ hp]
          rfl
end Go.Proofs.YtmgclgojmckfhaaGreatDoor.Gly
/-
  The contract of glyph.Check: the first byte that begins no encoding, or the length. Condition: the string has at most 2^50 bytes.
-/
namespace Go.Proofs.YtmgclgojmckfhaaGreatDoor.Gly
open Go.RowKit
set_option linter.unusedSimpArgs false

theorem iterPos_of {w : World} {k : Nat} {s : ByteArray} {n : Nat} (h : w.heap[k]? = some (.stringIter s n)) : w.iterPos k = n := by simp [World.iterPos, h]
theorem check_any (s : ByteArray) (hs : s.size ≤ 1125899906842624) (w : World) :
    Calls Tryz.prog 19 #[.string s] w fun e w' => e = .returned (.tuple #[.int .i64 ((checkN s : Nat) : Int), .int .i64 (checkE s)]) ∧ Below w.heap.size w w' := by
  go_enter Tryz.func19, Tryz.ntmps19
  go_wp2
  go_loopw [4] (fun _ wr => ∃ (n f : Nat), wr.heap[w.heap.size]? = some (.stringIter s n) ∧ Below w.heap.size w wr ∧ w.heap.size < wr.heap.size ∧ firstBad s f n = checkN s ∧ s.size ≤ n + f) (fun _ wr => s.size - wr.iterPos w.heap.size)
  case atStart => exact ⟨0, s.size, World.iter_heap _ _ _, (Below.refl _ _).alloc (Nat.le_refl _) _, by simp [World.iter], rfl, by omega⟩
  case round =>
    obtain ⟨n, f, hk, hbw, hsz, hq, hf⟩ := hrel
    have HK := Lib.hid hk
    have HQ := Lib.hid hq
    have HB := Lib.hid hbw
    clear hk hq hbw
    by_cases hp : n < s.size
    · have hw := width_ge s n
      have hx := width_fits s n hp
      have hc := rune_le s n
      have hnx : ∀ ty, (Instr.next (.pointer (some ⟨w.heap.size, 0, none⟩)) true ty).run Tryz.prog wr = .ok (.tuple #[.bool true, .int .i64 (n : Int), .int .i32 (((Utf8.decode s n).1 : Nat) : Int)]) (wr.iterAt w.heap.size s (n + (Utf8.decode s n).2)) := fun ty => Lib.run_next_any_at (P := Tryz.prog) wr w.heap.size s n ty HK.out hp
      cases f with
      | zero => omega
      | succ f =>
      by_cases he : (Utf8.decode s n).1 = 65533
      · have he' : ((((Utf8.decode s n).1 : Nat) : Int) != 65533) = false := by rw [he]; rfl
        have hr : Hid (runeAt s (n : Int) = ((((Utf8.decode s n).1 : Nat) : Int), (((Utf8.decode s n).2 : Nat) : Int))) := runeAt_in s n hp
        have hsm : s.size ≤ maxLen := by unfold maxLen; omega
        have HM := Lib.hid hsm
        clear hsm
        by_cases h1 : (Utf8.decode s n).2 = 1
        · have HE : Hid (badAt s n = true) := by unfold Hid badAt; simp [he, h1]
          have h1' : ((((Utf8.decode s n).2 : Nat) : Int) == 1) = true := by rw [h1]; rfl
          clear he h1
          go_wp2_with fail
          refine (next_any s n HM.out _).mono ?_
          rintro e w1 ⟨rfl, hb1⟩
          have HB1 := Lib.hid hb1
          clear hb1
          rw [hr.out]
          go_wp2_with fail
          go_ret2
          have h := HQ.out
          rw [firstBad, if_pos hp, if_pos HE.out] at h
          refine ⟨?_, (Lib.below_iterAt HB.out (Nat.le_refl _) _ _).trans (HB1.out.mono (by rw [Lib.iterAt_size]; omega))⟩
          unfold checkE
          rw [← h, if_pos hp]
          rfl
        · have HE : Hid (badAt s n = false) := by unfold Hid badAt; simp [h1]
          have h1' : ((((Utf8.decode s n).2 : Nat) : Int) == 1) = false := by rw [beq_eq_false_iff_ne]; omega
          clear he h1
          go_wp2_with fail
          refine (next_any s n HM.out _).mono ?_
          rintro e w1 ⟨rfl, hb1⟩
          have HB1 := Lib.hid hb1
          clear hb1
          rw [hr.out]
          go_wp2_with fail
          have hk1 : Hid (w1.heap[w.heap.size]? = some (.stringIter s (n + (Utf8.decode s n).2))) := by
            unfold Hid
            rw [HB1.out.block _ (by rw [Lib.iterAt_size]; exact hsz)]
            exact Lib.iterAt_heap _ _ _ _ _ HK.out
          go_roundw
          case rel =>
            refine ⟨n + (Utf8.decode s n).2, f, hk1.out, (Lib.below_iterAt HB.out (Nat.le_refl _) _ _).trans (HB1.out.mono (by rw [Lib.iterAt_size]; omega)), ?_, ?_, by omega⟩
            · have := HB1.out.size
              rw [Lib.iterAt_size] at this
              omega
            · have h := HQ.out
              rw [firstBad, if_pos hp, HE.out] at h
              simpa using h
          case measure => rw [iterPos_of hk1.out, iterPos_of HK.out]; omega
      · have he' : ((((Utf8.decode s n).1 : Nat) : Int) != 65533) = true := by rw [bne_iff_ne]; omega
        have HE : Hid (badAt s n = false) := by unfold Hid badAt; simp [he]
        clear he
        go_wp2
        go_roundw
        case rel =>
          refine ⟨n + (Utf8.decode s n).2, f, Lib.iterAt_heap _ _ _ _ _ HK.out, Lib.below_iterAt HB.out (Nat.le_refl _) _ _, by rw [Lib.iterAt_size]; exact hsz, ?_, by omega⟩
          have h := HQ.out
          rw [firstBad, if_pos hp, HE.out] at h
          simpa using h
        case measure => rw [iterPos_of (Lib.iterAt_heap _ _ _ _ _ HK.out), iterPos_of HK.out]; omega
    · have hnx : ∀ ty, (Instr.next (.pointer (some ⟨w.heap.size, 0, none⟩)) true ty).run Tryz.prog wr = .ok (.tuple #[.bool false]) wr := fun ty => Lib.run_next_end_at (P := Tryz.prog) wr w.heap.size s n ty HK.out hp
      go_wp2
      go_ret2
      have h := HQ.out
      rw [firstBad_end s f n hp] at h
      refine ⟨?_, HB.out⟩
      unfold checkE
      rw [← h, if_neg (by omega)]
      rfl
end Go.Proofs.YtmgclgojmckfhaaGreatDoor.Gly
