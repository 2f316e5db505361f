/-
  The contract of glyph.Check: the first byte that begins no encoding, or the length. Condition: the string has at most 2^50 bytes.
-/
import Derived.Test.YtjfhdapflpmjgaaGlyNext
import Derived.Lib.Hide
import Derived.Lib.OthersKept
namespace Go.Proofs.Ytjfhdapflpmjgaa.Gly
open Go.RowKit
set_option linter.unusedSimpArgs false

/-- Does no encoding begin at n? -/
def badAt (s : ByteArray) (n : Nat) : Bool := (Utf8.decode s n).1 == 65533 && (Utf8.decode s n).2 == 1
/-- The first byte from n on that begins no encoding, rune by rune; the length if there is none. f: more rounds than there are bytes. -/
def firstBad (s : ByteArray) : Nat → Nat → Nat
  | 0, _ => s.size
  | f + 1, n => if n < s.size then (if badAt s n = true then n else firstBad s f (n + (Utf8.decode s n).2)) else s.size
theorem firstBad_end (s : ByteArray) (f n : Nat) (h : ¬ n < s.size) : firstBad s f n = s.size := by
  cases f with
  | zero => rfl
  | succ f => simp [firstBad, h]
theorem firstBad_le (s : ByteArray) : ∀ (f n : Nat), firstBad s f n ≤ s.size
  | 0, _ => Nat.le_refl _
  | f + 1, n => by
    unfold firstBad
    split
    · split
      · omega
      · exact firstBad_le s f _
    · omega
/-- Fuel beyond the length is idle. -/
theorem firstBad_fuel (s : ByteArray) : ∀ (f g n : Nat), s.size ≤ n + f → s.size ≤ n + g → firstBad s f n = firstBad s g n
  | 0, g, n, hf, _ => by rw [firstBad_end s 0 n (by omega), firstBad_end s g n (by omega)]
  | f + 1, 0, n, _, hg => by rw [firstBad_end s 0 n (by omega), firstBad_end s (f + 1) n (by omega)]
  | f + 1, g + 1, n, hf, hg => by
    have hw := width_ge s n
    unfold firstBad
    split
    · split
      · rfl
      · exact firstBad_fuel s f g _ (by omega) (by omega)
    · rfl
/-- Check's answers. -/
def checkN (s : ByteArray) : Nat := firstBad s s.size 0
def checkE (s : ByteArray) : Int := if checkN s < s.size then 10 else 0

theorem iterPos_of {w : World} {k : Nat} {s : ByteArray} {n : Nat} (h : w.heap[k]? = some (.stringIter s n)) : w.iterPos k = n := by simp [World.iterPos, h]
theorem check_any (s : ByteArray) (hs : s.size ≤ 1125899906842624) (w : World) :
    Calls Try.prog 12 #[.string s] w fun e w' => e = .returned (.tuple #[.int .i64 ((checkN s : Nat) : Int), .int .i64 (checkE s)]) ∧ Below w.heap.size w w' := by
  go_enter Try.func12, Try.ntmps12
  go_wp2
  go_loopw [4] (fun _ wr => ∃ (n f : Nat), wr.heap[w.heap.size]? = some (.stringIter s n) ∧ Below w.heap.size w wr ∧ w.heap.size < wr.heap.size ∧ firstBad s f n = checkN s ∧ s.size ≤ n + f) (fun _ wr => s.size - wr.iterPos w.heap.size)
  case atStart => exact ⟨0, s.size, World.iter_heap _ _ _, (Below.refl _ _).alloc (Nat.le_refl _) _, by simp [World.iter], rfl, by omega⟩
  case round =>
    obtain ⟨n, f, hk, hbw, hsz, hq, hf⟩ := hrel
    have HK := Lib.hid hk
    have HQ := Lib.hid hq
    have HB := Lib.hid hbw
    clear hk hq hbw
    by_cases hp : n < s.size
    · have hw := width_ge s n
      have hx := width_fits s n hp
      have hc := rune_le s n
      have hnx : ∀ ty, (Instr.next (.pointer (some ⟨w.heap.size, 0, none⟩)) true ty).run Try.prog wr = .ok (.tuple #[.bool true, .int .i64 (n : Int), .int .i32 (((Utf8.decode s n).1 : Nat) : Int)]) (wr.iterAt w.heap.size s (n + (Utf8.decode s n).2)) := fun ty => Lib.run_next_any_at (P := Try.prog) wr w.heap.size s n ty HK.out hp
      cases f with
      | zero => omega
      | succ f =>
      by_cases he : (Utf8.decode s n).1 = 65533
      · have he' : ((((Utf8.decode s n).1 : Nat) : Int) != 65533) = false := by rw [he]; rfl
        have hr : Hid (runeAt s (n : Int) = ((((Utf8.decode s n).1 : Nat) : Int), (((Utf8.decode s n).2 : Nat) : Int))) := runeAt_in s n hp
        have hsm : s.size ≤ maxLen := by unfold maxLen; omega
        have HM := Lib.hid hsm
        clear hsm
        by_cases h1 : (Utf8.decode s n).2 = 1
        · have HE : Hid (badAt s n = true) := by unfold Hid badAt; simp [he, h1]
          have h1' : ((((Utf8.decode s n).2 : Nat) : Int) == 1) = true := by rw [h1]; rfl
          clear he h1
          go_wp2_with fail
          refine (next_any s n HM.out _).mono ?_
          rintro e w1 ⟨rfl, hb1⟩
          have HB1 := Lib.hid hb1
          clear hb1
          rw [hr.out]
          go_wp2_with fail
          go_ret2
          have h := HQ.out
          rw [firstBad, if_pos hp, if_pos HE.out] at h
          refine ⟨?_, (Lib.below_iterAt HB.out (Nat.le_refl _) _ _).trans (HB1.out.mono (by rw [Lib.iterAt_size]; omega))⟩
          unfold checkE
          rw [← h, if_pos hp]
          rfl
        · have HE : Hid (badAt s n = false) := by unfold Hid badAt; simp [h1]
          have h1' : ((((Utf8.decode s n).2 : Nat) : Int) == 1) = false := by rw [beq_eq_false_iff_ne]; omega
          clear he h1
          go_wp2_with fail
          refine (next_any s n HM.out _).mono ?_
          rintro e w1 ⟨rfl, hb1⟩
          have HB1 := Lib.hid hb1
          clear hb1
          rw [hr.out]
          go_wp2_with fail
          have hk1 : Hid (w1.heap[w.heap.size]? = some (.stringIter s (n + (Utf8.decode s n).2))) := by
            unfold Hid
            rw [HB1.out.block _ (by rw [Lib.iterAt_size]; exact hsz)]
            exact Lib.iterAt_heap _ _ _ _ _ HK.out
          go_roundw
          case rel =>
            refine ⟨n + (Utf8.decode s n).2, f, hk1.out, (Lib.below_iterAt HB.out (Nat.le_refl _) _ _).trans (HB1.out.mono (by rw [Lib.iterAt_size]; omega)), ?_, ?_, by omega⟩
            · have := HB1.out.size
              rw [Lib.iterAt_size] at this
              omega
            · have h := HQ.out
              rw [firstBad, if_pos hp, HE.out] at h
              simpa using h
          case measure => rw [iterPos_of hk1.out, iterPos_of HK.out]; omega
      · have he' : ((((Utf8.decode s n).1 : Nat) : Int) != 65533) = true := by rw [bne_iff_ne]; omega
        have HE : Hid (badAt s n = false) := by unfold Hid badAt; simp [he]
        clear he
        go_wp2
        go_roundw
        case rel =>
          refine ⟨n + (Utf8.decode s n).2, f, Lib.iterAt_heap _ _ _ _ _ HK.out, Lib.below_iterAt HB.out (Nat.le_refl _) _ _, by rw [Lib.iterAt_size]; exact hsz, ?_, by omega⟩
          have h := HQ.out
          rw [firstBad, if_pos hp, HE.out] at h
          simpa using h
        case measure => rw [iterPos_of (Lib.iterAt_heap _ _ _ _ _ HK.out), iterPos_of HK.out]; omega
    · have hnx : ∀ ty, (Instr.next (.pointer (some ⟨w.heap.size, 0, none⟩)) true ty).run Try.prog wr = .ok (.tuple #[.bool false]) wr := fun ty => Lib.run_next_end_at (P := Try.prog) wr w.heap.size s n ty HK.out hp
      go_wp2
      go_ret2
      have h := HQ.out
      rw [firstBad_end s f n hp] at h
      refine ⟨?_, HB.out⟩
      unfold checkE
      rw [← h, if_neg (by omega)]
      rfl
end Go.Proofs.Ytjfhdapflpmjgaa.Gly
