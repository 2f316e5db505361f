/-
  The contracts of package quote's small functions: what stands at a byte, gaps, what may stand for itself, digits. Condition: the string has at most 2^50 bytes.
-/
import Derived.Test.YtdppfhgihoibnaaDoorQtTxt
import Derived.Test.YtdppfhgihoibnaaDoorQtBld
import Derived.Test.YtdppfhgihoibnaaDoorGlyRunr
import Derived.Lib.Strings
import Derived.Handy
import Derived.LoopTactic
import Derived.Laws.RangeAny
namespace Go.Proofs.YtdppfhgihoibnaaDoor.Qt
open Go.RowKit Gly
open Wrd (rn wd)
set_option linter.unusedSimpArgs false
set_option linter.unusedVariables false

/-- What is left of a string from byte n on. -/
def rest (s : ByteArray) (n : Nat) : List UInt8 := s.data.toList.drop n
theorem rest_len (s : ByteArray) (n : Nat) : (rest s n).length = s.size - n := by unfold rest; rw [List.length_drop, ← Lib.size_eq]
theorem rest_ne (s : ByteArray) (n : Nat) (h : n < s.size) : rest s n ≠ [] := by
  intro e
  have := rest_len s n
  rw [e] at this
  simp at this
  omega
theorem rest_nil (s : ByteArray) (n : Nat) (h : s.size ≤ n) : rest s n = [] := List.eq_nil_of_length_eq_zero (by rw [rest_len]; omega)
theorem rest_drop (s : ByteArray) (n k : Nat) : (rest s n).drop k = rest s (n + k) := by unfold rest; rw [List.drop_drop]
theorem rest_cons (s : ByteArray) (n : Nat) (h : n < s.size) : rest s n = s[n] :: rest s (n + 1) := by
  have hl := Lib.size_eq s
  unfold rest
  rw [List.drop_eq_getElem_cons (by omega)]
  rfl
theorem sub_rest (s : ByteArray) (n k : Nat) : rest (s.extract n s.size) k = rest s (n + k) := by
  unfold rest
  rw [Lib.extract_to_end, List.drop_drop]
theorem rn_rest (s : ByteArray) (n : Nat) : rn (rest s n) = (((Utf8.decode s n).1 : Nat) : Int) := by unfold rn rest; rw [Lib.decodeL_drop]
theorem wd_rest (s : ByteArray) (n : Nat) : wd (rest s n) = (Utf8.decode s n).2 := by unfold wd rest; rw [Lib.decodeL_drop]
theorem runeAt_rest (s : ByteArray) (n : Nat) (h : n < s.size) : runeAt s (n : Int) = (rn (rest s n), ((wd (rest s n) : Nat) : Int)) := by rw [runeAt_in s n h, rn_rest, wd_rest]
theorem runeAt_out (s : ByteArray) (i : Int) (h : ¬ (0 ≤ i ∧ i < s.size)) : runeAt s i = (0, 0) := by unfold runeAt; rw [if_neg h]
theorem hd_rest (s : ByteArray) (n : Nat) (h : n < s.size) : hd (rest s n) = s[n].toNat := by rw [rest_cons s n h]; rfl
theorem hd_rest_out (s : ByteArray) (n : Nat) (h : s.size ≤ n) : hd (rest s n) = 256 := by rw [rest_nil s n h]; rfl
/-- The byte at a place that may be negative; 256: none. -/
def hdI (s : ByteArray) (i : Int) : Nat := if 0 ≤ i then hd (rest s i.toNat) else 256
theorem hdI_nat (s : ByteArray) (n : Nat) : hdI s (n : Int) = hd (rest s n) := by unfold hdI; rw [if_pos (by omega), Int.toNat_natCast]
theorem below_drewN {B : Nat} {a w : World} (h : Below B a w) (n : Nat) : Below B a (w.drewN n) := ⟨h.os, h.tape, h.output, h.size, h.block⟩
theorem bytes_ext {a b : ByteArray} (h : a.data.toList = b.data.toList) : a = b := by
  apply ByteArray.ext
  exact Array.toList_inj.1 h

theorem stands_any (s : ByteArray) (i : Int) (b : Nat) (hb : b < 256) (hs : s.size ≤ 1125899906842624) (w : World) :
    Calls Tryd.prog 36 #[.string s, .int .i64 i, .int .u8 (b : Int)] w fun e w' => e = .returned (.bool (hdI s i == b)) ∧ w = w' := by
  by_cases h1 : i < 0
  · have hr : Hid ((hdI s i == b) = false) := by unfold Hid hdI; rw [if_neg (by omega), beq_eq_false_iff_ne]; omega
    go_enter Tryd.func36, Tryd.ntmps36
    go_wp2
    go_ret
    exact ⟨by rw [hr.out]; rfl, rfl⟩
  · obtain ⟨n, rfl⟩ := Int.eq_ofNat_of_zero_le (a := i) (by omega)
    rw [hdI_nat]
    by_cases h2 : n < s.size
    · rw [hd_rest s n h2]
      have i0 : (0 : Int) ≤ (n : Int) := by omega
      cases hc : s[n].toNat == b with
      | true =>
        have x0 : (((s[n].toNat : Nat) : Int) == ((b : Nat) : Int)) = true := by rw [beq_iff_eq] at hc ⊢; omega
        clear hc h1
        go_enter Tryd.func36, Tryd.ntmps36
        go_wp2
        go_ret
        exact ⟨rfl, rfl⟩
      | false =>
        have x0 : (((s[n].toNat : Nat) : Int) == ((b : Nat) : Int)) = false := by rw [beq_eq_false_iff_ne] at hc ⊢; omega
        clear hc h1
        go_enter Tryd.func36, Tryd.ntmps36
        go_wp2
        go_ret
        exact ⟨rfl, rfl⟩
    · have hr : Hid ((hd (rest s n) == b) = false) := by unfold Hid; rw [hd_rest_out s n (by omega), beq_eq_false_iff_ne]; omega
      have x1 : decide ((n : Int) < (s.size : Int)) = false := decide_eq_false (by omega)
      clear h1
      go_enter Tryd.func36, Tryd.ntmps36
      go_wp2
      go_ret
      exact ⟨by rw [hr.out]; rfl, rfl⟩
theorem stands_at (s : ByteArray) (n b : Nat) (hb : b < 256) (hs : s.size ≤ 1125899906842624) (w : World) :
    Calls Tryd.prog 36 #[.string s, .int .i64 (n : Int), .int .u8 (b : Int)] w fun e w' => e = .returned (.bool (hd (rest s n) == b)) ∧ w = w' := by
  have := stands_any s (n : Int) b hb hs w
  rw [hdI_nat] at this
  exact this
theorem quoteAt_any (s : ByteArray) (i : Int) (hs : s.size ≤ 1125899906842624) (w : World) :
    Calls Tryd.prog 20 #[.string s, .int .i64 i] w fun e w' => e = .returned (.bool (hdI s i == 34 || hdI s i == 39)) ∧ w = w' := by
  have c1 := fun W => stands_any s i 34 (by omega) hs W
  have c2 := fun W => stands_any s i 39 (by omega) hs W
  cases h1 : hdI s i == 34 with
  | true =>
    rw [h1] at c1
    have C1 := Lib.hid c1
    clear c1 c2 h1
    go_enter Tryd.func20, Tryd.ntmps20
    go_wp2_with fail
    refine (C1.out _).mono ?_
    rintro e w1 ⟨rfl, rfl⟩
    go_wp2_with fail
    go_ret
    exact ⟨rfl, rfl⟩
  | false =>
    rw [h1] at c1
    have C1 := Lib.hid c1
    have C2 := Lib.hid c2
    clear c1 c2 h1
    go_enter Tryd.func20, Tryd.ntmps20
    go_wp2_with fail
    refine (C1.out _).mono ?_
    rintro e w1 ⟨rfl, rfl⟩
    go_wp2_with fail
    refine (C2.out _).mono ?_
    rintro e w1 ⟨rfl, rfl⟩
    go_wp2_with fail
    go_ret
    exact ⟨rfl, rfl⟩
theorem mayStand_any (c : Int) (n : Nat) (w : World) :
    Calls Tryd.prog 57 #[.int .i32 c, .int .i64 (n : Int)] w fun e w' => e = .returned (.bool (mayB c n)) ∧ w = w' := by
  have c1 := fun W => class_any c W
  by_cases h1 : c = 65533 ∧ n = 1
  · obtain ⟨rfl, rfl⟩ := h1
    go_enter Tryd.func57, Tryd.ntmps57
    go_wp2_with fail
    go_ret
    exact ⟨rfl, rfl⟩
  · have hm : mayB c n = if classI c = 0 then false else if classI c = 1 then decide (c = 32) else true := by unfold mayB; rw [if_neg h1]
    generalize mayB c n = mv at *
    generalize classI c = k at *
    have C1 := Lib.hid c1
    have key : ∀ (b : Bool), (if k = 0 then false else if k = 1 then decide (c = 32) else true) = b → Hid (mv = b) := fun _ h => hm.trans h
    clear c1 hm
    by_cases h2 : c = 65533
    · have hn : ((n : Int) == 1) = false := by rw [beq_eq_false_iff_ne]; intro e; exact h1 ⟨h2, by omega⟩
      have hc : (c == 65533) = true := by rw [beq_iff_eq]; exact h2
      have h32 : c ≠ 32 := by omega
      clear h1
      by_cases h3 : k = 0
      · have HK := key false (by rw [if_pos h3])
        have b1 : (k == 0) = true := by rw [beq_iff_eq]; exact h3
        clear key h2 h3 h32
        go_enter Tryd.func57, Tryd.ntmps57
        go_wp2_with fail
        refine (C1.out _).mono ?_
        rintro e w1 ⟨rfl, rfl⟩
        go_wp2_with fail
        go_ret
        exact ⟨by rw [HK.out] <;> rfl, rfl⟩
      · have b1 : (k == 0) = false := by rw [beq_eq_false_iff_ne]; exact h3
        by_cases h4 : k = 1
        · have HK := key false (by rw [if_neg h3, if_pos h4]; exact decide_eq_false h32)
          have b2 : (k == 1) = true := by rw [beq_iff_eq]; exact h4
          have b3 : (c == 32) = false := by rw [beq_eq_false_iff_ne]; exact h32
          clear key h2 h3 h32 h4
          go_enter Tryd.func57, Tryd.ntmps57
          go_wp2_with fail
          refine (C1.out _).mono ?_
          rintro e w1 ⟨rfl, rfl⟩
          go_wp2_with fail
          go_ret
          exact ⟨by rw [HK.out] <;> rfl, rfl⟩
        · have HK := key true (by rw [if_neg h3, if_neg h4])
          have b2 : (k == 1) = false := by rw [beq_eq_false_iff_ne]; exact h4
          clear key h2 h3 h32 h4
          go_enter Tryd.func57, Tryd.ntmps57
          go_wp2_with fail
          refine (C1.out _).mono ?_
          rintro e w1 ⟨rfl, rfl⟩
          go_wp2_with fail
          go_ret
          exact ⟨by rw [HK.out] <;> rfl, rfl⟩
    · have hc : (c == 65533) = false := by rw [beq_eq_false_iff_ne]; exact h2
      clear h1 h2
      by_cases h3 : k = 0
      · have HK := key false (by rw [if_pos h3])
        have b1 : (k == 0) = true := by rw [beq_iff_eq]; exact h3
        clear key h3
        go_enter Tryd.func57, Tryd.ntmps57
        go_wp2_with fail
        refine (C1.out _).mono ?_
        rintro e w1 ⟨rfl, rfl⟩
        go_wp2_with fail
        go_ret
        exact ⟨by rw [HK.out] <;> rfl, rfl⟩
      · have b1 : (k == 0) = false := by rw [beq_eq_false_iff_ne]; exact h3
        by_cases h4 : k = 1
        · have HK := key (c == 32) (by rw [if_neg h3, if_pos h4]; rfl)
          have b2 : (k == 1) = true := by rw [beq_iff_eq]; exact h4
          clear key h3 h4
          go_enter Tryd.func57, Tryd.ntmps57
          go_wp2_with fail
          refine (C1.out _).mono ?_
          rintro e w1 ⟨rfl, rfl⟩
          go_wp2_with fail
          go_ret
          exact ⟨by rw [HK.out] <;> rfl, rfl⟩
        · have HK := key true (by rw [if_neg h3, if_neg h4])
          have b2 : (k == 1) = false := by rw [beq_eq_false_iff_ne]; exact h4
          clear key h3 h4
          go_enter Tryd.func57, Tryd.ntmps57
          go_wp2_with fail
          refine (C1.out _).mono ?_
          rintro e w1 ⟨rfl, rfl⟩
          go_wp2_with fail
          go_ret
          exact ⟨by rw [HK.out] <;> rfl, rfl⟩

/-- glyph.Run over blanks. -/
theorem runEnd_rest (s : ByteArray) : ∀ (f n : Nat), s.size ≤ n + f → n ≤ s.size → runEnd s 1 f n = n + Wrd.run blkP (rest s n)
  | 0, n, hf, hn => by
    rw [Wrd.run_stop blkP (rest s n) (.inl (rest_nil s _ (by omega)))]
    unfold runEnd
    omega
  | f + 1, n, hf, hn => by
    by_cases h : n < s.size
    · have hw := width_ge s n
      have hx := width_fits s n h
      unfold runEnd
      rw [if_pos h]
      by_cases c : classI (((Utf8.decode s n).1 : Nat) : Int) = 1
      · rw [if_pos c, runEnd_rest s f _ (by omega) hx, Wrd.run_step blkP (rest s n) (rest_ne s n h) (by rw [rn_rest]; unfold blkP; rw [c]; rfl), wd_rest, rest_drop, Nat.add_assoc]
      · rw [if_neg c, Wrd.run_stop blkP (rest s n) (.inr (by rw [rn_rest]; unfold blkP; rw [beq_eq_false_iff_ne]; exact c))]
        rfl
    · rw [runEnd_end s 1 (f + 1) n h, Wrd.run_stop blkP (rest s n) (.inl (rest_nil s _ (by omega)))]
      omega
theorem runI_rest (s : ByteArray) (n : Nat) (hn : n ≤ s.size) : runI s (n : Int) 1 = ((n + Wrd.run blkP (rest s n) : Nat) : Int) := by
  unfold runI
  rw [if_neg (by omega), Int.toNat_natCast, runEnd_rest s _ _ (by omega) hn]
/-- Where a gap ends; n: there is none. -/
theorem gapEnd_any (s : ByteArray) (n : Nat) (hs : s.size ≤ 1125899906842624) (hn : n < s.size) (w : World) :
    Calls Tryd.prog 61 #[.string s, .int .i64 (n : Int)] w fun e w' => e = .returned (.int .i64 ((n + gapN (rest s n) : Nat) : Int)) ∧ Below w.heap.size w w' := by
  have hM : Hid (s.size ≤ maxLen) := by unfold Hid maxLen; omega
  have c1 : Hid (∀ W, Calls Tryd.prog 68 #[.string s, .int .i64 ((n : Int) + 1), .int .i64 1] W fun e w' => e = .returned (.int .i64 ((n + 1 + Wrd.run blkP (rest s (n + 1)) : Nat) : Int)) ∧ Below W.heap.size W w') := fun W => by
    have := run_any s ((n + 1 : Nat) : Int) 1 hM.out W
    rw [runI_rest s (n + 1) (by omega)] at this
    exact this
  have hg : gapN (rest s n) = if Wrd.run blkP (rest s (n + 1)) ≠ 0 ∧ hd (rest s (n + 1 + Wrd.run blkP (rest s (n + 1)))) = 92 then Wrd.run blkP (rest s (n + 1)) + 2 else 0 := by
    unfold gapN
    rw [rest_drop, rest_drop, Nat.add_assoc]
  have hr := run_blk_le (rest s (n + 1))
  rw [rest_len] at hr
  generalize Wrd.run blkP (rest s (n + 1)) = k at *
  have c2 := fun W => stands_at s (n + 1 + k) 92 (by omega) hs W
  obtain ⟨m, hm⟩ : ∃ m, n + 1 + k = m := ⟨_, rfl⟩
  rw [hm] at c1 c2 hg
  have C2 := Lib.hid c2
  clear c2
  by_cases h0 : k = 0
  · have HG : Hid (gapN (rest s n) = 0) := by unfold Hid; rw [hg, if_neg (by omega)]
    obtain rfl : m = n + 1 := by omega
    have x0 : ((((n + 1 : Nat) : Int)) == (n : Int) + 1) = true := by rw [beq_iff_eq]; omega
    clear hg hm h0 hr
    go_enter Tryd.func61, Tryd.ntmps61
    go_wp2_with fail
    refine (c1.out _).mono ?_
    rintro e w1 ⟨rfl, hb1⟩
    have HB1 := Lib.hid hb1
    clear hb1
    go_wp2_with fail
    go_ret
    exact ⟨by rw [HG.out]; rfl, HB1.out⟩
  · have x0 : (((m : Int)) == (n : Int) + 1) = false := by rw [beq_eq_false_iff_ne]; omega
    by_cases h1 : hd (rest s m) = 92
    · have C3 : Hid (∀ W, Calls Tryd.prog 36 #[.string s, .int .i64 (m : Int), .int .u8 92] W fun e w' => e = .returned (.bool true) ∧ W = w') := fun W => by
        have := C2.out W
        rw [show (hd (rest s m) == 92) = true from beq_iff_eq.2 h1] at this
        exact this
      have HG : Hid (gapN (rest s n) = k + 2) := by unfold Hid; rw [hg, if_pos ⟨h0, h1⟩]
      have hmb : m ≤ s.size := by omega
      clear hg h0 h1
      go_enter Tryd.func61, Tryd.ntmps61
      go_wp2_with fail
      refine (c1.out _).mono ?_
      rintro e w1 ⟨rfl, hb1⟩
      have HB1 := Lib.hid hb1
      clear hb1
      go_wp2_with fail
      refine (C3.out _).mono ?_
      rintro e w2 ⟨rfl, rfl⟩
      go_wp2_with fail
      go_ret
      refine ⟨?_, HB1.out⟩
      rw [HG.out]
      have : ((n + (k + 2) : Nat) : Int) = (m : Int) + 1 := by omega
      rw [this]
      rfl
    · have C3 : Hid (∀ W, Calls Tryd.prog 36 #[.string s, .int .i64 (m : Int), .int .u8 92] W fun e w' => e = .returned (.bool false) ∧ W = w') := fun W => by
        have := C2.out W
        rw [show (hd (rest s m) == 92) = false from beq_eq_false_iff_ne.2 h1] at this
        exact this
      have HG : Hid (gapN (rest s n) = 0) := by unfold Hid; rw [hg, if_neg (fun q => h1 q.2)]
      clear hg h0 h1
      go_enter Tryd.func61, Tryd.ntmps61
      go_wp2_with fail
      refine (c1.out _).mono ?_
      rintro e w1 ⟨rfl, hb1⟩
      have HB1 := Lib.hid hb1
      clear hb1
      go_wp2_with fail
      refine (C3.out _).mono ?_
      rintro e w2 ⟨rfl, rfl⟩
      go_wp2_with fail
      go_ret
      exact ⟨by rw [HG.out]; rfl, HB1.out⟩
end Go.Proofs.YtdppfhgihoibnaaDoor.Qt
