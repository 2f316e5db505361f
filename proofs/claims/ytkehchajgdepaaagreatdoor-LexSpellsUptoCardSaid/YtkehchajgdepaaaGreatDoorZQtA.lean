/-
  The contracts of strings.Builder's WriteByte, WriteString, String, of strings.HasPrefix, strings.IndexByte and strconv.Itoa at this program: each is the library's own theorem, the numbers put in. Conditions: what a builder holds and gets is below 2^47 bytes; the library's table of powers of ten stands.
-/
import Derived.Test.YtkehchajgdepaaaGreatDoorShf
import Derived.Test.YtkehchajgdepaaaGreatDoorRows
import Derived.Test.YtkehchajgdepaaaGreatDoorZMthA
import Derived.Test.YtkehchajgdepaaaGreatDoorZGlyNx
import Derived.Lib.SmallJoins
import Derived.Deep.Draws
import Derived.Lib.Hide
import Derived.Lib.ItoaNum
import Derived.Lib.FrozenHead
import Derived.WalkKit
import Derived.Lib.Strings
import Derived.Handy
import Derived.LoopTactic
import Derived.Laws.RangeAny
namespace Go.Proofs
open Go.Shelf
end Go.Proofs
namespace Go.Proofs.YtkehchajgdepaaaGreatDoor.Qt
open Go.RowKit
open Go.Lib (decDigits)

theorem builder_kept {T e : TypeId} {B b : Nat} {bs : List Value} {w w' : World} (h : Lib.IsBuilderF T e B b bs w)
    (hk : ∀ (k : Nat) (c : Array Value) (t : TypeId) (fz : Nat × Nat), w.heap[k]? = some (Obj.cells c t fz) → (t = T ∨ t = e) → w'.heap[k]? = some (Obj.cells c t fz)) : Lib.IsBuilderF T e B b bs w' := by
  have key : ∀ p, Lib.BuilderAtF T e B b p bs w → Lib.BuilderAtF T e B b p bs w' := by
    rintro p ⟨hB, v, hb, hown, hne⟩
    refine ⟨hB, v, hk _ _ _ _ hb (.inl rfl), ⟨hown.1, ?_⟩, hne⟩
    rcases hown.2 with hn | ⟨g, cap, cur, fz, rfl, h1, h2, h3⟩
    · exact .inl hn
    · exact .inr ⟨g, cap, cur, fz, rfl, h1, hk _ _ _ _ h2 (.inr rfl), h3⟩
  exact h.elim (fun x => .inl (key _ x)) (fun x => .inr (key _ x))
theorem builder_below {T e : TypeId} {B b : Nat} {bs : List Value} {w w' : World} (h : Lib.IsBuilderF T e B b bs w) (hb : Below w.heap.size w w') : Lib.IsBuilderF T e B b bs w' :=
  builder_kept h fun k _ _ _ hk _ => (hb.block k (lt_of_block hk)).trans hk
/-- What a builder holds. -/
def Bld (B b : Nat) (bs : List UInt8) (w : World) : Prop := Lib.IsBuilderF 65 5 B b (Lib.byteCells bs) w
theorem grow_below (w : World) (k : Nat) (os : Array Obj) : Below w.heap.size w (Go.Sort.grow (w.drewN k) os) := by
  refine ⟨rfl, rfl, rfl, ?_, ?_⟩
  · unfold Go.Sort.grow World.drewN
    dsimp only
    rw [Array.size_append]
    omega
  · intro j hj
    unfold Go.Sort.grow World.drewN
    dsimp only
    rw [Array.getElem?_append_left hj]
theorem prefix_any (s p : ByteArray) (w : World) :
    Calls Tryz.prog 30 #[.string s, .string p] w fun e w' => e = .returned (.bool (Lib.hasPrefix s.data.toList p.data.toList)) ∧ w = w' := by
  refine (Any.strings_HasPrefix Tryz.lays99 s p w).mono ?_
  rintro e w' ⟨rfl, rfl⟩
  exact ⟨rfl, rfl⟩
theorem index_any (s : ByteArray) (c : Int) (w : World) :
    Calls Tryz.prog 111 #[.string s, .int .u8 c] w fun e w' => e = .returned (.int .i64 (Lib.indexByte s.data.toList c.toNat.toUInt8)) ∧ w = w' := by
  refine (Any.strings_IndexByte Tryz.lays137 s c w).mono ?_
  rintro e w' ⟨rfl, rfl⟩
  exact ⟨rfl, rfl⟩
end Go.Proofs.YtkehchajgdepaaaGreatDoor.Qt
/-
  The contracts of package quote's small functions: what stands at a byte, gaps, what may stand for itself, digits. Condition: the string has at most 2^50 bytes.
-/
namespace Go.Proofs.YtkehchajgdepaaaGreatDoor.Qt
open Go.RowKit Gly
open Wrd (rn wd)
set_option linter.unusedSimpArgs false
set_option linter.unusedVariables false

/-- What is left of a string from byte n on. -/
def rest (s : ByteArray) (n : Nat) : List UInt8 := s.data.toList.drop n
theorem rest_len (s : ByteArray) (n : Nat) : (rest s n).length = s.size - n := by unfold rest; rw [List.length_drop, ← Lib.size_eq]
theorem rest_ne (s : ByteArray) (n : Nat) (h : n < s.size) : rest s n ≠ [] := by
  intro e
  have := rest_len s n
  rw [e] at this
  simp at this
  omega
theorem rest_nil (s : ByteArray) (n : Nat) (h : s.size ≤ n) : rest s n = [] := List.eq_nil_of_length_eq_zero (by rw [rest_len]; omega)
theorem rest_drop (s : ByteArray) (n k : Nat) : (rest s n).drop k = rest s (n + k) := by unfold rest; rw [List.drop_drop]
theorem rest_cons (s : ByteArray) (n : Nat) (h : n < s.size) : rest s n = s[n] :: rest s (n + 1) := by
  have hl := Lib.size_eq s
  unfold rest
  rw [List.drop_eq_getElem_cons (by omega)]
  rfl
theorem sub_rest (s : ByteArray) (n k : Nat) : rest (s.extract n s.size) k = rest s (n + k) := by
  unfold rest
  rw [Lib.extract_to_end, List.drop_drop]
theorem rn_rest (s : ByteArray) (n : Nat) : rn (rest s n) = (((Utf8.decode s n).1 : Nat) : Int) := by unfold rn rest; rw [Lib.decodeL_drop]
theorem wd_rest (s : ByteArray) (n : Nat) : wd (rest s n) = (Utf8.decode s n).2 := by unfold wd rest; rw [Lib.decodeL_drop]
theorem runeAt_rest (s : ByteArray) (n : Nat) (h : n < s.size) : runeAt s (n : Int) = (rn (rest s n), ((wd (rest s n) : Nat) : Int)) := by rw [runeAt_in s n h, rn_rest, wd_rest]
theorem runeAt_out (s : ByteArray) (i : Int) (h : ¬ (0 ≤ i ∧ i < s.size)) : runeAt s i = (0, 0) := by unfold runeAt; rw [if_neg h]
theorem hd_rest (s : ByteArray) (n : Nat) (h : n < s.size) : hd (rest s n) = s[n].toNat := by rw [rest_cons s n h]; rfl
theorem hd_rest_out (s : ByteArray) (n : Nat) (h : s.size ≤ n) : hd (rest s n) = 256 := by rw [rest_nil s n h]; rfl
/-- The byte at a place that may be negative; 256: none. -/
def hdI (s : ByteArray) (i : Int) : Nat := if 0 ≤ i then hd (rest s i.toNat) else 256
theorem hdI_nat (s : ByteArray) (n : Nat) : hdI s (n : Int) = hd (rest s n) := by unfold hdI; rw [if_pos (by omega), Int.toNat_natCast]
theorem below_drewN {B : Nat} {a w : World} (h : Below B a w) (n : Nat) : Below B a (w.drewN n) := ⟨h.os, h.tape, h.output, h.size, h.block⟩
theorem bytes_ext {a b : ByteArray} (h : a.data.toList = b.data.toList) : a = b := by
  apply ByteArray.ext
  exact Array.toList_inj.1 h

theorem stands_any (s : ByteArray) (i : Int) (b : Nat) (hb : b < 256) (hs : s.size ≤ 1125899906842624) (w : World) :
    Calls Tryz.prog 121 #[.string s, .int .i64 i, .int .u8 (b : Int)] w fun e w' => e = .returned (.bool (hdI s i == b)) ∧ w = w' := by
  by_cases h1 : i < 0
  · have hr : Hid ((hdI s i == b) = false) := by unfold Hid hdI; rw [if_neg (by omega), beq_eq_false_iff_ne]; omega
    go_enter Tryz.func121, Tryz.ntmps121
    go_wp2
    go_ret
    exact ⟨by rw [hr.out]; rfl, rfl⟩
  · obtain ⟨n, rfl⟩ := Int.eq_ofNat_of_zero_le (a := i) (by omega)
    rw [hdI_nat]
    by_cases h2 : n < s.size
    · rw [hd_rest s n h2]
      have i0 : (0 : Int) ≤ (n : Int) := by omega
      cases hc : s[n].toNat == b with
      | true =>
        have x0 : (((s[n].toNat : Nat) : Int) == ((b : Nat) : Int)) = true := by rw [beq_iff_eq] at hc ⊢; omega
        clear hc h1
        go_enter Tryz.func121, Tryz.ntmps121
        go_wp2
        go_ret
        exact ⟨rfl, rfl⟩
      | false =>
        have x0 : (((s[n].toNat : Nat) : Int) == ((b : Nat) : Int)) = false := by rw [beq_eq_false_iff_ne] at hc ⊢; omega
        clear hc h1
        go_enter Tryz.func121, Tryz.ntmps121
        go_wp2
        go_ret
        exact ⟨rfl, rfl⟩
    · have hr : Hid ((hd (rest s n) == b) = false) := by unfold Hid; rw [hd_rest_out s n (by omega), beq_eq_false_iff_ne]; omega
      have x1 : decide ((n : Int) < (s.size : Int)) = false := decide_eq_false (by omega)
      clear h1
      go_enter Tryz.func121, Tryz.ntmps121
      go_wp2
      go_ret
      exact ⟨by rw [hr.out]; rfl, rfl⟩
theorem stands_at (s : ByteArray) (n b : Nat) (hb : b < 256) (hs : s.size ≤ 1125899906842624) (w : World) :
    Calls Tryz.prog 121 #[.string s, .int .i64 (n : Int), .int .u8 (b : Int)] w fun e w' => e = .returned (.bool (hd (rest s n) == b)) ∧ w = w' := by
  have := stands_any s (n : Int) b hb hs w
  rw [hdI_nat] at this
  exact this
theorem quoteAt_any (s : ByteArray) (i : Int) (hs : s.size ≤ 1125899906842624) (w : World) :
    Calls Tryz.prog 99 #[.string s, .int .i64 i] w fun e w' => e = .returned (.bool (hdI s i == 34 || hdI s i == 39)) ∧ w = w' := by
  have c1 := fun W => stands_any s i 34 (by omega) hs W
  have c2 := fun W => stands_any s i 39 (by omega) hs W
  cases h1 : hdI s i == 34 with
  | true =>
    rw [h1] at c1
    have C1 := Lib.hid c1
    clear c1 c2 h1
    go_enter Tryz.func99, Tryz.ntmps99
    go_wp2_with fail
    refine (C1.out _).mono ?_
    rintro e w1 ⟨rfl, rfl⟩
    go_wp2_with fail
    go_ret
    exact ⟨rfl, rfl⟩
  | false =>
    rw [h1] at c1
    have C1 := Lib.hid c1
    have C2 := Lib.hid c2
    clear c1 c2 h1
    go_enter Tryz.func99, Tryz.ntmps99
    go_wp2_with fail
    refine (C1.out _).mono ?_
    rintro e w1 ⟨rfl, rfl⟩
    go_wp2_with fail
    refine (C2.out _).mono ?_
    rintro e w1 ⟨rfl, rfl⟩
    go_wp2_with fail
    go_ret
    exact ⟨rfl, rfl⟩
theorem mayStand_any (c : Int) (n : Nat) (w : World) :
    Calls Tryz.prog 148 #[.int .i32 c, .int .i64 (n : Int)] w fun e w' => e = .returned (.bool (mayB c n)) ∧ w = w' := by
  have c1 := fun W => class_any c W
  by_cases h1 : c = 65533 ∧ n = 1
  · obtain ⟨rfl, rfl⟩ := h1
    go_enter Tryz.func148, Tryz.ntmps148
    go_wp2_with fail
    go_ret
    exact ⟨rfl, rfl⟩
  · have hm : mayB c n = if classI c = 0 then false else if classI c = 1 then decide (c = 32) else true := by unfold mayB; rw [if_neg h1]
    generalize mayB c n = mv at *
    generalize classI c = k at *
    have C1 := Lib.hid c1
    have key : ∀ (b : Bool), (if k = 0 then false else if k = 1 then decide (c = 32) else true) = b → Hid (mv = b) := fun _ h => hm.trans h
    clear c1 hm
    by_cases h2 : c = 65533
    · have hn : ((n : Int) == 1) = false := by rw [beq_eq_false_iff_ne]; intro e; exact h1 ⟨h2, by omega⟩
      have hc : (c == 65533) = true := by rw [beq_iff_eq]; exact h2
      have h32 : c ≠ 32 := by omega
      clear h1
      by_cases h3 : k = 0
      · have HK := key false (by rw [if_pos h3])
        have b1 : (k == 0) = true := by rw [beq_iff_eq]; exact h3
        clear key h2 h3 h32
        go_enter Tryz.func148, Tryz.ntmps148
        go_wp2_with fail
        refine (C1.out _).mono ?_
        rintro e w1 ⟨rfl, rfl⟩
        go_wp2_with fail
        go_ret
        exact ⟨by rw [HK.out] <;> rfl, rfl⟩
      · have b1 : (k == 0) = false := by rw [beq_eq_false_iff_ne]; exact h3
        by_cases h4 : k = 1
        · have HK := key false (by rw [if_neg h3, if_pos h4]; exact decide_eq_false h32)
          have b2 : (k == 1) = true := by rw [beq_iff_eq]; exact h4
          have b3 : (c == 32) = false := by rw [beq_eq_false_iff_ne]; exact h32
          clear key h2 h3 h32 h4
          go_enter Tryz.func148, Tryz.ntmps148
          go_wp2_with fail
          refine (C1.out _).mono ?_
          rintro e w1 ⟨rfl, rfl⟩
          go_wp2_with fail
          go_ret
          exact ⟨by rw [HK.out] <;> rfl, rfl⟩
        · have HK := key true (by rw [if_neg h3, if_neg h4])
          have b2 : (k == 1) = false := by rw [beq_eq_false_iff_ne]; exact h4
          clear key h2 h3 h32 h4
          go_enter Tryz.func148, Tryz.ntmps148
          go_wp2_with fail
          refine (C1.out _).mono ?_
          rintro e w1 ⟨rfl, rfl⟩
          go_wp2_with fail
          go_ret
          exact ⟨by rw [HK.out] <;> rfl, rfl⟩
    · have hc : (c == 65533) = false := by rw [beq_eq_false_iff_ne]; exact h2
      clear h1 h2
      by_cases h3 : k = 0
      · have HK := key false (by rw [if_pos h3])
        have b1 : (k == 0) = true := by rw [beq_iff_eq]; exact h3
        clear key h3
        go_enter Tryz.func148, Tryz.ntmps148
        go_wp2_with fail
        refine (C1.out _).mono ?_
        rintro e w1 ⟨rfl, rfl⟩
        go_wp2_with fail
        go_ret
        exact ⟨by rw [HK.out] <;> rfl, rfl⟩
      · have b1 : (k == 0) = false := by rw [beq_eq_false_iff_ne]; exact h3
        by_cases h4 : k = 1
        · have HK := key (c == 32) (by rw [if_neg h3, if_pos h4]; rfl)
          have b2 : (k == 1) = true := by rw [beq_iff_eq]; exact h4
          clear key h3 h4
          go_enter Tryz.func148, Tryz.ntmps148
          go_wp2_with fail
          refine (C1.out _).mono ?_
          rintro e w1 ⟨rfl, rfl⟩
          go_wp2_with fail
          go_ret
          exact ⟨by rw [HK.out] <;> rfl, rfl⟩
        · have HK := key true (by rw [if_neg h3, if_neg h4])
          have b2 : (k == 1) = false := by rw [beq_eq_false_iff_ne]; exact h4
          clear key h3 h4
          go_enter Tryz.func148, Tryz.ntmps148
          go_wp2_with fail
          refine (C1.out _).mono ?_
          rintro e w1 ⟨rfl, rfl⟩
          go_wp2_with fail
          go_ret
          exact ⟨by rw [HK.out] <;> rfl, rfl⟩

/-- glyph.Run over blanks. -/
theorem runEnd_rest (s : ByteArray) : ∀ (f n : Nat), s.size ≤ n + f → n ≤ s.size → runEnd s 1 f n = n + Wrd.run blkP (rest s n)
  | 0, n, hf, hn => by
    rw [Wrd.run_stop blkP (rest s n) (.inl (rest_nil s _ (by omega)))]
    unfold runEnd
    omega
  | f + 1, n, hf, hn => by
    by_cases h : n < s.size
    · have hw := width_ge s n
      have hx := width_fits s n h
      unfold runEnd
      rw [if_pos h]
      by_cases c : classI (((Utf8.decode s n).1 : Nat) : Int) = 1
      · rw [if_pos c, runEnd_rest s f _ (by omega) hx, Wrd.run_step blkP (rest s n) (rest_ne s n h) (by rw [rn_rest]; unfold blkP; rw [c]; rfl), wd_rest, rest_drop, Nat.add_assoc]
      · rw [if_neg c, Wrd.run_stop blkP (rest s n) (.inr (by rw [rn_rest]; unfold blkP; rw [beq_eq_false_iff_ne]; exact c))]
        rfl
    · rw [runEnd_end s 1 (f + 1) n h, Wrd.run_stop blkP (rest s n) (.inl (rest_nil s _ (by omega)))]
      omega
theorem runI_rest (s : ByteArray) (n : Nat) (hn : n ≤ s.size) : runI s (n : Int) 1 = ((n + Wrd.run blkP (rest s n) : Nat) : Int) := by
  unfold runI
  rw [if_neg (by omega), Int.toNat_natCast, runEnd_rest s _ _ (by omega) hn]
/-- Where a gap ends; n: there is none. -/
theorem gapEnd_any (s : ByteArray) (n : Nat) (hs : s.size ≤ 1125899906842624) (hn : n < s.size) (w : World) :
    Calls Tryz.prog 152 #[.string s, .int .i64 (n : Int)] w fun e w' => e = .returned (.int .i64 ((n + gapN (rest s n) : Nat) : Int)) ∧ Below w.heap.size w w' := by
  have hM : Hid (s.size ≤ maxLen) := by unfold Hid maxLen; omega
  have c1 : Hid (∀ W, Calls Tryz.prog 61 #[.string s, .int .i64 ((n : Int) + 1), .int .i64 1] W fun e w' => e = .returned (.int .i64 ((n + 1 + Wrd.run blkP (rest s (n + 1)) : Nat) : Int)) ∧ Below W.heap.size W w') := fun W => by
    have := run_any s ((n + 1 : Nat) : Int) 1 hM.out W
    rw [runI_rest s (n + 1) (by omega)] at this
    exact this
  have hg : gapN (rest s n) = if Wrd.run blkP (rest s (n + 1)) ≠ 0 ∧ hd (rest s (n + 1 + Wrd.run blkP (rest s (n + 1)))) = 92 then Wrd.run blkP (rest s (n + 1)) + 2 else 0 := by
    unfold gapN
    rw [rest_drop, rest_drop, Nat.add_assoc]
  have hr := run_blk_le (rest s (n + 1))
  rw [rest_len] at hr
  generalize Wrd.run blkP (rest s (n + 1)) = k at *
  have c2 := fun W => stands_at s (n + 1 + k) 92 (by omega) hs W
  obtain ⟨m, hm⟩ : ∃ m, n + 1 + k = m := ⟨_, rfl⟩
  rw [hm] at c1 c2 hg
  have C2 := Lib.hid c2
  clear c2
  by_cases h0 : k = 0
  · have HG : Hid (gapN (rest s n) = 0) := by unfold Hid; rw [hg, if_neg (by omega)]
    obtain rfl : m = n + 1 := by omega
    have x0 : ((((n + 1 : Nat) : Int)) == (n : Int) + 1) = true := by rw [beq_iff_eq]; omega
    clear hg hm h0 hr
    go_enter Tryz.func152, Tryz.ntmps152
    go_wp2_with fail
    refine (c1.out _).mono ?_
    rintro e w1 ⟨rfl, hb1⟩
    have HB1 := Lib.hid hb1
    clear hb1
    go_wp2_with fail
    go_ret
    exact ⟨by rw [HG.out]; rfl, HB1.out⟩
  · have x0 : (((m : Int)) == (n : Int) + 1) = false := by rw [beq_eq_false_iff_ne]; omega
    by_cases h1 : hd (rest s m) = 92
    · have C3 : Hid (∀ W, Calls Tryz.prog 121 #[.string s, .int .i64 (m : Int), .int .u8 92] W fun e w' => e = .returned (.bool true) ∧ W = w') := fun W => by
        have := C2.out W
        rw [show (hd (rest s m) == 92) = true from beq_iff_eq.2 h1] at this
        exact this
      have HG : Hid (gapN (rest s n) = k + 2) := by unfold Hid; rw [hg, if_pos ⟨h0, h1⟩]
      have hmb : m ≤ s.size := by omega
      clear hg h0 h1
      go_enter Tryz.func152, Tryz.ntmps152
      go_wp2_with fail
      refine (c1.out _).mono ?_
      rintro e w1 ⟨rfl, hb1⟩
      have HB1 := Lib.hid hb1
      clear hb1
      go_wp2_with fail
      refine (C3.out _).mono ?_
      rintro e w2 ⟨rfl, rfl⟩
      go_wp2_with fail
      go_ret
      refine ⟨?_, HB1.out⟩
      rw [HG.out]
      have : ((n + (k + 2) : Nat) : Int) = (m : Int) + 1 := by omega
      rw [this]
      rfl
    · have C3 : Hid (∀ W, Calls Tryz.prog 121 #[.string s, .int .i64 (m : Int), .int .u8 92] W fun e w' => e = .returned (.bool false) ∧ W = w') := fun W => by
        have := C2.out W
        rw [show (hd (rest s m) == 92) = false from beq_eq_false_iff_ne.2 h1] at this
        exact this
      have HG : Hid (gapN (rest s n) = 0) := by unfold Hid; rw [hg, if_neg (fun q => h1 q.2)]
      clear hg h0 h1
      go_enter Tryz.func152, Tryz.ntmps152
      go_wp2_with fail
      refine (c1.out _).mono ?_
      rintro e w1 ⟨rfl, hb1⟩
      have HB1 := Lib.hid hb1
      clear hb1
      go_wp2_with fail
      refine (C3.out _).mono ?_
      rintro e w2 ⟨rfl, rfl⟩
      go_wp2_with fail
      go_ret
      exact ⟨by rw [HG.out]; rfl, HB1.out⟩
end Go.Proofs.YtkehchajgdepaaaGreatDoor.Qt
/-
  The contracts of package quote's escapes: control, digits, lettered, named, escape. Conditions: the string has at most 2^50 bytes; the program's list of names stands.
-/
namespace Go.Proofs.YtkehchajgdepaaaGreatDoor.Qt
open Go.RowKit Gly
open Wrd (rn wd)
set_option linter.unusedSimpArgs false
set_option linter.unusedVariables false

theorem dig_rune (s : ByteArray) (p : Nat) (hp : p < s.size) (b : Nat) : digitI (((Utf8.decode s p).1 : Nat) : Int) (b : Int) = Num.dg b s[p] ∧ (Num.isD b s[p] = true → (Utf8.decode s p).2 = 1) := by
  have hl := Lib.size_eq s
  have hg : (s.data.toList.getD p 0) = s[p] := by
    rw [List.getD_eq_getElem?_getD, List.getElem?_eq_getElem (by omega)]
    rfl
  have none : ∀ c : Int, 128 ≤ c → digitI c (b : Int) = -1 := by
    intro c hc
    have : digV c = -1 := by
      unfold digV wthn
      simp only [Bool.and_eq_true, decide_eq_true_eq]
      rw [if_neg (by omega), if_neg (by omega), if_neg (by omega)]
    unfold digitI
    rw [this]
    split <;> rfl
  by_cases ha : (s[p]).toNat < 128
  · rw [Lib.decode_N, hg, Lib.decodeN_ascii _ _ _ _ _ ha]
    exact ⟨rfl, fun _ => rfl⟩
  · have := (decode_high s p hp (by omega)).1
    rw [none _ (by omega)]
    have e : Num.dg b s[p] = -1 := none _ (by omega)
    refine ⟨e.symm, fun h => ?_⟩
    unfold Num.isD at h
    rw [e] at h
    simp at h
/-- Digits read one by one, the number never beyond one more than the greatest. -/
def digG (b : Nat) : Nat → List UInt8 → Nat × Nat
  | v, [] => (v, 0)
  | v, x :: L => if Num.isD b x = true then ((digG b (min (v * b + (Num.dg b x).toNat) 1114112) L).1, (digG b (min (v * b + (Num.dg b x).toNat) 1114112) L).2 + 1) else (v, 0)
theorem digG_is (b : Nat) (hb : 1 ≤ b) : ∀ (L : List UInt8) (v : Nat), digG b (min v 1114112) L = (min (Num.valOf b v (L.take (Num.run b L))) 1114112, Num.run b L)
  | [], v => rfl
  | x :: L, v => by
    rw [digG, Num.run]
    by_cases q : Num.isD b x = true
    · rw [if_pos q, if_pos q, List.take_succ_cons, Num.valOf]
      have e : min (min v 1114112 * b + (Num.dg b x).toNat) 1114112 = min (v * b + (Num.dg b x).toNat) 1114112 := by
        rcases Nat.le_total v 1114112 with h | h
        · rw [Nat.min_eq_left h]
        · rw [Nat.min_eq_right h]
          have h1 : 1114112 * 1 ≤ 1114112 * b := Nat.mul_le_mul_left _ hb
          have h2 : v * 1 ≤ v * b := Nat.mul_le_mul_left _ hb
          omega
      rw [e, digG_is b hb L]
    · rw [if_neg q, if_neg q, List.take_zero, Num.valOf]
theorem digG_zero (b : Nat) (hb : 1 ≤ b) (L : List UInt8) : digG b 0 L = digE b L := digG_is b hb L 0

theorem control_any (t : ByteArray) (h0 : 0 < t.size) (hs : t.size ≤ 1125899906842624) (w : World) :
    Calls Tryz.prog 154 #[.string t] w fun e w' => e = .returned (.tuple #[.int .i64 (((if 64 ≤ hd (rest t 1) ∧ hd (rest t 1) ≤ 95 then (hd (rest t 1) - 64, 2) else (0, 0)) : Nat × Nat).1 : Int), .int .i64 (((if 64 ≤ hd (rest t 1) ∧ hd (rest t 1) ≤ 95 then (hd (rest t 1) - 64, 2) else (0, 0)) : Nat × Nat).2 : Int)]) ∧ w = w' := by
  by_cases h1 : t.size = 1
  · have x0 : ((t.size : Int) == 1) = true := by rw [beq_iff_eq]; omega
    rw [hd_rest_out t 1 (by omega), if_neg (by omega)]
    go_enter Tryz.func154, Tryz.ntmps154
    go_wp2_with fail
    go_ret2
    exact ⟨rfl, rfl⟩
  · have x0 : ((t.size : Int) == 1) = false := by rw [beq_eq_false_iff_ne]; omega
    have hin : 1 < t.size := by omega
    have hx := t[1].toNat_lt
    rw [hd_rest t 1 hin]
    by_cases h2 : t[1].toNat < 64
    · rw [if_neg (by omega)]
      have x1 : decide (((t[1].toNat : Nat) : Int) < 64) = true := decide_eq_true (by omega)
      go_enter Tryz.func154, Tryz.ntmps154
      go_wp2_with fail
      go_ret2
      exact ⟨rfl, rfl⟩
    · have x1 : decide (((t[1].toNat : Nat) : Int) < 64) = false := decide_eq_false (by omega)
      by_cases h3 : 95 < t[1].toNat
      · rw [if_neg (by omega)]
        have x2 : decide ((95 : Int) < ((t[1].toNat : Nat) : Int)) = true := decide_eq_true (by omega)
        go_enter Tryz.func154, Tryz.ntmps154
        go_wp2_with fail
        go_ret2
        exact ⟨rfl, rfl⟩
      · rw [if_pos (by omega)]
        have x2 : decide ((95 : Int) < ((t[1].toNat : Nat) : Int)) = false := decide_eq_false (by omega)
        have hsub : ((t[1].toNat - 64 : Nat) : Int) = ((t[1].toNat : Nat) : Int) - 64 := by omega
        dsimp only
        rw [hsub]
        clear hsub
        go_enter Tryz.func154, Tryz.ntmps154
        go_wp2_with fail
        go_ret2
        exact ⟨rfl, rfl⟩

set_option maxHeartbeats 1000000 in
theorem digits_any (t : ByteArray) (b : Nat) (hb : 2 ≤ b) (hb2 : b ≤ 16) (hs : t.size ≤ 1125899906842624) (w : World) :
    Calls Tryz.prog 157 #[.string t, .int .i64 (b : Int)] w fun e w' => e = .returned (.tuple #[.int .i64 ((digE b t.data.toList).1 : Int), .int .i64 ((digE b t.data.toList).2 : Int)]) ∧ Below w.heap.size w w' := by
  rw [← digG_zero b (by omega)]
  obtain ⟨V, hV⟩ : ∃ V, (digG b 0 (rest t 0)).1 = V := ⟨_, rfl⟩
  obtain ⟨R, hR⟩ : ∃ R, (digG b 0 (rest t 0)).2 = R := ⟨_, rfl⟩
  have e0 : rest t 0 = t.data.toList := rfl
  rw [e0] at hV hR
  rw [hV, hR]
  rw [← e0] at hV hR
  have HV := Lib.hid hV
  have HR := Lib.hid hR
  clear hV hR e0
  go_enter Tryz.func157, Tryz.ntmps157
  go_wp2_with fail
  go_loopw [4] (fun v wr => ∃ (p x : Nat), v = .int .i64 (x : Int) ∧ wr = w.iter t p ∧ p ≤ t.size ∧ x ≤ 1114112 ∧ (digG b x (rest t p)).1 = V ∧ p + (digG b x (rest t p)).2 = R) (fun _ wr => t.size - wr.iterPos w.heap.size)
  case atStart => exact ⟨0, 0, rfl, rfl, Nat.zero_le _, by omega, HV.out, by rw [Nat.zero_add]; exact HR.out⟩
  case round =>
    obtain ⟨p, x, rfl, rfl, hp0, hx0, hv, hr⟩ := hrel
    have HV2 := Lib.hid hv
    have HR2 := Lib.hid hr
    clear hv hr
    by_cases hp : p < t.size
    · have hw := width_fits t p hp
      have hc := rune_le t p
      obtain ⟨hd1, hd2⟩ := dig_rune t p hp b
      have C : Hid (∀ W, Calls Tryz.prog 136 #[.int .i32 (((Utf8.decode t p).1 : Nat) : Int), .int .i64 (b : Int)] W fun e w' => e = .returned (.int .i64 (Num.dg b t[p])) ∧ W = w') := fun W => by have := digit_any (((Utf8.decode t p).1 : Nat) : Int) b W; rw [hd1] at this; exact this
      have hbd := Num.dg_bd b t[p]
      have hnx : ∀ ty, (Instr.next (.pointer (some ⟨w.heap.size, 0, none⟩)) true ty).run Tryz.prog (w.iter t p) = .ok (.tuple #[.bool true, .int .i64 (p : Int), .int .i32 (((Utf8.decode t p).1 : Nat) : Int)]) (w.iter t (p + (Utf8.decode t p).2)) := fun ty =>
        run_next_any (P := Tryz.prog) w t p ty hp
      have hcons := rest_cons t p hp
      have hv := HV2.out
      have hr := HR2.out
      rw [hcons, digG] at hv hr
      by_cases hd0 : Num.isD b t[p] = true
      · rw [if_pos hd0] at hv hr
        dsimp only at hv hr
        have hdd : 0 ≤ Num.dg b t[p] := of_decide_eq_true hd0
        obtain ⟨dd, hdd2⟩ : ∃ dd : Nat, Num.dg b t[p] = (dd : Int) := ⟨(Num.dg b t[p]).toNat, by omega⟩
        rw [hdd2] at C hv hr hbd hdd
        rw [Int.toNat_natCast] at hv hr
        have W1 := Lib.hid (hd2 hd0)
        have hd15 : dd ≤ 15 := by omega
        have hm1 : ((x : Int) * (b : Int)) = ((x * b : Nat) : Int) := (Int.natCast_mul x b).symm
        have hm0 : x * b ≤ 1114112 * 16 := Nat.mul_le_mul hx0 hb2
        have hm2 : (x : Int) * (b : Int) ≤ 17825792 := by omega
        have hm3 : 0 ≤ (x : Int) * (b : Int) := by omega
        have HM := Lib.hid hm1
        have HV3 := Lib.hid hv
        have HR3 := Lib.hid hr
        have hneg : decide ((dd : Int) < 0) = false := decide_eq_false (by omega)
        clear hv hr hd1 hd2 hd0 hcons hbd hdd hdd2 hm1 hm0
        go_wp2_with fail
        refine (C.out _).mono ?_
        rintro e w1 ⟨rfl, rfl⟩
        go_wp2_with fail
        go_roundw
        case rel =>
          refine ⟨p + 1, min (x * b + dd) 1114112, ?_, ?_, by omega, by omega, HV3.out, by rw [← HR3.out]; omega⟩
          · have := HM.out
            rw [this]
            congr 1
            simp
            omega
          · rw [W1.out]
        case measure => have := W1.out; simp; omega
      · rw [if_neg hd0] at hv hr
        dsimp only at hv hr
        have hdd : Num.dg b t[p] = -1 := by
          unfold Num.isD at hd0
          have := of_decide_eq_false (Bool.eq_false_iff.2 hd0)
          omega
        rw [hdd] at C
        have HV3 := Lib.hid hv
        have HR3 := Lib.hid hr
        clear hv hr hd1 hd2 hd0 hcons hbd hdd
        go_wp2_with fail
        refine (C.out _).mono ?_
        rintro e w1 ⟨rfl, rfl⟩
        go_wp2_with fail
        go_ret2
        refine ⟨?_, (Below.refl _ _).alloc (Nat.le_refl _) _⟩
        rw [← HV3.out, ← HR3.out]
        rfl
    · have hnx : ∀ ty, (Instr.next (.pointer (some ⟨w.heap.size, 0, none⟩)) true ty).run Tryz.prog (w.iter t p) = _ := fun ty =>
        run_next_end (P := Tryz.prog) w t p ty hp
      go_wp2_with fail
      go_ret2
      refine ⟨?_, (Below.refl _ _).alloc (Nat.le_refl _) _⟩
      have hv := HV2.out
      have hr := HR2.out
      rw [rest_nil t p (by omega), digG] at hv hr
      dsimp only at hv hr
      have : t.size = R := by omega
      rw [← hv, ← this]
      rfl
theorem lettered_any (t : ByteArray) (b : Nat) (hb : 2 ≤ b) (hb2 : b ≤ 16) (h0 : 0 < t.size) (hs : t.size ≤ 1125899906842624) (w : World) :
    Calls Tryz.prog 155 #[.string t, .int .i64 (b : Int)] w fun e w' => e = .returned (.tuple #[.int .i64 ((lettE b (rest t 1)).1 : Int), .int .i64 ((lettE b (rest t 1)).2 : Int)]) ∧ Below w.heap.size w w' := by
  have hz := size_tail t 1
  have c1 := fun W => digits_any (t.extract 1 t.size) b hb hb2 (by omega) W
  have e1 : (t.extract 1 t.size).data.toList = rest t 1 := by rw [Lib.extract_to_end]; rfl
  rw [e1] at c1
  have hle := Num.run_le b (rest t 1)
  rw [rest_len] at hle
  have hq : lettE b (rest t 1) = if (digE b (rest t 1)).2 = 0 then (0, 0) else ((digE b (rest t 1)).1, (digE b (rest t 1)).2 + 1) := rfl
  have hd2 : (digE b (rest t 1)).2 = Num.run b (rest t 1) := rfl
  rw [← hd2] at hle
  generalize lettE b (rest t 1) = z at *
  generalize digE b (rest t 1) = y at *
  obtain ⟨y1, y2⟩ := y
  dsimp only at hle hq c1
  have C1 := Lib.hid c1
  have i1 : (1 : Int) ≤ (t.size : Int) := by omega
  by_cases h : y2 = 0
  · subst h
    rw [if_pos rfl] at hq
    subst hq
    clear c1 e1 hd2
    go_enter Tryz.func155, Tryz.ntmps155
    go_wp2_with fail
    refine (C1.out _).mono ?_
    rintro e w1 ⟨rfl, hb1⟩
    have HB1 := Lib.hid hb1
    clear hb1
    go_wp2_with fail
    go_ret2
    exact ⟨rfl, HB1.out⟩
  · rw [if_neg h] at hq
    subst hq
    have x0 : ((y2 : Int) == 0) = false := by rw [beq_eq_false_iff_ne]; omega
    clear c1 e1 hd2 h
    go_enter Tryz.func155, Tryz.ntmps155
    go_wp2_with fail
    refine (C1.out _).mono ?_
    rintro e w1 ⟨rfl, hb1⟩
    have HB1 := Lib.hid hb1
    clear hb1
    go_wp2_with fail
    go_ret2
    exact ⟨rfl, HB1.out⟩
end Go.Proofs.YtkehchajgdepaaaGreatDoor.Qt
