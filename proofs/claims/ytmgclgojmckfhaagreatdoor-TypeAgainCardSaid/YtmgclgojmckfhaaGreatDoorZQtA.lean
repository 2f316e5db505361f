/-
  The contracts of strings.Builder's WriteByte, WriteString, String, of strings.HasPrefix, strings.IndexByte and strconv.Itoa at this program: each is the library's own theorem, the numbers put in. Conditions: what a builder holds and gets is below 2^47 bytes; the library's table of powers of ten stands.
-/
import Derived.Test.YtmgclgojmckfhaaGreatDoorShf
import Derived.Test.YtmgclgojmckfhaaGreatDoorRows
import Derived.Test.YtmgclgojmckfhaaGreatDoorZMthA
import Derived.Test.YtmgclgojmckfhaaGreatDoorZGlyB
import Derived.Lib.SmallJoins
import Derived.Deep.Draws
import Derived.Lib.Hide
import Derived.Lib.ItoaNum
import Derived.Lib.FrozenHead
import Derived.WalkKit
import Derived.Lib.Strings
import Derived.Handy
import Derived.LoopTactic
import Derived.Laws.RangeAny
import Derived.Laws.Rows
import Derived.Lib.LaidTab
namespace Go.Proofs
open Go.Shelf
end Go.Proofs
namespace Go.Proofs.YtmgclgojmckfhaaGreatDoor.Qt
open Go.RowKit
open Go.Lib (decDigits)

theorem builder_kept {T e : TypeId} {B b : Nat} {bs : List Value} {w w' : World} (h : Lib.IsBuilderF T e B b bs w)
    (hk : ∀ (k : Nat) (c : Array Value) (t : TypeId) (fz : Nat × Nat), w.heap[k]? = some (Obj.cells c t fz) → (t = T ∨ t = e) → w'.heap[k]? = some (Obj.cells c t fz)) : Lib.IsBuilderF T e B b bs w' := by
  have key : ∀ p, Lib.BuilderAtF T e B b p bs w → Lib.BuilderAtF T e B b p bs w' := by
    rintro p ⟨hB, v, hb, hown, hne⟩
    refine ⟨hB, v, hk _ _ _ _ hb (.inl rfl), ⟨hown.1, ?_⟩, hne⟩
    rcases hown.2 with hn | ⟨g, cap, cur, fz, rfl, h1, h2, h3⟩
    · exact .inl hn
    · exact .inr ⟨g, cap, cur, fz, rfl, h1, hk _ _ _ _ h2 (.inr rfl), h3⟩
  exact h.elim (fun x => .inl (key _ x)) (fun x => .inr (key _ x))
theorem builder_below {T e : TypeId} {B b : Nat} {bs : List Value} {w w' : World} (h : Lib.IsBuilderF T e B b bs w) (hb : Below w.heap.size w w') : Lib.IsBuilderF T e B b bs w' :=
  builder_kept h fun k _ _ _ hk _ => (hb.block k (lt_of_block hk)).trans hk
/-- What a builder holds. -/
def Bld (B b : Nat) (bs : List UInt8) (w : World) : Prop := Lib.IsBuilderF 71 5 B b (Lib.byteCells bs) w
theorem prefix_any (s p : ByteArray) (w : World) :
    Calls Tryz.prog 57 #[.string s, .string p] w fun e w' => e = .returned (.bool (Lib.hasPrefix s.data.toList p.data.toList)) ∧ w = w' := by
  refine (Any.strings_HasPrefix Tryz.lays99 s p w).mono ?_
  rintro e w' ⟨rfl, rfl⟩
  exact ⟨rfl, rfl⟩
theorem index_any (s : ByteArray) (c : Int) (w : World) :
    Calls Tryz.prog 117 #[.string s, .int .u8 c] w fun e w' => e = .returned (.int .i64 (Lib.indexByte s.data.toList c.toNat.toUInt8)) ∧ w = w' := by
  refine (Any.strings_IndexByte Tryz.lays137 s c w).mono ?_
  rintro e w' ⟨rfl, rfl⟩
  exact ⟨rfl, rfl⟩
end Go.Proofs.YtmgclgojmckfhaaGreatDoor.Qt
/-
  The contracts of package quote's small functions: what stands at a byte, gaps, what may stand for itself, digits. Condition: the string has at most 2^50 bytes.
-/
namespace Go.Proofs.YtmgclgojmckfhaaGreatDoor.Qt
open Go.RowKit Gly
open Wrd (rn wd)
set_option linter.unusedSimpArgs false
set_option linter.unusedVariables false

/-- What is left of a string from byte n on. -/
def rest (s : ByteArray) (n : Nat) : List UInt8 := s.data.toList.drop n
theorem rest_len (s : ByteArray) (n : Nat) : (rest s n).length = s.size - n := by unfold rest; rw [List.length_drop, ← Lib.size_eq]
theorem rest_ne (s : ByteArray) (n : Nat) (h : n < s.size) : rest s n ≠ [] := by
  intro e
  have := rest_len s n
  rw [e] at this
  simp at this
  omega
theorem rest_nil (s : ByteArray) (n : Nat) (h : s.size ≤ n) : rest s n = [] := List.eq_nil_of_length_eq_zero (by rw [rest_len]; omega)
theorem rest_drop (s : ByteArray) (n k : Nat) : (rest s n).drop k = rest s (n + k) := by unfold rest; rw [List.drop_drop]
theorem rest_cons (s : ByteArray) (n : Nat) (h : n < s.size) : rest s n = s[n] :: rest s (n + 1) := by
  have hl := Lib.size_eq s
  unfold rest
  rw [List.drop_eq_getElem_cons (by omega)]
  rfl
theorem rn_rest (s : ByteArray) (n : Nat) : rn (rest s n) = (((Utf8.decode s n).1 : Nat) : Int) := by unfold rn rest; rw [Lib.decodeL_drop]
theorem wd_rest (s : ByteArray) (n : Nat) : wd (rest s n) = (Utf8.decode s n).2 := by unfold wd rest; rw [Lib.decodeL_drop]
theorem runeAt_rest (s : ByteArray) (n : Nat) (h : n < s.size) : runeAt s (n : Int) = (rn (rest s n), ((wd (rest s n) : Nat) : Int)) := by rw [runeAt_in s n h, rn_rest, wd_rest]
theorem runeAt_out (s : ByteArray) (i : Int) (h : ¬ (0 ≤ i ∧ i < s.size)) : runeAt s i = (0, 0) := by unfold runeAt; rw [if_neg h]
theorem hd_rest (s : ByteArray) (n : Nat) (h : n < s.size) : hd (rest s n) = s[n].toNat := by rw [rest_cons s n h]; rfl
theorem hd_rest_out (s : ByteArray) (n : Nat) (h : s.size ≤ n) : hd (rest s n) = 256 := by rw [rest_nil s n h]; rfl
/-- The byte at a place that may be negative; 256: none. -/
def hdI (s : ByteArray) (i : Int) : Nat := if 0 ≤ i then hd (rest s i.toNat) else 256
theorem hdI_nat (s : ByteArray) (n : Nat) : hdI s (n : Int) = hd (rest s n) := by unfold hdI; rw [if_pos (by omega), Int.toNat_natCast]
theorem below_drewN {B : Nat} {a w : World} (h : Below B a w) (n : Nat) : Below B a (w.drewN n) := ⟨h.os, h.tape, h.output, h.size, h.block⟩
theorem bytes_ext {a b : ByteArray} (h : a.data.toList = b.data.toList) : a = b := by
  apply ByteArray.ext
  exact Array.toList_inj.1 h

theorem stands_any (s : ByteArray) (i : Int) (b : Nat) (hb : b < 256) (hs : s.size ≤ 1125899906842624) (w : World) :
    Calls Tryz.prog 104 #[.string s, .int .i64 i, .int .u8 (b : Int)] w fun e w' => e = .returned (.bool (hdI s i == b)) ∧ w = w' := by
  by_cases h1 : i < 0
  · have hr : Hid ((hdI s i == b) = false) := by unfold Hid hdI; rw [if_neg (by omega), beq_eq_false_iff_ne]; omega
    go_enter Tryz.func104, Tryz.ntmps104
    go_wp2
    go_ret
    exact ⟨by rw [hr.out]; rfl, rfl⟩
  · obtain ⟨n, rfl⟩ := Int.eq_ofNat_of_zero_le (a := i) (by omega)
    rw [hdI_nat]
    by_cases h2 : n < s.size
    · rw [hd_rest s n h2]
      have i0 : (0 : Int) ≤ (n : Int) := by omega
      cases hc : s[n].toNat == b with
      | true =>
        have x0 : (((s[n].toNat : Nat) : Int) == ((b : Nat) : Int)) = true := by rw [beq_iff_eq] at hc ⊢; omega
        clear hc h1
        go_enter Tryz.func104, Tryz.ntmps104
        go_wp2
        go_ret
        exact ⟨rfl, rfl⟩
      | false =>
        have x0 : (((s[n].toNat : Nat) : Int) == ((b : Nat) : Int)) = false := by rw [beq_eq_false_iff_ne] at hc ⊢; omega
        clear hc h1
        go_enter Tryz.func104, Tryz.ntmps104
        go_wp2
        go_ret
        exact ⟨rfl, rfl⟩
    · have hr : Hid ((hd (rest s n) == b) = false) := by unfold Hid; rw [hd_rest_out s n (by omega), beq_eq_false_iff_ne]; omega
      have x1 : decide ((n : Int) < (s.size : Int)) = false := decide_eq_false (by omega)
      clear h1
      go_enter Tryz.func104, Tryz.ntmps104
      go_wp2
      go_ret
      exact ⟨by rw [hr.out]; rfl, rfl⟩
theorem stands_at (s : ByteArray) (n b : Nat) (hb : b < 256) (hs : s.size ≤ 1125899906842624) (w : World) :
    Calls Tryz.prog 104 #[.string s, .int .i64 (n : Int), .int .u8 (b : Int)] w fun e w' => e = .returned (.bool (hd (rest s n) == b)) ∧ w = w' := by
  have := stands_any s (n : Int) b hb hs w
  rw [hdI_nat] at this
  exact this
theorem quoteAt_any (s : ByteArray) (i : Int) (hs : s.size ≤ 1125899906842624) (w : World) :
    Calls Tryz.prog 78 #[.string s, .int .i64 i] w fun e w' => e = .returned (.bool (hdI s i == 34 || hdI s i == 39)) ∧ w = w' := by
  have c1 := fun W => stands_any s i 34 (by omega) hs W
  have c2 := fun W => stands_any s i 39 (by omega) hs W
  cases h1 : hdI s i == 34 with
  | true =>
    rw [h1] at c1
    have C1 := Lib.hid c1
    clear c1 c2 h1
    go_enter Tryz.func78, Tryz.ntmps78
    go_wp2_with fail
    refine (C1.out _).mono ?_
    rintro e w1 ⟨rfl, rfl⟩
    go_wp2_with fail
    go_ret
    exact ⟨rfl, rfl⟩
  | false =>
    rw [h1] at c1
    have C1 := Lib.hid c1
    have C2 := Lib.hid c2
    clear c1 c2 h1
    go_enter Tryz.func78, Tryz.ntmps78
    go_wp2_with fail
    refine (C1.out _).mono ?_
    rintro e w1 ⟨rfl, rfl⟩
    go_wp2_with fail
    refine (C2.out _).mono ?_
    rintro e w1 ⟨rfl, rfl⟩
    go_wp2_with fail
    go_ret
    exact ⟨rfl, rfl⟩
theorem mayStand_any (c : Int) (n : Nat) (w : World) :
    Calls Tryz.prog 135 #[.int .i32 c, .int .i64 (n : Int)] w fun e w' => e = .returned (.bool (mayB c n)) ∧ w = w' := by
  have c1 := fun W => class_any c W
  by_cases h1 : c = 65533 ∧ n = 1
  · obtain ⟨rfl, rfl⟩ := h1
    go_enter Tryz.func135, Tryz.ntmps135
    go_wp2_with fail
    go_ret
    exact ⟨rfl, rfl⟩
  · have hm : mayB c n = if classI c = 0 then false else if classI c = 1 then decide (c = 32) else true := by unfold mayB; rw [if_neg h1]
    generalize mayB c n = mv at *
    generalize classI c = k at *
    have C1 := Lib.hid c1
    have key : ∀ (b : Bool), (if k = 0 then false else if k = 1 then decide (c = 32) else true) = b → Hid (mv = b) := fun _ h => hm.trans h
    clear c1 hm
    by_cases h2 : c = 65533
    · have hn : ((n : Int) == 1) = false := by rw [beq_eq_false_iff_ne]; intro e; exact h1 ⟨h2, by omega⟩
      have hc : (c == 65533) = true := by rw [beq_iff_eq]; exact h2
      have h32 : c ≠ 32 := by omega
      clear h1
      by_cases h3 : k = 0
      · have HK := key false (by rw [if_pos h3])
        have b1 : (k == 0) = true := by rw [beq_iff_eq]; exact h3
        clear key h2 h3 h32
        go_enter Tryz.func135, Tryz.ntmps135
        go_wp2_with fail
        refine (C1.out _).mono ?_
        rintro e w1 ⟨rfl, rfl⟩
        go_wp2_with fail
        go_ret
        exact ⟨by rw [HK.out] <;> rfl, rfl⟩
      · have b1 : (k == 0) = false := by rw [beq_eq_false_iff_ne]; exact h3
        by_cases h4 : k = 1
        · have HK := key false (by rw [if_neg h3, if_pos h4]; exact decide_eq_false h32)
          have b2 : (k == 1) = true := by rw [beq_iff_eq]; exact h4
          have b3 : (c == 32) = false := by rw [beq_eq_false_iff_ne]; exact h32
          clear key h2 h3 h32 h4
          go_enter Tryz.func135, Tryz.ntmps135
          go_wp2_with fail
          refine (C1.out _).mono ?_
          rintro e w1 ⟨rfl, rfl⟩
          go_wp2_with fail
          go_ret
          exact ⟨by rw [HK.out] <;> rfl, rfl⟩
        · have HK := key true (by rw [if_neg h3, if_neg h4])
          have b2 : (k == 1) = false := by rw [beq_eq_false_iff_ne]; exact h4
          clear key h2 h3 h32 h4
          go_enter Tryz.func135, Tryz.ntmps135
          go_wp2_with fail
          refine (C1.out _).mono ?_
          rintro e w1 ⟨rfl, rfl⟩
          go_wp2_with fail
          go_ret
          exact ⟨by rw [HK.out] <;> rfl, rfl⟩
    · have hc : (c == 65533) = false := by rw [beq_eq_false_iff_ne]; exact h2
      clear h1 h2
      by_cases h3 : k = 0
      · have HK := key false (by rw [if_pos h3])
        have b1 : (k == 0) = true := by rw [beq_iff_eq]; exact h3
        clear key h3
        go_enter Tryz.func135, Tryz.ntmps135
        go_wp2_with fail
        refine (C1.out _).mono ?_
        rintro e w1 ⟨rfl, rfl⟩
        go_wp2_with fail
        go_ret
        exact ⟨by rw [HK.out] <;> rfl, rfl⟩
      · have b1 : (k == 0) = false := by rw [beq_eq_false_iff_ne]; exact h3
        by_cases h4 : k = 1
        · have HK := key (c == 32) (by rw [if_neg h3, if_pos h4]; rfl)
          have b2 : (k == 1) = true := by rw [beq_iff_eq]; exact h4
          clear key h3 h4
          go_enter Tryz.func135, Tryz.ntmps135
          go_wp2_with fail
          refine (C1.out _).mono ?_
          rintro e w1 ⟨rfl, rfl⟩
          go_wp2_with fail
          go_ret
          exact ⟨by rw [HK.out] <;> rfl, rfl⟩
        · have HK := key true (by rw [if_neg h3, if_neg h4])
          have b2 : (k == 1) = false := by rw [beq_eq_false_iff_ne]; exact h4
          clear key h3 h4
          go_enter Tryz.func135, Tryz.ntmps135
          go_wp2_with fail
          refine (C1.out _).mono ?_
          rintro e w1 ⟨rfl, rfl⟩
          go_wp2_with fail
          go_ret
          exact ⟨by rw [HK.out] <;> rfl, rfl⟩

/-- glyph.Run over blanks. -/
theorem runEnd_rest (s : ByteArray) : ∀ (f n : Nat), s.size ≤ n + f → n ≤ s.size → runEnd s 1 f n = n + Wrd.run blkP (rest s n)
  | 0, n, hf, hn => by
    rw [Wrd.run_stop blkP (rest s n) (.inl (rest_nil s _ (by omega)))]
    unfold runEnd
    omega
  | f + 1, n, hf, hn => by
    by_cases h : n < s.size
    · have hw := width_ge s n
      have hx := width_fits s n h
      unfold runEnd
      rw [if_pos h]
      by_cases c : classI (((Utf8.decode s n).1 : Nat) : Int) = 1
      · rw [if_pos c, runEnd_rest s f _ (by omega) hx, Wrd.run_step blkP (rest s n) (rest_ne s n h) (by rw [rn_rest]; unfold blkP; rw [c]; rfl), wd_rest, rest_drop, Nat.add_assoc]
      · rw [if_neg c, Wrd.run_stop blkP (rest s n) (.inr (by rw [rn_rest]; unfold blkP; rw [beq_eq_false_iff_ne]; exact c))]
        rfl
    · rw [runEnd_end s 1 (f + 1) n h, Wrd.run_stop blkP (rest s n) (.inl (rest_nil s _ (by omega)))]
      omega
theorem runI_rest (s : ByteArray) (n : Nat) (hn : n ≤ s.size) : runI s (n : Int) 1 = ((n + Wrd.run blkP (rest s n) : Nat) : Int) := by
  unfold runI
  rw [if_neg (by omega), Int.toNat_natCast, runEnd_rest s _ _ (by omega) hn]
/-- Where a gap ends; n: there is none. -/
theorem gapEnd_any (s : ByteArray) (n : Nat) (hs : s.size ≤ 1125899906842624) (hn : n < s.size) (w : World) :
    Calls Tryz.prog 142 #[.string s, .int .i64 (n : Int)] w fun e w' => e = .returned (.int .i64 ((n + gapN (rest s n) : Nat) : Int)) ∧ Below w.heap.size w w' := by
  have hM : Hid (s.size ≤ maxLen) := by unfold Hid maxLen; omega
  have c1 : Hid (∀ W, Calls Tryz.prog 44 #[.string s, .int .i64 ((n : Int) + 1), .int .i64 1] W fun e w' => e = .returned (.int .i64 ((n + 1 + Wrd.run blkP (rest s (n + 1)) : Nat) : Int)) ∧ Below W.heap.size W w') := fun W => by
    have := run_any s ((n + 1 : Nat) : Int) 1 hM.out W
    rw [runI_rest s (n + 1) (by omega)] at this
    exact this
  have hg : gapN (rest s n) = if Wrd.run blkP (rest s (n + 1)) ≠ 0 ∧ hd (rest s (n + 1 + Wrd.run blkP (rest s (n + 1)))) = 92 then Wrd.run blkP (rest s (n + 1)) + 2 else 0 := by
    unfold gapN
    rw [rest_drop, rest_drop, Nat.add_assoc]
  have hr := run_blk_le (rest s (n + 1))
  rw [rest_len] at hr
  generalize Wrd.run blkP (rest s (n + 1)) = k at *
  have c2 := fun W => stands_at s (n + 1 + k) 92 (by omega) hs W
  obtain ⟨m, hm⟩ : ∃ m, n + 1 + k = m := ⟨_, rfl⟩
  rw [hm] at c1 c2 hg
  have C2 := Lib.hid c2
  clear c2
  by_cases h0 : k = 0
  · have HG : Hid (gapN (rest s n) = 0) := by unfold Hid; rw [hg, if_neg (by omega)]
    obtain rfl : m = n + 1 := by omega
    have x0 : ((((n + 1 : Nat) : Int)) == (n : Int) + 1) = true := by rw [beq_iff_eq]; omega
    clear hg hm h0 hr
    go_enter Tryz.func142, Tryz.ntmps142
    go_wp2_with fail
    refine (c1.out _).mono ?_
    rintro e w1 ⟨rfl, hb1⟩
    have HB1 := Lib.hid hb1
    clear hb1
    go_wp2_with fail
    go_ret
    exact ⟨by rw [HG.out]; rfl, HB1.out⟩
  · have x0 : (((m : Int)) == (n : Int) + 1) = false := by rw [beq_eq_false_iff_ne]; omega
    by_cases h1 : hd (rest s m) = 92
    · have C3 : Hid (∀ W, Calls Tryz.prog 104 #[.string s, .int .i64 (m : Int), .int .u8 92] W fun e w' => e = .returned (.bool true) ∧ W = w') := fun W => by
        have := C2.out W
        rw [show (hd (rest s m) == 92) = true from beq_iff_eq.2 h1] at this
        exact this
      have HG : Hid (gapN (rest s n) = k + 2) := by unfold Hid; rw [hg, if_pos ⟨h0, h1⟩]
      have hmb : m ≤ s.size := by omega
      clear hg h0 h1
      go_enter Tryz.func142, Tryz.ntmps142
      go_wp2_with fail
      refine (c1.out _).mono ?_
      rintro e w1 ⟨rfl, hb1⟩
      have HB1 := Lib.hid hb1
      clear hb1
      go_wp2_with fail
      refine (C3.out _).mono ?_
      rintro e w2 ⟨rfl, rfl⟩
      go_wp2_with fail
      go_ret
      refine ⟨?_, HB1.out⟩
      rw [HG.out]
      have : ((n + (k + 2) : Nat) : Int) = (m : Int) + 1 := by omega
      rw [this]
      rfl
    · have C3 : Hid (∀ W, Calls Tryz.prog 104 #[.string s, .int .i64 (m : Int), .int .u8 92] W fun e w' => e = .returned (.bool false) ∧ W = w') := fun W => by
        have := C2.out W
        rw [show (hd (rest s m) == 92) = false from beq_eq_false_iff_ne.2 h1] at this
        exact this
      have HG : Hid (gapN (rest s n) = 0) := by unfold Hid; rw [hg, if_neg (fun q => h1 q.2)]
      clear hg h0 h1
      go_enter Tryz.func142, Tryz.ntmps142
      go_wp2_with fail
      refine (c1.out _).mono ?_
      rintro e w1 ⟨rfl, hb1⟩
      have HB1 := Lib.hid hb1
      clear hb1
      go_wp2_with fail
      refine (C3.out _).mono ?_
      rintro e w2 ⟨rfl, rfl⟩
      go_wp2_with fail
      go_ret
      exact ⟨by rw [HG.out]; rfl, HB1.out⟩
end Go.Proofs.YtmgclgojmckfhaaGreatDoor.Qt
/-
  The contracts of package quote's escapes: control, digits, lettered, named, escape. Conditions: the string has at most 2^50 bytes; the program's list of names stands.
-/
namespace Go.Proofs.YtmgclgojmckfhaaGreatDoor.Qt
open Go.RowKit Gly
open Wrd (rn wd)
set_option linter.unusedSimpArgs false
set_option linter.unusedVariables false

theorem dig_rune (s : ByteArray) (p : Nat) (hp : p < s.size) (b : Nat) : digitI (((Utf8.decode s p).1 : Nat) : Int) (b : Int) = Num.dg b s[p] ∧ (Num.isD b s[p] = true → (Utf8.decode s p).2 = 1) := by
  have hl := Lib.size_eq s
  have hg : (s.data.toList.getD p 0) = s[p] := by
    rw [List.getD_eq_getElem?_getD, List.getElem?_eq_getElem (by omega)]
    rfl
  have none : ∀ c : Int, 128 ≤ c → digitI c (b : Int) = -1 := by
    intro c hc
    have : digV c = -1 := by
      unfold digV wthn
      simp only [Bool.and_eq_true, decide_eq_true_eq]
      rw [if_neg (by omega), if_neg (by omega), if_neg (by omega)]
    unfold digitI
    rw [this]
    split <;> rfl
  by_cases ha : (s[p]).toNat < 128
  · rw [Lib.decode_N, hg, Lib.decodeN_ascii _ _ _ _ _ ha]
    exact ⟨rfl, fun _ => rfl⟩
  · have := (decode_high s p hp (by omega)).1
    rw [none _ (by omega)]
    have e : Num.dg b s[p] = -1 := none _ (by omega)
    refine ⟨e.symm, fun h => ?_⟩
    unfold Num.isD at h
    rw [e] at h
    simp at h
/-- Digits read one by one, the number never beyond one more than the greatest. -/
def digG (b : Nat) : Nat → List UInt8 → Nat × Nat
  | v, [] => (v, 0)
  | v, x :: L => if Num.isD b x = true then ((digG b (min (v * b + (Num.dg b x).toNat) 1114112) L).1, (digG b (min (v * b + (Num.dg b x).toNat) 1114112) L).2 + 1) else (v, 0)
theorem digG_is (b : Nat) (hb : 1 ≤ b) : ∀ (L : List UInt8) (v : Nat), digG b (min v 1114112) L = (min (Num.valOf b v (L.take (Num.run b L))) 1114112, Num.run b L)
  | [], v => rfl
  | x :: L, v => by
    rw [digG, Num.run]
    by_cases q : Num.isD b x = true
    · rw [if_pos q, if_pos q, List.take_succ_cons, Num.valOf]
      have e : min (min v 1114112 * b + (Num.dg b x).toNat) 1114112 = min (v * b + (Num.dg b x).toNat) 1114112 := by
        rcases Nat.le_total v 1114112 with h | h
        · rw [Nat.min_eq_left h]
        · rw [Nat.min_eq_right h]
          have h1 : 1114112 * 1 ≤ 1114112 * b := Nat.mul_le_mul_left _ hb
          have h2 : v * 1 ≤ v * b := Nat.mul_le_mul_left _ hb
          omega
      rw [e, digG_is b hb L]
    · rw [if_neg q, if_neg q, List.take_zero, Num.valOf]
theorem digG_zero (b : Nat) (hb : 1 ≤ b) (L : List UInt8) : digG b 0 L = digE b L := digG_is b hb L 0

theorem control_any (t : ByteArray) (h0 : 0 < t.size) (hs : t.size ≤ 1125899906842624) (w : World) :
    Calls Tryz.prog 144 #[.string t] w fun e w' => e = .returned (.tuple #[.int .i64 (((if 64 ≤ hd (rest t 1) ∧ hd (rest t 1) ≤ 95 then (hd (rest t 1) - 64, 2) else (0, 0)) : Nat × Nat).1 : Int), .int .i64 (((if 64 ≤ hd (rest t 1) ∧ hd (rest t 1) ≤ 95 then (hd (rest t 1) - 64, 2) else (0, 0)) : Nat × Nat).2 : Int)]) ∧ w = w' := by
  by_cases h1 : t.size = 1
  · have x0 : ((t.size : Int) == 1) = true := by rw [beq_iff_eq]; omega
    rw [hd_rest_out t 1 (by omega), if_neg (by omega)]
    go_enter Tryz.func144, Tryz.ntmps144
    go_wp2_with fail
    go_ret2
    exact ⟨rfl, rfl⟩
  · have x0 : ((t.size : Int) == 1) = false := by rw [beq_eq_false_iff_ne]; omega
    have hin : 1 < t.size := by omega
    have hx := t[1].toNat_lt
    rw [hd_rest t 1 hin]
    by_cases h2 : t[1].toNat < 64
    · rw [if_neg (by omega)]
      have x1 : decide (((t[1].toNat : Nat) : Int) < 64) = true := decide_eq_true (by omega)
      go_enter Tryz.func144, Tryz.ntmps144
      go_wp2_with fail
      go_ret2
      exact ⟨rfl, rfl⟩
    · have x1 : decide (((t[1].toNat : Nat) : Int) < 64) = false := decide_eq_false (by omega)
      by_cases h3 : 95 < t[1].toNat
      · rw [if_neg (by omega)]
        have x2 : decide ((95 : Int) < ((t[1].toNat : Nat) : Int)) = true := decide_eq_true (by omega)
        go_enter Tryz.func144, Tryz.ntmps144
        go_wp2_with fail
        go_ret2
        exact ⟨rfl, rfl⟩
      · rw [if_pos (by omega)]
        have x2 : decide ((95 : Int) < ((t[1].toNat : Nat) : Int)) = false := decide_eq_false (by omega)
        have hsub : ((t[1].toNat - 64 : Nat) : Int) = ((t[1].toNat : Nat) : Int) - 64 := by omega
        dsimp only
        rw [hsub]
        clear hsub
        go_enter Tryz.func144, Tryz.ntmps144
        go_wp2_with fail
        go_ret2
        exact ⟨rfl, rfl⟩

set_option maxHeartbeats 1000000 in
theorem digits_any (t : ByteArray) (b : Nat) (hb : 2 ≤ b) (hb2 : b ≤ 16) (hs : t.size ≤ 1125899906842624) (w : World) :
    Calls Tryz.prog 147 #[.string t, .int .i64 (b : Int)] w fun e w' => e = .returned (.tuple #[.int .i64 ((digE b t.data.toList).1 : Int), .int .i64 ((digE b t.data.toList).2 : Int)]) ∧ Below w.heap.size w w' := by
  rw [← digG_zero b (by omega)]
  obtain ⟨V, hV⟩ : ∃ V, (digG b 0 (rest t 0)).1 = V := ⟨_, rfl⟩
  obtain ⟨R, hR⟩ : ∃ R, (digG b 0 (rest t 0)).2 = R := ⟨_, rfl⟩
  have e0 : rest t 0 = t.data.toList := rfl
  rw [e0] at hV hR
  rw [hV, hR]
  rw [← e0] at hV hR
  have HV := Lib.hid hV
  have HR := Lib.hid hR
  clear hV hR e0
  go_enter Tryz.func147, Tryz.ntmps147
  go_wp2_with fail
  go_loopw [4] (fun v wr => ∃ (p x : Nat), v = .int .i64 (x : Int) ∧ wr = w.iter t p ∧ p ≤ t.size ∧ x ≤ 1114112 ∧ (digG b x (rest t p)).1 = V ∧ p + (digG b x (rest t p)).2 = R) (fun _ wr => t.size - wr.iterPos w.heap.size)
  case atStart => exact ⟨0, 0, rfl, rfl, Nat.zero_le _, by omega, HV.out, by rw [Nat.zero_add]; exact HR.out⟩
  case round =>
    obtain ⟨p, x, rfl, rfl, hp0, hx0, hv, hr⟩ := hrel
    have HV2 := Lib.hid hv
    have HR2 := Lib.hid hr
    clear hv hr
    by_cases hp : p < t.size
    · have hw := width_fits t p hp
      have hc := rune_le t p
      obtain ⟨hd1, hd2⟩ := dig_rune t p hp b
      have C : Hid (∀ W, Calls Tryz.prog 122 #[.int .i32 (((Utf8.decode t p).1 : Nat) : Int), .int .i64 (b : Int)] W fun e w' => e = .returned (.int .i64 (Num.dg b t[p])) ∧ W = w') := fun W => by have := digit_any (((Utf8.decode t p).1 : Nat) : Int) b W; rw [hd1] at this; exact this
      have hbd := Num.dg_bd b t[p]
      have hnx : ∀ ty, (Instr.next (.pointer (some ⟨w.heap.size, 0, none⟩)) true ty).run Tryz.prog (w.iter t p) = .ok (.tuple #[.bool true, .int .i64 (p : Int), .int .i32 (((Utf8.decode t p).1 : Nat) : Int)]) (w.iter t (p + (Utf8.decode t p).2)) := fun ty =>
        run_next_any (P := Tryz.prog) w t p ty hp
      have hcons := rest_cons t p hp
      have hv := HV2.out
      have hr := HR2.out
      rw [hcons, digG] at hv hr
      by_cases hd0 : Num.isD b t[p] = true
      · rw [if_pos hd0] at hv hr
        dsimp only at hv hr
        have hdd : 0 ≤ Num.dg b t[p] := of_decide_eq_true hd0
        obtain ⟨dd, hdd2⟩ : ∃ dd : Nat, Num.dg b t[p] = (dd : Int) := ⟨(Num.dg b t[p]).toNat, by omega⟩
        rw [hdd2] at C hv hr hbd hdd
        rw [Int.toNat_natCast] at hv hr
        have W1 := Lib.hid (hd2 hd0)
        have hd15 : dd ≤ 15 := by omega
        have hm1 : ((x : Int) * (b : Int)) = ((x * b : Nat) : Int) := (Int.natCast_mul x b).symm
        have hm0 : x * b ≤ 1114112 * 16 := Nat.mul_le_mul hx0 hb2
        have hm2 : (x : Int) * (b : Int) ≤ 17825792 := by omega
        have hm3 : 0 ≤ (x : Int) * (b : Int) := by omega
        have HM := Lib.hid hm1
        have HV3 := Lib.hid hv
        have HR3 := Lib.hid hr
        have hneg : decide ((dd : Int) < 0) = false := decide_eq_false (by omega)
        clear hv hr hd1 hd2 hd0 hcons hbd hdd hdd2 hm1 hm0
        go_wp2_with fail
        refine (C.out _).mono ?_
        rintro e w1 ⟨rfl, rfl⟩
        go_wp2_with fail
        go_roundw
        case rel =>
          refine ⟨p + 1, min (x * b + dd) 1114112, ?_, ?_, by omega, by omega, HV3.out, by rw [← HR3.out]; omega⟩
          · have := HM.out
            rw [this]
            congr 1
            simp
            omega
          · rw [W1.out]
        case measure => have := W1.out; simp; omega
      · rw [if_neg hd0] at hv hr
        dsimp only at hv hr
        have hdd : Num.dg b t[p] = -1 := by
          unfold Num.isD at hd0
          have := of_decide_eq_false (Bool.eq_false_iff.2 hd0)
          omega
        rw [hdd] at C
        have HV3 := Lib.hid hv
        have HR3 := Lib.hid hr
        clear hv hr hd1 hd2 hd0 hcons hbd hdd
        go_wp2_with fail
        refine (C.out _).mono ?_
        rintro e w1 ⟨rfl, rfl⟩
        go_wp2_with fail
        go_ret2
        refine ⟨?_, (Below.refl _ _).alloc (Nat.le_refl _) _⟩
        rw [← HV3.out, ← HR3.out]
        rfl
    · have hnx : ∀ ty, (Instr.next (.pointer (some ⟨w.heap.size, 0, none⟩)) true ty).run Tryz.prog (w.iter t p) = _ := fun ty =>
        run_next_end (P := Tryz.prog) w t p ty hp
      go_wp2_with fail
      go_ret2
      refine ⟨?_, (Below.refl _ _).alloc (Nat.le_refl _) _⟩
      have hv := HV2.out
      have hr := HR2.out
      rw [rest_nil t p (by omega), digG] at hv hr
      dsimp only at hv hr
      have : t.size = R := by omega
      rw [← hv, ← this]
      rfl
theorem lettered_any (t : ByteArray) (b : Nat) (hb : 2 ≤ b) (hb2 : b ≤ 16) (h0 : 0 < t.size) (hs : t.size ≤ 1125899906842624) (w : World) :
    Calls Tryz.prog 145 #[.string t, .int .i64 (b : Int)] w fun e w' => e = .returned (.tuple #[.int .i64 ((lettE b (rest t 1)).1 : Int), .int .i64 ((lettE b (rest t 1)).2 : Int)]) ∧ Below w.heap.size w w' := by
  have hz := size_tail t 1
  have c1 := fun W => digits_any (t.extract 1 t.size) b hb hb2 (by omega) W
  have e1 : (t.extract 1 t.size).data.toList = rest t 1 := by rw [Lib.extract_to_end]; rfl
  rw [e1] at c1
  have hle := Num.run_le b (rest t 1)
  rw [rest_len] at hle
  have hq : lettE b (rest t 1) = if (digE b (rest t 1)).2 = 0 then (0, 0) else ((digE b (rest t 1)).1, (digE b (rest t 1)).2 + 1) := rfl
  have hd2 : (digE b (rest t 1)).2 = Num.run b (rest t 1) := rfl
  rw [← hd2] at hle
  generalize lettE b (rest t 1) = z at *
  generalize digE b (rest t 1) = y at *
  obtain ⟨y1, y2⟩ := y
  dsimp only at hle hq c1
  have C1 := Lib.hid c1
  have i1 : (1 : Int) ≤ (t.size : Int) := by omega
  by_cases h : y2 = 0
  · subst h
    rw [if_pos rfl] at hq
    subst hq
    clear c1 e1 hd2
    go_enter Tryz.func145, Tryz.ntmps145
    go_wp2_with fail
    refine (C1.out _).mono ?_
    rintro e w1 ⟨rfl, hb1⟩
    have HB1 := Lib.hid hb1
    clear hb1
    go_wp2_with fail
    go_ret2
    exact ⟨rfl, HB1.out⟩
  · rw [if_neg h] at hq
    subst hq
    have x0 : ((y2 : Int) == 0) = false := by rw [beq_eq_false_iff_ne]; omega
    clear c1 e1 hd2 h
    go_enter Tryz.func145, Tryz.ntmps145
    go_wp2_with fail
    refine (C1.out _).mono ?_
    rintro e w1 ⟨rfl, hb1⟩
    have HB1 := Lib.hid hb1
    clear hb1
    go_wp2_with fail
    go_ret2
    exact ⟨rfl, HB1.out⟩
end Go.Proofs.YtmgclgojmckfhaaGreatDoor.Qt
/-
  The contracts of package quote's named and escape. Conditions: the string has at most 2^50 bytes; the program's list of names stands.
-/
namespace Go.Proofs.YtmgclgojmckfhaaGreatDoor.Qt
open Go.RowKit Gly
open Wrd (rn wd)
set_option linter.unusedSimpArgs false
set_option linter.unusedVariables false

/-- The program's list of names, by the name that the rows list it under. -/
def namN : String := (Rows.typeAgainRow.laid.map fun p => p.1).getD 1 "" -- 3
def namCs : Array Value := (namesL.map fun x => Value.string ⟨x.toArray⟩).toArray
def Nam (w : World) : Prop := w.var? Tryz.prog namN = some namCs
theorem nam_named : Tryz.prog.globalNamed namN = some 3 := by kernel_rfl
theorem Nam.below {w w' : World} {B : Nat} (h : Nam w) (hb : Below B w w') (hB : w.heap.size ≤ B) : Nam w' := Go.Joins.var_stays nam_named h hb hB
theorem Nam.row {w : World} (h : Nam w) : ∃ t fr, w.heap[3]? = some (.cells namCs t fr) := by
  unfold Nam World.var? at h
  rw [nam_named] at h
  simp only [Option.bind_some] at h
  split at h
  · rename_i cs t fr hc
    injection h with h
    subst h
    exact ⟨t, fr, hc⟩
  · cases h
theorem beg_prefix (m L : List UInt8) : Lib.hasPrefix L m = beg m L := by
  unfold Lib.hasPrefix beg
  rw [Bool.eq_iff_iff, List.isPrefixOf_iff_prefix, beq_iff_eq, List.prefix_iff_eq_take]
  exact eq_comm
theorem run_index_in (w : World) (t e : TypeId) (n : Nat) (cs : Array Value) (i : Nat) (v : Value) (h : Tryz.prog.underlying t = some (.array n e)) (hc : (Go.sizeOf e).run Tryz.prog w = .ok 1 w) (hg : (isAgg e).run Tryz.prog w = .ok false w) (hi : i < n) (hv : cs[i]? = some v) :
    (Instr.index t (.agg cs) (.int .i64 (i : Int))).run Tryz.prog w = .ok v w := by
  have h1 : (0 : Int) ≤ (i : Int) ∧ (i : Int) < (n : Int) := by omega
  simp [Instr.index, run_underlying h, asIntOf, h1, go_sem, hv, hg, hc, hi]

theorem nam_size : namCs.size = 33 := by decide +kernel
theorem nam_at : ∀ k, k < 33 → namCs[k]? = some (.string ⟨(namesL.getD k []).toArray⟩) := by
  intro k hk
  unfold namCs
  have hl : namesL.length = 33 := rfl
  rw [List.getElem?_toArray, List.getElem?_map, List.getElem?_eq_getElem (by omega), List.getD_eq_getElem?_getD, List.getElem?_eq_getElem (by omega)]
  rfl
theorem nam_len : ∀ k, k < 33 → (namesL.getD k []).length ≤ 3 := by decide +kernel
theorem nameG_step (k : Nat) (hk : k < 33) (L : List UInt8) (acc : Nat × Nat) : nameG (namesL.drop k) k L acc = nameG (namesL.drop (k + 1)) (k + 1) L (if acc.2 < (namesL.getD k []).length ∧ beg (namesL.getD k []) L = true then (k, (namesL.getD k []).length) else acc) := by
  have hl : namesL.length = 33 := rfl
  rw [List.drop_eq_getElem_cons (by omega), nameG, List.getD_eq_getElem?_getD, List.getElem?_eq_getElem (by omega)]
  rfl
theorem del_eq (t : ByteArray) (w : World) : Calls Tryz.prog 57 #[.string t, .string ⟨#[68, 69, 76]⟩] w fun e w' => e = .returned (.bool (beg delL t.data.toList)) ∧ w = w' := by
  have := prefix_any t ⟨#[68, 69, 76]⟩ w
  rw [beg_prefix] at this
  exact this

set_option maxHeartbeats 1000000 in
set_option maxRecDepth 100000 in
theorem named_any (t : ByteArray) (hs : t.size ≤ 1125899906842624) (w : World) (hN : Nam w) :
    Calls Tryz.prog 148 #[.string t] w fun e w' => e = .returned (.tuple #[.int .i64 ((nameE t.data.toList).1 : Int), .int .i64 ((nameE t.data.toList).2 : Int)]) ∧ w = w' := by
  have c1 := fun W => del_eq t W
  obtain ⟨z, hz⟩ : ∃ z, nameE t.data.toList = z := ⟨_, rfl⟩
  rw [hz]
  unfold nameE at hz
  cases hb : beg delL t.data.toList with
  | true =>
    rw [hb] at c1
    rw [if_pos hb] at hz
    subst hz
    have C1 := Lib.hid c1
    clear c1 hb hN
    go_enter Tryz.func148, Tryz.ntmps148
    go_wp2_with fail
    refine (C1.out _).mono ?_
    rintro e w1 ⟨rfl, rfl⟩
    go_wp2_with fail
    go_ret2
    exact ⟨rfl, rfl⟩
  | false =>
    rw [hb] at c1
    rw [if_neg (by rw [hb]; decide)] at hz
    have HZ := Lib.hid hz
    have C1 := Lib.hid c1
    obtain ⟨ty, fr, hrow⟩ := hN.row
    obtain ⟨arr, harr⟩ : ∃ arr, namCs = arr := ⟨_, rfl⟩
    have hat := nam_at
    have hsz := nam_size
    rw [harr] at hrow hat hsz
    have hat2 := Lib.hid hat
    have hix : ∀ (k : Nat), k < 33 → ∀ W, (Instr.index 162 (.agg arr) (.int .i64 (k : Int))).run Tryz.prog W = .ok (.string ⟨(namesL.getD k []).toArray⟩) W := fun k hk W =>
      run_index_in W _ _ 33 arr k _ Tryz.underlying162 (Tryz.sizeOf9 W) (Tryz.isAgg9 W) hk (hat2.out k hk)
    have HROW := Lib.hid hrow
    have HSZ : Hid ((Tryz.prog.info? 162).map (·.size) = some arr.size) := by
      unfold Hid
      rw [hsz]
      kernel_rfl
    have HIX := Lib.hid hix
    clear c1 hb hN hz hrow hat hsz harr hat2 hix
    go_enter Tryz.func148, Tryz.ntmps148
    go_wp2_with fail
    refine (C1.out _).mono ?_
    rintro e w1 ⟨rfl, rfl⟩
    go_wp2_with (refine wpList_load_row rfl 162 _ rfl 3 rfl ty arr fr _ HROW.out Tryz.underlying162 rfl HSZ.out ?_)
    go_loop [2, 3, 9] (fun a b i => ∃ (x y k : Nat), a = .int .i64 (x : Int) ∧ b = .int .i64 (y : Int) ∧ i = .int .i64 (k : Int) ∧ k ≤ 33 ∧ nameG (namesL.drop k) k t.data.toList (x, y) = z) (fun _ _ i => 33 - (intOf i).toNat)
    case atStart => exact ⟨0, 0, 0, rfl, rfl, rfl, by omega, HZ.out⟩
    case round =>
      obtain ⟨x, y, k, rfl, rfl, rfl, hk0, hq⟩ := hrel
      have HQ := Lib.hid hq
      clear hq
      by_cases hk : k < 33
      · have hi := HIX.out k hk w
        have hst := nameG_step k hk t.data.toList (x, y)
        rw [HQ.out] at hst
        have c2 : ∀ W, Calls Tryz.prog 57 #[.string t, .string ⟨(namesL.getD k []).toArray⟩] W fun e w' => e = .returned (.bool (beg (namesL.getD k []) t.data.toList)) ∧ W = w' := fun W => by
          have := prefix_any t ⟨(namesL.getD k []).toArray⟩ W
          rw [beg_prefix] at this
          exact this
        have hln := nam_len k hk
        generalize namesL.getD k [] = m at *
        have hml : ((⟨m.toArray⟩ : ByteArray).size) = m.length := by rw [Lib.size_eq]
        generalize (⟨m.toArray⟩ : ByteArray) = mb at *
        have x1 : decide ((k : Int) < 33) = true := decide_eq_true (by omega)
        by_cases hy : y < m.length
        · have x2 : decide ((y : Int) < (mb.size : Int)) = true := decide_eq_true (by omega)
          have x3 : decide (y < mb.size) = true := decide_eq_true (by omega)
          cases hbg : beg m t.data.toList with
          | true =>
            simp only [hbg] at c2
            rw [if_pos ⟨hy, hbg⟩] at hst
            have HST := Lib.hid hst
            have C2 := Lib.hid c2
            have HML := Lib.hid hml
            clear hst c2 hbg hml hy
            go_wp2_with fail
            refine (C2.out _).mono ?_
            rintro e w1 ⟨rfl, rfl⟩
            go_wp2_with fail
            go_round
            case rel => exact ⟨k, m.length, k + 1, rfl, by rw [HML.out], by go_num, by omega, HST.out.symm⟩
            case measure => simp [intOf]; omega
          | false =>
            simp only [hbg] at c2
            rw [if_neg (fun q => by rw [hbg] at q; cases q.2)] at hst
            have HST := Lib.hid hst
            have C2 := Lib.hid c2
            clear hst c2 hbg hml hy
            go_wp2_with fail
            refine (C2.out _).mono ?_
            rintro e w1 ⟨rfl, rfl⟩
            go_wp2_with fail
            go_round
            case rel => exact ⟨x, y, k + 1, rfl, rfl, by go_num, by omega, HST.out.symm⟩
            case measure => simp [intOf]; omega
        · have x2 : decide ((y : Int) < (mb.size : Int)) = false := decide_eq_false (by omega)
          have x3 : decide (y < mb.size) = false := decide_eq_false (by omega)
          rw [if_neg (fun q => hy q.1)] at hst
          have HST := Lib.hid hst
          clear hst c2 hml hy
          go_wp2_with fail
          go_round
          case rel => exact ⟨x, y, k + 1, rfl, rfl, by go_num, by omega, HST.out.symm⟩
          case measure => simp [intOf]; omega
      · obtain rfl : k = 33 := by omega
        have hq := HQ.out
        rw [List.drop_eq_nil_of_le (by decide), nameG] at hq
        subst hq
        go_wp2_with fail
        go_ret2
        exact ⟨rfl, rfl⟩
end Go.Proofs.YtmgclgojmckfhaaGreatDoor.Qt
/-
  The contract of package quote's escape, put together out of its ways. Conditions: the string has at most 2^50 bytes; the program's list of names stands.
-/
namespace Go.Proofs.YtmgclgojmckfhaaGreatDoor.Qt
open Go.RowKit Gly
open Wrd (rn wd)
set_option linter.unusedSimpArgs false
set_option linter.unusedVariables false

/-- Where a byte stands among the letters. -/
def ltI (n : Nat) : Int := Lib.indexByte [97, 98, 116, 110, 118, 102, 114] ((n : Int).toNat.toUInt8)
theorem lt_yes : ∀ n : Nat, n < 256 → 0 ≤ ltI n → short n ≠ 0 ∧ (short n : Int) = 7 + ltI n ∧ ltI n ≤ 6 := by decide +kernel
theorem lt_no : ∀ n : Nat, n < 256 → ltI n < 0 → short n = if n = 92 ∨ n = 34 ∨ n = 39 then n else 0 := by decide +kernel
theorem let_any (n : Nat) (w : World) : Calls Tryz.prog 117 #[.string ⟨#[97, 98, 116, 110, 118, 102, 114]⟩, .int .u8 (n : Int)] w fun e w' => e = .returned (.int .i64 (ltI n)) ∧ w = w' := index_any _ _ w
theorem dig_is (n : Nat) (w : World) : Calls Tryz.prog 146 #[.int .i64 (n : Int)] w fun e w' => e = .returned (.bool (isDig n)) ∧ w = w' := by
  by_cases h1 : 48 ≤ n
  · by_cases h2 : n ≤ 57
    · have a1 : decide ((48 : Int) ≤ (n : Int)) = true := decide_eq_true (by omega)
      have a2 : decide ((n : Int) ≤ 57) = true := decide_eq_true (by omega)
      go_enter Tryz.func146, Tryz.ntmps146
      go_wp2
      go_ret
      exact ⟨by unfold isDig; rw [decide_eq_true h1, decide_eq_true h2]; rfl, rfl⟩
    · have a1 : decide ((48 : Int) ≤ (n : Int)) = true := decide_eq_true (by omega)
      have a2 : decide ((n : Int) ≤ 57) = false := decide_eq_false (by omega)
      go_enter Tryz.func146, Tryz.ntmps146
      go_wp2
      go_ret
      exact ⟨by unfold isDig; rw [decide_eq_true h1, decide_eq_false h2]; rfl, rfl⟩
  · have a1 : decide ((48 : Int) ≤ (n : Int)) = false := decide_eq_false (by omega)
    go_enter Tryz.func146, Tryz.ntmps146
    go_wp2
    go_ret
    exact ⟨by unfold isDig; rw [decide_eq_false h1]; rfl, rfl⟩

/-- escape, put together. -/
theorem escape_any (t : ByteArray) (hs : t.size ≤ 1125899906842624) (w : World) (hN : Nam w) :
    Calls Tryz.prog 143 #[.string t] w fun e w' => e = .returned (.tuple #[.int .i64 ((escE t.data.toList).1 : Int), .int .i64 ((escE t.data.toList).2 : Int)]) ∧ Below w.heap.size w w' := by
  by_cases h0 : t.size = 0
  · obtain rfl : t = ⟨#[]⟩ := bytes_ext (List.eq_nil_of_length_eq_zero (by rw [← Lib.size_eq]; exact h0))
    have HE : Hid (escE [] = (0, 0)) := by unfold Hid; decide +kernel
    clear hN
    go_enter Tryz.func143, Tryz.ntmps143
    go_wp2_with fail
    go_ret2
    exact ⟨by rw [HE.out]; rfl, Below.refl _ _⟩
  have hpos : 0 < t.size := by omega
  have hne : (t.toList == ([] : List UInt8)) = false := by
    rw [beq_eq_false_iff_ne, Lib.toList_data]
    intro e
    have := congrArg List.length e
    rw [← Lib.size_eq] at this
    exact h0 this
  obtain ⟨n, hn⟩ : ∃ n, t[0].toNat = n := ⟨_, rfl⟩
  have hh : hd t.data.toList = n := by rw [← hn]; exact hd_rest t 0 hpos
  have hlt : n < 256 := by rw [← hn]; exact t[0].toNat_lt
  obtain ⟨z, hz⟩ : ∃ z, escE t.data.toList = z := ⟨_, rfl⟩
  rw [hz]
  have hz2 : z = if short n ≠ 0 then (short n, 1)
    else if n = 94 then (if 64 ≤ hd (rest t 1) ∧ hd (rest t 1) ≤ 95 then (hd (rest t 1) - 64, 2) else (0, 0))
    else if n = 111 then lettE 8 (rest t 1)
    else if n = 120 then lettE 16 (rest t 1)
    else if 48 ≤ n ∧ n ≤ 57 then digE 10 t.data.toList
    else nameE t.data.toList := by rw [← hz, ← hh]; rfl
  have c1 := fun W => let_any n W
  have c2 := fun W => dig_is n W
  have c3 := fun W => control_any t hpos hs W
  have c4 := fun W => lettered_any t 8 (by omega) (by omega) hpos hs W
  have c5 := fun W => lettered_any t 16 (by omega) (by omega) hpos hs W
  have c6 := fun W => digits_any t 10 (by omega) (by omega) hs W
  have c7 : Calls Tryz.prog 148 #[.string t] w _ := named_any t hs w hN
  have hl1 := lt_yes n hlt
  have hl2 := lt_no n hlt
  clear hN h0 hz hh
  generalize lettE 8 (rest t 1) = z4 at *
  generalize lettE 16 (rest t 1) = z5 at *
  generalize digE 10 t.data.toList = z6 at *
  generalize nameE t.data.toList = z7 at *
  generalize ((if 64 ≤ hd (rest t 1) ∧ hd (rest t 1) ≤ 95 then (hd (rest t 1) - 64, 2) else (0, 0)) : Nat × Nat) = z3 at *
  generalize ltI n = l at *
  have C1 := Lib.hid c1
  have C3 := Lib.hid c3
  have C4 := Lib.hid c4
  have C5 := Lib.hid c5
  have C6 := Lib.hid c6
  have C7 := Lib.hid c7
  clear c1 c3 c4 c5 c6 c7
  by_cases hl : 0 ≤ l
  · obtain ⟨g1, g2, g3⟩ := hl1 hl
    rw [if_pos g1] at hz2
    have HZ : Hid (z = (short n, 1)) := hz2
    have HS := Lib.hid g2
    clear hz2 c2 hl1 hl2 g1 g2 hlt
    go_enter Tryz.func143, Tryz.ntmps143
    go_wp2_with fail
    refine (C1.out _).mono ?_
    rintro e w1 ⟨rfl, rfl⟩
    go_wp2_with fail
    refine (C1.out _).mono ?_
    rintro e w1 ⟨rfl, rfl⟩
    go_wp2_with fail
    go_ret2
    refine ⟨?_, Below.refl _ _⟩
    rw [HZ.out]
    dsimp only
    rw [HS.out]
    rfl
  have hl3 := hl2 (by omega)
  have b0 : decide ((0 : Int) ≤ l) = false := decide_eq_false hl
  clear hl1 hl2 hl
  by_cases q1 : n = 92 ∨ n = 34 ∨ n = 39
  · rw [if_pos q1] at hl3
    rw [hl3, if_pos (by omega)] at hz2
    have HZ : Hid (z = (n, 1)) := hz2
    clear hz2 hl3 c2 C3 C4 C5 C6 C7
    rcases q1 with rfl | rfl | rfl
    · go_enter Tryz.func143, Tryz.ntmps143
      go_wp2_with fail
      refine (C1.out _).mono ?_
      rintro e w1 ⟨rfl, rfl⟩
      go_wp2_with fail
      go_ret2
      exact ⟨by rw [HZ.out] <;> rfl, Below.refl _ _⟩
    · go_enter Tryz.func143, Tryz.ntmps143
      go_wp2_with fail
      refine (C1.out _).mono ?_
      rintro e w1 ⟨rfl, rfl⟩
      go_wp2_with fail
      go_ret2
      exact ⟨by rw [HZ.out] <;> rfl, Below.refl _ _⟩
    · go_enter Tryz.func143, Tryz.ntmps143
      go_wp2_with fail
      refine (C1.out _).mono ?_
      rintro e w1 ⟨rfl, rfl⟩
      go_wp2_with fail
      go_ret2
      exact ⟨by rw [HZ.out] <;> rfl, Below.refl _ _⟩
  rw [if_neg q1] at hl3
  rw [hl3, if_neg (by omega)] at hz2
  have b1 : (((n : Nat) : Int) == 92) = false := by rw [beq_eq_false_iff_ne]; omega
  have b2 : (((n : Nat) : Int) == 34) = false := by rw [beq_eq_false_iff_ne]; omega
  have b3 : (((n : Nat) : Int) == 39) = false := by rw [beq_eq_false_iff_ne]; omega
  clear hl3 q1
  by_cases q : n = 94
  · rw [if_pos q] at hz2
    have HZ := Lib.hid hz2
    subst q
    clear hz2 c2
    go_enter Tryz.func143, Tryz.ntmps143
    go_wp2_with fail
    refine (C1.out _).mono ?_
    rintro e w1 ⟨rfl, rfl⟩
    go_wp2_with fail
    refine (C3.out _).mono ?_
    rintro e w2 ⟨rfl, rfl⟩
    go_wp2_with fail
    go_ret2
    exact ⟨by rw [HZ.out] <;> rfl, Below.refl _ _⟩
  rw [if_neg q] at hz2
  have b94 : (((n : Nat) : Int) == 94) = false := by rw [beq_eq_false_iff_ne]; omega
  clear q
  by_cases q : n = 111
  · rw [if_pos q] at hz2
    have HZ := Lib.hid hz2
    subst q
    clear hz2 c2
    go_enter Tryz.func143, Tryz.ntmps143
    go_wp2_with fail
    refine (C1.out _).mono ?_
    rintro e w1 ⟨rfl, rfl⟩
    go_wp2_with fail
    refine (C4.out _).mono ?_
    rintro e w2 ⟨rfl, hb2⟩
    have HB2 := Lib.hid hb2
    clear hb2
    go_wp2_with fail
    go_ret2
    exact ⟨by rw [HZ.out] <;> rfl, HB2.out⟩
  rw [if_neg q] at hz2
  have b111 : (((n : Nat) : Int) == 111) = false := by rw [beq_eq_false_iff_ne]; omega
  clear q
  by_cases q : n = 120
  · rw [if_pos q] at hz2
    have HZ := Lib.hid hz2
    subst q
    clear hz2 c2
    go_enter Tryz.func143, Tryz.ntmps143
    go_wp2_with fail
    refine (C1.out _).mono ?_
    rintro e w1 ⟨rfl, rfl⟩
    go_wp2_with fail
    refine (C5.out _).mono ?_
    rintro e w2 ⟨rfl, hb2⟩
    have HB2 := Lib.hid hb2
    clear hb2
    go_wp2_with fail
    go_ret2
    exact ⟨by rw [HZ.out] <;> rfl, HB2.out⟩
  rw [if_neg q] at hz2
  have b120 : (((n : Nat) : Int) == 120) = false := by rw [beq_eq_false_iff_ne]; omega
  clear q
  by_cases q : 48 ≤ n ∧ n ≤ 57
  · rw [if_pos q] at hz2
    have HZ := Lib.hid hz2
    have C2 : Hid (∀ W, Calls Tryz.prog 146 #[.int .i64 (n : Int)] W fun e w' => e = .returned (.bool true) ∧ W = w') := fun W => by
      have := c2 W
      rw [show isDig n = true by unfold isDig; rw [decide_eq_true q.1, decide_eq_true q.2]; rfl] at this
      exact this
    clear hz2 c2 q
    go_enter Tryz.func143, Tryz.ntmps143
    go_wp2_with fail
    refine (C1.out _).mono ?_
    rintro e w1 ⟨rfl, rfl⟩
    go_wp2_with fail
    refine (C2.out _).mono ?_
    rintro e w1 ⟨rfl, rfl⟩
    go_wp2_with fail
    refine (C6.out _).mono ?_
    rintro e w2 ⟨rfl, hb2⟩
    have HB2 := Lib.hid hb2
    clear hb2
    go_wp2_with fail
    go_ret2
    exact ⟨by rw [HZ.out] <;> rfl, HB2.out⟩
  · rw [if_neg q] at hz2
    have HZ := Lib.hid hz2
    have C2 : Hid (∀ W, Calls Tryz.prog 146 #[.int .i64 (n : Int)] W fun e w' => e = .returned (.bool false) ∧ W = w') := fun W => by
      have := c2 W
      rw [show isDig n = false by unfold isDig; rw [Bool.and_eq_false_iff, decide_eq_false_iff_not, decide_eq_false_iff_not]; omega] at this
      exact this
    clear hz2 c2 q
    go_enter Tryz.func143, Tryz.ntmps143
    go_wp2_with fail
    refine (C1.out _).mono ?_
    rintro e w1 ⟨rfl, rfl⟩
    go_wp2_with fail
    refine (C2.out _).mono ?_
    rintro e w1 ⟨rfl, rfl⟩
    go_wp2_with fail
    refine C7.out.mono ?_
    rintro e w2 ⟨rfl, rfl⟩
    go_wp2_with fail
    go_ret2
    exact ⟨by rw [HZ.out] <;> rfl, Below.refl _ _⟩
end Go.Proofs.YtmgclgojmckfhaaGreatDoor.Qt
