/-
  The contracts of package number's digitsEnd, endOr, fractionEnd, exponentEnd, letterBase, and of the document's own digits. Condition: a length that an int holds.
-/
import Derived.Test.YtmgclgojmckfhaaGreatDoorZMthA
import Derived.Lib.Strings
import Derived.Lib.Hide
import Derived.Handy
namespace Go.Proofs.YtmgclgojmckfhaaGreatDoor.Num
open Go.RowKit Gly
set_option linter.unusedSimpArgs false

/-- What is left of a string from byte n on. -/
def rest (s : ByteArray) (n : Nat) : List UInt8 := s.data.toList.drop n
theorem rest_zero (s : ByteArray) : rest s 0 = s.data.toList := rfl
theorem rest_len (s : ByteArray) (n : Nat) : (rest s n).length = s.size - n := by unfold rest; rw [List.length_drop, ← Lib.size_eq]
theorem rest_nil (s : ByteArray) (n : Nat) (h : s.size ≤ n) : rest s n = [] := List.eq_nil_of_length_eq_zero (by rw [rest_len]; omega)
theorem rest_drop (s : ByteArray) (n k : Nat) : (rest s n).drop k = rest s (n + k) := by unfold rest; rw [List.drop_drop]
theorem rest_cons (s : ByteArray) (n : Nat) (h : n < s.size) : rest s n = s[n] :: rest s (n + 1) := by
  have hl := Lib.size_eq s
  unfold rest
  rw [List.drop_eq_getElem_cons (by omega)]
  rfl
theorem bt_in (s : ByteArray) (n : Nat) (h : n < s.size) : bt s.data.toList n = s[n].toNat := by
  have hl := Lib.size_eq s
  unfold bt
  rw [List.getD_eq_getElem?_getD, List.getElem?_eq_getElem (by omega)]
  rfl
theorem bt_rest (s : ByteArray) (n k : Nat) : bt (rest s n) k = bt s.data.toList (n + k) := bt_drop _ _ _
theorem bytes_ext {a b : ByteArray} (h : a.data.toList = b.data.toList) : a = b := by
  cases a; cases b; simp at h; subst h; rfl

/-- The rune at a byte is worth what the byte is. -/
theorem dig_rune (s : ByteArray) (p : Nat) (hp : p < s.size) (b : Nat) : digitI (((Utf8.decode s p).1 : Nat) : Int) (b : Int) = dg b s[p] ∧ (isD b s[p] = true → (Utf8.decode s p).2 = 1) := by
  have hl := Lib.size_eq s
  have hg : (s.data.toList.getD p 0) = s[p] := by
    rw [List.getD_eq_getElem?_getD, List.getElem?_eq_getElem (by omega)]
    rfl
  have none : ∀ c : Int, 128 ≤ c → digitI c (b : Int) = -1 := by
    intro c hc
    have : digV c = -1 := by
      unfold digV wthn
      simp only [Bool.and_eq_true, decide_eq_true_eq]
      rw [if_neg (by omega), if_neg (by omega), if_neg (by omega)]
    unfold digitI
    rw [this]
    split <;> rfl
  by_cases ha : (s[p]).toNat < 128
  · rw [Lib.decode_N, hg, Lib.decodeN_ascii _ _ _ _ _ ha]
    exact ⟨rfl, fun _ => rfl⟩
  · have := (decode_high s p hp (by omega)).1
    rw [none _ (by omega)]
    have e : dg b s[p] = -1 := none _ (by omega)
    refine ⟨e.symm, fun h => ?_⟩
    unfold isD at h
    rw [e] at h
    simp at h

theorem digitsEnd_any (s : ByteArray) (n b : Nat) (hs : s.size ≤ 1125899906842624) (hn : n ≤ s.size) (w : World) :
    Calls Tryz.prog 101 #[.string s, .int .i64 (n : Int), .int .i64 (b : Int)] w fun e w' => e = .returned (.int .i64 ((n + run b (rest s n) : Nat) : Int)) ∧ Below w.heap.size w w' := by
  have hz : Hid ((s.extract n s.size).size = s.size - n) := size_tail s n
  go_enter Tryz.func101, Tryz.ntmps101
  go_wp2
  go_loopw [] (fun wr => ∃ (p : Nat), wr = w.iter (s.extract n s.size) p ∧ p + run b (rest s (n + p)) = run b (rest s n) ∧ n + p ≤ s.size) (fun wr => s.size - wr.iterPos w.heap.size)
  case atStart => exact ⟨0, rfl, by rw [Nat.zero_add, Nat.add_zero], by omega⟩
  case round =>
    obtain ⟨p, rfl, hq, hf⟩ := hrel
    have HQ : Hid (p + run b (rest s (n + p)) = run b (rest s n)) := hq
    clear hq
    by_cases hp : n + p < s.size
    · have hx := width_fits s (n + p) hp
      have hc := rune_le s (n + p)
      have hnx : ∀ ty, (Instr.next (.pointer (some ⟨w.heap.size, 0, none⟩)) true ty).run Tryz.prog (w.iter (s.extract n s.size) p) = .ok (.tuple #[.bool true, .int .i64 (p : Int), .int .i32 (((Utf8.decode s (n + p)).1 : Nat) : Int)]) (w.iter (s.extract n s.size) (p + (Utf8.decode s (n + p)).2)) := fun ty => by
        have := run_next_any (P := Tryz.prog) w (s.extract n s.size) p ty (by rw [hz.out]; omega)
        rw [decode_tail_at] at this
        exact this
      obtain ⟨hd1, hd2⟩ := dig_rune s (n + p) hp b
      have C : Hid (∀ W, Calls Tryz.prog 122 #[.int .i32 (((Utf8.decode s (n + p)).1 : Nat) : Int), .int .i64 (b : Int)] W fun e w' => e = .returned (.int .i64 (dg b s[n + p])) ∧ W = w') := fun W => by have := digit_any (((Utf8.decode s (n + p)).1 : Nat) : Int) b W; rw [hd1] at this; exact this
      clear hd1
      have hcons := rest_cons s (n + p) hp
      by_cases he : 0 ≤ dg b s[n + p]
      · have HE : Hid (isD b s[n + p] = true) := decide_eq_true he
        have W1 := Lib.hid (hd2 HE.out)
        have HC := Lib.hid hcons
        clear hd2 hcons
        generalize dg b s[n + p] = d at C he
        go_wp2_with (go_at_call 122; refine (C.out _).mono ?_; rintro e w1 ⟨rfl, rfl⟩)
        go_roundw
        case rel =>
          refine ⟨p + (Utf8.decode s (n + p)).2, rfl, ?_, by omega⟩
          have e : n + (p + 1) = n + p + 1 := by omega
          rw [← HQ.out, W1.out, HC.out, run, if_pos HE.out, e]
          omega
        case measure => simp; rw [W1.out]; omega
      · have HE : Hid (isD b s[n + p] = false) := decide_eq_false he
        have HC := Lib.hid hcons
        clear hd2 hcons
        generalize dg b s[n + p] = d at C he
        go_wp2_with (go_at_call 122; refine (C.out _).mono ?_; rintro e w1 ⟨rfl, rfl⟩)
        go_ret
        refine ⟨?_, (Below.refl _ _).alloc (Nat.le_refl _) _⟩
        rw [← HQ.out, HC.out, run, if_neg (by rw [HE.out]; decide)]
        simp
    · have hnx : ∀ ty, (Instr.next (.pointer (some ⟨w.heap.size, 0, none⟩)) true ty).run Tryz.prog (w.iter (s.extract n s.size) p) = _ := fun ty =>
        run_next_end (P := Tryz.prog) w (s.extract n s.size) p ty (by rw [hz.out]; omega)
      go_wp2
      go_ret
      refine ⟨?_, (Below.refl _ _).alloc (Nat.le_refl _) _⟩
      rw [← HQ.out, rest_nil s (n + p) (by omega)]
      have : s.size = n + p := by omega
      rw [this]
      simp [run]

theorem endOr_any (s : ByteArray) (n o : Nat) (hs : s.size ≤ 1125899906842624) (hn : n ≤ s.size) (w : World) :
    Calls Tryz.prog 123 #[.string s, .int .i64 (n : Int), .int .i64 (o : Int)] w fun e w' => e = .returned (.int .i64 (endOr s.data.toList n o : Int)) ∧ Below w.heap.size w w' := by
  have c0 := fun W => digitsEnd_any s n 10 hs hn W
  have he : endOr s.data.toList n o = if 0 < run 10 (rest s n) then n + run 10 (rest s n) else o := rfl
  rw [he]
  generalize run 10 (rest s n) = r at c0 ⊢
  have C0 := Lib.hid c0
  clear c0 he
  by_cases h : 0 < r
  · rw [if_pos h]
    have h1 : decide ((n : Int) < (n : Int) + (r : Int)) = true := decide_eq_true (by omega)
    go_enter Tryz.func123, Tryz.ntmps123
    go_wp2_with (go_at_call 101; refine (C0.out _).mono ?_; rintro e w1 ⟨rfl, hb1⟩)
    go_ret
    exact ⟨rfl, by assumption⟩
  · rw [if_neg h]
    have h1 : decide ((n : Int) < (n : Int) + (r : Int)) = false := decide_eq_false (by omega)
    go_enter Tryz.func123, Tryz.ntmps123
    go_wp2_with (go_at_call 101; refine (C0.out _).mono ?_; rintro e w1 ⟨rfl, hb1⟩)
    go_ret
    exact ⟨rfl, by assumption⟩

theorem fractionEnd_any (s : ByteArray) (n : Nat) (hs : s.size ≤ 1125899906842624) (hn : n ≤ s.size) (w : World) :
    Calls Tryz.prog 102 #[.string s, .int .i64 (n : Int)] w fun e w' => e = .returned (.int .i64 (fracE s.data.toList n : Int)) ∧ Below w.heap.size w w' := by
  have he : fracE s.data.toList n = if bt s.data.toList n = 46 then endOr s.data.toList (n + 1) n else n := rfl
  rw [he]
  by_cases h0 : n < s.size
  · have hb := bt_in s n h0
    by_cases h1 : s[n].toNat = 46
    · rw [if_pos (by omega)]
      have C : Hid (∀ W, _) := fun W => endOr_any s (n + 1) n hs (by omega) W
      generalize endOr s.data.toList (n + 1) n = r at C ⊢
      clear hb he
      go_enter Tryz.func102, Tryz.ntmps102
      go_wp2_with (go_at_call 123; refine (C.out _).mono ?_; rintro e w1 ⟨rfl, hb1⟩)
      go_ret
      exact ⟨rfl, by assumption⟩
    · rw [if_neg (by omega)]
      have x0 : (((n : Nat) : Int) == ((s.size : Nat) : Int)) = false := by rw [beq_eq_false_iff_ne]; omega
      have x1 : (((s[n].toNat : Nat) : Int) != 46) = true := by rw [bne_iff_ne]; omega
      clear hb he h1
      go_enter Tryz.func102, Tryz.ntmps102
      go_wp2_with fail
      go_ret
      exact ⟨rfl, Below.refl _ _⟩
  · rw [if_neg (by rw [bt_out _ _ (by rw [← Lib.size_eq]; omega)]; omega)]
    obtain rfl : n = s.size := by omega
    clear he
    go_enter Tryz.func102, Tryz.ntmps102
    go_wp2_with fail
    go_ret
    exact ⟨rfl, Below.refl _ _⟩

theorem exp_ep (s : ByteArray) (n r : Nat) (hs : s.size ≤ 1125899906842624) (h0 : n < s.size) (h1 : n + 1 < s.size) (x0 : (((n : Nat) : Int) == ((s.size : Nat) : Int)) = false) (x1 : (((s[n].toNat : Nat) : Int) != 101) = false) (y0 : decide ((n : Int) + 1 < (s.size : Int)) = true) (y1 : (((s[n + 1].toNat : Nat) : Int) == 43) = true)
    (C : Hid (∀ W, Calls Tryz.prog 123 #[.string s, .int .i64 ((n + 2 : Nat) : Int), .int .i64 (n : Int)] W fun e w' => e = .returned (.int .i64 (r : Int)) ∧ Below W.heap.size W w')) (w : World) :
    Calls Tryz.prog 103 #[.string s, .int .i64 (n : Int)] w fun e w' => e = .returned (.int .i64 (r : Int)) ∧ Below w.heap.size w w' := by
  go_enter Tryz.func103, Tryz.ntmps103
  go_wp2_with (go_at_call 123; refine (C.out _).mono ?_; rintro e w1 ⟨rfl, hb1⟩)
  go_ret
  exact ⟨rfl, by assumption⟩
theorem exp_em (s : ByteArray) (n r : Nat) (hs : s.size ≤ 1125899906842624) (h0 : n < s.size) (h1 : n + 1 < s.size) (x0 : (((n : Nat) : Int) == ((s.size : Nat) : Int)) = false) (x1 : (((s[n].toNat : Nat) : Int) != 101) = false) (y0 : decide ((n : Int) + 1 < (s.size : Int)) = true) (y1 : (((s[n + 1].toNat : Nat) : Int) == 43) = false) (y2 : (((s[n + 1].toNat : Nat) : Int) == 45) = true)
    (C : Hid (∀ W, Calls Tryz.prog 123 #[.string s, .int .i64 ((n + 2 : Nat) : Int), .int .i64 (n : Int)] W fun e w' => e = .returned (.int .i64 (r : Int)) ∧ Below W.heap.size W w')) (w : World) :
    Calls Tryz.prog 103 #[.string s, .int .i64 (n : Int)] w fun e w' => e = .returned (.int .i64 (r : Int)) ∧ Below w.heap.size w w' := by
  go_enter Tryz.func103, Tryz.ntmps103
  go_wp2_with (go_at_call 123; refine (C.out _).mono ?_; rintro e w1 ⟨rfl, hb1⟩)
  go_ret
  exact ⟨rfl, by assumption⟩
theorem exp_eo (s : ByteArray) (n r : Nat) (hs : s.size ≤ 1125899906842624) (h0 : n < s.size) (h1 : n + 1 < s.size) (x0 : (((n : Nat) : Int) == ((s.size : Nat) : Int)) = false) (x1 : (((s[n].toNat : Nat) : Int) != 101) = false) (y0 : decide ((n : Int) + 1 < (s.size : Int)) = true) (y1 : (((s[n + 1].toNat : Nat) : Int) == 43) = false) (y2 : (((s[n + 1].toNat : Nat) : Int) == 45) = false)
    (C : Hid (∀ W, Calls Tryz.prog 123 #[.string s, .int .i64 ((n + 1 : Nat) : Int), .int .i64 (n : Int)] W fun e w' => e = .returned (.int .i64 (r : Int)) ∧ Below W.heap.size W w')) (w : World) :
    Calls Tryz.prog 103 #[.string s, .int .i64 (n : Int)] w fun e w' => e = .returned (.int .i64 (r : Int)) ∧ Below w.heap.size w w' := by
  go_enter Tryz.func103, Tryz.ntmps103
  go_wp2_with (go_at_call 123; refine (C.out _).mono ?_; rintro e w1 ⟨rfl, hb1⟩)
  go_ret
  exact ⟨rfl, by assumption⟩
theorem exp_ex (s : ByteArray) (n r : Nat) (hs : s.size ≤ 1125899906842624) (h0 : n < s.size) (x0 : (((n : Nat) : Int) == ((s.size : Nat) : Int)) = false) (x1 : (((s[n].toNat : Nat) : Int) != 101) = false) (y0 : decide ((n : Int) + 1 < (s.size : Int)) = false)
    (C : Hid (∀ W, Calls Tryz.prog 123 #[.string s, .int .i64 ((n + 1 : Nat) : Int), .int .i64 (n : Int)] W fun e w' => e = .returned (.int .i64 (r : Int)) ∧ Below W.heap.size W w')) (w : World) :
    Calls Tryz.prog 103 #[.string s, .int .i64 (n : Int)] w fun e w' => e = .returned (.int .i64 (r : Int)) ∧ Below w.heap.size w w' := by
  go_enter Tryz.func103, Tryz.ntmps103
  go_wp2_with (go_at_call 123; refine (C.out _).mono ?_; rintro e w1 ⟨rfl, hb1⟩)
  go_ret
  exact ⟨rfl, by assumption⟩
theorem exp_Ep (s : ByteArray) (n r : Nat) (hs : s.size ≤ 1125899906842624) (h0 : n < s.size) (h1 : n + 1 < s.size) (x0 : (((n : Nat) : Int) == ((s.size : Nat) : Int)) = false) (x1 : (((s[n].toNat : Nat) : Int) != 101) = true) (x2 : (((s[n].toNat : Nat) : Int) != 69) = false) (y0 : decide ((n : Int) + 1 < (s.size : Int)) = true) (y1 : (((s[n + 1].toNat : Nat) : Int) == 43) = true)
    (C : Hid (∀ W, Calls Tryz.prog 123 #[.string s, .int .i64 ((n + 2 : Nat) : Int), .int .i64 (n : Int)] W fun e w' => e = .returned (.int .i64 (r : Int)) ∧ Below W.heap.size W w')) (w : World) :
    Calls Tryz.prog 103 #[.string s, .int .i64 (n : Int)] w fun e w' => e = .returned (.int .i64 (r : Int)) ∧ Below w.heap.size w w' := by
  go_enter Tryz.func103, Tryz.ntmps103
  go_wp2_with (go_at_call 123; refine (C.out _).mono ?_; rintro e w1 ⟨rfl, hb1⟩)
  go_ret
  exact ⟨rfl, by assumption⟩
theorem exp_Em (s : ByteArray) (n r : Nat) (hs : s.size ≤ 1125899906842624) (h0 : n < s.size) (h1 : n + 1 < s.size) (x0 : (((n : Nat) : Int) == ((s.size : Nat) : Int)) = false) (x1 : (((s[n].toNat : Nat) : Int) != 101) = true) (x2 : (((s[n].toNat : Nat) : Int) != 69) = false) (y0 : decide ((n : Int) + 1 < (s.size : Int)) = true) (y1 : (((s[n + 1].toNat : Nat) : Int) == 43) = false) (y2 : (((s[n + 1].toNat : Nat) : Int) == 45) = true)
    (C : Hid (∀ W, Calls Tryz.prog 123 #[.string s, .int .i64 ((n + 2 : Nat) : Int), .int .i64 (n : Int)] W fun e w' => e = .returned (.int .i64 (r : Int)) ∧ Below W.heap.size W w')) (w : World) :
    Calls Tryz.prog 103 #[.string s, .int .i64 (n : Int)] w fun e w' => e = .returned (.int .i64 (r : Int)) ∧ Below w.heap.size w w' := by
  go_enter Tryz.func103, Tryz.ntmps103
  go_wp2_with (go_at_call 123; refine (C.out _).mono ?_; rintro e w1 ⟨rfl, hb1⟩)
  go_ret
  exact ⟨rfl, by assumption⟩
theorem exp_Eo (s : ByteArray) (n r : Nat) (hs : s.size ≤ 1125899906842624) (h0 : n < s.size) (h1 : n + 1 < s.size) (x0 : (((n : Nat) : Int) == ((s.size : Nat) : Int)) = false) (x1 : (((s[n].toNat : Nat) : Int) != 101) = true) (x2 : (((s[n].toNat : Nat) : Int) != 69) = false) (y0 : decide ((n : Int) + 1 < (s.size : Int)) = true) (y1 : (((s[n + 1].toNat : Nat) : Int) == 43) = false) (y2 : (((s[n + 1].toNat : Nat) : Int) == 45) = false)
    (C : Hid (∀ W, Calls Tryz.prog 123 #[.string s, .int .i64 ((n + 1 : Nat) : Int), .int .i64 (n : Int)] W fun e w' => e = .returned (.int .i64 (r : Int)) ∧ Below W.heap.size W w')) (w : World) :
    Calls Tryz.prog 103 #[.string s, .int .i64 (n : Int)] w fun e w' => e = .returned (.int .i64 (r : Int)) ∧ Below w.heap.size w w' := by
  go_enter Tryz.func103, Tryz.ntmps103
  go_wp2_with (go_at_call 123; refine (C.out _).mono ?_; rintro e w1 ⟨rfl, hb1⟩)
  go_ret
  exact ⟨rfl, by assumption⟩
theorem exp_Ex (s : ByteArray) (n r : Nat) (hs : s.size ≤ 1125899906842624) (h0 : n < s.size) (x0 : (((n : Nat) : Int) == ((s.size : Nat) : Int)) = false) (x1 : (((s[n].toNat : Nat) : Int) != 101) = true) (x2 : (((s[n].toNat : Nat) : Int) != 69) = false) (y0 : decide ((n : Int) + 1 < (s.size : Int)) = false)
    (C : Hid (∀ W, Calls Tryz.prog 123 #[.string s, .int .i64 ((n + 1 : Nat) : Int), .int .i64 (n : Int)] W fun e w' => e = .returned (.int .i64 (r : Int)) ∧ Below W.heap.size W w')) (w : World) :
    Calls Tryz.prog 103 #[.string s, .int .i64 (n : Int)] w fun e w' => e = .returned (.int .i64 (r : Int)) ∧ Below w.heap.size w w' := by
  go_enter Tryz.func103, Tryz.ntmps103
  go_wp2_with (go_at_call 123; refine (C.out _).mono ?_; rintro e w1 ⟨rfl, hb1⟩)
  go_ret
  exact ⟨rfl, by assumption⟩
theorem exp_none (s : ByteArray) (n : Nat) (h0 : n < s.size) (x0 : (((n : Nat) : Int) == ((s.size : Nat) : Int)) = false) (x1 : (((s[n].toNat : Nat) : Int) != 101) = true) (x2 : (((s[n].toNat : Nat) : Int) != 69) = true) (w : World) :
    Calls Tryz.prog 103 #[.string s, .int .i64 (n : Int)] w fun e w' => e = .returned (.int .i64 (n : Int)) ∧ Below w.heap.size w w' := by
  go_enter Tryz.func103, Tryz.ntmps103
  go_wp2_with fail
  go_ret
  exact ⟨rfl, Below.refl _ _⟩
theorem exp_end (s : ByteArray) (n : Nat) (x0 : (((n : Nat) : Int) == ((s.size : Nat) : Int)) = true) (w : World) :
    Calls Tryz.prog 103 #[.string s, .int .i64 (n : Int)] w fun e w' => e = .returned (.int .i64 (n : Int)) ∧ Below w.heap.size w w' := by
  go_enter Tryz.func103, Tryz.ntmps103
  go_wp2_with fail
  go_ret
  exact ⟨rfl, Below.refl _ _⟩
theorem exponentEnd_any (s : ByteArray) (n : Nat) (hs : s.size ≤ 1125899906842624) (hn : n ≤ s.size) (w : World) :
    Calls Tryz.prog 103 #[.string s, .int .i64 (n : Int)] w fun e w' => e = .returned (.int .i64 (expE s.data.toList n : Int)) ∧ Below w.heap.size w w' := by
  have he : expE s.data.toList n = if bt s.data.toList n = 101 ∨ bt s.data.toList n = 69 then endOr s.data.toList (expF s.data.toList n) n else n := rfl
  rw [he]
  by_cases h0 : n < s.size
  · have x0 : (((n : Nat) : Int) == ((s.size : Nat) : Int)) = false := by rw [beq_eq_false_iff_ne]; omega
    rw [bt_in s n h0]
    by_cases h1 : s[n].toNat = 101 ∨ s[n].toNat = 69
    · rw [if_pos h1]
      have hf : expF s.data.toList n = if bt s.data.toList (n + 1) = 43 ∨ bt s.data.toList (n + 1) = 45 then n + 2 else n + 1 := rfl
      by_cases h2 : n + 1 < s.size
      · have y0 : decide ((n : Int) + 1 < (s.size : Int)) = true := decide_eq_true (by omega)
        rw [bt_in s (n + 1) h2] at hf
        by_cases h3 : s[n + 1].toNat = 43
        · have y1 : (((s[n + 1].toNat : Nat) : Int) == 43) = true := by rw [beq_iff_eq]; omega
          rw [if_pos (.inl h3)] at hf
          rw [hf]
          rcases h1 with h1 | h1
          · exact exp_ep s n _ hs h0 h2 x0 (by rw [bne_eq_false_iff_eq]; omega) y0 y1 (fun W => endOr_any s (n + 2) n hs (by omega) W) w
          · exact exp_Ep s n _ hs h0 h2 x0 (by rw [bne_iff_ne]; omega) (by rw [bne_eq_false_iff_eq]; omega) y0 y1 (fun W => endOr_any s (n + 2) n hs (by omega) W) w
        · have y1 : (((s[n + 1].toNat : Nat) : Int) == 43) = false := by rw [beq_eq_false_iff_ne]; omega
          by_cases h4 : s[n + 1].toNat = 45
          · have y2 : (((s[n + 1].toNat : Nat) : Int) == 45) = true := by rw [beq_iff_eq]; omega
            rw [if_pos (.inr h4)] at hf
            rw [hf]
            rcases h1 with h1 | h1
            · exact exp_em s n _ hs h0 h2 x0 (by rw [bne_eq_false_iff_eq]; omega) y0 y1 y2 (fun W => endOr_any s (n + 2) n hs (by omega) W) w
            · exact exp_Em s n _ hs h0 h2 x0 (by rw [bne_iff_ne]; omega) (by rw [bne_eq_false_iff_eq]; omega) y0 y1 y2 (fun W => endOr_any s (n + 2) n hs (by omega) W) w
          · have y2 : (((s[n + 1].toNat : Nat) : Int) == 45) = false := by rw [beq_eq_false_iff_ne]; omega
            rw [if_neg (by omega)] at hf
            rw [hf]
            rcases h1 with h1 | h1
            · exact exp_eo s n _ hs h0 h2 x0 (by rw [bne_eq_false_iff_eq]; omega) y0 y1 y2 (fun W => endOr_any s (n + 1) n hs (by omega) W) w
            · exact exp_Eo s n _ hs h0 h2 x0 (by rw [bne_iff_ne]; omega) (by rw [bne_eq_false_iff_eq]; omega) y0 y1 y2 (fun W => endOr_any s (n + 1) n hs (by omega) W) w
      · have y0 : decide ((n : Int) + 1 < (s.size : Int)) = false := decide_eq_false (by omega)
        have hb := bt_out s.data.toList (n + 1) (by rw [← Lib.size_eq]; omega)
        rw [hb, if_neg (by omega)] at hf
        rw [hf]
        rcases h1 with h1 | h1
        · exact exp_ex s n _ hs h0 x0 (by rw [bne_eq_false_iff_eq]; omega) y0 (fun W => endOr_any s (n + 1) n hs (by omega) W) w
        · exact exp_Ex s n _ hs h0 x0 (by rw [bne_iff_ne]; omega) (by rw [bne_eq_false_iff_eq]; omega) y0 (fun W => endOr_any s (n + 1) n hs (by omega) W) w
    · rw [if_neg h1]
      exact exp_none s n h0 x0 (by rw [bne_iff_ne]; omega) (by rw [bne_iff_ne]; omega) w
  · have hb := bt_out s.data.toList n (by rw [← Lib.size_eq]; omega)
    rw [hb, if_neg (by omega)]
    exact exp_end s n (by rw [beq_iff_eq]; omega) w

theorem letterBase_any (x : Nat) (w : World) :
    Calls Tryz.prog 121 #[.int .u8 (x : Int)] w fun e w' => e = .returned (.int .i64 (letter x : Int)) ∧ w = w' := by
  by_cases h1 : x = 111
  · subst h1
    go_enter Tryz.func121, Tryz.ntmps121
    go_wp2_with fail
    go_ret
    exact ⟨rfl, rfl⟩
  by_cases h2 : x = 79
  · subst h2
    go_enter Tryz.func121, Tryz.ntmps121
    go_wp2_with fail
    go_ret
    exact ⟨rfl, rfl⟩
  by_cases h3 : x = 120
  · subst h3
    go_enter Tryz.func121, Tryz.ntmps121
    go_wp2_with fail
    go_ret
    exact ⟨rfl, rfl⟩
  by_cases h4 : x = 88
  · subst h4
    go_enter Tryz.func121, Tryz.ntmps121
    go_wp2_with fail
    go_ret
    exact ⟨rfl, rfl⟩
  have hl : letter x = 0 := by
    unfold letter
    rw [if_neg (by omega), if_neg (by omega)]
  rw [hl]
  have g1 : ((x : Int) == 111) = false := by rw [beq_eq_false_iff_ne]; omega
  have g2 : ((x : Int) == 79) = false := by rw [beq_eq_false_iff_ne]; omega
  have g3 : ((x : Int) == 120) = false := by rw [beq_eq_false_iff_ne]; omega
  have g4 : ((x : Int) == 88) = false := by rw [beq_eq_false_iff_ne]; omega
  go_enter Tryz.func121, Tryz.ntmps121
  go_wp2_with fail
  go_ret
  exact ⟨rfl, rfl⟩
end Go.Proofs.YtmgclgojmckfhaaGreatDoor.Num
