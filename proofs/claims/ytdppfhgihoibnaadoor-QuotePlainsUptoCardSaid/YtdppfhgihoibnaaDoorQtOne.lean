/-
  The contract of the document's own one: what stands at a byte within a literal. Condition: the string has at most 2^50 bytes.
-/
import Derived.Test.YtdppfhgihoibnaaDoorQtRfb
namespace Go.Proofs.YtdppfhgihoibnaaDoor.Qt
open Go.RowKit Gly
open Wrd (rn wd)
set_option linter.unusedSimpArgs false
set_option linter.unusedVariables false

/-- What one answers: a number (-2: none), where it ends, an error. -/
def oneA (n : Nat) (text : Bool) (L : List UInt8) : Int × Int × Int :=
  match pieceL L with
  | .error e => (0, (n : Int), e)
  | .ok p => if text = false ∧ p.form ≠ 0 then (0, (n : Int), 51) else ((if p.form = 0 then (p.num : Int) else -2), ((n + p.bytes.length : Nat) : Int), 0)

theorem one_end (s : ByteArray) (n : Nat) (hs : s.size ≤ 1125899906842624) (hn : ¬ n < s.size) (b : Bool) (w : World) :
    Calls Tryd.prog 40 #[.string s, .int .i64 (n : Int), .bool b] w fun e w' => e = .returned (.tuple #[.int .i64 0, .int .i64 (n : Int), .int .i64 50]) ∧ w = w' := by
  have x0 : decide ((s.size : Int) ≤ (n : Int)) = true := decide_eq_true (by omega)
  have x1 : decide (s.size ≤ n) = true := decide_eq_true (by omega)
  clear hn
  go_enter Tryd.func40, Tryd.ntmps40
  go_wp2_with fail
  go_ret3
  exact ⟨rfl, rfl⟩

theorem one_gap (s : ByteArray) (n : Nat) (hs : s.size ≤ 1125899906842624) (hn : n < s.size) (h92 : s[n].toNat = 92) (G : Nat) (hG : 0 < G) (CG : Hid (∀ W, Calls Tryd.prog 34 #[.string s, .int .i64 (n : Int)] W fun e w' => e = .returned (.int .i64 ((G : Int))) ∧ W = w')) (w : World) :
    Calls Tryd.prog 40 #[.string s, .int .i64 (n : Int), .bool true] w fun e w' => e = .returned (.tuple #[.int .i64 (-2), .int .i64 (G : Int), .int .i64 0]) ∧ w = w' := by
  have x0 : decide ((s.size : Int) ≤ (n : Int)) = false := decide_eq_false (by omega)
  have x1 : (((s[n].toNat : Nat) : Int) == 92) = true := by rw [beq_iff_eq]; omega
  clear h92
  have x2 : decide ((0 : Int) < (G : Int)) = true := decide_eq_true (by omega)
  go_enter Tryd.func40, Tryd.ntmps40
  go_wp2_with fail
  refine (CG.out _).mono ?_
  rintro e w1 ⟨rfl, rfl⟩
  go_wp2_with fail
  refine (CG.out _).mono ?_
  rintro e w1 ⟨rfl, rfl⟩
  go_wp2_with fail
  go_ret3
  exact ⟨rfl, rfl⟩

theorem one_text_38 (s : ByteArray) (n : Nat) (hs : s.size ≤ 1125899906842624) (hn : n < s.size) (h92 : s[n].toNat = 92) (E : Int) (CG : Hid (∀ W, Calls Tryd.prog 34 #[.string s, .int .i64 (n : Int)] W fun e w' => e = .returned (.int .i64 (0)) ∧ W = w')) (CE : Hid (∀ W, Calls Tryd.prog 35 #[.string s, .int .i64 (n : Int)] W fun e w' => (e = .returned (.tuple #[.int .i64 (-2), .int .i64 E])) ∧ Below W.heap.size W w')) (w : World) :
    Calls Tryd.prog 40 #[.string s, .int .i64 (n : Int), .bool true] w fun e w' => e = .returned (.tuple #[.int .i64 (-2), .int .i64 E, .int .i64 0]) ∧ Below w.heap.size w w' := by
  have x0 : decide ((s.size : Int) ≤ (n : Int)) = false := decide_eq_false (by omega)
  have x1 : (((s[n].toNat : Nat) : Int) == 92) = true := by rw [beq_iff_eq]; omega
  clear h92
  go_enter Tryd.func40, Tryd.ntmps40
  go_wp2_with fail
  refine (CG.out _).mono ?_
  rintro e w1 ⟨rfl, rfl⟩
  go_wp2_with fail
  refine (CE.out _).mono ?_
  rintro e w1 ⟨rfl, hb⟩
  have HB := Lib.hid hb
  clear hb
  go_wp2_with fail
  go_ret3
  exact ⟨rfl, HB.out⟩

theorem one_text_ok (s : ByteArray) (n : Nat) (hs : s.size ≤ 1125899906842624) (hn : n < s.size) (h92 : s[n].toNat = 92) (v : Nat) (E : Int) (CG : Hid (∀ W, Calls Tryd.prog 34 #[.string s, .int .i64 (n : Int)] W fun e w' => e = .returned (.int .i64 (0)) ∧ W = w')) (CE : Hid (∀ W, Calls Tryd.prog 35 #[.string s, .int .i64 (n : Int)] W fun e w' => (e = .returned (.tuple #[.int .i64 (v : Int), .int .i64 E])) ∧ Below W.heap.size W w')) (w : World) :
    Calls Tryd.prog 40 #[.string s, .int .i64 (n : Int), .bool true] w fun e w' => e = .returned (.tuple #[.int .i64 (v : Int), .int .i64 E, .int .i64 0]) ∧ Below w.heap.size w w' := by
  have x0 : decide ((s.size : Int) ≤ (n : Int)) = false := decide_eq_false (by omega)
  have x1 : (((s[n].toNat : Nat) : Int) == 92) = true := by rw [beq_iff_eq]; omega
  clear h92
  have x2 : ((v : Int) == -1) = false := by rw [beq_eq_false_iff_ne]; omega
  have x3 : ((v : Int) == -2) = false := by rw [beq_eq_false_iff_ne]; omega
  go_enter Tryd.func40, Tryd.ntmps40
  go_wp2_with fail
  refine (CG.out _).mono ?_
  rintro e w1 ⟨rfl, rfl⟩
  go_wp2_with fail
  refine (CE.out _).mono ?_
  rintro e w1 ⟨rfl, hb⟩
  have HB := Lib.hid hb
  clear hb
  go_wp2_with fail
  go_ret3
  exact ⟨rfl, HB.out⟩

theorem one_text_bad (s : ByteArray) (n : Nat) (hs : s.size ≤ 1125899906842624) (hn : n < s.size) (h92 : s[n].toNat = 92) (CG : Hid (∀ W, Calls Tryd.prog 34 #[.string s, .int .i64 (n : Int)] W fun e w' => e = .returned (.int .i64 (0)) ∧ W = w')) (CE : Hid (∀ W, Calls Tryd.prog 35 #[.string s, .int .i64 (n : Int)] W fun e w' => (∃ E, e = .returned (.tuple #[.int .i64 (-1), .int .i64 E])) ∧ Below W.heap.size W w')) (w : World) :
    Calls Tryd.prog 40 #[.string s, .int .i64 (n : Int), .bool true] w fun e w' => e = .returned (.tuple #[.int .i64 0, .int .i64 (n : Int), .int .i64 51]) ∧ Below w.heap.size w w' := by
  have x0 : decide ((s.size : Int) ≤ (n : Int)) = false := decide_eq_false (by omega)
  have x1 : (((s[n].toNat : Nat) : Int) == 92) = true := by rw [beq_iff_eq]; omega
  clear h92
  go_enter Tryd.func40, Tryd.ntmps40
  go_wp2_with fail
  refine (CG.out _).mono ?_
  rintro e w1 ⟨rfl, rfl⟩
  go_wp2_with fail
  refine (CE.out _).mono ?_
  rintro e w1 ⟨⟨E, rfl⟩, hb⟩
  have HB := Lib.hid hb
  clear hb
  go_wp2_with fail
  go_ret3
  exact ⟨rfl, HB.out⟩

theorem one_char_ok (s : ByteArray) (n : Nat) (hs : s.size ≤ 1125899906842624) (hn : n < s.size) (h92 : s[n].toNat = 92) (v : Nat) (E : Int) (CE : Hid (∀ W, Calls Tryd.prog 35 #[.string s, .int .i64 (n : Int)] W fun e w' => (e = .returned (.tuple #[.int .i64 (v : Int), .int .i64 E])) ∧ Below W.heap.size W w')) (w : World) :
    Calls Tryd.prog 40 #[.string s, .int .i64 (n : Int), .bool false] w fun e w' => e = .returned (.tuple #[.int .i64 (v : Int), .int .i64 E, .int .i64 0]) ∧ Below w.heap.size w w' := by
  have x0 : decide ((s.size : Int) ≤ (n : Int)) = false := decide_eq_false (by omega)
  have x1 : (((s[n].toNat : Nat) : Int) == 92) = true := by rw [beq_iff_eq]; omega
  clear h92
  have x2 : ((v : Int) == -1) = false := by rw [beq_eq_false_iff_ne]; omega
  have x3 : ((v : Int) == -2) = false := by rw [beq_eq_false_iff_ne]; omega
  go_enter Tryd.func40, Tryd.ntmps40
  go_wp2_with fail
  refine (CE.out _).mono ?_
  rintro e w1 ⟨rfl, hb⟩
  have HB := Lib.hid hb
  clear hb
  go_wp2_with fail
  go_ret3
  exact ⟨rfl, HB.out⟩

theorem one_char_bad (s : ByteArray) (n : Nat) (hs : s.size ≤ 1125899906842624) (hn : n < s.size) (h92 : s[n].toNat = 92) (CE : Hid (∀ W, Calls Tryd.prog 35 #[.string s, .int .i64 (n : Int)] W fun e w' => (∃ E, e = .returned (.tuple #[.int .i64 (-1), .int .i64 E])) ∧ Below W.heap.size W w')) (w : World) :
    Calls Tryd.prog 40 #[.string s, .int .i64 (n : Int), .bool false] w fun e w' => e = .returned (.tuple #[.int .i64 0, .int .i64 (n : Int), .int .i64 51]) ∧ Below w.heap.size w w' := by
  have x0 : decide ((s.size : Int) ≤ (n : Int)) = false := decide_eq_false (by omega)
  have x1 : (((s[n].toNat : Nat) : Int) == 92) = true := by rw [beq_iff_eq]; omega
  clear h92
  go_enter Tryd.func40, Tryd.ntmps40
  go_wp2_with fail
  refine (CE.out _).mono ?_
  rintro e w1 ⟨⟨E, rfl⟩, hb⟩
  have HB := Lib.hid hb
  clear hb
  go_wp2_with fail
  go_ret3
  exact ⟨rfl, HB.out⟩

theorem one_char_38 (s : ByteArray) (n : Nat) (hs : s.size ≤ 1125899906842624) (hn : n < s.size) (h92 : s[n].toNat = 92) (CE : Hid (∀ W, Calls Tryd.prog 35 #[.string s, .int .i64 (n : Int)] W fun e w' => (∃ E, e = .returned (.tuple #[.int .i64 (-2), .int .i64 E])) ∧ Below W.heap.size W w')) (w : World) :
    Calls Tryd.prog 40 #[.string s, .int .i64 (n : Int), .bool false] w fun e w' => e = .returned (.tuple #[.int .i64 0, .int .i64 (n : Int), .int .i64 51]) ∧ Below w.heap.size w w' := by
  have x0 : decide ((s.size : Int) ≤ (n : Int)) = false := decide_eq_false (by omega)
  have x1 : (((s[n].toNat : Nat) : Int) == 92) = true := by rw [beq_iff_eq]; omega
  clear h92
  go_enter Tryd.func40, Tryd.ntmps40
  go_wp2_with fail
  refine (CE.out _).mono ?_
  rintro e w1 ⟨⟨E, rfl⟩, hb⟩
  have HB := Lib.hid hb
  clear hb
  go_wp2_with fail
  go_ret3
  exact ⟨rfl, HB.out⟩

theorem one_bad0 (s : ByteArray) (n : Nat) (hs : s.size ≤ 1125899906842624) (hn : n < s.size) (h92 : s[n].toNat ≠ 92) (c d k : Int) (CN : Hid (∀ W, Calls Tryd.prog 50 #[.string s, .int .i64 (n : Int)] W fun e w' => e = .returned (.tuple #[.int .i64 c, .int .i64 d]) ∧ W = w')) (CC : Hid (∀ W, Calls Tryd.prog 51 #[.int .i64 c] W fun e w' => e = .returned (.int .i64 k) ∧ W = w')) (b : Bool) (y0 : (k == 0) = true) (w : World) :
    Calls Tryd.prog 40 #[.string s, .int .i64 (n : Int), .bool b] w fun e w' => e = .returned (.tuple #[.int .i64 0, .int .i64 (n : Int), .int .i64 50]) ∧ w = w' := by
  have x0 : decide ((s.size : Int) ≤ (n : Int)) = false := decide_eq_false (by omega)
  have x1 : (((s[n].toNat : Nat) : Int) == 92) = false := by rw [beq_eq_false_iff_ne]; omega
  clear h92
  go_enter Tryd.func40, Tryd.ntmps40
  go_wp2_with fail
  refine (CN.out _).mono ?_
  rintro e w1 ⟨rfl, rfl⟩
  go_wp2_with fail
  refine (CC.out _).mono ?_
  rintro e w1 ⟨rfl, rfl⟩
  go_wp2_with fail
  go_ret3
  exact ⟨rfl, rfl⟩

theorem one_bad1 (s : ByteArray) (n : Nat) (hs : s.size ≤ 1125899906842624) (hn : n < s.size) (h92 : s[n].toNat ≠ 92) (c d k : Int) (CN : Hid (∀ W, Calls Tryd.prog 50 #[.string s, .int .i64 (n : Int)] W fun e w' => e = .returned (.tuple #[.int .i64 c, .int .i64 d]) ∧ W = w')) (CC : Hid (∀ W, Calls Tryd.prog 51 #[.int .i64 c] W fun e w' => e = .returned (.int .i64 k) ∧ W = w')) (b : Bool) (y0 : (k == 0) = false) (y1 : (k == 1) = true) (y2 : (c != 32) = true) (w : World) :
    Calls Tryd.prog 40 #[.string s, .int .i64 (n : Int), .bool b] w fun e w' => e = .returned (.tuple #[.int .i64 0, .int .i64 (n : Int), .int .i64 50]) ∧ w = w' := by
  have x0 : decide ((s.size : Int) ≤ (n : Int)) = false := decide_eq_false (by omega)
  have x1 : (((s[n].toNat : Nat) : Int) == 92) = false := by rw [beq_eq_false_iff_ne]; omega
  clear h92
  go_enter Tryd.func40, Tryd.ntmps40
  go_wp2_with fail
  refine (CN.out _).mono ?_
  rintro e w1 ⟨rfl, rfl⟩
  go_wp2_with fail
  refine (CC.out _).mono ?_
  rintro e w1 ⟨rfl, rfl⟩
  go_wp2_with fail
  go_ret3
  exact ⟨rfl, rfl⟩

theorem one_bad2 (s : ByteArray) (n : Nat) (hs : s.size ≤ 1125899906842624) (hn : n < s.size) (h92 : s[n].toNat ≠ 92) (c d k : Int) (CN : Hid (∀ W, Calls Tryd.prog 50 #[.string s, .int .i64 (n : Int)] W fun e w' => e = .returned (.tuple #[.int .i64 c, .int .i64 d]) ∧ W = w')) (CC : Hid (∀ W, Calls Tryd.prog 51 #[.int .i64 c] W fun e w' => e = .returned (.int .i64 k) ∧ W = w')) (b : Bool) (y0 : (k == 0) = false) (y1 : (k == 1) = false) (y3 : (c == 65533) = true) (y4 : (d == 1) = true) (w : World) :
    Calls Tryd.prog 40 #[.string s, .int .i64 (n : Int), .bool b] w fun e w' => e = .returned (.tuple #[.int .i64 0, .int .i64 (n : Int), .int .i64 50]) ∧ w = w' := by
  have x0 : decide ((s.size : Int) ≤ (n : Int)) = false := decide_eq_false (by omega)
  have x1 : (((s[n].toNat : Nat) : Int) == 92) = false := by rw [beq_eq_false_iff_ne]; omega
  clear h92
  go_enter Tryd.func40, Tryd.ntmps40
  go_wp2_with fail
  refine (CN.out _).mono ?_
  rintro e w1 ⟨rfl, rfl⟩
  go_wp2_with fail
  refine (CC.out _).mono ?_
  rintro e w1 ⟨rfl, rfl⟩
  go_wp2_with fail
  go_ret3
  exact ⟨rfl, rfl⟩

theorem one_bad3 (s : ByteArray) (n : Nat) (hs : s.size ≤ 1125899906842624) (hn : n < s.size) (h92 : s[n].toNat ≠ 92) (c d k : Int) (CN : Hid (∀ W, Calls Tryd.prog 50 #[.string s, .int .i64 (n : Int)] W fun e w' => e = .returned (.tuple #[.int .i64 c, .int .i64 d]) ∧ W = w')) (CC : Hid (∀ W, Calls Tryd.prog 51 #[.int .i64 c] W fun e w' => e = .returned (.int .i64 k) ∧ W = w')) (b : Bool) (y0 : (k == 0) = false) (y1 : (k == 1) = true) (y2 : (c != 32) = false) (y3 : (c == 65533) = true) (y4 : (d == 1) = true) (w : World) :
    Calls Tryd.prog 40 #[.string s, .int .i64 (n : Int), .bool b] w fun e w' => e = .returned (.tuple #[.int .i64 0, .int .i64 (n : Int), .int .i64 50]) ∧ w = w' := by
  have x0 : decide ((s.size : Int) ≤ (n : Int)) = false := decide_eq_false (by omega)
  have x1 : (((s[n].toNat : Nat) : Int) == 92) = false := by rw [beq_eq_false_iff_ne]; omega
  clear h92
  go_enter Tryd.func40, Tryd.ntmps40
  go_wp2_with fail
  refine (CN.out _).mono ?_
  rintro e w1 ⟨rfl, rfl⟩
  go_wp2_with fail
  refine (CC.out _).mono ?_
  rintro e w1 ⟨rfl, rfl⟩
  go_wp2_with fail
  go_ret3
  exact ⟨rfl, rfl⟩

theorem one_own_aa (s : ByteArray) (n : Nat) (hs : s.size ≤ 1125899906842624) (hn : n < s.size) (h92 : s[n].toNat ≠ 92) (c d k : Int) (CN : Hid (∀ W, Calls Tryd.prog 50 #[.string s, .int .i64 (n : Int)] W fun e w' => e = .returned (.tuple #[.int .i64 c, .int .i64 d]) ∧ W = w')) (CC : Hid (∀ W, Calls Tryd.prog 51 #[.int .i64 c] W fun e w' => e = .returned (.int .i64 k) ∧ W = w')) (hd0 : 0 ≤ d) (hd1 : d ≤ 4) (b : Bool) (y0 : (k == 0) = false) (y1 : (k == 1) = false) (y3 : (c == 65533) = false) (w : World) :
    Calls Tryd.prog 40 #[.string s, .int .i64 (n : Int), .bool b] w fun e w' => e = .returned (.tuple #[.int .i64 c, .int .i64 ((n : Int) + d), .int .i64 0]) ∧ w = w' := by
  have x0 : decide ((s.size : Int) ≤ (n : Int)) = false := decide_eq_false (by omega)
  have x1 : (((s[n].toNat : Nat) : Int) == 92) = false := by rw [beq_eq_false_iff_ne]; omega
  clear h92
  go_enter Tryd.func40, Tryd.ntmps40
  go_wp2_with fail
  refine (CN.out _).mono ?_
  rintro e w1 ⟨rfl, rfl⟩
  go_wp2_with fail
  refine (CC.out _).mono ?_
  rintro e w1 ⟨rfl, rfl⟩
  go_wp2_with fail
  go_ret3
  exact ⟨rfl, rfl⟩

theorem one_own_ab (s : ByteArray) (n : Nat) (hs : s.size ≤ 1125899906842624) (hn : n < s.size) (h92 : s[n].toNat ≠ 92) (c d k : Int) (CN : Hid (∀ W, Calls Tryd.prog 50 #[.string s, .int .i64 (n : Int)] W fun e w' => e = .returned (.tuple #[.int .i64 c, .int .i64 d]) ∧ W = w')) (CC : Hid (∀ W, Calls Tryd.prog 51 #[.int .i64 c] W fun e w' => e = .returned (.int .i64 k) ∧ W = w')) (hd0 : 0 ≤ d) (hd1 : d ≤ 4) (b : Bool) (y0 : (k == 0) = false) (y1 : (k == 1) = false) (y3 : (c == 65533) = true) (y4 : (d == 1) = false) (w : World) :
    Calls Tryd.prog 40 #[.string s, .int .i64 (n : Int), .bool b] w fun e w' => e = .returned (.tuple #[.int .i64 c, .int .i64 ((n : Int) + d), .int .i64 0]) ∧ w = w' := by
  have x0 : decide ((s.size : Int) ≤ (n : Int)) = false := decide_eq_false (by omega)
  have x1 : (((s[n].toNat : Nat) : Int) == 92) = false := by rw [beq_eq_false_iff_ne]; omega
  clear h92
  go_enter Tryd.func40, Tryd.ntmps40
  go_wp2_with fail
  refine (CN.out _).mono ?_
  rintro e w1 ⟨rfl, rfl⟩
  go_wp2_with fail
  refine (CC.out _).mono ?_
  rintro e w1 ⟨rfl, rfl⟩
  go_wp2_with fail
  go_ret3
  exact ⟨rfl, rfl⟩

theorem one_own_ba (s : ByteArray) (n : Nat) (hs : s.size ≤ 1125899906842624) (hn : n < s.size) (h92 : s[n].toNat ≠ 92) (c d k : Int) (CN : Hid (∀ W, Calls Tryd.prog 50 #[.string s, .int .i64 (n : Int)] W fun e w' => e = .returned (.tuple #[.int .i64 c, .int .i64 d]) ∧ W = w')) (CC : Hid (∀ W, Calls Tryd.prog 51 #[.int .i64 c] W fun e w' => e = .returned (.int .i64 k) ∧ W = w')) (hd0 : 0 ≤ d) (hd1 : d ≤ 4) (b : Bool) (y0 : (k == 0) = false) (y1 : (k == 1) = true) (y2 : (c != 32) = false) (y3 : (c == 65533) = false) (w : World) :
    Calls Tryd.prog 40 #[.string s, .int .i64 (n : Int), .bool b] w fun e w' => e = .returned (.tuple #[.int .i64 c, .int .i64 ((n : Int) + d), .int .i64 0]) ∧ w = w' := by
  have x0 : decide ((s.size : Int) ≤ (n : Int)) = false := decide_eq_false (by omega)
  have x1 : (((s[n].toNat : Nat) : Int) == 92) = false := by rw [beq_eq_false_iff_ne]; omega
  clear h92
  go_enter Tryd.func40, Tryd.ntmps40
  go_wp2_with fail
  refine (CN.out _).mono ?_
  rintro e w1 ⟨rfl, rfl⟩
  go_wp2_with fail
  refine (CC.out _).mono ?_
  rintro e w1 ⟨rfl, rfl⟩
  go_wp2_with fail
  go_ret3
  exact ⟨rfl, rfl⟩

theorem one_own_bb (s : ByteArray) (n : Nat) (hs : s.size ≤ 1125899906842624) (hn : n < s.size) (h92 : s[n].toNat ≠ 92) (c d k : Int) (CN : Hid (∀ W, Calls Tryd.prog 50 #[.string s, .int .i64 (n : Int)] W fun e w' => e = .returned (.tuple #[.int .i64 c, .int .i64 d]) ∧ W = w')) (CC : Hid (∀ W, Calls Tryd.prog 51 #[.int .i64 c] W fun e w' => e = .returned (.int .i64 k) ∧ W = w')) (hd0 : 0 ≤ d) (hd1 : d ≤ 4) (b : Bool) (y0 : (k == 0) = false) (y1 : (k == 1) = true) (y2 : (c != 32) = false) (y3 : (c == 65533) = true) (y4 : (d == 1) = false) (w : World) :
    Calls Tryd.prog 40 #[.string s, .int .i64 (n : Int), .bool b] w fun e w' => e = .returned (.tuple #[.int .i64 c, .int .i64 ((n : Int) + d), .int .i64 0]) ∧ w = w' := by
  have x0 : decide ((s.size : Int) ≤ (n : Int)) = false := decide_eq_false (by omega)
  have x1 : (((s[n].toNat : Nat) : Int) == 92) = false := by rw [beq_eq_false_iff_ne]; omega
  clear h92
  go_enter Tryd.func40, Tryd.ntmps40
  go_wp2_with fail
  refine (CN.out _).mono ?_
  rintro e w1 ⟨rfl, rfl⟩
  go_wp2_with fail
  refine (CC.out _).mono ?_
  rintro e w1 ⟨rfl, rfl⟩
  go_wp2_with fail
  go_ret3
  exact ⟨rfl, rfl⟩

theorem refescape_38 (s : ByteArray) (n : Nat) (hs : s.size ≤ 1125899906842624) (hn : n < s.size) (h : hd (rest s (n + 1)) = 38) (w : World) :
    Calls Tryd.prog 35 #[.string s, .int .i64 (n : Int)] w fun e w' => e = .returned (.tuple #[.int .i64 (-2), .int .i64 ((n + 2 : Nat) : Int)]) ∧ Below w.heap.size w w' := by
  refine (refescape_any s n hs hn w).mono ?_
  rintro e w' ⟨⟨v, E, rfl, h1⟩, hb⟩
  rcases h1 with ⟨_, rfl, rfl⟩ | ⟨h2, _⟩ | ⟨h2, _⟩
  · exact ⟨rfl, hb⟩
  · exact absurd h h2
  · exact absurd h h2
theorem refescape_bad (s : ByteArray) (n : Nat) (hs : s.size ≤ 1125899906842624) (hn : n < s.size) (h : hd (rest s (n + 1)) ≠ 38) (h0 : (escE (rest s (n + 1))).2 = 0 ∨ 1114111 < (escE (rest s (n + 1))).1) (w : World) :
    Calls Tryd.prog 35 #[.string s, .int .i64 (n : Int)] w fun e w' => (∃ E, e = .returned (.tuple #[.int .i64 (-1), .int .i64 E])) ∧ Below w.heap.size w w' := by
  refine (refescape_any s n hs hn w).mono ?_
  rintro e w' ⟨⟨v, E, rfl, h1⟩, hb⟩
  rcases h1 with ⟨h2, _⟩ | ⟨_, h2, rfl⟩ | ⟨_, h2, h3, _⟩
  · exact absurd h2 h
  · exact ⟨⟨E, rfl⟩, hb⟩
  · omega
theorem refescape_ok (s : ByteArray) (n : Nat) (hs : s.size ≤ 1125899906842624) (hn : n < s.size) (h0 : (escE (rest s (n + 1))).2 ≠ 0) (h3 : (escE (rest s (n + 1))).1 ≤ 1114111) (w : World) :
    Calls Tryd.prog 35 #[.string s, .int .i64 (n : Int)] w fun e w' => e = .returned (.tuple #[.int .i64 ((escE (rest s (n + 1))).1 : Int), .int .i64 ((n + 1 + (escE (rest s (n + 1))).2 : Nat) : Int)]) ∧ Below w.heap.size w w' := by
  refine (refescape_any s n hs hn w).mono ?_
  rintro e w' ⟨⟨v, E, rfl, h1⟩, hb⟩
  rcases h1 with ⟨h2, _⟩ | ⟨_, h2, rfl⟩ | ⟨_, _, _, rfl, rfl⟩
  · exact absurd (esc38 _ h2) h0
  · omega
  · exact ⟨rfl, hb⟩
theorem one_any (s : ByteArray) (n : Nat) (text : Bool) (hs : s.size ≤ 1125899906842624) (hn0 : n ≤ s.size) (w : World) :
    Calls Tryd.prog 40 #[.string s, .int .i64 (n : Int), .bool text] w fun e w' => e = .returned (.tuple #[.int .i64 (oneA n text (rest s n)).1, .int .i64 (oneA n text (rest s n)).2.1, .int .i64 (oneA n text (rest s n)).2.2]) ∧ Below w.heap.size w w' := by
  have same : ∀ {f : FuncId} {a : Array Value} {x : Ending}, Calls Tryd.prog f a w (fun e w' => e = x ∧ w = w') → Calls Tryd.prog f a w (fun e w' => e = x ∧ Below w.heap.size w w') := by
    intro f a x h
    refine h.mono ?_
    rintro e w' ⟨h1, rfl⟩
    exact ⟨h1, Below.refl _ _⟩
  by_cases hn : n < s.size
  · have hh := hd_rest s n hn
    have hd1 : (rest s n).drop 1 = rest s (n + 1) := rest_drop s n 1
    by_cases h92 : s[n].toNat = 92
    · have hp : pieceL (rest s n) = (if hd (rest s (n + 1)) = 38 then .ok ⟨1, 0, (rest s n).take 2⟩
        else if gapN (rest s n) ≠ 0 then .ok ⟨2, 0, (rest s n).take (gapN (rest s n))⟩
        else if (escE (rest s (n + 1))).2 = 0 ∨ 1114111 < (escE (rest s (n + 1))).1 then .error 51
        else .ok ⟨0, (escE (rest s (n + 1))).1, (rest s n).take (1 + (escE (rest s (n + 1))).2)⟩) := by
        rw [← hd1]
        unfold pieceL
        rw [if_pos (by rw [hh, h92])]
      have cg := fun W => refgap_any s n hs hn W
      by_cases h38 : hd (rest s (n + 1)) = 38
      · have hg0 : gapN (rest s n) = 0 := gap_none _ (by rw [hd1, h38]; decide) (by rw [hd1, h38]; decide)
        rw [hg0, if_pos rfl] at cg
        rw [if_pos h38] at hp
        have ce := fun W => refescape_38 s n hs hn h38 W
        have h2 : ((rest s n).take 2).length = 2 := by
          have := len_of_hd (rest s n) 38 1 (by rw [hd1, h38]) (by omega)
          rw [List.length_take]
          omega
        cases text with
        | true =>
          have e : oneA n true (rest s n) = (-2, ((n + 2 : Nat) : Int), 0) := by
            unfold oneA
            rw [hp]
            dsimp only
            rw [if_neg (by simp), if_neg (by decide), h2]
          rw [e]
          exact one_text_38 s n hs hn h92 _ cg ce w
        | false =>
          have e : oneA n false (rest s n) = (0, (n : Int), 51) := by
            unfold oneA
            rw [hp]
            dsimp only
            rw [if_pos ⟨rfl, by decide⟩]
          rw [e]
          exact one_char_38 s n hs hn h92 (fun W => (ce W).mono fun e w' h => ⟨⟨_, h.1⟩, h.2⟩) w
      · rw [if_neg h38] at hp
        by_cases hbad : (escE (rest s (n + 1))).2 = 0 ∨ 1114111 < (escE (rest s (n + 1))).1
        · have ce := fun W => refescape_bad s n hs hn h38 hbad W
          by_cases hg : gapN (rest s n) = 0
          · rw [hg, if_pos rfl] at cg
            rw [if_neg (by omega), if_pos hbad] at hp
            have e : ∀ b, oneA n b (rest s n) = (0, (n : Int), 51) := fun b => by
              unfold oneA
              rw [hp]
            rw [e]
            cases text with
            | true => exact one_text_bad s n hs hn h92 cg ce w
            | false => exact one_char_bad s n hs hn h92 ce w
          · rw [if_neg hg] at cg
            rw [if_pos hg] at hp
            have hgl : ((rest s n).take (gapN (rest s n))).length = gapN (rest s n) := by
              rcases gap_cases (rest s n) with q | ⟨k, q1, q2, q3, q4, q5⟩
              · exact absurd q hg
              · rw [List.length_take]
                omega
            cases text with
            | true =>
              have e : oneA n true (rest s n) = (-2, ((n + gapN (rest s n) : Nat) : Int), 0) := by
                unfold oneA
                rw [hp]
                dsimp only
                rw [if_neg (by simp), if_neg (by decide), hgl]
              rw [e]
              exact same (one_gap s n hs hn h92 _ (by omega) cg w)
            | false =>
              have e : oneA n false (rest s n) = (0, (n : Int), 51) := by
                unfold oneA
                rw [hp]
                dsimp only
                rw [if_pos ⟨rfl, by decide⟩]
              rw [e]
              exact one_char_bad s n hs hn h92 ce w
        · have h0 : (escE (rest s (n + 1))).2 ≠ 0 := fun q => hbad (.inl q)
          have h3 : (escE (rest s (n + 1))).1 ≤ 1114111 := by omega
          have ce := fun W => refescape_ok s n hs hn h0 h3 W
          obtain ⟨e1, -, e3, e4, -⟩ := escE_bytes _ h0
          have hg0 : gapN (rest s n) = 0 := gap_none _ (by rw [hd1]; exact e3) (by rw [hd1]; omega)
          rw [hg0, if_pos rfl] at cg
          rw [if_neg (by omega), if_neg hbad] at hp
          rw [rest_len] at e1
          have hl : ((rest s n).take (1 + (escE (rest s (n + 1))).2)).length = 1 + (escE (rest s (n + 1))).2 := by
            rw [List.length_take, rest_len]
            omega
          have e : ∀ b, oneA n b (rest s n) = (((escE (rest s (n + 1))).1 : Int), ((n + 1 + (escE (rest s (n + 1))).2 : Nat) : Int), 0) := fun b => by
            unfold oneA
            rw [hp]
            dsimp only
            rw [if_neg (by simp), if_pos rfl, hl, Nat.add_assoc]
          rw [e]
          cases text with
          | true => exact one_text_ok s n hs hn h92 _ _ cg ce w
          | false => exact one_char_ok s n hs hn h92 _ _ ce w
    · have c1 := fun W => refnext_any s (n : Int) hs W
      rw [runeAt_rest s n hn] at c1
      dsimp only at c1
      have hw := Wrd.wd_pos (rest s n)
      have hx := Wrd.wd_le (rest s n) (rest_ne s n hn)
      have hx4 : wd (rest s n) ≤ 4 := by
        rw [wd_rest]
        exact width_four s n
      have c2 := fun W => refclass_any (rn (rest s n)) W
      have hp : pieceL (rest s n) = if mayB (rn (rest s n)) (wd (rest s n)) = true then .ok ⟨0, (rn (rest s n)).toNat, (rest s n).take (wd (rest s n))⟩ else .error 50 := by
        unfold pieceL
        rw [if_neg (by rw [hh]; exact h92)]
        by_cases hm : mayB (rn (rest s n)) (wd (rest s n)) = true
        · rw [if_pos ⟨rest_ne s n hn, hm⟩, if_pos hm]
        · rw [if_neg (fun q => hm q.2), if_neg hm]
      have hlt : ((rest s n).take (wd (rest s n))).length = wd (rest s n) := by
        rw [List.length_take]
        omega
      have hrn0 : 0 ≤ rn (rest s n) := by rw [rn_rest]; omega
      cases hm : mayB (rn (rest s n)) (wd (rest s n)) with
      | false =>
        have e : oneA n text (rest s n) = (0, (n : Int), 50) := by
          unfold oneA
          rw [hp, if_neg (by rw [hm]; decide)]
        rw [e]
        unfold mayB at hm
        by_cases k0 : classI (rn (rest s n)) = 0
        · exact same (one_bad0 s n hs hn h92 _ _ _ c1 c2 text (by rw [beq_iff_eq]; exact k0) w)
        have y0 : (classI (rn (rest s n)) == 0) = false := by rw [beq_eq_false_iff_ne]; exact k0
        by_cases hbad : rn (rest s n) = 65533 ∧ wd (rest s n) = 1
        · have y3 : (rn (rest s n) == 65533) = true := by rw [beq_iff_eq]; exact hbad.1
          have y4 : (((wd (rest s n) : Nat) : Int) == 1) = true := by rw [beq_iff_eq]; omega
          by_cases k1 : classI (rn (rest s n)) = 1
          · exact same (one_bad1 s n hs hn h92 _ _ _ c1 c2 text y0 (by rw [beq_iff_eq]; exact k1) (by rw [bne_iff_ne]; omega) w)
          · exact same (one_bad2 s n hs hn h92 _ _ _ c1 c2 text y0 (by rw [beq_eq_false_iff_ne]; exact k1) y3 y4 w)
        · rw [if_neg hbad, if_neg k0] at hm
          by_cases k1 : classI (rn (rest s n)) = 1
          · rw [if_pos k1] at hm
            exact same (one_bad1 s n hs hn h92 _ _ _ c1 c2 text y0 (by rw [beq_iff_eq]; exact k1) (by rw [bne_iff_ne]; exact of_decide_eq_false hm) w)
          · rw [if_neg k1] at hm
            cases hm
      | true =>
        have e : oneA n text (rest s n) = (rn (rest s n), (n : Int) + ((wd (rest s n) : Nat) : Int), 0) := by
          unfold oneA
          rw [hp, if_pos hm]
          dsimp only
          rw [if_neg (by simp), if_pos rfl, hlt, Int.toNat_of_nonneg hrn0, Int.natCast_add]
        rw [e]
        unfold mayB at hm
        by_cases hbad : rn (rest s n) = 65533 ∧ wd (rest s n) = 1
        · rw [if_pos hbad] at hm
          cases hm
        rw [if_neg hbad] at hm
        by_cases k0 : classI (rn (rest s n)) = 0
        · rw [if_pos k0] at hm
          cases hm
        rw [if_neg k0] at hm
        have y0 : (classI (rn (rest s n)) == 0) = false := by rw [beq_eq_false_iff_ne]; exact k0
        by_cases k1 : classI (rn (rest s n)) = 1
        · rw [if_pos k1] at hm
          have h32 := of_decide_eq_true hm
          have y1 : (classI (rn (rest s n)) == 1) = true := by rw [beq_iff_eq]; exact k1
          exact same (one_own_ba s n hs hn h92 _ _ _ c1 c2 (by omega) (by omega) text y0 y1 (by rw [bne_eq_false_iff_eq]; exact h32) (by rw [beq_eq_false_iff_ne]; omega) w)
        · have y1 : (classI (rn (rest s n)) == 1) = false := by rw [beq_eq_false_iff_ne]; exact k1
          by_cases h6 : rn (rest s n) = 65533
          · exact same (one_own_ab s n hs hn h92 _ _ _ c1 c2 (by omega) (by omega) text y0 y1 (by rw [beq_iff_eq]; exact h6) (by rw [beq_eq_false_iff_ne]; omega) w)
          · exact same (one_own_aa s n hs hn h92 _ _ _ c1 c2 (by omega) (by omega) text y0 y1 (by rw [beq_eq_false_iff_ne]; exact h6) w)
  · have hr := rest_nil s n (by omega)
    have e : oneA n text (rest s n) = (0, (n : Int), 50) := by
      rw [hr]
      rfl
    rw [e]
    exact same (one_end s n hs hn text w)
end Go.Proofs.YtdppfhgihoibnaaDoor.Qt
