/-
  The contracts of package quote's slashed and pieceAt: the piece at a byte, or the fault that it panics with. Conditions: the string has at most 2^50 bytes; the program's list of names stands.
-/
import Derived.Test.YtmgclgojmckfhaaGreatDoorZQtA
import Derived.Defers
import Derived.Recover
import Derived.Deep.RegionWith
namespace Go.Proofs.YtmgclgojmckfhaaGreatDoor.Qt
open Go.RowKit Gly
open Wrd (rn wd)
set_option linter.unusedSimpArgs false
set_option linter.unusedVariables false

/-- A piece as a value; the fault that is panicked with. -/
def pcC (n : Nat) (p : Pc) : Array Value := #[.int .i64 (p.form : Int), .int .i64 (p.num : Int), .int .i64 (n : Int), .int .i64 ((n + p.bytes.length : Nat) : Int)]
def pcV (n : Nat) (p : Pc) : Value := .agg (pcC n p)
def fltV (n : Nat) (x : Int) : Value := .iface 142 (.agg #[.int .i64 (n : Int), .int .i64 x])
def flt (n : Nat) (x : Int) : Ending := .panicked [{ v := fltV n x, recovered := false }]
/-- A block that holds a piece. -/
def Four (w : World) (g : Nat) (a b c d : Int) : Prop := w.heap[g]? = some (.cells #[.int .i64 a, .int .i64 b, .int .i64 c, .int .i64 d] 117 (0, 0))
section
variable {w : World} {g : Nat} {a b c d : Int}
theorem Four.c0 (h : Four w g a b c d) : w.cell? ⟨g, 0, none⟩ = some (.int .i64 a) := by rw [cell_of_row w g 0 _ _ _ h]; rfl
theorem Four.c1 (h : Four w g a b c d) : w.cell? ⟨g, 1, none⟩ = some (.int .i64 b) := by rw [cell_of_row w g 1 _ _ _ h]; rfl
theorem Four.c2 (h : Four w g a b c d) : w.cell? ⟨g, 2, none⟩ = some (.int .i64 c) := by rw [cell_of_row w g 2 _ _ _ h]; rfl
theorem Four.c3 (h : Four w g a b c d) : w.cell? ⟨g, 3, none⟩ = some (.int .i64 d) := by rw [cell_of_row w g 3 _ _ _ h]; rfl
theorem Four.free (h : Four w g a b c d) (i : Nat) : w.frozen? ⟨g, i, none⟩ = false := by unfold Four at h; simp [World.frozen?, h]
theorem Four.lt (h : Four w g a b c d) : g < w.heap.size := lt_of_block h
theorem Four.below {B : Nat} {w' : World} (h : Four w g a b c d) (hb : Below B w w') (hg : g < B) : Four w' g a b c d := (hb.block g hg).trans h
theorem Four.new (w : World) (a b c d : Int) : Four (w.alloc (.cells #[.int .i64 a, .int .i64 b, .int .i64 c, .int .i64 d] 117)) w.heap.size a b c d := heap_alloc_new w _
theorem Four.store {w0 : World} {B : Nat} (h : Four w g a b c d) (hb : Below B w0 w) (hg : B ≤ g) (a' b' c' d' : Int) :
    Four ((((w.setCell ⟨g, 0, none⟩ (.int .i64 a')).setCell ⟨g, 1, none⟩ (.int .i64 b')).setCell ⟨g, 2, none⟩ (.int .i64 c')).setCell ⟨g, 3, none⟩ (.int .i64 d')) g a' b' c' d' ∧
    Below B w0 ((((w.setCell ⟨g, 0, none⟩ (.int .i64 a')).setCell ⟨g, 1, none⟩ (.int .i64 b')).setCell ⟨g, 2, none⟩ (.int .i64 c')).setCell ⟨g, 3, none⟩ (.int .i64 d')) := by
  refine ⟨?_, (((hb.setCell (by exact hg) _).setCell (by exact hg) _).setCell (by exact hg) _).setCell (by exact hg) _⟩
  unfold Four at h ⊢
  simp [World.setCell, Array.getElem?_modify, h]
end

theorem slashed_nothing (s : ByteArray) (n : Nat) (hn : n < s.size) (hs : s.size ≤ 1125899906842624) (C0 : Hid (∀ W, Calls Tryz.prog 104 #[.string s, .int .i64 ((n : Int) + 1), .int .u8 38] W fun e w' => e = .returned (.bool true) ∧ W = w')) (w : World) :
    Calls Tryz.prog 134 #[.string s, .int .i64 (n : Int)] w fun e w' => e = .returned (.agg #[.int .i64 1, .int .i64 0, .int .i64 (n : Int), .int .i64 ((n + 2 : Nat) : Int)]) ∧ Below w.heap.size w w' := by
    have hd2 : Hid (((n + 2 : Nat) : Int) = (n : Int) + 2) := by unfold Hid; omega
    rw [hd2.out]
    go_enter Tryz.func134, Tryz.ntmps134
    go_wp2_with fail
    refine (C0.out _).mono ?_
    rintro e w1 ⟨rfl, rfl⟩
    go_wp2_with fail
    go_returns
    exact ⟨rfl, (Below.refl _ _).alloc (Nat.le_refl _) _⟩
theorem slashed_gap (s : ByteArray) (n : Nat) (hn : n < s.size) (hs : s.size ≤ 1125899906842624) (g : Nat) (hg : g ≠ 0) (hgs : n + g ≤ s.size) (C0 : Hid (∀ W, Calls Tryz.prog 104 #[.string s, .int .i64 ((n : Int) + 1), .int .u8 38] W fun e w' => e = .returned (.bool false) ∧ W = w')) (C1 : Hid (∀ W, Calls Tryz.prog 142 #[.string s, .int .i64 (n : Int)] W fun e w' => e = .returned (.int .i64 ((n + g : Nat) : Int)) ∧ Below W.heap.size W w')) (w : World) :
    Calls Tryz.prog 134 #[.string s, .int .i64 (n : Int)] w fun e w' => e = .returned (.agg #[.int .i64 2, .int .i64 0, .int .i64 (n : Int), .int .i64 ((n + g : Nat) : Int)]) ∧ Below w.heap.size w w' := by
    obtain ⟨k, hk⟩ : ∃ k, n + g = k := ⟨_, rfl⟩
    rw [hk] at C1 ⊢
    have x0 : decide ((n : Int) < (k : Int)) = true := decide_eq_true (by omega)
    have NW := Four.new w 0 0 0 0
    have T0 := Lib.hid NW
    have HB0 : Hid (Below w.heap.size w (w.alloc (.cells #[.int .i64 0, .int .i64 0, .int .i64 0, .int .i64 0] 117))) := (Below.refl _ _).alloc (Nat.le_refl _) _
    have hsz : Hid ((w.alloc (.cells #[.int .i64 0, .int .i64 0, .int .i64 0, .int .i64 0] 117)).heap.size = w.heap.size + 1) := World.size_alloc _ _
    clear NW
    go_enter Tryz.func134, Tryz.ntmps134
    go_wp2_with fail
    refine (C0.out _).mono ?_
    rintro e w1 ⟨rfl, rfl⟩
    go_wp2_with fail
    refine (C1.out _).mono ?_
    rintro e w2 ⟨rfl, hb2⟩
    have T1 : Hid (Four w2 w.heap.size 0 0 0 0) := T0.out.below hb2 T0.out.lt
    have HB1 : Hid (Below w.heap.size w w2) := HB0.out.trans (hb2.mono HB0.out.size)
    clear hb2
    have y0 := T1.out.free 0
    have y1 := T1.out.free 1
    have y2 := T1.out.free 2
    have y3 := T1.out.free 3
    have q0 := T1.out.c0
    have q1 := T1.out.c1
    have q2 := T1.out.c2
    have q3 := T1.out.c3
    go_wp2_with fail
    obtain ⟨t2, b2⟩ := T1.out.store HB1.out (Nat.le_refl _) (2) (0) ((n : Int)) ((k : Int))
    have T2 := Lib.hid t2
    have B2 := Lib.hid b2
    clear t2 b2 q0 q1 q2 q3 y0 y1 y2 y3
    generalize (((((w2.setCell ⟨w.heap.size, 0, none⟩ (.int .i64 (2))).setCell ⟨w.heap.size, 1, none⟩ (.int .i64 (0))).setCell ⟨w.heap.size, 2, none⟩ (.int .i64 ((n : Int)))).setCell ⟨w.heap.size, 3, none⟩ (.int .i64 ((k : Int))))) = W3 at *
    have z0 := T2.out.c0
    have z1 := T2.out.c1
    have z2 := T2.out.c2
    have z3 := T2.out.c3
    refine bodyPost_ret (by simp [results, Tryz.results134, go_sem, z0, z1, z2, z3]; try rfl) rfl ?_
    exact ⟨rfl, B2.out⟩
theorem slashed_esc (s : ByteArray) (n : Nat) (hn : n < s.size) (hs : s.size ≤ 1125899906842624) (v m : Nat) (hm : m ≠ 0) (hms : n + 1 + m ≤ s.size) (hv : v ≤ 1114111) (C0 : Hid (∀ W, Calls Tryz.prog 104 #[.string s, .int .i64 ((n : Int) + 1), .int .u8 38] W fun e w' => e = .returned (.bool false) ∧ W = w')) (C1 : Hid (∀ W, Calls Tryz.prog 142 #[.string s, .int .i64 (n : Int)] W fun e w' => e = .returned (.int .i64 ((n + 0 : Nat) : Int)) ∧ Below W.heap.size W w')) (C2 : Hid (∀ W, Nam W → Calls Tryz.prog 143 #[.string (s.extract (n + 1) s.size)] W fun e w' => e = .returned (.tuple #[.int .i64 (v : Int), .int .i64 (m : Int)]) ∧ Below W.heap.size W w')) (w : World) (hN : Nam w) :
    Calls Tryz.prog 134 #[.string s, .int .i64 (n : Int)] w fun e w' => e = .returned (.agg #[.int .i64 0, .int .i64 (v : Int), .int .i64 (n : Int), .int .i64 ((n + (1 + m) : Nat) : Int)]) ∧ Below w.heap.size w w' := by
    have HN := Lib.hid hN
    clear hN
    have x0 : decide ((n : Int) < (n : Int)) = false := decide_eq_false (by omega)
    have i1 : (n : Int) + 1 ≤ (s.size : Int) := by omega
    rw [Nat.add_zero] at C1
    have he : Hid (((n + (1 + m) : Nat) : Int) = (n : Int) + 1 + (m : Int)) := by unfold Hid; omega
    rw [he.out]
    have x1 : ((m : Int) == 0) = false := by rw [beq_eq_false_iff_ne]; omega
    have x2 : decide ((1114111 : Int) < (v : Int)) = false := decide_eq_false (by omega)
    have NW := Four.new w 0 0 0 0
    have T0 := Lib.hid NW
    have HB0 : Hid (Below w.heap.size w (w.alloc (.cells #[.int .i64 0, .int .i64 0, .int .i64 0, .int .i64 0] 117))) := (Below.refl _ _).alloc (Nat.le_refl _) _
    have hsz : Hid ((w.alloc (.cells #[.int .i64 0, .int .i64 0, .int .i64 0, .int .i64 0] 117)).heap.size = w.heap.size + 1) := World.size_alloc _ _
    clear NW
    go_enter Tryz.func134, Tryz.ntmps134
    go_wp2_with fail
    refine (C0.out _).mono ?_
    rintro e w1 ⟨rfl, rfl⟩
    go_wp2_with fail
    refine (C1.out _).mono ?_
    rintro e w2 ⟨rfl, hb2⟩
    have T1 : Hid (Four w2 w.heap.size 0 0 0 0) := T0.out.below hb2 T0.out.lt
    have HB1 : Hid (Below w.heap.size w w2) := HB0.out.trans (hb2.mono HB0.out.size)
    clear hb2
    go_wp2_with fail
    refine (C2.out _ (HN.out.below HB1.out (Nat.le_refl _))).mono ?_
    rintro e w3 ⟨rfl, hb3⟩
    have T3 : Hid (Four w3 w.heap.size 0 0 0 0) := T1.out.below hb3 T1.out.lt
    have HB3 : Hid (Below w.heap.size w w3) := HB1.out.trans (hb3.mono HB1.out.size)
    clear hb3
    have y0 := T3.out.free 0
    have y1 := T3.out.free 1
    have y2 := T3.out.free 2
    have y3 := T3.out.free 3
    have q0 := T3.out.c0
    have q1 := T3.out.c1
    have q2 := T3.out.c2
    have q3 := T3.out.c3
    go_wp2_with fail
    obtain ⟨t2, b2⟩ := T3.out.store HB3.out (Nat.le_refl _) (0) ((v : Int)) ((n : Int)) ((n : Int) + 1 + (m : Int))
    have T2 := Lib.hid t2
    have B2 := Lib.hid b2
    clear t2 b2 q0 q1 q2 q3 y0 y1 y2 y3
    generalize (((((w3.setCell ⟨w.heap.size, 0, none⟩ (.int .i64 (0))).setCell ⟨w.heap.size, 1, none⟩ (.int .i64 ((v : Int)))).setCell ⟨w.heap.size, 2, none⟩ (.int .i64 ((n : Int)))).setCell ⟨w.heap.size, 3, none⟩ (.int .i64 ((n : Int) + 1 + (m : Int))))) = W3 at *
    have z0 := T2.out.c0
    have z1 := T2.out.c1
    have z2 := T2.out.c2
    have z3 := T2.out.c3
    refine bodyPost_ret (by simp [results, Tryz.results134, go_sem, z0, z1, z2, z3]; try rfl) rfl ?_
    exact ⟨rfl, B2.out⟩
theorem slashed_bad (s : ByteArray) (n : Nat) (hn : n < s.size) (hs : s.size ≤ 1125899906842624) (v m : Nat) (hm : m = 0 ∨ 1114111 < v) (C0 : Hid (∀ W, Calls Tryz.prog 104 #[.string s, .int .i64 ((n : Int) + 1), .int .u8 38] W fun e w' => e = .returned (.bool false) ∧ W = w')) (C1 : Hid (∀ W, Calls Tryz.prog 142 #[.string s, .int .i64 (n : Int)] W fun e w' => e = .returned (.int .i64 ((n + 0 : Nat) : Int)) ∧ Below W.heap.size W w')) (C2 : Hid (∀ W, Nam W → Calls Tryz.prog 143 #[.string (s.extract (n + 1) s.size)] W fun e w' => e = .returned (.tuple #[.int .i64 (v : Int), .int .i64 (m : Int)]) ∧ Below W.heap.size W w')) (w : World) (hN : Nam w) :
    Calls Tryz.prog 134 #[.string s, .int .i64 (n : Int)] w fun e w' => e = flt n 51 ∧ Below w.heap.size w w' := by
    have HN := Lib.hid hN
    clear hN
    have x0 : decide ((n : Int) < (n : Int)) = false := decide_eq_false (by omega)
    have i1 : (n : Int) + 1 ≤ (s.size : Int) := by omega
    rw [Nat.add_zero] at C1
    rcases Nat.eq_zero_or_pos m with h0 | h0
    · subst h0
      clear hm
      have NW := Four.new w 0 0 0 0
      have T0 := Lib.hid NW
      have HB0 : Hid (Below w.heap.size w (w.alloc (.cells #[.int .i64 0, .int .i64 0, .int .i64 0, .int .i64 0] 117))) := (Below.refl _ _).alloc (Nat.le_refl _) _
      have hsz : Hid ((w.alloc (.cells #[.int .i64 0, .int .i64 0, .int .i64 0, .int .i64 0] 117)).heap.size = w.heap.size + 1) := World.size_alloc _ _
      clear NW
      go_enter Tryz.func134, Tryz.ntmps134
      go_wp2_with fail
      refine (C0.out _).mono ?_
      rintro e w1 ⟨rfl, rfl⟩
      go_wp2_with fail
      refine (C1.out _).mono ?_
      rintro e w2 ⟨rfl, hb2⟩
      have T1 : Hid (Four w2 w.heap.size 0 0 0 0) := T0.out.below hb2 T0.out.lt
      have HB1 : Hid (Below w.heap.size w w2) := HB0.out.trans (hb2.mono HB0.out.size)
      clear hb2
      go_wp2_with fail
      refine (C2.out _ (HN.out.below HB1.out (Nat.le_refl _))).mono ?_
      rintro e w3 ⟨rfl, hb3⟩
      have T3 : Hid (Four w3 w.heap.size 0 0 0 0) := T1.out.below hb3 T1.out.lt
      have HB3 : Hid (Below w.heap.size w w3) := HB1.out.trans (hb3.mono HB1.out.size)
      clear hb3
      go_wp2_with fail
      exact ⟨rfl, rfl, HB3.out⟩
    · have x1 : ((m : Int) == 0) = false := by rw [beq_eq_false_iff_ne]; omega
      have x2 : decide ((1114111 : Int) < (v : Int)) = true := decide_eq_true (by omega)
      clear hm
      have NW := Four.new w 0 0 0 0
      have T0 := Lib.hid NW
      have HB0 : Hid (Below w.heap.size w (w.alloc (.cells #[.int .i64 0, .int .i64 0, .int .i64 0, .int .i64 0] 117))) := (Below.refl _ _).alloc (Nat.le_refl _) _
      have hsz : Hid ((w.alloc (.cells #[.int .i64 0, .int .i64 0, .int .i64 0, .int .i64 0] 117)).heap.size = w.heap.size + 1) := World.size_alloc _ _
      clear NW
      go_enter Tryz.func134, Tryz.ntmps134
      go_wp2_with fail
      refine (C0.out _).mono ?_
      rintro e w1 ⟨rfl, rfl⟩
      go_wp2_with fail
      refine (C1.out _).mono ?_
      rintro e w2 ⟨rfl, hb2⟩
      have T1 : Hid (Four w2 w.heap.size 0 0 0 0) := T0.out.below hb2 T0.out.lt
      have HB1 : Hid (Below w.heap.size w w2) := HB0.out.trans (hb2.mono HB0.out.size)
      clear hb2
      go_wp2_with fail
      refine (C2.out _ (HN.out.below HB1.out (Nat.le_refl _))).mono ?_
      rintro e w3 ⟨rfl, hb3⟩
      have T3 : Hid (Four w3 w.heap.size 0 0 0 0) := T1.out.below hb3 T1.out.lt
      have HB3 : Hid (Below w.heap.size w w3) := HB1.out.trans (hb3.mono HB1.out.size)
      clear hb3
      go_wp2_with fail
      exact ⟨rfl, rfl, HB3.out⟩
/-- What is answered of a piece: it, or a fault. -/
def Got (n : Nat) (r : Except Int Pc) (e : Ending) : Prop :=
  match r with
  | .ok p => e = .returned (pcV n p)
  | .error x => e = flt n x
theorem slashed_any (s : ByteArray) (n : Nat) (hs : s.size ≤ 1125899906842624) (h92 : hd (rest s n) = 92) (w : World) (hN : Nam w) :
    Calls Tryz.prog 134 #[.string s, .int .i64 (n : Int)] w fun e w' => Got n (pieceL (rest s n)) e ∧ Below w.heap.size w w' := by
  have hn : n < s.size := by
    rcases Nat.lt_or_ge n s.size with h | h
    · exact h
    · rw [hd_rest_out s n h] at h92
      omega
  have c0 : ∀ W, Calls Tryz.prog 104 #[.string s, .int .i64 ((n : Int) + 1), .int .u8 38] W fun e w' => e = .returned (.bool (hd (rest s (n + 1)) == 38)) ∧ W = w' := fun W => stands_at s (n + 1) 38 (by omega) hs W
  have c1 := fun W => gapEnd_any s n hs hn W
  have hz := size_tail s (n + 1)
  have c2 : ∀ W, Nam W → _ := fun W h => escape_any (s.extract (n + 1) s.size) (by omega) W h
  have e1 : (s.extract (n + 1) s.size).data.toList = rest s (n + 1) := by rw [Lib.extract_to_end]; rfl
  rw [e1] at c2
  have hl := rest_len s n
  have hb1 := escE_bytes (rest s (n + 1))
  have hl1 := rest_len s (n + 1)
  have hdr : (rest s n).drop 1 = rest s (n + 1) := rest_drop s n 1
  unfold pieceL
  rw [if_pos h92, hdr]
  by_cases q1 : hd (rest s (n + 1)) = 38
  · rw [if_pos q1]
    rw [show (hd (rest s (n + 1)) == 38) = true from beq_iff_eq.2 q1] at c0
    refine (slashed_nothing s n hn hs c0 w).mono ?_
    rintro e w' ⟨rfl, hb⟩
    have hlen : n + 1 < s.size := by
      rcases Nat.lt_or_ge (n + 1) s.size with h | h
      · exact h
      · rw [hd_rest_out s (n + 1) h] at q1
        omega
    refine ⟨?_, hb⟩
    show Ending.returned _ = Ending.returned (pcV n ⟨1, 0, (rest s n).take 2⟩)
    unfold pcV pcC
    dsimp only
    rw [List.length_take, Nat.min_eq_left (by omega)]
    rfl
  · rw [if_neg q1]
    rw [show (hd (rest s (n + 1)) == 38) = false from beq_eq_false_iff_ne.2 q1] at c0
    by_cases q2 : gapN (rest s n) ≠ 0
    · rw [if_pos q2]
      have hgl : gapN (rest s n) ≤ s.size - n := by
        rcases gap_cases (rest s n) with q | ⟨k, r1, r2, r3, r4, r5⟩
        · omega
        · omega
      refine (slashed_gap s n hn hs _ q2 (by omega) c0 c1 w).mono ?_
      rintro e w' ⟨rfl, hb⟩
      refine ⟨?_, hb⟩
      show Ending.returned _ = Ending.returned (pcV n ⟨2, 0, (rest s n).take (gapN (rest s n))⟩)
      unfold pcV pcC
      dsimp only
      rw [List.length_take, Nat.min_eq_left (by omega)]
      rfl
    · rw [if_neg q2]
      have q3 : gapN (rest s n) = 0 := by omega
      rw [q3] at c1
      by_cases q4 : (escE (rest s (n + 1))).2 = 0 ∨ 1114111 < (escE (rest s (n + 1))).1
      · rw [if_pos q4]
        exact slashed_bad s n hn hs _ _ q4 c0 c1 c2 w hN
      · rw [if_neg q4]
        have hb9 := (hb1 (by omega)).1
        refine (slashed_esc s n hn hs _ _ (by omega) (by omega) (by omega) c0 c1 c2 w hN).mono ?_
        rintro e w' ⟨rfl, hb⟩
        refine ⟨?_, hb⟩
        show Ending.returned _ = Ending.returned (pcV n ⟨0, (escE (rest s (n + 1))).1, (rest s n).take (1 + (escE (rest s (n + 1))).2)⟩)
        unfold pcV pcC
        dsimp only
        rw [List.length_take, Nat.min_eq_left (by omega)]
        rfl

theorem piece_bad (s : ByteArray) (n d : Nat) (c : Int) (hd0 : n + d ≤ 1125899906842624) (hc0 : 0 ≤ c) (hc1 : c ≤ 1114111) (hc : (c == 92) = false) (C0 : Hid (∀ W, Calls Tryz.prog 34 #[.string s, .int .i64 (n : Int)] W fun e w' => e = .returned (.tuple #[.int .i32 c, .int .i64 (d : Int)]) ∧ Below W.heap.size W w')) (C1 : Hid (∀ W, Calls Tryz.prog 135 #[.int .i32 c, .int .i64 (d : Int)] W fun e w' => e = .returned (.bool false) ∧ W = w')) (w : World) :
    Calls Tryz.prog 124 #[.string s, .int .i64 (n : Int)] w fun e w' => e = flt n 50 ∧ Below w.heap.size w w' := by
    have NW := Four.new w 0 0 0 0
    have T0 := Lib.hid NW
    have HB0 : Hid (Below w.heap.size w (w.alloc (.cells #[.int .i64 0, .int .i64 0, .int .i64 0, .int .i64 0] 117))) := (Below.refl _ _).alloc (Nat.le_refl _) _
    have hsz : Hid ((w.alloc (.cells #[.int .i64 0, .int .i64 0, .int .i64 0, .int .i64 0] 117)).heap.size = w.heap.size + 1) := World.size_alloc _ _
    clear NW
    go_enter Tryz.func124, Tryz.ntmps124
    go_wp2_with fail
    refine (C0.out _).mono ?_
    rintro e w1 ⟨rfl, hb1⟩
    have T1 : Hid (Four w1 w.heap.size 0 0 0 0) := T0.out.below hb1 T0.out.lt
    have HB1 : Hid (Below w.heap.size w w1) := HB0.out.trans (hb1.mono HB0.out.size)
    clear hb1
    go_wp2_with fail
    refine (C1.out _).mono ?_
    rintro e w2 ⟨rfl, rfl⟩
    go_wp2_with fail
    exact ⟨rfl, rfl, HB1.out⟩
theorem piece_rune (s : ByteArray) (n d : Nat) (c : Int) (hd0 : n + d ≤ 1125899906842624) (hc0 : 0 ≤ c) (hc1 : c ≤ 1114111) (hc : (c == 92) = false) (C0 : Hid (∀ W, Calls Tryz.prog 34 #[.string s, .int .i64 (n : Int)] W fun e w' => e = .returned (.tuple #[.int .i32 c, .int .i64 (d : Int)]) ∧ Below W.heap.size W w')) (C1 : Hid (∀ W, Calls Tryz.prog 135 #[.int .i32 c, .int .i64 (d : Int)] W fun e w' => e = .returned (.bool true) ∧ W = w')) (w : World) :
    Calls Tryz.prog 124 #[.string s, .int .i64 (n : Int)] w fun e w' => e = .returned (.agg #[.int .i64 0, .int .i64 c, .int .i64 (n : Int), .int .i64 ((n : Int) + (d : Int))]) ∧ Below w.heap.size w w' := by
    have NW := Four.new w 0 0 0 0
    have T0 := Lib.hid NW
    have HB0 : Hid (Below w.heap.size w (w.alloc (.cells #[.int .i64 0, .int .i64 0, .int .i64 0, .int .i64 0] 117))) := (Below.refl _ _).alloc (Nat.le_refl _) _
    have hsz : Hid ((w.alloc (.cells #[.int .i64 0, .int .i64 0, .int .i64 0, .int .i64 0] 117)).heap.size = w.heap.size + 1) := World.size_alloc _ _
    clear NW
    go_enter Tryz.func124, Tryz.ntmps124
    go_wp2_with fail
    refine (C0.out _).mono ?_
    rintro e w1 ⟨rfl, hb1⟩
    have T1 : Hid (Four w1 w.heap.size 0 0 0 0) := T0.out.below hb1 T0.out.lt
    have HB1 : Hid (Below w.heap.size w w1) := HB0.out.trans (hb1.mono HB0.out.size)
    clear hb1
    go_wp2_with fail
    refine (C1.out _).mono ?_
    rintro e w2 ⟨rfl, rfl⟩
    have y0 := T1.out.free 0
    have y1 := T1.out.free 1
    have y2 := T1.out.free 2
    have y3 := T1.out.free 3
    have q0 := T1.out.c0
    have q1 := T1.out.c1
    have q2 := T1.out.c2
    have q3 := T1.out.c3
    go_wp2_with fail
    obtain ⟨t2, b2⟩ := T1.out.store HB1.out (Nat.le_refl _) (0) (c) ((n : Int)) ((n : Int) + (d : Int))
    have T2 := Lib.hid t2
    have B2 := Lib.hid b2
    clear t2 b2 q0 q1 q2 q3 y0 y1 y2 y3
    generalize (((((w1.setCell ⟨w.heap.size, 0, none⟩ (.int .i64 (0))).setCell ⟨w.heap.size, 1, none⟩ (.int .i64 (c))).setCell ⟨w.heap.size, 2, none⟩ (.int .i64 ((n : Int)))).setCell ⟨w.heap.size, 3, none⟩ (.int .i64 ((n : Int) + (d : Int))))) = W3 at *
    have z0 := T2.out.c0
    have z1 := T2.out.c1
    have z2 := T2.out.c2
    have z3 := T2.out.c3
    refine bodyPost_ret (by simp [results, Tryz.results124, go_sem, z0, z1, z2, z3]; try rfl) rfl ?_
    exact ⟨rfl, B2.out⟩
theorem piece_slash (s : ByteArray) (n d : Nat) (p1 p2 p3 p4 : Int) (C0 : Hid (∀ W, Calls Tryz.prog 34 #[.string s, .int .i64 (n : Int)] W fun e w' => e = .returned (.tuple #[.int .i32 92, .int .i64 (d : Int)]) ∧ Below W.heap.size W w')) (C1 : Hid (∀ W, Nam W → Calls Tryz.prog 134 #[.string s, .int .i64 (n : Int)] W fun e w' => e = .returned (.agg #[.int .i64 p1, .int .i64 p2, .int .i64 p3, .int .i64 p4]) ∧ Below W.heap.size W w')) (w : World) (hN : Nam w) :
    Calls Tryz.prog 124 #[.string s, .int .i64 (n : Int)] w fun e w' => e = .returned (.agg #[.int .i64 p1, .int .i64 p2, .int .i64 p3, .int .i64 p4]) ∧ Below w.heap.size w w' := by
    have HN := Lib.hid hN
    clear hN
    have NW := Four.new w 0 0 0 0
    have T0 := Lib.hid NW
    have HB0 : Hid (Below w.heap.size w (w.alloc (.cells #[.int .i64 0, .int .i64 0, .int .i64 0, .int .i64 0] 117))) := (Below.refl _ _).alloc (Nat.le_refl _) _
    have hsz : Hid ((w.alloc (.cells #[.int .i64 0, .int .i64 0, .int .i64 0, .int .i64 0] 117)).heap.size = w.heap.size + 1) := World.size_alloc _ _
    clear NW
    go_enter Tryz.func124, Tryz.ntmps124
    go_wp2_with fail
    refine (C0.out _).mono ?_
    rintro e w1 ⟨rfl, hb1⟩
    have T1 : Hid (Four w1 w.heap.size 0 0 0 0) := T0.out.below hb1 T0.out.lt
    have HB1 : Hid (Below w.heap.size w w1) := HB0.out.trans (hb1.mono HB0.out.size)
    clear hb1
    go_wp2_with fail
    refine (C1.out _ (HN.out.below HB1.out (Nat.le_refl _))).mono ?_
    rintro e w3 ⟨rfl, hb3⟩
    have T3 : Hid (Four w3 w.heap.size 0 0 0 0) := T1.out.below hb3 T1.out.lt
    have HB3 : Hid (Below w.heap.size w w3) := HB1.out.trans (hb3.mono HB1.out.size)
    clear hb3
    have y0 := T3.out.free 0
    have y1 := T3.out.free 1
    have y2 := T3.out.free 2
    have y3 := T3.out.free 3
    have q0 := T3.out.c0
    have q1 := T3.out.c1
    have q2 := T3.out.c2
    have q3 := T3.out.c3
    go_wp2_with fail
    obtain ⟨t2, b2⟩ := T3.out.store HB3.out (Nat.le_refl _) (p1) (p2) (p3) (p4)
    have T2 := Lib.hid t2
    have B2 := Lib.hid b2
    clear t2 b2 q0 q1 q2 q3 y0 y1 y2 y3
    generalize (((((w3.setCell ⟨w.heap.size, 0, none⟩ (.int .i64 (p1))).setCell ⟨w.heap.size, 1, none⟩ (.int .i64 (p2))).setCell ⟨w.heap.size, 2, none⟩ (.int .i64 (p3))).setCell ⟨w.heap.size, 3, none⟩ (.int .i64 (p4)))) = W3 at *
    have z0 := T2.out.c0
    have z1 := T2.out.c1
    have z2 := T2.out.c2
    have z3 := T2.out.c3
    refine bodyPost_ret (by simp [results, Tryz.results124, go_sem, z0, z1, z2, z3]; try rfl) rfl ?_
    exact ⟨rfl, B2.out⟩
theorem piece_fault (s : ByteArray) (n d : Nat) (x : Int) (C0 : Hid (∀ W, Calls Tryz.prog 34 #[.string s, .int .i64 (n : Int)] W fun e w' => e = .returned (.tuple #[.int .i32 92, .int .i64 (d : Int)]) ∧ Below W.heap.size W w')) (C1 : Hid (∀ W, Nam W → Calls Tryz.prog 134 #[.string s, .int .i64 (n : Int)] W fun e w' => e = flt n x ∧ Below W.heap.size W w')) (w : World) (hN : Nam w) :
    Calls Tryz.prog 124 #[.string s, .int .i64 (n : Int)] w fun e w' => e = flt n x ∧ Below w.heap.size w w' := by
    have HN := Lib.hid hN
    clear hN
    have NW := Four.new w 0 0 0 0
    have T0 := Lib.hid NW
    have HB0 : Hid (Below w.heap.size w (w.alloc (.cells #[.int .i64 0, .int .i64 0, .int .i64 0, .int .i64 0] 117))) := (Below.refl _ _).alloc (Nat.le_refl _) _
    have hsz : Hid ((w.alloc (.cells #[.int .i64 0, .int .i64 0, .int .i64 0, .int .i64 0] 117)).heap.size = w.heap.size + 1) := World.size_alloc _ _
    clear NW
    go_enter Tryz.func124, Tryz.ntmps124
    go_wp2_with fail
    refine (C0.out _).mono ?_
    rintro e w1 ⟨rfl, hb1⟩
    have T1 : Hid (Four w1 w.heap.size 0 0 0 0) := T0.out.below hb1 T0.out.lt
    have HB1 : Hid (Below w.heap.size w w1) := HB0.out.trans (hb1.mono HB0.out.size)
    clear hb1
    go_wp2_with fail
    refine (C1.out _ (HN.out.below HB1.out (Nat.le_refl _))).mono ?_
    rintro e w3 ⟨rfl, hb3⟩
    have T3 : Hid (Four w3 w.heap.size 0 0 0 0) := T1.out.below hb3 T1.out.lt
    have HB3 : Hid (Below w.heap.size w w3) := HB1.out.trans (hb3.mono HB1.out.size)
    clear hb3
    dsimp only [flt]
    try go_wp2_with fail
    exact ⟨rfl, rfl, HB3.out⟩
theorem pieceAt_any (s : ByteArray) (n : Nat) (hs : s.size ≤ 1125899906842624) (hn : n ≤ s.size) (w : World) (hN : Nam w) :
    Calls Tryz.prog 124 #[.string s, .int .i64 (n : Int)] w fun e w' => Got n (pieceL (rest s n)) e ∧ Below w.heap.size w w' := by
  have hM : s.size ≤ maxLen := by unfold maxLen; omega
  have c0 := fun W => next_any s (n : Int) hM W
  by_cases hin : n < s.size
  · rw [runeAt_rest s n hin] at c0
    dsimp only at c0
    have hle := Wrd.wd_le _ (rest_ne s n hin)
    rw [rest_len] at hle
    by_cases h92 : hd (rest s n) = 92
    · have e92 : rn (rest s n) = 92 := by
        obtain ⟨y, t, hy, hy2⟩ := hd_cons _ 92 h92 (by omega)
        rw [hy, (rn_ascii y t (by omega)).1, hy2]
        rfl
      rw [e92] at c0
      have c1 : ∀ W, Nam W → _ := fun W h => slashed_any s n hs h92 W h
      cases hp : pieceL (rest s n) with
      | ok p =>
        rw [hp] at c1
        exact piece_slash s n _ _ _ _ _ c0 c1 w hN
      | error x =>
        rw [hp] at c1
        exact piece_fault s n _ x c0 c1 w hN
    · have hne : (rn (rest s n) == 92) = false := by
        rw [beq_eq_false_iff_ne]
        intro e
        have := ascii_rn (rest s n) (by omega)
        rw [rest_cons s n hin] at this e h92
        have e2 : (List.getD (s[n] :: rest s (n + 1)) 0 0) = s[n] := rfl
        rw [e2] at this
        apply h92
        show s[n].toNat = 92
        omega
      have c1 := fun W => mayStand_any (rn (rest s n)) (wd (rest s n)) W
      have hc : 0 ≤ rn (rest s n) ∧ rn (rest s n) ≤ 1114111 := by
        rw [rn_rest]
        have := rune_le s n
        omega
      unfold pieceL
      rw [if_neg h92]
      cases hm : mayB (rn (rest s n)) (wd (rest s n)) with
      | true =>
        rw [hm] at c1
        rw [if_pos ⟨rest_ne s n hin, rfl⟩]
        refine (piece_rune s n _ _ (by omega) hc.1 hc.2 hne c0 c1 w).mono ?_
        rintro e w' ⟨rfl, hb⟩
        refine ⟨?_, hb⟩
        show Ending.returned _ = Ending.returned (pcV n ⟨0, (rn (rest s n)).toNat, (rest s n).take (wd (rest s n))⟩)
        unfold pcV pcC
        dsimp only
        rw [List.length_take, rest_len, Nat.min_eq_left (by omega), Int.toNat_of_nonneg hc.1]
        rfl
      | false =>
        rw [hm] at c1
        rw [if_neg (fun q => by cases q.2)]
        exact piece_bad s n _ _ (by omega) hc.1 hc.2 hne c0 c1 w
  · rw [runeAt_out s (n : Int) (by omega)] at c0
    have c1 := fun W => mayStand_any 0 0 W
    rw [show mayB 0 0 = false by decide +kernel] at c1
    unfold pieceL
    rw [hd_rest_out s n (by omega), if_neg (by omega), rest_nil s n (by omega), if_neg (fun q => q.1 rfl)]
    exact piece_bad s n 0 0 (by omega) (by omega) (by omega) rfl c0 c1 w
end Go.Proofs.YtmgclgojmckfhaaGreatDoor.Qt
/-
  What is asked of a function that visits pieces; the contracts of package quote's charEnd and textEnd, whatever visits. Conditions: the string has at most 2^50 bytes; the program's list of names stands.
-/
namespace Go.Proofs.YtmgclgojmckfhaaGreatDoor.Qt
open Go.RowKit Gly
open Wrd (rn wd)
set_option linter.unusedSimpArgs false
set_option linter.unusedVariables false

/-- Blocks that are not the visitor's stay as they were. -/
structure Kept (B : Nat) (O : World → Nat → Prop) (w w' : World) : Prop where
  below : Below B w w'
  same : ∀ j, j < w.heap.size → ¬ O w j → w'.heap[j]? = w.heap[j]? ∧ ¬ O w' j
theorem Kept.trans {B : Nat} {O : World → Nat → Prop} {a b c : World} (h : Kept B O a b) (k : Kept B O b c) : Kept B O a c :=
  ⟨h.below.trans k.below, fun j hj ho => by
    obtain ⟨h1, h2⟩ := h.same j hj ho
    obtain ⟨k1, k2⟩ := k.same j (Nat.lt_of_lt_of_le hj h.below.size) h2
    exact ⟨k1.trans h1, k2⟩⟩
/-- What visits the pieces of a literal whose text begins at byte at0: tot are its pieces, V says what has been visited, O which blocks are its own. -/
structure Vis (s : ByteArray) (at0 : Nat) (tot : List Pc) (K : FuncId) (cap : Array Value) (B : Nat) (V : List Pc → World → Prop) (O : World → Nat → Prop) : Prop where
  enter : ∀ args w, (callFunc K args).run Tryz.prog w = .ok (.enter K args) w
  nam : ∀ acc w, V acc w → Nam w
  size : ∀ acc w, V acc w → B ≤ w.heap.size
  keep : ∀ acc w w', V acc w → Below w.heap.size w w' → V acc w' ∧ ∀ j, j < w.heap.size → ¬ O w j → ¬ O w' j
  fresh : ∀ acc w c t fz, V acc w → t ≠ 5 → ¬ O (w.alloc (.cells c t fz)) w.heap.size
  set : ∀ acc w j i v, V acc w → B ≤ j → j < w.heap.size → ¬ O w j → V acc (w.setCell ⟨j, i, none⟩ v) ∧ ∀ k, ¬ O w k → ¬ O (w.setCell ⟨j, i, none⟩ v) k
  step : ∀ acc p w, V acc w → (∃ t, tot = acc ++ p :: t) → pieceL (rest s (at0 + (flat acc).length)) = .ok p →
    Calls Tryz.prog K (#[pcV (at0 + (flat acc).length) p] ++ cap) w fun e w' => e = .returned (.tuple #[]) ∧ V (acc ++ [p]) w' ∧ Kept B O w w'
section
variable {s : ByteArray} {at0 : Nat} {tot : List Pc} {K : FuncId} {cap : Array Value} {B : Nat} {V : List Pc → World → Prop} {O : World → Nat → Prop}
theorem Vis.kept (vis : Vis s at0 tot K cap B V O) {acc : List Pc} {w w' : World} (h : V acc w) (hb : Below w.heap.size w w') : V acc w' ∧ Kept B O w w' :=
  ⟨(vis.keep acc w w' h hb).1, ⟨hb.mono (vis.size acc w h), fun j hj ho => ⟨hb.block j hj, (vis.keep acc w w' h hb).2 j hj ho⟩⟩⟩
/-- Where a literal ends: a result, or a fault. -/
def Ends (at0 : Nat) (r : Rd) (e : Ending) : Prop := if r.err = 0 then e = .returned (.int .i64 ((at0 + r.pos : Nat) : Int)) else e = flt (at0 + r.pos) r.err
/-- The frame in which p is: laid when the visitor had visited acc. -/
theorem Vis.put (vis : Vis s at0 tot K cap B V O) {acc : List Pc} {w : World} (h : V acc w) (a b c d : Int) :
    V acc (w.alloc (.cells #[.int .i64 a, .int .i64 b, .int .i64 c, .int .i64 d] 117)) ∧ Kept B O w (w.alloc (.cells #[.int .i64 a, .int .i64 b, .int .i64 c, .int .i64 d] 117)) ∧
    ¬ O (w.alloc (.cells #[.int .i64 a, .int .i64 b, .int .i64 c, .int .i64 d] 117)) w.heap.size := by
  obtain ⟨h1, h2⟩ := vis.kept h ((Below.refl _ w).alloc (Nat.le_refl _) (.cells #[.int .i64 a, .int .i64 b, .int .i64 c, .int .i64 d] 117))
  exact ⟨h1, h2, vis.fresh acc w _ _ _ h (by decide)⟩

set_option maxHeartbeats 1000000 in
theorem textEnd_any (vis : Vis s at0 tot K cap B V O) (hs : s.size ≤ 1125899906842624) (ha : at0 ≤ s.size) (F : Nat) (hF : s.size < at0 + F) (ht : tot = (txtL F (rest s at0)).ps) (w : World) (hV : V [] w) :
    Calls Tryz.prog 107 #[.string s, .int .i64 (at0 : Int), .func (.func K) #[] cap] w fun e w' => Ends at0 (txtL F (rest s at0)) e ∧ Kept B O w w' ∧ ((txtL F (rest s at0)).err = 0 → V tot w') := by
  obtain ⟨R, hR⟩ : ∃ R, txtL F (rest s at0) = R := ⟨_, rfl⟩
  rw [hR] at ht ⊢
  have HR := Lib.hid hR
  have HT := Lib.hid ht
  have HV := Lib.hid hV
  have hent := vis.enter
  have VS := Lib.hid vis
  clear hR ht hV vis
  go_enter Tryz.func107, Tryz.ntmps107
  go_wp2_with fail
  go_loopw [1] (fun a wr => ∃ (acc : List Pc) (n f : Nat), a = .int .i64 (n : Int) ∧ n = at0 + (flat acc).length ∧ n ≤ s.size ∧ s.size < n + f ∧ V acc wr ∧ Kept B O w wr ∧ tot = acc ++ (txtL f (rest s n)).ps ∧ n + (txtL f (rest s n)).pos = at0 + R.pos ∧ (txtL f (rest s n)).err = R.err) (fun a _ => s.size - (intOf a).toNat)
  case atStart =>
    refine ⟨[], at0, F, rfl, rfl, ha, hF, HV.out, ⟨Below.refl _ _, fun j _ ho => ⟨rfl, ho⟩⟩, ?_, ?_, ?_⟩
    · rw [HR.out, HT.out]
      rfl
    · rw [HR.out]
    · rw [HR.out]
  case round =>
    obtain ⟨acc, n, f, rfl, hn, hn0, hf, hv, hk, ht, hp, he⟩ := hrel
    have VA := Lib.hid hv
    have KW := Lib.hid hk
    have HN := Lib.hid hn
    cases f with
    | zero => omega
    | succ f =>
      unfold txtL at ht hp he
      have c0 := fun W => stands_at s n 34 (by omega) hs W
      by_cases q : hd (rest s n) = 34
      · rw [if_pos q] at ht hp he
        dsimp only at ht hp he
        rw [List.append_nil] at ht
        rw [show (hd (rest s n) == 34) = true from beq_iff_eq.2 q] at c0
        have C0 := Lib.hid c0
        have HTT := Lib.hid ht
        have HP := Lib.hid hp
        have HE := Lib.hid he
        clear c0 ht hp he hv hk hn q
        go_wp2_with fail
        refine (C0.out _).mono ?_
        rintro e w1 ⟨rfl, rfl⟩
        go_wp2_with fail
        go_ret
        refine ⟨?_, KW.out, fun _ => by rw [HTT.out]; exact VA.out⟩
        unfold Ends
        rw [if_pos HE.out.symm]
        have hp := HP.out
        have : ((at0 + R.pos : Nat) : Int) = (n : Int) + 1 := by omega
        rw [this]
        rfl
      · rw [if_neg q] at ht hp he
        rw [show (hd (rest s n) == 34) = false from beq_eq_false_iff_ne.2 q] at c0
        have c1 : Calls Tryz.prog 124 #[.string s, .int .i64 (n : Int)] wr _ := pieceAt_any s n hs hn0 wr (VS.out.nam _ _ hv)
        have C0 := Lib.hid c0
        have hlen := piece_len (rest s n)
        cases hpc : pieceL (rest s n) with
        | error x =>
          rw [hpc] at ht hp he c1
          dsimp only [Got] at ht hp he c1
          have C1 := Lib.hid c1
          have HTT := Lib.hid ht
          have HP := Lib.hid hp
          have HE := Lib.hid he
          clear c0 c1 hlen ht hp he hv hk hn q
          go_wp2_with fail
          refine (C0.out _).mono ?_
          rintro e w1 ⟨rfl, rfl⟩
          go_wp2_with fail
          refine C1.out.mono ?_
          rintro e w1 ⟨rfl, hb1⟩
          dsimp only [flt]
          try go_wp2_with fail
          have hx := piece_err _ x hpc
          have he := HE.out
          refine ⟨rfl, ?_, KW.out.trans (VS.out.kept VA.out hb1).2, fun h0 => by omega⟩
          unfold Ends
          rw [if_neg (by omega)]
          show Ending.panicked _ = flt (at0 + R.pos) R.err
          rw [← HP.out, ← HE.out]
          rfl
        | ok p =>
          rw [hpc] at ht hp he c1
          dsimp only [Got, pcV, pcC] at ht hp he c1
          have C1 := Lib.hid c1
          obtain ⟨l1, l2, l3⟩ := hlen p hpc
          rw [rest_len] at l2
          have L3 := Lib.hid l3
          have HPC := Lib.hid hpc
          have HTT := Lib.hid ht
          have HP := Lib.hid hp
          have HE := Lib.hid he
          clear c0 c1 hlen ht hp he hv hk hn q l3 hpc
          go_wp2_with fail
          refine (C0.out _).mono ?_
          rintro e w1 ⟨rfl, rfl⟩
          go_wp2_with fail
          refine C1.out.mono ?_
          rintro e w1 ⟨rfl, hb1⟩
          have hn := HN.out
          obtain ⟨v1, k1⟩ := VS.out.kept VA.out hb1
          obtain ⟨v2, k2, o2⟩ := VS.out.put v1 (p.form : Int) (p.num : Int) (n : Int) ((n : Int) + (p.bytes.length : Int))
          have st := VS.out.step acc p _ v2 ⟨_, HTT.out⟩ (by rw [← hn]; exact HPC.out)
          rw [← hn] at st
          simp only [pcV, pcC, Int.natCast_add] at st
          have ST := Lib.hid st
          have K2 := Lib.hid ((KW.out.trans k1).trans k2)
          have O2 := Lib.hid o2
          clear hn v1 k1 v2 k2 o2 st hb1
          go_wp2_with fail
          refine ST.out.mono ?_
          rintro e w2 ⟨rfl, v3, k3⟩
          have V3 := Lib.hid v3
          have FR : Hid (Four w2 w1.heap.size (p.form : Int) (p.num : Int) (n : Int) ((n : Int) + (p.bytes.length : Int))) :=
            ((k3.same w1.heap.size (by rw [World.size_alloc]; omega) O2.out).1).trans (heap_alloc_new w1 _)
          have K3 := Lib.hid (K2.out.trans k3)
          have q3 := FR.out.c3
          clear v3 k3
          go_wp2_with fail
          go_roundw
          case rel =>
            have hn := HN.out
            have ht := HTT.out
            have hp := HP.out
            have he := HE.out
            rw [rest_drop] at ht hp he
            refine ⟨acc ++ [p], n + p.bytes.length, f, rfl, ?_, by omega, by omega, V3.out, K3.out, ?_, by rw [← hp]; omega, he⟩
            · rw [flat_app, List.length_append, hn]
              unfold flat
              simp
              omega
            · rw [ht, List.append_assoc]
              rfl
          case measure => simp [intOf]; omega

set_option maxHeartbeats 1000000 in
theorem charEnd_any (vis : Vis s at0 tot K cap B V O) (hs : s.size ≤ 1125899906842624) (ha : at0 ≤ s.size) (ht : tot = (chrL (rest s at0)).ps) (w : World) (hV : V [] w) :
    Calls Tryz.prog 106 #[.string s, .int .i64 (at0 : Int), .func (.func K) #[] cap] w fun e w' => Ends at0 (chrL (rest s at0)) e ∧ Kept B O w w' ∧ ((chrL (rest s at0)).err = 0 → V tot w') := by
  obtain ⟨n, hn⟩ : ∃ n, at0 = n := ⟨_, rfl⟩
  have c0 := fun W => stands_at s n 39 (by omega) hs W
  have c1 : Calls Tryz.prog 124 #[.string s, .int .i64 (n : Int)] w _ := pieceAt_any s n hs (by omega) w (vis.nam _ _ hV)
  have hlen := piece_len (rest s n)
  have hent := vis.enter
  have VS := Lib.hid vis
  have VV := Lib.hid hV
  have hR : chrL (rest s n) = if hd (rest s n) = 39 then ⟨[], 0, 50⟩ else match pieceL (rest s n) with
    | .error e => ⟨[], 0, e⟩
    | .ok p => if p.form ≠ 0 then ⟨[], 0, 51⟩ else if hd ((rest s n).drop p.bytes.length) = 39 then ⟨[p], p.bytes.length + 1, 0⟩ else ⟨[], p.bytes.length, 50⟩ := rfl
  have hn1 : at0 ≤ s.size := ha
  rw [hn] at ht hn1 ⊢
  generalize chrL (rest s n) = R at *
  have bad : ∀ (k : Nat) (x : Int) (w' : World), R = ⟨[], k, x⟩ → x ≠ 0 → Kept B O w w' → Ends n R (.panicked [{ v := .iface 142 (.agg #[.int .i64 ((n + k : Nat) : Int), .int .i64 x]), recovered := false }]) ∧ Kept B O w w' ∧ (R.err = 0 → V tot w') := by
    intro k x w' e hx hk
    refine ⟨?_, hk, fun h0 => by rw [e] at h0; exact absurd h0 hx⟩
    unfold Ends
    rw [e, if_neg hx]
    rfl
  by_cases q : hd (rest s n) = 39
  · rw [if_pos q] at hR
    rw [show (hd (rest s n) == 39) = true from beq_iff_eq.2 q] at c0
    have C0 := Lib.hid c0
    have BAD := Lib.hid (bad 0 50 w hR (by decide) ⟨Below.refl _ _, fun j _ ho => ⟨rfl, ho⟩⟩)
    clear c0 c1 hlen hn hR bad hV ht q vis hent ha
    go_enter Tryz.func106, Tryz.ntmps106
    go_wp2_with fail
    refine (C0.out _).mono ?_
    rintro e w1 ⟨rfl, rfl⟩
    go_wp2_with fail
    exact ⟨rfl, BAD.out⟩
  rw [if_neg q] at hR
  rw [show (hd (rest s n) == 39) = false from beq_eq_false_iff_ne.2 q] at c0
  have C0 := Lib.hid c0
  cases hpc : pieceL (rest s n) with
  | error x =>
    rw [hpc] at hR c1
    dsimp only [Got, flt] at hR c1
    have hx := piece_err _ x hpc
    have C1 := Lib.hid c1
    have BAD : Hid (∀ w', Kept B O w w' → _) := fun w' hk => bad 0 x w' hR (by omega) hk
    clear c0 c1 hlen hn hR bad hV ht q vis hent ha hpc hx
    go_enter Tryz.func106, Tryz.ntmps106
    go_wp2_with fail
    refine (C0.out _).mono ?_
    rintro e w1 ⟨rfl, rfl⟩
    go_wp2_with fail
    refine C1.out.mono ?_
    rintro e w1 ⟨rfl, hb1⟩
    have HK := Lib.hid (VS.out.kept VV.out hb1).2
    clear hb1
    try go_wp2_with fail
    exact ⟨rfl, BAD.out _ HK.out⟩
  | ok p =>
    rw [hpc] at hR c1
    dsimp only [Got, pcV, pcC] at hR c1
    obtain ⟨l1, l2, l3⟩ := hlen p hpc
    rw [rest_len] at l2
    have C1 := Lib.hid c1
    rw [rest_drop] at hR
    by_cases q2 : p.form ≠ 0
    · rw [if_pos q2] at hR
      have BAD : Hid (∀ w', Kept B O w w' → _) := fun w' hk => bad 0 51 w' hR (by decide) hk
      have x0 : ((p.form : Int) != 0) = true := by rw [bne_iff_ne]; omega
      clear c0 c1 hlen hn hR bad hV ht q vis hent ha hpc q2 l3
      go_enter Tryz.func106, Tryz.ntmps106
      go_wp2_with fail
      refine (C0.out _).mono ?_
      rintro e w1 ⟨rfl, rfl⟩
      go_wp2_with fail
      refine C1.out.mono ?_
      rintro e w1 ⟨rfl, hb1⟩
      obtain ⟨v1, k1⟩ := VS.out.kept VV.out hb1
      obtain ⟨v2, k2, o2⟩ := VS.out.put v1 (p.form : Int) (p.num : Int) (n : Int) ((n : Int) + (p.bytes.length : Int))
      have K2 := Lib.hid (k1.trans k2)
      have V2 := Lib.hid v2
      have O2 := Lib.hid o2
      clear v1 k1 v2 k2 o2 hb1
      go_wp2_with fail
      exact ⟨rfl, BAD.out _ K2.out⟩
    · rw [if_neg q2] at hR
      have q3 : p.form = 0 := by omega
      have x0 : ((p.form : Int) != 0) = false := by rw [bne_eq_false_iff_eq]; omega
      have c2 : ∀ W, Calls Tryz.prog 104 #[.string s, .int .i64 ((n : Int) + (p.bytes.length : Int)), .int .u8 39] W fun e w' => e = .returned (.bool (hd (rest s (n + p.bytes.length)) == 39)) ∧ W = w' := fun W => stands_at s (n + p.bytes.length) 39 (by omega) hs W
      by_cases q4 : hd (rest s (n + p.bytes.length)) = 39
      · rw [if_pos q4] at hR
        rw [show (hd (rest s (n + p.bytes.length)) == 39) = true from beq_iff_eq.2 q4] at c2
        have C2 := Lib.hid c2
        have HR := Lib.hid hR
        have HT := Lib.hid ht
        have HPC : Hid (pieceL (rest s (at0 + (flat []).length)) = .ok p) := by
          show pieceL (rest s (at0 + 0)) = .ok p
          rw [Nat.add_zero, hn]
          exact hpc
        have HNN := Lib.hid hn
        clear c0 c1 c2 hlen hn hR bad hV ht q vis ha hpc q2 q3 q4 l3
        go_enter Tryz.func106, Tryz.ntmps106
        go_wp2_with fail
        refine (C0.out _).mono ?_
        rintro e w1 ⟨rfl, rfl⟩
        go_wp2_with fail
        refine C1.out.mono ?_
        rintro e w1 ⟨rfl, hb1⟩
        obtain ⟨v1, k1⟩ := VS.out.kept VV.out hb1
        obtain ⟨v2, k2, o2⟩ := VS.out.put v1 (p.form : Int) (p.num : Int) (n : Int) ((n : Int) + (p.bytes.length : Int))
        have K2 := Lib.hid (k1.trans k2)
        have V2 := Lib.hid v2
        have O2 := Lib.hid o2
        clear v1 k1 v2 k2 o2 hb1
        have st := VS.out.step [] p _ V2.out ⟨[], by rw [HT.out, HR.out]; rfl⟩ HPC.out
        have e0 : at0 + (flat []).length = n := by rw [HNN.out]; rfl
        rw [e0] at st
        simp only [pcV, pcC, Int.natCast_add] at st
        have ST := Lib.hid st
        clear st e0
        go_wp2_with fail
        refine (C2.out _).mono ?_
        rintro e w1 ⟨rfl, rfl⟩
        go_wp2_with fail
        refine ST.out.mono ?_
        rintro e w2 ⟨rfl, v3, k3⟩
        have V3 := Lib.hid v3
        have K3 := Lib.hid (K2.out.trans k3)
        have FR := Lib.hid (((k3.same _ (by rw [World.size_alloc]; omega) O2.out).1).trans (heap_alloc_new _ _))
        have q3 : w2.cell? ⟨_, 3, none⟩ = some (.int .i64 ((n : Int) + (p.bytes.length : Int))) := Four.c3 FR.out
        clear v3 k3
        go_wp2_with fail
        go_ret
        refine ⟨?_, K3.out, fun _ => by rw [HT.out, HR.out]; exact V3.out⟩
        unfold Ends
        rw [HR.out, if_pos rfl]
        have : ((n + (p.bytes.length + 1) : Nat) : Int) = (n : Int) + (p.bytes.length : Int) + 1 := by omega
        dsimp only
        rw [this]
        rfl
      · rw [if_neg q4] at hR
        rw [show (hd (rest s (n + p.bytes.length)) == 39) = false from beq_eq_false_iff_ne.2 q4] at c2
        have C2 := Lib.hid c2
        have BAD : Hid (∀ w', Kept B O w w' → _) := fun w' hk => bad p.bytes.length 50 w' hR (by decide) hk
        clear c0 c1 c2 hlen hn hR bad hV ht q vis hent ha hpc q2 q3 q4 l3
        go_enter Tryz.func106, Tryz.ntmps106
        go_wp2_with fail
        refine (C0.out _).mono ?_
        rintro e w1 ⟨rfl, rfl⟩
        go_wp2_with fail
        refine C1.out.mono ?_
        rintro e w1 ⟨rfl, hb1⟩
        obtain ⟨v1, k1⟩ := VS.out.kept VV.out hb1
        obtain ⟨v2, k2, o2⟩ := VS.out.put v1 (p.form : Int) (p.num : Int) (n : Int) ((n : Int) + (p.bytes.length : Int))
        have K2 := Lib.hid (k1.trans k2)
        have V2 := Lib.hid v2
        have O2 := Lib.hid o2
        clear v1 k1 v2 k2 o2 hb1
        go_wp2_with fail
        refine (C2.out _).mono ?_
        rintro e w1 ⟨rfl, rfl⟩
        go_wp2_with fail
        have := BAD.out _ K2.out
        rw [Int.natCast_add] at this
        exact ⟨rfl, this⟩
end
end Go.Proofs.YtmgclgojmckfhaaGreatDoor.Qt
