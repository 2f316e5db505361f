/-
  The contracts of package number's amountOf and Same. Condition: the strings have at most 2^50 bytes; the library's table of powers of ten stands.
-/
import Derived.Test.YtiifjegjmhbhkaaDoorNumFlt
namespace Go.Proofs.YtiifjegjmhbhkaaDoor.Num
open Go.RowKit Gly
open Go.Lib (decDigits)
set_option linter.unusedSimpArgs false
set_option linter.unusedVariables false

theorem amt_flt (s x y : ByteArray) (a t e : Int) (ha : (a == 0) = false)
    (C0 : Hid (∀ W, Tab W → Calls Tryd.prog 16 #[.string s] W fun e' w' => e' = .returned (.tuple #[.string x, .int .i64 a]) ∧ Below W.heap.size W w'))
    (C1 : Hid (∀ W, Calls Tryd.prog 18 #[.string s] W fun e' w' => e' = .returned (.tuple #[.string y, .int .i64 t, .int .i64 e]) ∧ Below W.heap.size W w')) (w : World) (ht : Tab w) :
    Calls Tryd.prog 36 #[.string s] w fun e' w' => e' = .returned (.tuple #[.agg #[.string y, .int .i64 t], .int .i64 e]) ∧ Below w.heap.size w w' := by
  have tn := Two.new w ⟨#[]⟩ 0
  have TN := Lib.hid tn
  have HT : Hid (Tab (w.alloc (.cells #[.string ⟨#[]⟩, .int .i64 0] 50))) := ht.below ((Below.refl _ _).alloc (Nat.le_refl _) _) (Nat.le_refl _)
  clear tn ht
  go_enter Tryd.func36, Tryd.ntmps36
  go_wp2_with fail
  refine (C0.out _ HT.out).mono ?_
  rintro e1 w1 ⟨rfl, hb1⟩
  have T1 := Lib.hid (TN.out.below hb1 TN.out.lt)
  have HB1 : Hid (Below w.heap.size w w1) := ((Below.refl _ _).alloc (Nat.le_refl _) _).trans (hb1.mono (by rw [World.size_alloc]; omega))
  clear hb1
  go_wp2_with fail
  refine (C1.out _).mono ?_
  rintro e1 w2 ⟨rfl, hb2⟩
  have T2 := Lib.hid (T1.out.below hb2 T1.out.lt)
  have HB2 := Lib.hid (HB1.out.trans (hb2.mono HB1.out.size))
  clear hb2
  have z0 := T2.out.free 0
  have z1 := T2.out.free 1
  have y0 := T2.out.c0
  have y1 := T2.out.c1
  go_wp2_with fail
  obtain ⟨t3, b3⟩ := T2.out.store HB2.out (Nat.le_refl _) y t
  have T3 := Lib.hid t3
  have B3 := Lib.hid b3
  clear t3 b3 y0 y1 z0 z1
  generalize ((w2.setCell ⟨w.heap.size, 0, none⟩ (.string y)).setCell ⟨w.heap.size, 1, none⟩ (.int .i64 t)) = W3 at *
  have y0 := T3.out.c0
  have y1 := T3.out.c1
  refine bodyPost_ret (by simp [results, Tryd.results36, go_sem, y0, y1]; try rfl) rfl ?_
  exact ⟨rfl, B3.out⟩
theorem amountOf_any (s : ByteArray) (hs : s.size ≤ 1125899906842624) (w : World) (ht : Tab w) :
    Calls Tryd.prog 36 #[.string s] w fun e w' => e = .returned (.tuple #[.agg #[.string ⟨(amS s.data.toList).1.toArray⟩, .int .i64 (amS s.data.toList).2.1], .int .i64 (amS s.data.toList).2.2]) ∧ Below w.heap.size w w' := by
  have c0 := fun W hW => Decimal_any s hs W hW
  have hl := decS_len s.data.toList
  unfold amS
  by_cases h : (decS s.data.toList).2 = 0
  · rw [if_pos h]
    rw [h] at c0
    have c1 := fun W => shortest_any ⟨(decS s.data.toList).1.toArray⟩ 0 (by rw [size_of]; omega) (by omega) W
    exact amt_dec s _ _ _ c0 c1 w ht
  · rw [if_neg h]
    exact amt_flt s _ _ _ _ _ (by rw [beq_eq_false_iff_ne]; exact h) c0 (fun W => Float_any s hs W) w ht

theorem same_first (a b y : ByteArray) (t e : Int) (he : (e != 0) = true)
    (C0 : Hid (∀ W, Tab W → Calls Tryd.prog 36 #[.string a] W fun e' w' => e' = .returned (.tuple #[.agg #[.string y, .int .i64 t], .int .i64 e]) ∧ Below W.heap.size W w')) (w : World) (ht : Tab w) :
    Calls Tryd.prog 20 #[.string a, .string b] w fun e' w' => e' = .returned (.bool false) ∧ Below w.heap.size w w' := by
  have HT := Lib.hid ht
  clear ht
  go_enter Tryd.func20, Tryd.ntmps20
  go_wp2_with fail
  refine (C0.out _ HT.out).mono ?_
  rintro e1 w1 ⟨rfl, hb1⟩
  have HB1 := Lib.hid hb1
  clear hb1
  go_wp2_with fail
  go_ret
  exact ⟨rfl, HB1.out.alloc HB1.out.size _⟩
theorem same_second (a b y x : ByteArray) (t u f : Int) (hf : (f == 0) = false)
    (C0 : Hid (∀ W, Tab W → Calls Tryd.prog 36 #[.string a] W fun e' w' => e' = .returned (.tuple #[.agg #[.string y, .int .i64 t], .int .i64 0]) ∧ Below W.heap.size W w'))
    (C1 : Hid (∀ W, Tab W → Calls Tryd.prog 36 #[.string b] W fun e' w' => e' = .returned (.tuple #[.agg #[.string x, .int .i64 u], .int .i64 f]) ∧ Below W.heap.size W w')) (w : World) (ht : Tab w) :
    Calls Tryd.prog 20 #[.string a, .string b] w fun e' w' => e' = .returned (.bool false) ∧ Below w.heap.size w w' := by
  have HT := Lib.hid ht
  clear ht
  go_enter Tryd.func20, Tryd.ntmps20
  go_wp2_with fail
  refine (C0.out _ HT.out).mono ?_
  rintro e1 w1 ⟨rfl, hb1⟩
  have HB1 : Hid (Below w.heap.size w (w1.alloc (.cells #[.string y, .int .i64 t] 50))) := hb1.alloc hb1.size _
  have HT1 := Lib.hid (HT.out.below HB1.out (Nat.le_refl _))
  clear hb1
  go_wp2_with fail
  refine (C1.out _ HT1.out).mono ?_
  rintro e1 w2 ⟨rfl, hb2⟩
  have HB2 := Lib.hid (HB1.out.trans (hb2.mono HB1.out.size))
  clear hb2
  go_wp2_with fail
  go_ret
  exact ⟨rfl, HB2.out.alloc HB2.out.size _⟩
theorem same_both (a b y x : ByteArray) (t u : Int)
    (C0 : Hid (∀ W, Tab W → Calls Tryd.prog 36 #[.string a] W fun e' w' => e' = .returned (.tuple #[.agg #[.string y, .int .i64 t], .int .i64 0]) ∧ Below W.heap.size W w'))
    (C1 : Hid (∀ W, Tab W → Calls Tryd.prog 36 #[.string b] W fun e' w' => e' = .returned (.tuple #[.agg #[.string x, .int .i64 u], .int .i64 0]) ∧ Below W.heap.size W w')) (w : World) (ht : Tab w) :
    Calls Tryd.prog 20 #[.string a, .string b] w fun e' w' => e' = .returned (.bool (decide (y.toList = x.toList ∧ t = u))) ∧ Below w.heap.size w w' := by
  have HT := Lib.hid ht
  clear ht
  go_enter Tryd.func20, Tryd.ntmps20
  go_wp2_with fail
  refine (C0.out _ HT.out).mono ?_
  rintro e1 w1 ⟨rfl, hb1⟩
  have HB1 : Hid (Below w.heap.size w (w1.alloc (.cells #[.string y, .int .i64 t] 50))) := hb1.alloc hb1.size _
  have HT1 := Lib.hid (HT.out.below HB1.out (Nat.le_refl _))
  have TA := Lib.hid (Two.new w1 y t)
  clear hb1
  go_wp2_with fail
  refine (C1.out _ HT1.out).mono ?_
  rintro e1 w2 ⟨rfl, hb2⟩
  have HB2 := Lib.hid (HB1.out.trans (hb2.mono HB1.out.size))
  have TA2 := Lib.hid (TA.out.below hb2 TA.out.lt)
  have TA3 : Hid (Two (w2.alloc (.cells #[.string x, .int .i64 u] 50)) w1.heap.size y t) := (Below.heap_alloc _ _ _ TA2.out.lt).trans TA2.out
  have TB3 := Lib.hid (Two.new w2 x u)
  have y0 := TA3.out.c0
  have y1 := TA3.out.c1
  have z0 := TB3.out.c0
  have z1 := TB3.out.c1
  clear hb2
  go_wp2_with fail
  all_goals go_ret
  all_goals refine ⟨?_, HB2.out.alloc HB2.out.size _⟩
  all_goals simp [*]
theorem Same_any (a b : ByteArray) (ha : a.size ≤ 1125899906842624) (hb : b.size ≤ 1125899906842624) (w : World) (ht : Tab w) :
    Calls Tryd.prog 20 #[.string a, .string b] w fun e w' => e = .returned (.bool (sameS a.data.toList b.data.toList)) ∧ Below w.heap.size w w' := by
  have c0 := fun W hW => amountOf_any a ha W hW
  have c1 := fun W hW => amountOf_any b hb W hW
  unfold sameS
  by_cases h1 : (amS a.data.toList).2.2 = 0
  · rw [h1] at c0
    by_cases h2 : (amS b.data.toList).2.2 = 0
    · rw [h2] at c1
      have := same_both a b _ _ _ _ c0 c1 w ht
      rw [Lib.toList_data, Lib.toList_data] at this
      have e : decide ((amS a.data.toList).2.2 = 0 ∧ (amS b.data.toList).2.2 = 0 ∧ (amS a.data.toList).1 = (amS b.data.toList).1 ∧ (amS a.data.toList).2.1 = (amS b.data.toList).2.1) = decide ((amS a.data.toList).1 = (amS b.data.toList).1 ∧ (amS a.data.toList).2.1 = (amS b.data.toList).2.1) := by
        rw [h1, h2]
        simp
      rw [e]
      exact this
    · have e : decide ((amS a.data.toList).2.2 = 0 ∧ (amS b.data.toList).2.2 = 0 ∧ (amS a.data.toList).1 = (amS b.data.toList).1 ∧ (amS a.data.toList).2.1 = (amS b.data.toList).2.1) = false := decide_eq_false (fun h => h2 h.2.1)
      rw [e]
      exact same_second a b _ _ _ _ _ (by rw [beq_eq_false_iff_ne]; exact h2) c0 c1 w ht
  · have e : decide ((amS a.data.toList).2.2 = 0 ∧ (amS b.data.toList).2.2 = 0 ∧ (amS a.data.toList).1 = (amS b.data.toList).1 ∧ (amS a.data.toList).2.1 = (amS b.data.toList).2.1) = false := decide_eq_false (fun h => h1 h.1)
    rw [e]
    exact same_first a b _ _ _ (by rw [bne_iff_ne]; exact h1) c0 w ht
end Go.Proofs.YtiifjegjmhbhkaaDoor.Num
