/-
  The contracts of the document's own short and Same, and that the sample which every statement of this layer asks first ('awake') is answered true. Condition: the strings have at most 2^50 bytes; the library's table of powers of ten stands.
-/
import Derived.Test.YtiifjegjmhbhkaaDoorNumRft
import Derived.Test.YtiifjegjmhbhkaaDoorNumSam
namespace Go.Proofs.YtiifjegjmhbhkaaDoor.Num
open Go.RowKit Gly
open Go.Lib (decDigits)
set_option linter.unusedSimpArgs false
set_option linter.unusedVariables false

theorem rsh_dec (s x y : ByteArray) (t : Int)
    (C0 : Hid (∀ W, Calls Tryd.prog 17 #[.string s] W fun e' w' => e' = .returned (.tuple #[.string x, .int .i64 0]) ∧ Below W.heap.size W w'))
    (C1 : Hid (∀ W, Calls Tryd.prog 35 #[.string x, .int .i64 0] W fun e' w' => e' = .returned (.tuple #[.string y, .int .i64 t]) ∧ W = w')) (w : World) :
    Calls Tryd.prog 37 #[.string s] w fun e w' => e = .returned (.tuple #[.string y, .int .i64 t, .bool true]) ∧ Below w.heap.size w w' := by
  go_enter Tryd.func37, Tryd.ntmps37
  go_wp2_with fail
  refine (C0.out _).mono ?_
  rintro e1 w1 ⟨rfl, hb1⟩
  have HB1 := Lib.hid hb1
  clear hb1
  go_wp2_with fail
  refine (C1.out _).mono ?_
  rintro e1 w2 ⟨rfl, rfl⟩
  go_wp2_with fail
  go_ret3
  exact ⟨rfl, HB1.out⟩
theorem rsh_flt (s x y : ByteArray) (a t f : Int) (b : Bool) (ha : (a == 0) = false) (hf : (f == 0) = b)
    (C0 : Hid (∀ W, Calls Tryd.prog 17 #[.string s] W fun e' w' => e' = .returned (.tuple #[.string x, .int .i64 a]) ∧ Below W.heap.size W w'))
    (C1 : Hid (∀ W, Calls Tryd.prog 19 #[.string s] W fun e' w' => e' = .returned (.tuple #[.string y, .int .i64 t, .int .i64 f]) ∧ W = w')) (w : World) :
    Calls Tryd.prog 37 #[.string s] w fun e w' => e = .returned (.tuple #[.string y, .int .i64 t, .bool b]) ∧ Below w.heap.size w w' := by
  go_enter Tryd.func37, Tryd.ntmps37
  go_wp2_with fail
  refine (C0.out _).mono ?_
  rintro e1 w1 ⟨rfl, hb1⟩
  have HB1 := Lib.hid hb1
  clear hb1
  go_wp2_with fail
  refine (C1.out _).mono ?_
  rintro e1 w2 ⟨rfl, rfl⟩
  go_wp2_with fail
  go_ret3
  exact ⟨rfl, HB1.out⟩
theorem refshort_any (s : ByteArray) (hs : s.size ≤ 1125899906842624) (w : World) :
    Calls Tryd.prog 37 #[.string s] w fun e w' => e = .returned (.tuple #[.string ⟨(amS s.data.toList).1.toArray⟩, .int .i64 (amS s.data.toList).2.1, .bool ((amS s.data.toList).2.2 == 0)]) ∧ Below w.heap.size w w' := by
  have c0 := fun W => refDecimal_any s hs W
  have hl := decS_len s.data.toList
  unfold amS
  by_cases h : (decS s.data.toList).2 = 0
  · rw [if_pos h]
    have hb : Bare (decS s.data.toList).1 := by
      unfold decS at h ⊢
      split
      · rename_i hk
        split
        · rename_i hl
          rw [if_pos hk, if_pos hl] at h
          exact absurd h (by decide)
        · exact dec_bare _
      · rename_i hk
        rw [if_neg hk] at h
        exact absurd h (by decide)
    rw [h] at c0
    have c1 := fun W => refShort_any ⟨(decS s.data.toList).1.toArray⟩ 0 (by rw [size_of]; omega) hb (by omega) W
    exact rsh_dec s _ _ _ c0 c1 w
  · rw [if_neg h]
    exact rsh_flt s _ _ _ _ _ _ (by rw [beq_eq_false_iff_ne]; exact h) rfl c0 (fun W => refFloat_any s hs W) w

theorem rsame (a b y x : ByteArray) (t u : Int) (p q e1 e2 : Bool) (h1 : (y.toList == x.toList) = e1) (h2 : (t == u) = e2)
    (C0 : Hid (∀ W, Calls Tryd.prog 37 #[.string a] W fun e' w' => e' = .returned (.tuple #[.string y, .int .i64 t, .bool p]) ∧ Below W.heap.size W w'))
    (C1 : Hid (∀ W, Calls Tryd.prog 37 #[.string b] W fun e' w' => e' = .returned (.tuple #[.string x, .int .i64 u, .bool q]) ∧ Below W.heap.size W w')) (w : World) :
    Calls Tryd.prog 21 #[.string a, .string b] w fun e' w' => e' = .returned (.bool (p && q && e1 && e2)) ∧ Below w.heap.size w w' := by
  go_enter Tryd.func21, Tryd.ntmps21
  go_wp2_with fail
  refine (C0.out _).mono ?_
  rintro e1 w1 ⟨rfl, hb1⟩
  have HB1 := Lib.hid hb1
  clear hb1
  go_wp2_with fail
  refine (C1.out _).mono ?_
  rintro e1 w2 ⟨rfl, hb2⟩
  have HB2 := Lib.hid (HB1.out.trans (hb2.mono HB1.out.size))
  clear hb2
  cases p <;> cases q <;> cases e1 <;> cases e2
  all_goals go_wp2_with fail
  all_goals go_ret
  all_goals exact ⟨rfl, HB2.out⟩
theorem refSame_any (a b : ByteArray) (ha : a.size ≤ 1125899906842624) (hb : b.size ≤ 1125899906842624) (w : World) :
    Calls Tryd.prog 21 #[.string a, .string b] w fun e w' => e = .returned (.bool (sameS a.data.toList b.data.toList)) ∧ Below w.heap.size w w' := by
  have := rsame a b _ _ _ _ _ _ _ _ rfl rfl (fun W => refshort_any a ha W) (fun W => refshort_any b hb W) w
  have e : sameS a.data.toList b.data.toList = (((amS a.data.toList).2.2 == 0) && ((amS b.data.toList).2.2 == 0) && ((⟨(amS a.data.toList).1.toArray⟩ : ByteArray).toList == (⟨(amS b.data.toList).1.toArray⟩ : ByteArray).toList) && ((amS a.data.toList).2.1 == (amS b.data.toList).2.1)) := by
    unfold sameS
    rw [Lib.toList_data, Lib.toList_data, Bool.eq_iff_iff]
    simp [and_assoc]
  rw [e]
  exact this
end Go.Proofs.YtiifjegjmhbhkaaDoor.Num
