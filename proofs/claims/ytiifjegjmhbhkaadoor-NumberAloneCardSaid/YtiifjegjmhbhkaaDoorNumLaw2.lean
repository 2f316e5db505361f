/-
  The walks of the statements NumberBack, NumberAlone and NumberNoughts. Conditions: the strings have at most 2^50 bytes; the library's table of powers of ten stands.
-/
import Derived.Test.YtiifjegjmhbhkaaDoorNumLaw
namespace Go.Proofs.YtiifjegjmhbhkaaDoor.Num
open Go.RowKit Gly
open Go.Lib (decDigits)
set_option linter.unusedSimpArgs false
set_option linter.unusedVariables false

theorem back_none (s : ByteArray) (h : Int) (hh : (h != 0) = true)
    (C0 : Hid (∀ W, Tab W → Calls Tryd.prog 16 #[.string s] W fun e w' => e = .returned (.tuple #[.string ⟨#[]⟩, .int .i64 h]) ∧ Below W.heap.size W w')) (w : World) (ht : Tab w) :
    Calls Tryd.prog 8 #[.string s] w fun e w' => e = .returned (.bool true) ∧ Below w.heap.size w w' := by
  have HT := Lib.hid ht
  clear ht
  go_enter Tryd.func8, Tryd.ntmps8
  go_wp2_with fail
  refine (awake_any _ HT.out).mono ?_
  rintro e w1 ⟨rfl, hb1⟩
  have HB1 := Lib.hid hb1
  clear hb1
  go_wp2_with fail
  refine (C0.out _ (HT.out.below HB1.out (Nat.le_refl _))).mono ?_
  rintro e w2 ⟨rfl, hb2⟩
  have HB2 := Lib.hid (HB1.out.trans (hb2.mono HB1.out.size))
  clear hb2
  go_wp2_with fail
  go_ret
  exact ⟨by first | rfl | simp, HB2.out⟩
theorem back_some (s d c : ByteArray) (x y h : Int) (hc : ((c.toList == d.toList) = true ∧ h = 0) ∨ ((c.toList == d.toList) = false ∧ h = 3 ∧ decide ((1000 : Int) < (d.size : Int)) = true))
    (C0 : Hid (∀ W, Tab W → Calls Tryd.prog 16 #[.string s] W fun e w' => e = .returned (.tuple #[.string d, .int .i64 0]) ∧ Below W.heap.size W w'))
    (C1 : Hid (∀ W, Calls Tryd.prog 14 #[.string s] W fun e w' => e = .returned (.tuple #[.int .i64 x, .int .i64 y]) ∧ Below W.heap.size W w'))
    (C2 : Hid (∀ W, Calls Tryd.prog 14 #[.string d] W fun e w' => e = .returned (.tuple #[.int .i64 x, .int .i64 y]) ∧ Below W.heap.size W w'))
    (C3 : Hid (∀ W, Tab W → Calls Tryd.prog 16 #[.string d] W fun e w' => e = .returned (.tuple #[.string c, .int .i64 h]) ∧ Below W.heap.size W w')) (w : World) (ht : Tab w) :
    Calls Tryd.prog 8 #[.string s] w fun e w' => e = .returned (.bool true) ∧ Below w.heap.size w w' := by
  have HT := Lib.hid ht
  clear ht
  rcases hc with ⟨h1, rfl⟩ | ⟨h1, rfl, h3⟩
  all_goals go_enter Tryd.func8, Tryd.ntmps8
  all_goals go_wp2_with fail
  all_goals refine (awake_any _ HT.out).mono ?_
  all_goals rintro e w1 ⟨rfl, hb1⟩
  all_goals (have HB1 := Lib.hid hb1; clear hb1)
  all_goals go_wp2_with fail
  all_goals refine (C0.out _ (HT.out.below HB1.out (Nat.le_refl _))).mono ?_
  all_goals rintro e w2 ⟨rfl, hb2⟩
  all_goals (have HB2 := Lib.hid (HB1.out.trans (hb2.mono HB1.out.size)); clear hb2)
  all_goals go_wp2_with fail
  all_goals refine (C1.out _).mono ?_
  all_goals rintro e w3 ⟨rfl, hb3⟩
  all_goals (have HB3 := Lib.hid (HB2.out.trans (hb3.mono HB2.out.size)); clear hb3)
  all_goals go_wp2_with fail
  all_goals refine (C2.out _).mono ?_
  all_goals rintro e w4 ⟨rfl, hb4⟩
  all_goals (have HB4 := Lib.hid (HB3.out.trans (hb4.mono HB3.out.size)); clear hb4)
  all_goals go_wp2_with fail
  all_goals refine (C3.out _ (HT.out.below HB4.out (Nat.le_refl _))).mono ?_
  all_goals rintro e w5 ⟨rfl, hb5⟩
  all_goals (have HB5 := Lib.hid (HB4.out.trans (hb5.mono HB4.out.size)); clear hb5)
  all_goals go_wp2_with fail
  all_goals go_ret
  all_goals exact ⟨by first | rfl | simp, HB5.out⟩
theorem back_walk (a0 : ByteArray) (z0 : a0.size ≤ 140737488351232) (w : World) (ht : Tab w) :
    Calls Tryd.prog 8 #[.string a0] w fun e w' => e = .returned (.bool true) ∧ Below w.heap.size w w' := by
  have c0 := fun W hW => Decimal_any a0 (by omega) W hW
  by_cases hk : (wholeL a0.data.toList).kind = 11
  · by_cases hl : 1000 < a0.data.toList.length
    · have e : decS a0.data.toList = ([], 3) := by unfold decS; rw [if_pos hk, if_pos hl]
      rw [e] at c0
      exact back_none a0 3 (by decide) c0 w ht
    · obtain ⟨n, hn⟩ : ∃ n, valOf (wholeL a0.data.toList).base 0 (a0.data.toList.drop (wholeL a0.data.toList).beg) = n := ⟨_, rfl⟩
      have e : decS a0.data.toList = (decDigits n, 0) := by unfold decS; rw [if_pos hk, if_neg hl, hn]
      have hlen := decS_len a0.data.toList
      have ev : valueS a0.data.toList = if n ≤ 4611686018427387904 then ((n : Int), 0) else (0, 3) := by unfold valueS; rw [if_pos hk, hn]
      rw [e] at c0 hlen
      dsimp only at hlen
      obtain ⟨d1, d2, d3⟩ := dec_digits n
      have ev2 := valueS_digits (decDigits n) d2 d1
      rw [d3] at ev2
      have c1 := fun W => Value_any a0 (by omega) W
      have c2 := fun W => Value_any ⟨(decDigits n).toArray⟩ (by rw [size_of]; omega) W
      have c3 := fun W hW => Decimal_any ⟨(decDigits n).toArray⟩ (by rw [size_of]; omega) W hW
      rw [ev] at c1
      rw [show (⟨(decDigits n).toArray⟩ : ByteArray).data.toList = decDigits n from rfl, ev2] at c2
      rw [show (⟨(decDigits n).toArray⟩ : ByteArray).data.toList = decDigits n from rfl] at c3
      refine back_some a0 ⟨(decDigits n).toArray⟩ _ _ _ _ ?_ c0 c1 c2 c3 w ht
      rw [Lib.toList_data, Lib.toList_data, size_of]
      by_cases h10 : 1000 < (decDigits n).length
      · have e3 : decS (decDigits n) = ([], 3) := by
          unfold decS
          rw [wholeL_digits _ d2 d1, if_pos rfl, if_pos h10]
        rw [e3]
        refine .inr ⟨?_, rfl, decide_eq_true (by omega)⟩
        rw [beq_eq_false_iff_ne]
        exact fun h => d2 h.symm
      · rw [decS_digits _ d2 d1 (by omega), d3]
        exact .inl ⟨beq_self_eq_true _, rfl⟩
  · have e : decS a0.data.toList = ([], 40) := by unfold decS; rw [if_neg hk]
    rw [e] at c0
    exact back_none a0 40 (by decide) c0 w ht

theorem alone_none (s : ByteArray) (i : Int)
    (C0 : Hid (∀ W, Calls Tryd.prog 11 #[.string s, .int .i64 i] W fun e w' => e = .returned (.tuple #[.int .i64 0, .int .i64 0]) ∧ Below W.heap.size W w')) (w : World) (ht : Tab w) :
    Calls Tryd.prog 9 #[.string s, .int .i64 i] w fun e w' => e = .returned (.bool true) ∧ Below w.heap.size w w' := by
  have HT := Lib.hid ht
  clear ht
  go_enter Tryd.func9, Tryd.ntmps9
  go_wp2_with fail
  refine (awake_any _ HT.out).mono ?_
  rintro e w1 ⟨rfl, hb1⟩
  have HB1 := Lib.hid hb1
  clear hb1
  go_wp2_with fail
  refine (C0.out _).mono ?_
  rintro e w2 ⟨rfl, hb2⟩
  have HB2 := Lib.hid (HB1.out.trans (hb2.mono HB1.out.size))
  clear hb2
  go_wp2_with fail
  go_ret
  exact ⟨by first | rfl | simp, HB2.out⟩
theorem alone_some (s : ByteArray) (n e0 : Nat) (k t : Int) (hk : k = 11 ∨ k = 12) (h1 : n < e0) (h2 : e0 ≤ s.size) (hs : s.size ≤ 140737488351232) (htt : t = (e0 : Int) - (n : Int))
    (C0 : Hid (∀ W, Calls Tryd.prog 11 #[.string s, .int .i64 (n : Int)] W fun e w' => e = .returned (.tuple #[.int .i64 k, .int .i64 (e0 : Int)]) ∧ Below W.heap.size W w'))
    (C1 : Hid (∀ W, Calls Tryd.prog 11 #[.string (s.extract n e0), .int .i64 0] W fun e w' => e = .returned (.tuple #[.int .i64 k, .int .i64 t]) ∧ Below W.heap.size W w')) (w : World) (ht : Tab w) :
    Calls Tryd.prog 9 #[.string s, .int .i64 (n : Int)] w fun e w' => e = .returned (.bool true) ∧ Below w.heap.size w w' := by
  have HT := Lib.hid ht
  have x1 : decide ((n : Int) < 0) = false := decide_eq_false (by omega)
  have x2 : decide (e0 ≤ n) = false := decide_eq_false (by omega)
  have x3 : decide (s.size < e0) = false := decide_eq_false (by omega)
  have x4 : (t == (e0 : Int) - (n : Int)) = true := by rw [beq_iff_eq]; exact htt
  clear ht htt
  rcases hk with rfl | rfl
  all_goals go_enter Tryd.func9, Tryd.ntmps9
  all_goals go_wp2_with fail
  all_goals refine (awake_any _ HT.out).mono ?_
  all_goals rintro e w1 ⟨rfl, hb1⟩
  all_goals (have HB1 := Lib.hid hb1; clear hb1)
  all_goals go_wp2_with fail
  all_goals refine (C0.out _).mono ?_
  all_goals rintro e w2 ⟨rfl, hb2⟩
  all_goals (have HB2 := Lib.hid (HB1.out.trans (hb2.mono HB1.out.size)); clear hb2)
  all_goals go_wp2_with fail
  all_goals refine (C1.out _).mono ?_
  all_goals rintro e w3 ⟨rfl, hb3⟩
  all_goals (have HB3 := Lib.hid (HB2.out.trans (hb3.mono HB2.out.size)); clear hb3)
  all_goals go_wp2_with fail
  all_goals go_ret
  all_goals exact ⟨by first | rfl | simp, HB3.out⟩
theorem alone_walk (a0 : ByteArray) (a1 : Int) (z0 : a0.size ≤ 140737488351232) (_w1 : (Lit.int .i64 a1).wf = true) (w : World) (ht : Tab w) :
    Calls Tryd.prog 9 #[.string a0, .int .i64 a1] w fun e w' => e = .returned (.bool true) ∧ Below w.heap.size w w' := by
  have c0 := fun W => Scan_any a0 a1 (by omega) W
  by_cases hin : 0 ≤ a1 ∧ a1 < a0.size
  · obtain ⟨n, rfl⟩ : ∃ n : Nat, a1 = n := ⟨a1.toNat, by omega⟩
    have hn : n < a0.size := by omega
    have es : scanN a0 (n : Int) = if (readL (rest a0 n)).kind = 0 then (0, 0) else ((readL (rest a0 n)).kind, n + (readL (rest a0 n)).fin) := by
      unfold scanN
      rw [if_pos hin, Int.toNat_natCast]
    rw [es] at c0
    by_cases hk : (readL (rest a0 n)).kind = 0
    · rw [if_pos hk] at c0
      exact alone_none a0 _ c0 w ht
    · rw [if_neg hk] at c0
      have hp := readL_pos _ hk
      have hf := readL_fin (rest a0 n)
      rw [rest_len] at hf
      have hkk : (readL (rest a0 n)).kind = 11 ∨ (readL (rest a0 n)).kind = 12 := by
        rcases readL_kind (rest a0 n) with ⟨h1, -⟩ | h1
        · exact absurd h1 hk
        · exact h1
      have hx : (a0.extract n (n + (readL (rest a0 n)).fin)).data.toList = (rest a0 n).take (readL (rest a0 n)).fin := by
        rw [Lib.extract_data, Nat.add_sub_cancel_left]
        rfl
      have hxs : (a0.extract n (n + (readL (rest a0 n)).fin)).size = (readL (rest a0 n)).fin := by
        rw [Lib.size_eq, hx, List.length_take, rest_len]
        omega
      have c1 := fun W => Scan_any (a0.extract n (n + (readL (rest a0 n)).fin)) 0 (by rw [hxs]; omega) W
      rw [scanN_zero, hxs, if_neg (by omega), hx, readL_take _ hk] at c1
      exact alone_some a0 n (n + (readL (rest a0 n)).fin) _ _ (by omega) (by omega) (by omega) z0 (by omega) c0 c1 w ht
  · have es : scanN a0 a1 = (0, 0) := by
      unfold scanN
      rw [if_neg hin]
    rw [es] at c0
    exact alone_none a0 _ c0 w ht
end Go.Proofs.YtiifjegjmhbhkaaDoor.Num
