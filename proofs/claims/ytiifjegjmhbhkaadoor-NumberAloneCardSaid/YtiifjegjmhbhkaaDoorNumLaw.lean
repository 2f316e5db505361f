/-
  That the sample which every statement of this layer asks first ('awake') is answered true; the walks of the statements NumberScans, NumberValues, NumberDecimals, NumberFloats and NumberSames. Conditions: the strings have at most 2^50 bytes; the library's table of powers of ten stands.
-/
import Derived.Test.YtiifjegjmhbhkaaDoorNumRsm
namespace Go.Proofs.YtiifjegjmhbhkaaDoor.Num
open Go.RowKit Gly
open Go.Lib (decDigits)
set_option linter.unusedSimpArgs false
set_option linter.unusedVariables false

theorem dec255 : decDigits 255 = [50, 53, 53] := by
  have h1 := dec_more 25 5 (by omega) (by omega)
  have h2 := dec_more 2 5 (by omega) (by omega)
  have h3 := dec_one 2 (by omega)
  rw [show 255 = 25 * 10 + 5 from rfl, h1, show 25 = 2 * 10 + 5 from rfl, h2, h3]
  decide
theorem aw_scan : scanN ⟨#[48, 120, 49, 70, 103]⟩ 0 = (11, 4) := by decide +kernel
theorem aw_value : valueS [48, 111, 49, 55] = (15, 0) := by decide +kernel
theorem aw_dec : decS [48, 120, 102, 102] = ([50, 53, 53], 0) := by
  unfold decS
  rw [if_pos (show (wholeL [48, 120, 102, 102]).kind = 11 by decide +kernel), if_neg (by decide)]
  rw [show valOf (wholeL [48, 120, 102, 102]).base 0 ([48, 120, 102, 102].drop (wholeL [48, 120, 102, 102]).beg) = 255 by decide +kernel, dec255]
theorem aw_one : amS [49, 101, 49] = ([49], 1, 0) := by
  unfold amS
  rw [decS_none _ (by decide +kernel), if_neg (by decide)]
  decide +kernel
theorem aw_ten : amS [49, 48] = ([49], 1, 0) := by
  rw [amS_digits _ (by decide) (by decide +kernel) (by decide)]
  decide +kernel
theorem aw_same : sameS [49, 101, 49] [49, 48] = true := sameS_of aw_one aw_ten

set_option maxRecDepth 100000 in
theorem awake_any (w : World) (ht : Tab w) : Calls Tryd.prog 13 #[] w fun e w' => e = .returned (.bool true) ∧ Below w.heap.size w w' := by
  have c1 := fun W => Scan_any ⟨#[48, 120, 49, 70, 103]⟩ 0 (by decide) W
  rw [aw_scan] at c1
  have c2 := fun W => Value_any ⟨#[48, 111, 49, 55]⟩ (by decide) W
  rw [show (⟨#[48, 111, 49, 55]⟩ : ByteArray).data.toList = [48, 111, 49, 55] from rfl, aw_value] at c2
  have c3 := fun W hW => Decimal_any ⟨#[48, 120, 102, 102]⟩ (by decide) W hW
  rw [show (⟨#[48, 120, 102, 102]⟩ : ByteArray).data.toList = [48, 120, 102, 102] from rfl, aw_dec] at c3
  have c4 := fun W hW => Same_any ⟨#[49, 101, 49]⟩ ⟨#[49, 48]⟩ (by decide) (by decide) W hW
  rw [show (⟨#[49, 101, 49]⟩ : ByteArray).data.toList = [49, 101, 49] from rfl, show (⟨#[49, 48]⟩ : ByteArray).data.toList = [49, 48] from rfl, aw_same] at c4
  have C1 := Lib.hid c1
  have C2 := Lib.hid c2
  have C3 := Lib.hid c3
  have C4 := Lib.hid c4
  have HT := Lib.hid ht
  clear c1 c2 c3 c4 ht
  go_enter Tryd.func13, Tryd.ntmps13
  go_wp2_with fail
  refine (C1.out _).mono ?_
  rintro e w1 ⟨rfl, hb1⟩
  have HB1 := Lib.hid hb1
  clear hb1
  go_wp2_with fail
  refine (C2.out _).mono ?_
  rintro e w2 ⟨rfl, hb2⟩
  have HB2 := Lib.hid (HB1.out.trans (hb2.mono HB1.out.size))
  clear hb2
  go_wp2_with fail
  refine (C3.out _ (HT.out.below HB2.out (Nat.le_refl _))).mono ?_
  rintro e w3 ⟨rfl, hb3⟩
  have HB3 := Lib.hid (HB2.out.trans (hb3.mono HB2.out.size))
  clear hb3
  go_wp2_with fail
  refine (C4.out _ (HT.out.below HB3.out (Nat.le_refl _))).mono ?_
  rintro e w4 ⟨rfl, hb4⟩
  have HB4 := Lib.hid (HB3.out.trans (hb4.mono HB3.out.size))
  clear hb4
  go_wp2_with fail
  go_ret
  exact ⟨rfl, HB4.out⟩

theorem scans_walk (a0 : ByteArray) (a1 : Int) (z0 : a0.size ≤ 140737488351232) (_w1 : (Lit.int .i64 a1).wf = true) (w : World) (ht : Tab w) :
    Calls Tryd.prog 3 #[.string a0, .int .i64 a1] w fun e w' => e = .returned (.bool true) ∧ Below w.heap.size w w' := by
  have c1 := fun W => Scan_any a0 a1 (by omega) W
  have c2 := fun W => refScan_any a0 a1 (by omega) W
  generalize scanN a0 a1 = r at c1 c2
  obtain ⟨x, y⟩ := r
  have C1 := Lib.hid c1
  have C2 := Lib.hid c2
  have HT := Lib.hid ht
  clear c1 c2 ht
  go_enter Tryd.func3, Tryd.ntmps3
  go_wp2_with fail
  refine (C1.out _).mono ?_
  rintro e w1 ⟨rfl, hb1⟩
  have HB1 := Lib.hid hb1
  clear hb1
  go_wp2_with fail
  refine (C2.out _).mono ?_
  rintro e w2 ⟨rfl, rfl⟩
  go_wp2_with fail
  refine (awake_any _ (HT.out.below HB1.out (Nat.le_refl _))).mono ?_
  rintro e w2 ⟨rfl, hb2⟩
  have HB2 := Lib.hid (HB1.out.trans (hb2.mono HB1.out.size))
  clear hb2
  go_wp2_with fail
  go_ret
  exact ⟨by first | rfl | simp, HB2.out⟩
theorem values_walk (a0 : ByteArray) (z0 : a0.size ≤ 140737488351232) (w : World) (ht : Tab w) :
    Calls Tryd.prog 4 #[.string a0] w fun e w' => e = .returned (.bool true) ∧ Below w.heap.size w w' := by
  have c1 := fun W => Value_any a0 (by omega) W
  have c2 := fun W => refValue_any a0 (by omega) W
  generalize valueS a0.data.toList = r at c1 c2
  obtain ⟨x, y⟩ := r
  have C1 := Lib.hid c1
  have C2 := Lib.hid c2
  have HT := Lib.hid ht
  clear c1 c2 ht
  go_enter Tryd.func4, Tryd.ntmps4
  go_wp2_with fail
  refine (C1.out _).mono ?_
  rintro e w1 ⟨rfl, hb1⟩
  have HB1 := Lib.hid hb1
  clear hb1
  go_wp2_with fail
  refine (C2.out _).mono ?_
  rintro e w2 ⟨rfl, rfl⟩
  go_wp2_with fail
  refine (awake_any _ (HT.out.below HB1.out (Nat.le_refl _))).mono ?_
  rintro e w2 ⟨rfl, hb2⟩
  have HB2 := Lib.hid (HB1.out.trans (hb2.mono HB1.out.size))
  clear hb2
  go_wp2_with fail
  go_ret
  exact ⟨by first | rfl | simp, HB2.out⟩
theorem decimals_walk (a0 : ByteArray) (z0 : a0.size ≤ 140737488351232) (w : World) (ht : Tab w) :
    Calls Tryd.prog 5 #[.string a0] w fun e w' => e = .returned (.bool true) ∧ Below w.heap.size w w' := by
  have c1 := fun W hW => Decimal_any a0 (by omega) W hW
  have c2 := fun W => refDecimal_any a0 (by omega) W
  generalize decS a0.data.toList = r at c1 c2
  obtain ⟨l, y⟩ := r
  generalize (⟨l.toArray⟩ : ByteArray) = x at c1 c2
  have C1 := Lib.hid c1
  have C2 := Lib.hid c2
  have HT := Lib.hid ht
  clear c1 c2 ht
  go_enter Tryd.func5, Tryd.ntmps5
  go_wp2_with fail
  refine (C1.out _ HT.out).mono ?_
  rintro e w1 ⟨rfl, hb1⟩
  have HB1 := Lib.hid hb1
  clear hb1
  go_wp2_with fail
  refine (C2.out _).mono ?_
  rintro e w2 ⟨rfl, hb2⟩
  have HB2 := Lib.hid (HB1.out.trans (hb2.mono HB1.out.size))
  clear hb2
  go_wp2_with fail
  refine (awake_any _ (HT.out.below HB2.out (Nat.le_refl _))).mono ?_
  rintro e w3 ⟨rfl, hb3⟩
  have HB3 := Lib.hid (HB2.out.trans (hb3.mono HB2.out.size))
  clear hb3
  go_wp2_with fail
  go_ret
  exact ⟨by first | rfl | simp, HB3.out⟩
theorem floats_walk (a0 : ByteArray) (z0 : a0.size ≤ 140737488351232) (w : World) (ht : Tab w) :
    Calls Tryd.prog 6 #[.string a0] w fun e w' => e = .returned (.bool true) ∧ Below w.heap.size w w' := by
  have c1 := fun W => Float_any a0 (by omega) W
  have c2 := fun W => refFloat_any a0 (by omega) W
  generalize floatS a0.data.toList = r at c1 c2
  obtain ⟨l, t, y⟩ := r
  generalize (⟨l.toArray⟩ : ByteArray) = x at c1 c2
  have C1 := Lib.hid c1
  have C2 := Lib.hid c2
  have HT := Lib.hid ht
  clear c1 c2 ht
  go_enter Tryd.func6, Tryd.ntmps6
  go_wp2_with fail
  refine (C1.out _).mono ?_
  rintro e w1 ⟨rfl, hb1⟩
  have HB1 := Lib.hid hb1
  clear hb1
  go_wp2_with fail
  refine (C2.out _).mono ?_
  rintro e w2 ⟨rfl, rfl⟩
  go_wp2_with fail
  refine (awake_any _ (HT.out.below HB1.out (Nat.le_refl _))).mono ?_
  rintro e w3 ⟨rfl, hb3⟩
  have HB3 := Lib.hid (HB1.out.trans (hb3.mono HB1.out.size))
  clear hb3
  go_wp2_with fail
  go_ret
  exact ⟨by first | rfl | simp, HB3.out⟩
theorem sames_walk (a0 a1 : ByteArray) (z0 : a0.size ≤ 140737488351232) (z1 : a1.size ≤ 140737488351232) (w : World) (ht : Tab w) :
    Calls Tryd.prog 7 #[.string a0, .string a1] w fun e w' => e = .returned (.bool true) ∧ Below w.heap.size w w' := by
  have c1 := fun W hW => Same_any a0 a1 (by omega) (by omega) W hW
  have c2 := fun W => refSame_any a0 a1 (by omega) (by omega) W
  generalize sameS a0.data.toList a1.data.toList = r at c1 c2
  have C1 := Lib.hid c1
  have C2 := Lib.hid c2
  have HT := Lib.hid ht
  clear c1 c2 ht
  cases r
  all_goals go_enter Tryd.func7, Tryd.ntmps7
  all_goals go_wp2_with fail
  all_goals refine (awake_any _ HT.out).mono ?_
  all_goals rintro e w1 ⟨rfl, hb1⟩
  all_goals (have HB1 := Lib.hid hb1; clear hb1)
  all_goals go_wp2_with fail
  all_goals refine (C1.out _ (HT.out.below HB1.out (Nat.le_refl _))).mono ?_
  all_goals rintro e w2 ⟨rfl, hb2⟩
  all_goals (have HB2 := Lib.hid (HB1.out.trans (hb2.mono HB1.out.size)); clear hb2)
  all_goals go_wp2_with fail
  all_goals refine (C2.out _).mono ?_
  all_goals rintro e w3 ⟨rfl, hb3⟩
  all_goals (have HB3 := Lib.hid (HB2.out.trans (hb3.mono HB2.out.size)); clear hb3)
  all_goals go_wp2_with fail
  all_goals go_ret
  all_goals exact ⟨by first | rfl | simp, HB3.out⟩
end Go.Proofs.YtiifjegjmhbhkaaDoor.Num
