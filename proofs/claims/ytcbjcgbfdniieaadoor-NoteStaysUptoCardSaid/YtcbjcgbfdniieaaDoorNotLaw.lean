/-
  That the sample which every statement of this layer asks first is answered true, and the walks of the statements NoteScans, NoteKinds, NoteLines, NoteTidies and NoteSames. Conditions: strings of lengths that a program can hold; where lines are made, at most 2^20 bytes; some variable of the library's own holds some number.
-/
import Derived.Test.YtcbjcgbfdniieaaDoorNotSam
import Derived.Test.YtcbjcgbfdniieaaDoorNotRtd
namespace Go.Proofs.YtcbjcgbfdniieaaDoor.Not
open Go.RowKit Gly
open Plc (linesL)
set_option linter.unusedSimpArgs false
set_option linter.unusedVariables false

theorem tidy_small (s : ByteArray) (n : Nat) (hs : s.size ≤ 1048576) (hn : n ≤ 65538) : (tidyB n s.data.toList).length ≤ 70368744177664 := by
  have := tidy_len n s.data.toList
  have h2 : (s.data.toList.length + 1) * (n + 1) ≤ 1048577 * 65539 := Nat.mul_le_mul (by rw [← Lib.size_eq]; omega) (by omega)
  rw [← Lib.size_eq] at *
  omega
theorem Tidy_all (s : ByteArray) (c : Int) (hOk : Ok s) (hT : ∀ n : Nat, n ≤ 65536 → (tidyB (n + 2) s.data.toList).length ≤ 70368744177664) (w : World) (hm : Mx w) :
    Calls Tryd.prog 19 #[.string s, .int .i64 c] w fun e w' => e = .returned (.tuple #[.string (tidyS s c), .int .i64 (tidyE s c)]) ∧ Below w.heap.size w w' := by
  unfold tidyS tidyE
  by_cases hc : c < 1 ∨ 65536 < c
  · rw [if_pos hc, if_neg (by decide)]
    exact Tidy_bad s c hc w
  · obtain ⟨n, rfl⟩ := Int.eq_ofNat_of_zero_le (a := c) (by omega)
    rw [if_neg hc, Int.toNat_natCast]
    by_cases hk : kindN s.data.toList = 0
    · rw [if_pos hk, if_neg (by decide)]
      exact Tidy_no s n hOk.size (by omega) (by omega) hk w
    · rw [if_neg hk, if_pos rfl]
      exact Tidy_yes s n hOk (by omega) (by omega) hk (hT n (by omega)) w hm
theorem refTidy_all (s : ByteArray) (c : Int) (hOk : Ok s) (hT : ∀ n : Nat, n ≤ 65536 → (tidyB (n + 2) s.data.toList).length ≤ 70368744177664) (w : World) :
    Calls Tryd.prog 20 #[.string s, .int .i64 c] w fun e w' => e = .returned (.tuple #[.string (tidyS s c), .int .i64 (tidyE s c)]) ∧ Below w.heap.size w w' := by
  unfold tidyS tidyE
  by_cases hc : c < 1 ∨ 65536 < c
  · rw [if_pos hc, if_neg (by decide)]
    exact refTidy_bad s c hc w
  · obtain ⟨n, rfl⟩ := Int.eq_ofNat_of_zero_le (a := c) (by omega)
    rw [if_neg hc, Int.toNat_natCast]
    by_cases hk : kindN s.data.toList = 0
    · rw [if_pos hk, if_neg (by decide)]
      exact refTidy_no s n hOk.size (by omega) (by omega) hk w
    · rw [if_neg hk, if_pos rfl]
      exact refTidy_yes s n hOk (by omega) (by omega) hk (hT n (by omega)) w

theorem awake_any (w : World) (hm : Mx w) : Calls Tryd.prog 13 #[] w fun e w' => e = .returned (.bool true) ∧ Below w.heap.size w w' := by
  have c1 := fun W => Scan_any ⟨#[45, 45, 32, 124, 120]⟩ 0 (by decide) W
  have h1 : scanI ⟨#[45, 45, 32, 124, 120]⟩ 0 = (5, 0) := by decide +kernel
  rw [h1] at c1
  have c2 := fun W hW => Tidy_all ⟨#[123, 45, 32, 97, 10, 9, 98, 32, 10, 45, 125]⟩ 1 (Ok.of_small (by decide)) (fun n hn => tidy_small _ _ (by decide) (by omega)) W hW
  have h2 : tidyE ⟨#[123, 45, 32, 97, 10, 9, 98, 32, 10, 45, 125]⟩ 1 = 0 := by decide +kernel
  have h3 : tidyS ⟨#[123, 45, 32, 97, 10, 9, 98, 32, 10, 45, 125]⟩ 1 = ⟨#[123, 45, 32, 97, 10, 32, 32, 32, 98, 10, 32, 32, 32, 45, 125]⟩ := by decide +kernel
  rw [h2, h3] at c2
  have c3 := fun W => Kind_any ⟨#[123, 45, 35, 32, 65, 32, 35, 45, 125]⟩ (by decide) W
  have h4 : kindN (⟨#[123, 45, 35, 32, 65, 32, 35, 45, 125]⟩ : ByteArray).data.toList = 3 := by decide +kernel
  rw [h4] at c3
  have C1 := Lib.hid c1
  have C2 := Lib.hid c2
  have C3 := Lib.hid c3
  have HM := Lib.hid hm
  clear c1 c2 c3 h1 h2 h3 h4 hm
  go_enter Tryd.func13, Tryd.ntmps13
  go_wp2_with fail
  refine (C1.out _).mono ?_
  rintro e w1 ⟨rfl, hb1⟩
  have HB1 := Lib.hid hb1
  clear hb1
  go_wp2_with fail
  refine (C2.out _ (HM.out.below HB1.out (Nat.le_refl _))).mono ?_
  rintro e w2 ⟨rfl, hb2⟩
  have HB2 := Lib.hid (below_trans HB1.out hb2)
  clear hb2
  go_wp2_with fail
  refine (C3.out _).mono ?_
  rintro e w3 ⟨rfl, hb3⟩
  have HB3 := Lib.hid (below_trans HB2.out hb3)
  clear hb3
  go_wp2_with fail
  go_ret
  exact ⟨rfl, HB3.out⟩

theorem scans_walk (a0 : ByteArray) (a1 : Int) (z0 : a0.size ≤ 140737488351232) (w1 : (Lit.int .i64 a1).wf = true) (w : World) (hm : Mx w) :
    Calls Tryd.prog 3 #[.string a0, .int .i64 a1] w fun e w' => e = .returned (.bool true) ∧ Below w.heap.size w w' := by
  have c1 := fun W => Scan_any a0 a1 (by omega) W
  have c2 := fun W => refScan_any a0 a1 (by omega) W
  generalize (scanI a0 a1).1 = E at *
  generalize (scanI a0 a1).2 = x at *
  have C1 := Lib.hid c1
  have C2 := Lib.hid c2
  have HM := Lib.hid hm
  clear c1 c2 hm w1
  go_enter Tryd.func3, Tryd.ntmps3
  go_wp2_with fail
  refine (C1.out _).mono ?_
  rintro e w1 ⟨rfl, hb1⟩
  have HB1 := Lib.hid hb1
  clear hb1
  go_wp2_with fail
  refine (C2.out _).mono ?_
  rintro e w2 ⟨rfl, rfl⟩
  go_wp2_with fail
  refine (awake_any _ (HM.out.below HB1.out (Nat.le_refl _))).mono ?_
  rintro e w3 ⟨rfl, hb3⟩
  have HB3 := Lib.hid (below_trans HB1.out hb3)
  clear hb3
  go_wp2_with fail
  go_ret
  exact ⟨by first | rfl | simp, HB3.out⟩

theorem kinds_walk (a0 : ByteArray) (z0 : a0.size ≤ 140737488351232) (w : World) (hm : Mx w) :
    Calls Tryd.prog 4 #[.string a0] w fun e w' => e = .returned (.bool true) ∧ Below w.heap.size w w' := by
  have c1 := fun W => Kind_any a0 (by omega) W
  have c2 := fun W => refKind_any a0 (by omega) W
  generalize kindN a0.data.toList = k at *
  have C1 := Lib.hid c1
  have C2 := Lib.hid c2
  have HM := Lib.hid hm
  clear c1 c2 hm
  go_enter Tryd.func4, Tryd.ntmps4
  go_wp2_with fail
  refine (awake_any _ HM.out).mono ?_
  rintro e w1 ⟨rfl, hb1⟩
  have HB1 := Lib.hid hb1
  clear hb1
  go_wp2_with fail
  refine (C1.out _).mono ?_
  rintro e w2 ⟨rfl, hb2⟩
  have HB2 := Lib.hid (below_trans HB1.out hb2)
  clear hb2
  go_wp2_with fail
  refine (C2.out _).mono ?_
  rintro e w3 ⟨rfl, rfl⟩
  go_wp2_with fail
  go_ret
  exact ⟨by first | rfl | simp, HB2.out⟩

theorem refeq_nil (w : World) : Calls Tryd.prog 18 #[.slice none 0 0, .slice none 0 0] w fun e w' => e = .returned (.bool true) ∧ Below w.heap.size w w' := by
  go_enter Tryd.func18, Tryd.ntmps18
  go_wp2_with fail
  go_loopw [5] (fun i wr => i = .int .i64 0 ∧ wr = w) (fun _ _ => 0)
  case atStart => exact ⟨rfl, rfl⟩
  case round =>
    obtain ⟨rfl, rfl⟩ := hrel
    go_wp2_with fail
    go_ret
    exact ⟨rfl, Below.refl _ _⟩

theorem lines_walk (a0 : ByteArray) (z0 : a0.size ≤ 1048576) (w : World) (hm : Mx w) :
    Calls Tryd.prog 5 #[.string a0] w fun e w' => e = .returned (.bool true) ∧ Below w.heap.size w w' := by
  have HM := Lib.hid hm
  clear hm
  have hOk : Ok a0 := Ok.of_small z0
  by_cases hk : kindN a0.data.toList = 0
  · have C1 := Lib.hid (fun W => Lines_no a0 (by omega) hk W)
    have C2 := Lib.hid (fun W => refLines_no a0 (by omega) hk W)
    clear hk
    go_enter Tryd.func5, Tryd.ntmps5
    go_wp2_with fail
    refine (C1.out _).mono ?_
    rintro e w1 ⟨rfl, hb1⟩
    have HB1 := Lib.hid hb1
    clear hb1
    go_wp2_with fail
    refine (C2.out _).mono ?_
    rintro e w2 ⟨rfl, hb2⟩
    have HB2 := Lib.hid (below_trans HB1.out hb2)
    clear hb2
    go_wp2_with fail
    refine (awake_any _ (HM.out.below HB2.out (Nat.le_refl _))).mono ?_
    rintro e w3 ⟨rfl, hb3⟩
    have HB3 := Lib.hid (below_trans HB2.out hb3)
    clear hb3
    go_wp2_with fail
    refine (refeq_nil _).mono ?_
    rintro e w4 ⟨rfl, hb4⟩
    have HB4 := Lib.hid (below_trans HB3.out hb4)
    clear hb4
    go_wp2_with fail
    go_ret
    exact ⟨rfl, HB4.out⟩
  · have C1 := Lib.hid (fun W hW => Lines_yes a0 hOk hk W hW)
    have C2 := Lib.hid (fun W => refLines_yes a0 hOk hk W)
    have hl := barS_small hOk
    have C3 := Lib.hid (fun g h c d => refeq_any g h c d (barS a0) (barS a0) hl hl)
    rw [decide_eq_true (rfl : barS a0 = barS a0)] at C3
    generalize barS a0 = F at *
    generalize F.length = n at *
    clear hk hl hOk
    go_enter Tryd.func5, Tryd.ntmps5
    go_wp2_with fail
    refine (C1.out _ HM.out).mono ?_
    rintro e w1 ⟨g, cap, rfl, htx, hcap, hb1⟩
    have HB1 := Lib.hid hb1
    have HT1 := Lib.hid htx
    clear hb1 htx
    go_wp2_with fail
    refine (C2.out _).mono ?_
    rintro e w2 ⟨g2, cap2, rfl, htx, hcap2, hb2⟩
    have HB2 := Lib.hid (below_trans HB1.out hb2)
    have HT2 := Lib.hid (HT1.out.below hb2)
    have HU2 := Lib.hid htx
    clear hb2 htx
    go_wp2_with fail
    refine (awake_any _ (HM.out.below HB2.out (Nat.le_refl _))).mono ?_
    rintro e w3 ⟨rfl, hb3⟩
    have HB3 := Lib.hid (below_trans HB2.out hb3)
    have HT3 := Lib.hid (HT2.out.below hb3)
    have HU3 := Lib.hid (HU2.out.below hb3)
    clear hb3
    go_wp2_with fail
    refine (C3.out g g2 cap cap2 _ HT3.out HU3.out).mono ?_
    rintro e w4 ⟨rfl, hb4⟩
    have HB4 := Lib.hid (below_trans HB3.out hb4)
    clear hb4
    go_wp2_with fail
    go_ret
    exact ⟨rfl, HB4.out⟩

theorem tidies_walk (a0 : ByteArray) (a1 : Int) (z0 : a0.size ≤ 1048576) (w1 : (Lit.int .i64 a1).wf = true) (w : World) (hm : Mx w) :
    Calls Tryd.prog 6 #[.string a0, .int .i64 a1] w fun e w' => e = .returned (.bool true) ∧ Below w.heap.size w w' := by
  have HM := Lib.hid hm
  have hOk : Ok a0 := Ok.of_small z0
  have c1 := fun W hW => Tidy_all a0 a1 hOk (fun n hn => tidy_small a0 _ z0 (by omega)) W hW
  have c2 := fun W => refTidy_all a0 a1 hOk (fun n hn => tidy_small a0 _ z0 (by omega)) W
  generalize tidyS a0 a1 = t at *
  generalize tidyE a0 a1 = x at *
  have C1 := Lib.hid c1
  have C2 := Lib.hid c2
  clear c1 c2 hm w1 hOk
  go_enter Tryd.func6, Tryd.ntmps6
  go_wp2_with fail
  refine (C1.out _ HM.out).mono ?_
  rintro e w1 ⟨rfl, hb1⟩
  have HB1 := Lib.hid hb1
  clear hb1
  go_wp2_with fail
  refine (C2.out _).mono ?_
  rintro e w2 ⟨rfl, hb2⟩
  have HB2 := Lib.hid (below_trans HB1.out hb2)
  clear hb2
  go_wp2_with fail
  refine (awake_any _ (HM.out.below HB2.out (Nat.le_refl _))).mono ?_
  rintro e w3 ⟨rfl, hb3⟩
  have HB3 := Lib.hid (below_trans HB2.out hb3)
  clear hb3
  go_wp2_with fail
  go_ret
  exact ⟨by first | rfl | simp, HB3.out⟩

theorem sames_walk (a0 a1 : ByteArray) (z0 : a0.size ≤ 1048576) (z1 : a1.size ≤ 1048576) (w : World) (hm : Mx w) :
    Calls Tryd.prog 7 #[.string a0, .string a1] w fun e w' => e = .returned (.bool true) ∧ Below w.heap.size w w' := by
  have HM := Lib.hid hm
  have c1 := fun W hW => Same_any a0 a1 (Ok.of_small z0) (Ok.of_small z1) W hW
  have c2 := fun W => refSames_any a0 a1 (Ok.of_small z0) (Ok.of_small z1) W
  generalize sameB a0 a1 = r at *
  have C1 := Lib.hid c1
  have C2 := Lib.hid c2
  clear c1 c2 hm
  go_enter Tryd.func7, Tryd.ntmps7
  go_wp2_with fail
  refine (awake_any _ HM.out).mono ?_
  rintro e w1 ⟨rfl, hb1⟩
  have HB1 := Lib.hid hb1
  clear hb1
  go_wp2_with fail
  refine (C1.out _ (HM.out.below HB1.out (Nat.le_refl _))).mono ?_
  rintro e w2 ⟨rfl, hb2⟩
  have HB2 := Lib.hid (below_trans HB1.out hb2)
  clear hb2
  go_wp2_with fail
  refine (C2.out _).mono ?_
  rintro e w3 ⟨rfl, hb3⟩
  have HB3 := Lib.hid (below_trans HB2.out hb3)
  clear hb3
  go_wp2_with fail
  go_ret
  exact ⟨by first | rfl | simp, HB3.out⟩
end Go.Proofs.YtcbjcgbfdniieaaDoor.Not
