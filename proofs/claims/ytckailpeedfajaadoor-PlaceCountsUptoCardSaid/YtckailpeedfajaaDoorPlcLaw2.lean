/-
  The walks of the statements PlaceRises and PlaceCounts. Condition: a string has at most 2^47 bytes, as every row's input has; at most 2^40 where lines are made.
-/
import Derived.Test.YtckailpeedfajaaDoorPlcLaw
import Derived.Test.YtckailpeedfajaaDoorPlcMono
namespace Go.Proofs.YtckailpeedfajaaDoor.Plc
open Go.RowKit Gly
set_option linter.unusedSimpArgs false

theorem rises_walk (a0 : ByteArray) (a1 a2 : Int) (w0 : a0.size ≤ 140737488351232) (_w1 : (Lit.int .i64 a1).wf = true) (_w2 : (Lit.int .i64 a2).wf = true) (w : World) :
    Calls Tryd.prog 9 #[.string a0, .int .i64 a1, .int .i64 a2] w fun e w' => e = .returned (.bool true) ∧ Below w.heap.size w w' := by
  clear _w1 _w2
  by_cases h : a1 < 0 ∨ a2 < 0 ∨ (a0.size : Int) < a1 ∨ (a0.size : Int) - a1 < a2
  · by_cases h1 : a1 < 0
    · clear h
      go_enter Tryd.func9, Tryd.ntmps9
      go_wp2_with fail
      refine (awake_any _).mono ?_
      rintro e w1 ⟨rfl, hb1⟩
      have HB1 := Lib.hid hb1
      clear hb1
      go_wp2_with fail
      go_ret
      exact ⟨rfl, HB1.out⟩
    by_cases h2 : a2 < 0
    · clear h
      have d1 : decide (a1 < 0) = false := decide_eq_false h1
      go_enter Tryd.func9, Tryd.ntmps9
      go_wp2_with fail
      refine (awake_any _).mono ?_
      rintro e w1 ⟨rfl, hb1⟩
      have HB1 := Lib.hid hb1
      clear hb1
      go_wp2_with fail
      go_ret
      exact ⟨rfl, HB1.out⟩
    by_cases h3 : (a0.size : Int) < a1
    · clear h
      have d1 : decide (a1 < 0) = false := decide_eq_false h1
      have d2 : decide (a2 < 0) = false := decide_eq_false h2
      have d3 : decide ((a0.size : Int) < a1) = true := decide_eq_true h3
      go_enter Tryd.func9, Tryd.ntmps9
      go_wp2_with fail
      refine (awake_any _).mono ?_
      rintro e w1 ⟨rfl, hb1⟩
      have HB1 := Lib.hid hb1
      clear hb1
      go_wp2_with fail
      go_ret
      exact ⟨rfl, HB1.out⟩
    · have h4 : (a0.size : Int) - a1 < a2 := by omega
      clear h
      have d1 : decide (a1 < 0) = false := decide_eq_false h1
      have d2 : decide (a2 < 0) = false := decide_eq_false h2
      have d3 : decide ((a0.size : Int) < a1) = false := decide_eq_false h3
      have d4 : decide ((a0.size : Int) - a1 < a2) = true := decide_eq_true h4
      go_enter Tryd.func9, Tryd.ntmps9
      go_wp2_with fail
      refine (awake_any _).mono ?_
      rintro e w1 ⟨rfl, hb1⟩
      have HB1 := Lib.hid hb1
      clear hb1
      go_wp2_with fail
      go_ret
      exact ⟨rfl, HB1.out⟩
  · obtain ⟨n, rfl⟩ := Int.eq_ofNat_of_zero_le (a := a1) (by omega)
    obtain ⟨m, rfl⟩ := Int.eq_ofNat_of_zero_le (a := a2) (by omega)
    have hnm : n + m ≤ a0.size := by omega
    clear h
    have c1 := fun W => of_any a0 (n : Int) (by omega) W
    have c2 := fun W => of_any a0 ((n : Int) + (m : Int)) (by omega) W
    have e1 : ofI a0 (n : Int) = ((spot a0 1 n).1, (spot a0 1 n).2, 0) := by unfold ofI; rw [if_neg (by omega), Int.toNat_natCast]
    have e2 : ofI a0 ((n : Int) + (m : Int)) = ((spot a0 1 (n + m)).1, (spot a0 1 (n + m)).2, 0) := by
      unfold ofI
      rw [if_neg (by omega)]
      have : ((n : Int) + (m : Int)).toNat = n + m := by omega
      rw [this]
    have hle : le2 (spot a0 1 n) (spot a0 1 (n + m)) := scan_mono a0 n (n + m) (by omega) _ _ _
    rw [e1] at c1
    rw [e2] at c2
    clear e1 e2
    generalize spot a0 1 n = x at c1 hle
    generalize spot a0 1 (n + m) = y at c2 hle
    obtain ⟨xl, xc⟩ := x
    obtain ⟨yl, yc⟩ := y
    have C1 := Lib.hid c1
    have C2 := Lib.hid c2
    clear c1 c2
    have d1 : decide ((n : Int) < 0) = false := decide_eq_false (by omega)
    have d2 : decide ((m : Int) < 0) = false := decide_eq_false (by omega)
    have d3 : decide (a0.size < n) = false := decide_eq_false (by omega)
    have d4 : decide ((a0.size : Int) - (n : Int) < (m : Int)) = false := decide_eq_false (by omega)
    by_cases hl : xl < yl
    · have d5 : decide (xl < yl) = true := decide_eq_true hl
      clear hle
      go_enter Tryd.func9, Tryd.ntmps9
      go_wp2_with fail
      refine (awake_any _).mono ?_
      rintro e w1 ⟨rfl, hb1⟩
      have HB1 := Lib.hid hb1
      clear hb1
      go_wp2_with fail
      refine (C1.out _).mono ?_
      rintro e w2 ⟨rfl, hb2⟩
      have HB2 := Lib.hid hb2
      clear hb2
      go_wp2_with fail
      refine (C2.out _).mono ?_
      rintro e w3 ⟨rfl, hb3⟩
      have HB3 := Lib.hid hb3
      clear hb3
      go_wp2_with fail
      go_ret
      have s1 := HB1.out.size
      have s2 := HB2.out.size
      exact ⟨rfl, HB1.out.trans ((HB2.out.mono s1).trans (HB3.out.mono (Nat.le_trans s1 s2)))⟩
    · have he : xl = yl ∧ xc ≤ yc := by unfold le2 at hle; dsimp only at hle; omega
      obtain ⟨rfl, hc⟩ := he
      have d6 : decide (xc ≤ yc) = true := decide_eq_true hc
      clear hle hl
      have d5 : decide (xl < xl) = false := decide_eq_false (by omega)
      go_enter Tryd.func9, Tryd.ntmps9
      go_wp2_with fail
      refine (awake_any _).mono ?_
      rintro e w1 ⟨rfl, hb1⟩
      have HB1 := Lib.hid hb1
      clear hb1
      go_wp2_with fail
      refine (C1.out _).mono ?_
      rintro e w2 ⟨rfl, hb2⟩
      have HB2 := Lib.hid hb2
      clear hb2
      go_wp2_with fail
      refine (C2.out _).mono ?_
      rintro e w3 ⟨rfl, hb3⟩
      have HB3 := Lib.hid hb3
      clear hb3
      go_wp2_with fail
      go_ret
      have s1 := HB1.out.size
      have s2 := HB2.out.size
      exact ⟨by first | rfl | simp, HB1.out.trans ((HB2.out.mono s1).trans (HB3.out.mono (Nat.le_trans s1 s2)))⟩

theorem counts_walk (a0 : ByteArray) (w0 : a0.size ≤ 1099511627776) (w : World) :
    Calls Tryd.prog 8 #[.string a0] w fun e w' => e = .returned (.bool true) ∧ Below w.heap.size w w' := by
  have hl : 0 < (linesL a0).length := cut_length _ _ _ _
  have c1 := fun W => lines_any a0 w0 W
  have hm : (linesL a0).length ≤ a0.size + 1 := linesL_le a0
  obtain ⟨h1, x, h2, h3, h4⟩ := lines_end a0
  have c2 := fun W => of_any a0 (a0.size : Int) (by omega) W
  have e2 : ofI a0 (a0.size : Int) = ((spot a0 1 a0.size).1, (spot a0 1 a0.size).2, 0) := by unfold ofI; rw [if_neg (by omega), Int.toNat_natCast]
  have c3 := fun W => width_any x 1 (by omega) W
  have e3 : widthI x 1 = ((spot x 1 x.size).2, 0) := by unfold widthI; rw [if_neg (by omega)]
  rw [e2] at c2
  rw [e3, h4] at c3
  rw [← h1] at c2
  rw [List.getLast?_eq_getElem?] at h2
  clear e2 e3 h1 h4
  generalize linesL a0 = L at c1 c2 hl hm h2
  generalize (spot a0 1 a0.size).2 = cl at c2 c3
  have C1 := Lib.hid c1
  have C2 := Lib.hid c2
  have C3 := Lib.hid c3
  have H2 := Lib.hid h2
  clear c1 c2 c3 h2
  go_enter Tryd.func8, Tryd.ntmps8
  go_wp2_with fail
  refine (awake_any _).mono ?_
  rintro e w1 ⟨rfl, hb1⟩
  have HB1 := Lib.hid hb1
  clear hb1
  go_wp2_with fail
  refine (C1.out _).mono ?_
  rintro e w2 ⟨v2, rfl, ht2, hb2⟩
  have HB2 := Lib.hid hb2
  obtain ⟨g, cap, rfl, _, _⟩ := ht2.form hl
  have HT2 := Lib.hid ht2
  clear hb2 ht2
  have l0 : (((L.length : Nat) : Int) == 0) = false := by rw [beq_eq_false_iff_ne]; omega
  go_wp2_with fail
  refine (C2.out _).mono ?_
  rintro e w3 ⟨rfl, hb3⟩
  have HB3 := Lib.hid hb3
  have HT3 : Hid (Texts w3 w1.heap.size (.slice (some ⟨g, 0, none⟩) L.length cap) L) := HT2.out.below hb3 (Nat.le_refl _)
  clear hb3
  obtain ⟨k, hk⟩ : ∃ k, L.length = k + 1 := ⟨L.length - 1, by omega⟩
  have HK := Lib.hid hk
  have hx : L[k]? = some x := by have := H2.out; rw [hk] at this; exact this
  have x0 := HT3.out.at_ k x hx
  clear hx
  go_wp2_with fail
  refine (C3.out _).mono ?_
  rintro e w4 ⟨rfl, hb4⟩
  have HB4 := Lib.hid hb4
  clear hb4
  go_wp2_with fail
  go_ret
  have s1 := HB1.out.size
  have s2 := HB2.out.size
  have s3 := HB3.out.size
  exact ⟨by first | rfl | simp, HB1.out.trans ((HB2.out.mono s1).trans ((HB3.out.mono (Nat.le_trans s1 s2)).trans (HB4.out.mono (Nat.le_trans s1 (Nat.le_trans s2 s3)))))⟩
end Go.Proofs.YtckailpeedfajaaDoor.Plc
