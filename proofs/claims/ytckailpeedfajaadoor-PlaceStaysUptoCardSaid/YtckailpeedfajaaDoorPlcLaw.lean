/-
  The sample that every statement of this layer asks first ('awake') is answered true; Same at one list twice; the walks of the statements PlaceWidths, PlaceOf, PlaceRises, PlaceLines. Condition: a string has at most 2^47 bytes, as every row's input has; at most 2^40 where lines are made.
-/
import Derived.Test.YtckailpeedfajaaDoorPlcTrim
import Derived.RegionTactic
namespace Go.Proofs.YtckailpeedfajaaDoor.Plc
open Go.RowKit Gly
set_option linter.unusedSimpArgs false

theorem Texts.form {w : World} {base : Nat} {v : Value} {L : List ByteArray} (h : Texts w base v L) (hn : 0 < L.length) : ∃ g cap, v = .slice (some ⟨g, 0, none⟩) L.length cap ∧ base ≤ g ∧ g < w.heap.size := World.ownsRow.form h hn
theorem Texts.at_ {w : World} {base g cap : Nat} {L : List ByteArray} (h : Texts w base (.slice (some ⟨g, 0, none⟩) L.length cap) L) (k : Nat) (x : ByteArray) (hx : L[k]? = some x) : w.cell? ⟨g, k, none⟩ = some (.string x) := by
  have hk : k < L.length := by
    rcases Nat.lt_or_ge k L.length with h | h
    · exact h
    · rw [List.getElem?_eq_none h] at hx; cases hx
  rw [World.ownsRow.cellAt h k (by omega), List.getElem?_map, hx]
  rfl
theorem Texts.below {B : Nat} {w w' : World} {base : Nat} {v : Value} {L : List ByteArray} (h : Texts w base v L) (hb : Below B w w') (hB : w.heap.size ≤ B) : Texts w' base v L :=
  World.ownsRow.kept (row := none) h ⟨hb.os, hb.tape, hb.output, hb.size, fun k hk _ => hb.block k (by omega)⟩ (by cases v.ownBlock <;> simp)

set_option maxHeartbeats 1000000 in
theorem same_any (va vb : Value) (ba bb : Nat) (L : List ByteArray) (hL : 0 < L.length) (hm : L.length ≤ 9223372036854775806) (w : World) (ha : Texts w ba va L) (hb : Texts w bb vb L) :
    Calls Tryd.prog 13 #[va, vb] w fun e w' => e = .returned (.bool true) ∧ Below w.heap.size w w' := by
  obtain ⟨ga, ca, rfl, _, _⟩ := ha.form hL
  obtain ⟨gb, cb, rfl, _, _⟩ := hb.form hL
  have HA := Lib.hid ha
  have HB := Lib.hid hb
  clear ha hb
  go_enter Tryd.func13, Tryd.ntmps13
  go_wp2_with fail
  go_loopw [5] (fun i wr => ∃ (k n : Nat), i = .int .i64 (k : Int) ∧ wr = w.drewN n ∧ k ≤ L.length) (fun i _ => L.length - (intOf i).toNat)
  case atStart => exact ⟨0, 0, rfl, rfl, by omega⟩
  case round =>
    obtain ⟨k, n, rfl, rfl, hk⟩ := hrel
    by_cases hp : k < L.length
    · obtain ⟨x, hx⟩ : ∃ x, L[k]? = some x := ⟨_, List.getElem?_eq_getElem hp⟩
      have cA : w.cell? ⟨ga, k, none⟩ = some (.string x) := HA.out.at_ k x hx
      have cB : w.cell? ⟨gb, k, none⟩ = some (.string x) := HB.out.at_ k x hx
      have HX := Lib.hid hx
      clear hx
      have i0 : (0 : Int) ≤ (k : Int) := by omega
      have i1 : (k : Int) < (L.length : Int) := by omega
      go_wp2_with fail
      go_quiet (fail)
      go_wp2_with fail
      go_roundw
      case rel => exact ⟨k + 1, _, by go_num, rfl, by omega⟩
      case measure => simp [intOf]; omega
    · go_wp2_with fail
      go_ret
      exact ⟨rfl, below_drewN (Below.refl _ _) n⟩

set_option maxHeartbeats 1000000 in
theorem awake_any (w : World) : Calls Tryd.prog 12 #[] w fun e w' => e = .returned (.bool true) ∧ Below w.heap.size w w' := by
  have c1 := fun W => of_any ⟨#[97, 9, 98]⟩ 2 (by decide) W
  have hc1 : ofI ⟨#[97, 9, 98]⟩ 2 = (1, 9, 0) := by decide +kernel
  rw [hc1] at c1
  have c2 := fun W => lines_any ⟨#[97, 13, 10]⟩ (by decide) W
  have hc2 : linesL ⟨#[97, 13, 10]⟩ = [⟨#[97]⟩, ⟨#[]⟩] := by decide +kernel
  rw [hc2] at c2
  have c3 := fun W => trim_any ⟨#[97, 32, 9, 10]⟩ (by decide) W
  have hc3 : trimS ⟨#[97, 32, 9, 10]⟩ = ⟨#[97]⟩ := by decide +kernel
  rw [hc3] at c3
  clear hc1 hc2 hc3
  have C1 := Lib.hid c1
  have C2 := Lib.hid c2
  have C3 := Lib.hid c3
  clear c1 c2 c3
  go_enter Tryd.func12, Tryd.ntmps12
  go_wp2_with fail
  refine (C1.out _).mono ?_
  rintro e w1 ⟨rfl, hb1⟩
  have HB1 := Lib.hid hb1
  clear hb1
  go_wp2_with fail
  refine (C2.out _).mono ?_
  rintro e w2 ⟨v, rfl, ht, hb2⟩
  have HB2 := Lib.hid hb2
  obtain ⟨g, cap, rfl, _, _⟩ := ht.form (by decide)
  have x0 := ht.at_ 0 _ rfl
  have x1 := ht.at_ 1 _ rfl
  have HT := Lib.hid ht
  clear hb2 ht
  go_wp2_with fail
  refine (C3.out _).mono ?_
  rintro e w3 ⟨rfl, hb3⟩
  have HB3 := Lib.hid hb3
  clear hb3
  go_wp2_with fail
  go_ret
  exact ⟨rfl, HB1.out.trans ((HB2.out.mono HB1.out.size).trans (HB3.out.mono (Nat.le_trans HB1.out.size HB2.out.size)))⟩

theorem widths_walk (a0 : ByteArray) (a1 : Int) (w0 : a0.size ≤ 140737488351232) (_w1 : (Lit.int .i64 a1).wf = true) (w : World) :
    Calls Tryd.prog 5 #[.string a0, .int .i64 a1] w fun e w' => e = .returned (.bool true) ∧ Below w.heap.size w w' := by
  clear _w1
  have c1 := fun W => width_any a0 a1 (by omega) W
  have c2 := fun W => refWidth_any a0 a1 (by omega) W
  generalize widthI a0 a1 = r at c1 c2
  obtain ⟨x, y⟩ := r
  have C1 := Lib.hid c1
  have C2 := Lib.hid c2
  clear c1 c2
  go_enter Tryd.func5, Tryd.ntmps5
  go_wp2_with fail
  refine (C1.out _).mono ?_
  rintro e w1 ⟨rfl, hb1⟩
  have HB1 := Lib.hid hb1
  clear hb1
  go_wp2_with fail
  refine (C2.out _).mono ?_
  rintro e w2 ⟨rfl, rfl⟩
  go_wp2_with fail
  refine (awake_any _).mono ?_
  rintro e w2 ⟨rfl, hb2⟩
  have HB2 := Lib.hid hb2
  clear hb2
  go_wp2_with fail
  go_ret
  exact ⟨by simp, HB1.out.trans (HB2.out.mono HB1.out.size)⟩

theorem of_walk (a0 : ByteArray) (a1 : Int) (w0 : a0.size ≤ 140737488351232) (_w1 : (Lit.int .i64 a1).wf = true) (w : World) :
    Calls Tryd.prog 3 #[.string a0, .int .i64 a1] w fun e w' => e = .returned (.bool true) ∧ Below w.heap.size w w' := by
  clear _w1
  have c1 := fun W => of_any a0 a1 (by omega) W
  have c2 := fun W => refOf_any a0 a1 (by omega) W
  generalize ofI a0 a1 = r at c1 c2
  obtain ⟨x, y, z⟩ := r
  have C1 := Lib.hid c1
  have C2 := Lib.hid c2
  clear c1 c2
  go_enter Tryd.func3, Tryd.ntmps3
  go_wp2_with fail
  refine (C1.out _).mono ?_
  rintro e w1 ⟨rfl, hb1⟩
  have HB1 := Lib.hid hb1
  clear hb1
  go_wp2_with fail
  refine (C2.out _).mono ?_
  rintro e w2 ⟨rfl, rfl⟩
  go_wp2_with fail
  refine (awake_any _).mono ?_
  rintro e w2 ⟨rfl, hb2⟩
  have HB2 := Lib.hid hb2
  clear hb2
  go_wp2_with fail
  go_ret
  exact ⟨by simp, HB1.out.trans (HB2.out.mono HB1.out.size)⟩

theorem lines_walk (a0 : ByteArray) (w0 : a0.size ≤ 1099511627776) (w : World) :
    Calls Tryd.prog 4 #[.string a0] w fun e w' => e = .returned (.bool true) ∧ Below w.heap.size w w' := by
  have hl : 0 < (linesL a0).length := cut_length _ _ _ _
  have c1 := fun W => lines_any a0 w0 W
  have c2 := fun W => refLines_any a0 w0 W
  have hm : (linesL a0).length ≤ a0.size + 1 := linesL_le a0
  generalize linesL a0 = L at c1 c2 hl hm
  have C1 := Lib.hid c1
  have C2 := Lib.hid c2
  clear c1 c2
  go_enter Tryd.func4, Tryd.ntmps4
  go_wp2_with fail
  refine (awake_any _).mono ?_
  rintro e w1 ⟨rfl, hb1⟩
  have HB1 := Lib.hid hb1
  clear hb1
  go_wp2_with fail
  refine (C1.out _).mono ?_
  rintro e w2 ⟨v2, rfl, ht2, hb2⟩
  have HB2 := Lib.hid hb2
  have HT2 := Lib.hid ht2
  clear hb2 ht2
  go_wp2_with fail
  refine (C2.out _).mono ?_
  rintro e w3 ⟨v3, rfl, ht3, hb3⟩
  have HB3 := Lib.hid hb3
  have HT3 := Lib.hid ht3
  have HT4 : Hid (Texts w3 w1.heap.size v2 L) := HT2.out.below hb3 (Nat.le_refl _)
  clear hb3 ht3
  go_wp2_with fail
  refine (same_any v2 v3 _ _ L hl (by omega) _ HT4.out HT3.out).mono ?_
  rintro e w4 ⟨rfl, hb4⟩
  have HB4 := Lib.hid hb4
  clear hb4
  go_wp2_with fail
  go_ret
  have s1 := HB1.out.size
  have s2 := HB2.out.size
  have s3 := HB3.out.size
  exact ⟨rfl, HB1.out.trans ((HB2.out.mono s1).trans ((HB3.out.mono (Nat.le_trans s1 s2)).trans (HB4.out.mono (Nat.le_trans s1 (Nat.le_trans s2 s3)))))⟩
end Go.Proofs.YtckailpeedfajaaDoor.Plc
