/-
  The contracts of the document's SameInts, and of what the statements of this layer ask first. Conditions: the library's table of powers of ten and the program's list of names stand.
-/
import Derived.Test.YtdppfhgihoibnaaDoorQtWrt
import Derived.Test.YtdppfhgihoibnaaDoorQtPln
namespace Go.Proofs.YtdppfhgihoibnaaDoor.Qt
open Go.RowKit Gly
set_option linter.unusedSimpArgs false
set_option linter.unusedVariables false

theorem ArgI.len {w : World} {v : Value} {zs : List Int} (h : ArgI w v zs) : ∃ ao cap, v = .slice ao zs.length cap := by
  rcases h with ⟨ao, cap, rfl, rfl⟩ | ⟨b, off, cap, rfl, -, -⟩
  · exact ⟨ao, cap, rfl⟩
  · exact ⟨_, cap, rfl⟩
theorem Ints.arg {w : World} {B : Nat} {v : Value} {xs : List Nat} (h : Ints w B v xs) : ArgI w v (xs.map fun (x : Nat) => (x : Int)) := by
  rcases h.shape with ⟨rfl, rfl⟩ | ⟨g, cap, rfl, hg, hl⟩
  · exact .inl ⟨none, 0, rfl, rfl⟩
  · refine .inr ⟨g, 0, cap, by rw [List.length_map], hl, fun i z hz => ?_⟩
    rw [List.getElem?_map, Option.map_eq_some_iff] at hz
    obtain ⟨x, hx, rfl⟩ := hz
    obtain ⟨hi, hx2⟩ := List.getElem?_eq_some_iff.1 hx
    rw [Nat.zero_add]
    have := Ints.at' h i hi hi
    rw [this, hx2]
theorem same_len (ao1 ao2 : Option Addr) (n1 n2 c1 c2 : Nat) (h : n1 ≠ n2) (w : World) :
    Calls Tryd.prog 15 #[.slice ao1 n1 c1, .slice ao2 n2 c2] w fun e w' => e = .returned (.bool false) ∧ w = w' := by
  have x0 : ((n1 : Int) != (n2 : Int)) = true := by rw [bne_iff_ne]; omega
  clear h
  go_enter Tryd.func15, Tryd.ntmps15
  go_wp2_with fail
  go_ret
  exact ⟨rfl, rfl⟩
theorem same_none (ao1 ao2 : Option Addr) (c1 c2 : Nat) (w : World) :
    Calls Tryd.prog 15 #[.slice ao1 0 c1, .slice ao2 0 c2] w fun e w' => e = .returned (.bool true) ∧ w = w' := by
  go_enter Tryd.func15, Tryd.ntmps15
  go_wp2_with fail
  refine wp_loop_rounds 1 ?_
  rw [rounds_succ]
  go_wp2_with fail
  go_ret
  exact ⟨rfl, rfl⟩
theorem same_row (xs ys : List Int) (n : Nat) (hx : xs.length = n) (hy : ys.length = n) (hn : n ≤ 140737488355328) (b1 o1 c1 b2 o2 c2 : Nat) (w : World) (l1 : b1 < w.heap.size) (l2 : b2 < w.heap.size)
    (h1 : ∀ (i : Nat) (z : Int), xs[i]? = some z → w.cell? ⟨b1, o1 + i, none⟩ = some (.int .i64 z)) (h2 : ∀ (i : Nat) (z : Int), ys[i]? = some z → w.cell? ⟨b2, o2 + i, none⟩ = some (.int .i64 z)) :
    Calls Tryd.prog 15 #[.slice (some ⟨b1, o1, none⟩) n c1, .slice (some ⟨b2, o2, none⟩) n c2] w fun e w' => e = .returned (.bool (decide (xs = ys))) ∧ Below w.heap.size w w' := by
  have HX := Lib.hid hx
  have HY := Lib.hid hy
  have H1 := Lib.hid h1
  have H2 := Lib.hid h2
  clear hx hy h1 h2
  obtain ⟨R, hR⟩ : ∃ R, decide (xs = ys) = R := ⟨_, rfl⟩
  rw [hR]
  have HR := Lib.hid hR
  clear hR
  go_enter Tryd.func15, Tryd.ntmps15
  go_wp2_with fail
  go_loopw [5] (fun iv wr => ∃ k : Nat, iv = .int .i64 (k : Int) ∧ k ≤ n ∧ xs.take k = ys.take k ∧ Below w.heap.size w wr) (fun iv _ => n - (intOf iv).toNat)
  case atStart => exact ⟨0, rfl, Nat.zero_le _, rfl, Below.refl _ _⟩
  case round =>
    obtain ⟨k, rfl, hk, ht, hb⟩ := hrel
    have HT := Lib.hid ht
    have HB := Lib.hid hb
    clear ht hb
    by_cases hkn : k < n
    · obtain ⟨x, hx⟩ : ∃ x, xs[k]? = some x := ⟨_, List.getElem?_eq_getElem (by rw [HX.out]; exact hkn)⟩
      obtain ⟨y, hy⟩ : ∃ y, ys[k]? = some y := ⟨_, List.getElem?_eq_getElem (by rw [HY.out]; exact hkn)⟩
      have r1 := (HB.out.cell (p := ⟨b1, o1 + k, none⟩) l1).trans (H1.out k x hx)
      have r2 := (HB.out.cell (p := ⟨b2, o2 + k, none⟩) l2).trans (H2.out k y hy)
      have EX := Lib.hid hx
      have EY := Lib.hid hy
      have i0 : (0 : Int) ≤ (k : Int) := by omega
      have i1 : (k : Int) < (n : Int) := by omega
      clear hx hy
      by_cases hxy : x = y
      · subst hxy
        go_wp2_with fail
        go_region
        all_goals go_wp2_with fail
        all_goals go_roundw
        all_goals first
          | exact ⟨k + 1, by go_num, by omega, by rw [List.take_add_one, List.take_add_one, HT.out, EX.out, EY.out], below_drewN HB.out 1⟩
          | (simp [intOf]; omega)
      · have x0 : (x != y) = true := by rw [bne_iff_ne]; exact hxy
        have HXY := Lib.hid hxy
        clear hxy
        go_wp2_with fail
        go_region
        all_goals go_wp2_with fail
        all_goals go_ret
        all_goals refine ⟨?_, below_drewN HB.out 1⟩
        all_goals rw [← HR.out, decide_eq_false (fun e => HXY.out (by have := EX.out; rw [e, EY.out] at this; exact (Option.some.inj this).symm))]
        all_goals rfl
    · go_wp2_with fail
      go_ret
      obtain rfl : k = n := by omega
      refine ⟨?_, HB.out⟩
      have := HT.out
      rw [List.take_of_length_le (by rw [HX.out]; exact Nat.le_refl _), List.take_of_length_le (by rw [HY.out]; exact Nat.le_refl _)] at this
      rw [← HR.out, decide_eq_true this]
      rfl
theorem Same_any (v1 v2 : Value) (xs ys : List Int) (hn : xs.length ≤ 140737488355328) (w : World) (h1 : ArgI w v1 xs) (h2 : ArgI w v2 ys) :
    Calls Tryd.prog 15 #[v1, v2] w fun e w' => e = .returned (.bool (decide (xs = ys))) ∧ Below w.heap.size w w' := by
  by_cases hl : xs.length = ys.length
  · rcases h1 with ⟨ao1, c1, rfl, rfl⟩ | ⟨b1, o1, c1, rfl, l1, h1⟩
    · obtain rfl : ys = [] := List.eq_nil_of_length_eq_zero hl.symm
      obtain ⟨ao2, c2, rfl⟩ := h2.len
      refine (same_none ao1 ao2 c1 c2 w).mono ?_
      rintro e w' ⟨rfl, rfl⟩
      exact ⟨rfl, Below.refl _ _⟩
    · rcases h2 with ⟨ao2, c2, rfl, rfl⟩ | ⟨b2, o2, c2, rfl, l2, h2⟩
      · obtain rfl : xs = [] := List.eq_nil_of_length_eq_zero hl
        refine (same_none _ ao2 c1 c2 w).mono ?_
        rintro e w' ⟨rfl, rfl⟩
        exact ⟨rfl, Below.refl _ _⟩
      · rw [← hl]
        exact same_row xs ys xs.length rfl hl.symm hn b1 o1 c1 b2 o2 c2 w l1 l2 h1 h2
  · obtain ⟨ao1, c1, rfl⟩ := h1.len
    obtain ⟨ao2, c2, rfl⟩ := h2.len
    refine (same_len ao1 ao2 _ _ c1 c2 hl w).mono ?_
    rintro e w' ⟨rfl, rfl⟩
    exact ⟨by rw [decide_eq_false (fun e => hl (by rw [e]))], Below.refl _ _⟩

theorem arg_lit (w : World) (a b c : Int) : ArgI (w.alloc (.cells #[.int .i64 a, .int .i64 b, .int .i64 c] 3)) (.slice (some ⟨w.heap.size, 0, none⟩) 3 3) [a, b, c] := by
  refine .inr ⟨w.heap.size, 0, 3, rfl, by rw [World.size_alloc]; omega, fun i z hz => ?_⟩
  rw [Nat.zero_add, cell_of_row _ _ i _ _ _ (heap_alloc_new w _)]
  match i, hz with
  | 0, hz => simp at hz; subst hz; rfl
  | 1, hz => simp at hz; subst hz; rfl
  | 2, hz => simp at hz; subst hz; rfl
  | i + 3, hz => simp at hz

theorem aw1 : scanI ⟨#[39, 97, 39, 32, 98]⟩ 0 = (13, 3, 0) := by decide +kernel
theorem aw2 : wholeL (rest ⟨#[34, 92, 83, 79, 72, 92, 83, 79, 92, 38, 72, 34]⟩ 0) = 0 ∧ runesL (rest ⟨#[34, 92, 83, 79, 72, 92, 83, 79, 92, 38, 72, 34]⟩ 0) = [1, 14, 72] ∧ (chs (readL (rest ⟨#[34, 92, 83, 79, 72, 92, 83, 79, 92, 38, 72, 34]⟩ 0)).ps).length ≤ 100 := by decide +kernel
theorem aw3 : writeI [7, 200, 49] = ([34, 92, 97, 92, 50, 48, 48, 92, 38, 49, 34], 0) := by decide +kernel
set_option maxHeartbeats 1000000 in
theorem awake_any (w : World) (ht : Tab w) :
    Calls Tryd.prog 12 #[] w fun e w' => e = .returned (.bool true) ∧ Below w.heap.size w w' := by
  have c1 : ∀ W, Nam W → Calls Tryd.prog 10 #[.string ⟨#[39, 97, 39, 32, 98]⟩, .int .i64 0] W fun e w' => e = .returned (.tuple #[.int .i64 13, .int .i64 3, .int .i64 0]) ∧ Below W.heap.size W w' := fun W h => by
    have := Scan_any ⟨#[39, 97, 39, 32, 98]⟩ 0 (by decide +kernel) W h
    rw [aw1] at this
    exact this
  have c2 : ∀ W, Nam W → Calls Tryd.prog 13 #[.string ⟨#[34, 92, 83, 79, 72, 92, 83, 79, 92, 38, 72, 34]⟩] W fun e w' => ∃ v, e = .returned (.tuple #[v, .int .i64 0]) ∧ Ints w' (W.heap.size + 1) v [1, 14, 72] ∧ Below W.heap.size W w' := fun W h => by
    have := Runes_any ⟨#[34, 92, 83, 79, 72, 92, 83, 79, 92, 38, 72, 34]⟩ (by decide +kernel) (Nat.le_trans aw2.2.2 (by omega)) W h
    unfold RunesOut at this
    rw [aw2.1, aw2.2.1] at this
    exact this
  have c3 : ∀ W v, Pow W → ArgI W v [7, 200, 49] → Calls Tryd.prog 16 #[v] W fun e w' => e = .returned (.tuple #[.string ⟨#[34, 92, 97, 92, 50, 48, 48, 92, 38, 49, 34]⟩, .int .i64 0]) ∧ Below W.heap.size W w' := fun W v h1 h2 => by
    have := Write_any v [7, 200, 49] (by simp) W h1 h2
    rw [aw3] at this
    exact this
  have HT := Lib.hid ht
  have C1 := Lib.hid c1
  have C2 := Lib.hid c2
  have C3 := Lib.hid c3
  clear c1 c2 c3 ht
  go_enter Tryd.func12, Tryd.ntmps12
  go_wp2_with fail
  refine (C1.out _ HT.out.2).mono ?_
  rintro e w1 ⟨rfl, hb1⟩
  have HB1 := Lib.hid hb1
  clear hb1
  go_wp2_with fail
  refine (C2.out _ (HT.out.2.below HB1.out (Nat.le_refl _))).mono ?_
  rintro e w2 ⟨v, rfl, i2, hb2⟩
  have HB2 := Lib.hid (HB1.out.trans (hb2.mono HB1.out.size))
  have A2 := Lib.hid i2.arg
  clear hb2 i2
  go_wp2_with fail
  have b3 : Below w2.heap.size w2 (w2.alloc (.cells #[.int .i64 7, .int .i64 200, .int .i64 49] 3)) := (Below.refl _ _).alloc (Nat.le_refl _) _
  have HB3 := Lib.hid (HB2.out.trans (b3.mono HB2.out.size))
  have A3 := Lib.hid (A2.out.below b3)
  clear b3
  refine (C3.out _ _ (HT.out.1.below HB3.out (Nat.le_refl _)) (arg_lit w2 7 200 49)).mono ?_
  rintro e w4 ⟨rfl, hb4⟩
  have HB4 := Lib.hid (HB3.out.trans (hb4.mono HB3.out.size))
  have A4 := Lib.hid (A3.out.below hb4)
  clear hb4
  go_wp2_with fail
  have b5 : Below w4.heap.size w4 (w4.alloc (.cells #[.int .i64 1, .int .i64 14, .int .i64 72] 3)) := (Below.refl _ _).alloc (Nat.le_refl _) _
  have HB5 := Lib.hid (HB4.out.trans (b5.mono HB4.out.size))
  refine (Same_any _ _ _ _ (by simp) _ (A4.out.below b5) (arg_lit w4 1 14 72)).mono ?_
  rintro e w6 ⟨rfl, hb6⟩
  have HB6 := Lib.hid (HB5.out.trans (hb6.mono HB5.out.size))
  clear hb6 b5
  go_wp2_with fail
  go_ret
  exact ⟨rfl, HB6.out⟩
end Go.Proofs.YtdppfhgihoibnaaDoor.Qt
