/-
  The contracts of package quote's Scan and readWhole (whatever visits). Conditions: the string has at most 2^50 bytes; the program's list of names stands.
-/
import Derived.Test.YtdppfhgihoibnaaDoorQtRed
import Derived.Shelf.Abstract
import Derived.OwnWalk
import Derived.Laws.OwnMore
import Derived.Deep.AppendLies
namespace Go.Proofs.YtdppfhgihoibnaaDoor.Qt
open Go.RowKit Gly
open Wrd (rn wd)
set_option linter.unusedSimpArgs false
set_option linter.unusedVariables false

theorem grown_of_below {w w' : World} (h : Below w.heap.size w w') : w.grownBy w' none := ⟨h.os, h.tape, h.output, h.size, fun k hk _ => h.block k hk⟩
theorem grown_set (w : World) (j i : Nat) (v : Value) : w.grownBy (w.setCell ⟨j, i, none⟩ v) (some j) := ⟨rfl, rfl, rfl, by simp, fun k _ hk => heap_setCell_other w ⟨j, i, none⟩ k v (fun e => hk (by simp [e]))⟩

/-- Who visits nothing. -/
theorem vis_scan (s : ByteArray) (at0 : Nat) (tot : List Pc) (w0 : World) (hN : Nam w0) : Vis s at0 tot 22 #[] w0.heap.size (fun _ w => Below w0.heap.size w0 w) (fun _ _ => False) where
  enter := enters_of Tryd.func22 (by kernel_rfl) rfl
  nam := fun _ w h => hN.below h (Nat.le_refl _)
  size := fun _ w h => h.size
  keep := fun _ w w' h hb => ⟨h.trans (hb.mono h.size), fun _ _ h => h⟩
  fresh := fun _ _ _ _ _ _ _ h => h
  set := fun _ w j i v h hj _ _ => ⟨h.setCell (p := ⟨j, i, none⟩) hj v, fun _ h => h⟩
  step := fun acc p w h _ _ => by
    have HB := Lib.hid h
    clear h
    generalize at0 + (flat acc).length = n
    unfold pcV pcC
    simp only [Array.append_empty]
    go_enter Tryd.func22, Tryd.ntmps22
    go_wp2
    go_end0
    have hb : Below w.heap.size w (w.alloc (.cells #[.int .i64 (p.form : Int), .int .i64 (p.num : Int), .int .i64 (n : Int), .int .i64 ((n + p.bytes.length : Nat) : Int)] 38)) := (Below.refl _ _).alloc (Nat.le_refl _) _
    exact ⟨rfl, HB.out.trans (hb.mono HB.out.size), hb.mono HB.out.size, fun j hj _ => ⟨hb.block j hj, id⟩⟩

/-- Scan's answers. -/
def scanI (s : ByteArray) (i : Int) : Int × Int × Int := if 0 ≤ i then scanL i.toNat (rest s i.toNat) else (0, 0, 0)
theorem scan_no (s : ByteArray) (i : Int) (hs : s.size ≤ 1125899906842624) (hq : (hdI s i == 34 || hdI s i == 39) = false) (w : World) :
    Calls Tryd.prog 10 #[.string s, .int .i64 i] w fun e w' => e = .returned (.tuple #[.int .i64 0, .int .i64 0, .int .i64 0]) ∧ w = w' := by
  have c0 := fun W => quoteAt_any s i hs W
  rw [hq] at c0
  have C0 := Lib.hid c0
  clear c0
  go_enter Tryd.func10, Tryd.ntmps10
  go_wp2_with fail
  refine (C0.out _).mono ?_
  rintro e w1 ⟨rfl, rfl⟩
  go_wp2_with fail
  go_ret3
  exact ⟨rfl, rfl⟩
theorem Scan_any (s : ByteArray) (i : Int) (hs : s.size ≤ 1125899906842624) (w : World) (hN : Nam w) :
    Calls Tryd.prog 10 #[.string s, .int .i64 i] w fun e w' => e = .returned (.tuple #[.int .i64 (scanI s i).1, .int .i64 (scanI s i).2.1, .int .i64 (scanI s i).2.2]) ∧ Below w.heap.size w w' := by
  cases hq : (hdI s i == 34 || hdI s i == 39) with
  | false =>
    have e : scanI s i = (0, 0, 0) := by
      unfold scanI
      split
      · rename_i h0
        unfold scanL quoted
        unfold hdI at hq
        rw [if_pos h0] at hq
        rw [hq]
        rfl
      · rfl
    rw [e]
    refine (scan_no s i hs hq w).mono ?_
    rintro e w' ⟨rfl, rfl⟩
    exact ⟨rfl, Below.refl _ _⟩
  | true =>
    have c0 := fun W => quoteAt_any s i hs W
    rw [hq] at c0
    have h0 : 0 ≤ i := by
      rcases Int.lt_or_le i 0 with h | h
      · unfold hdI at hq
        rw [if_neg (by omega)] at hq
        exact absurd hq (by decide)
      · exact h
    obtain ⟨n, rfl⟩ := Int.eq_ofNat_of_zero_le h0
    rw [hdI_nat] at hq
    have hn : n < s.size := by
      rcases Nat.lt_or_ge n s.size with h | h
      · exact h
      · rw [hd_rest_out s n h] at hq
        exact absurd hq (by decide)
    have e : scanI s (n : Int) = (kindQ (rest s n), ((n + 1 + (readL (rest s n)).pos : Nat) : Int), (readL (rest s n)).err) := by
      unfold scanI scanL
      rw [if_pos h0, Int.toNat_natCast, if_pos (show quoted (rest s n) = true from hq)]
      rfl
    rw [e]
    have c1 := read_any (vis_scan s (n + 1) (readL (rest s n)).ps w hN) hs hn w (Below.refl _ _)
    dsimp only
    generalize kindQ (rest s n) = k at *
    generalize ((n + 1 + (readL (rest s n)).pos : Nat) : Int) = E at *
    generalize (readL (rest s n)).err = x at *
    have C0 := Lib.hid c0
    have C1 := Lib.hid c1
    clear c0 c1 e hN hq h0
    go_enter Tryd.func10, Tryd.ntmps10
    go_wp2_with fail
    refine (C0.out _).mono ?_
    rintro e w1 ⟨rfl, rfl⟩
    go_wp2_with fail
    refine C1.out.mono ?_
    rintro e w2 ⟨rfl, hb2, -⟩
    have HB2 := Lib.hid hb2
    clear hb2
    go_wp2_with fail
    go_ret3
    exact ⟨rfl, HB2.out⟩

/-- readWhole. -/
theorem whole_none (s : ByteArray) (hs : s.size ≤ 1125899906842624) (K : FuncId) (cap : Array Value) (hq : quoted (rest s 0) = false) (w : World) :
    Calls Tryd.prog 24 #[.string s, .func (.func K) #[] cap] w fun e w' => e = .returned (.int .i64 50) ∧ w = w' := by
  have c0 := fun W => quoteAt_any s ((0 : Nat) : Int) hs W
  rw [hdI_nat] at c0
  unfold quoted at hq
  rw [hq] at c0
  have C0 : Hid (∀ W, Calls Tryd.prog 20 #[.string s, .int .i64 0] W fun e w' => e = .returned (.bool false) ∧ W = w') := c0
  clear c0
  go_enter Tryd.func24, Tryd.ntmps24
  go_wp2_with fail
  refine (C0.out _).mono ?_
  rintro e w1 ⟨rfl, rfl⟩
  go_wp2_with fail
  go_ret
  exact ⟨rfl, rfl⟩
section
variable {s : ByteArray} {K : FuncId} {cap : Array Value} {B : Nat} {V : List Pc → World → Prop} {O : World → Nat → Prop}
theorem whole_any (vis : Vis s 1 (readL (rest s 0)).ps K cap B V O) (hs : s.size ≤ 1125899906842624) (w : World) (hV : V [] w) :
    Calls Tryd.prog 24 #[.string s, .func (.func K) #[] cap] w fun e w' => e = .returned (.int .i64 (wholeL (rest s 0))) ∧ Below B w w' ∧ (wholeL (rest s 0) = 0 → V (readL (rest s 0)).ps w') := by
  cases hq : quoted (rest s 0) with
  | false =>
    have e : wholeL (rest s 0) = 50 := by unfold wholeL; rw [if_neg (by rw [hq]; decide)]
    rw [e]
    refine (whole_none s hs K cap hq w).mono ?_
    rintro e w' ⟨rfl, rfl⟩
    exact ⟨rfl, Below.refl _ _, fun h => absurd h (by decide)⟩
  | true =>
    have hn : 0 < s.size := by
      rcases Nat.eq_zero_or_pos s.size with h | h
      · unfold quoted at hq
        rw [hd_rest_out s 0 (by omega)] at hq
        exact absurd hq (by decide)
      · exact h
    have hw : wholeL (rest s 0) = if (readL (rest s 0)).err = 0 ∧ 1 + (readL (rest s 0)).pos < s.size then 50 else (readL (rest s 0)).err := by
      unfold wholeL
      rw [if_pos hq, rest_len, Nat.sub_zero]
    have c0 := fun W => quoteAt_any s ((0 : Nat) : Int) hs W
    rw [hdI_nat] at c0
    unfold quoted at hq
    rw [hq] at c0
    have C0 : Hid (∀ W, Calls Tryd.prog 20 #[.string s, .int .i64 0] W fun e w' => e = .returned (.bool true) ∧ W = w') := c0
    have c1 : Calls Tryd.prog 21 #[.string s, .int .i64 0, .func (.func K) #[] cap] w _ := read_any vis hs hn w hV
    have e0 : ((0 + 1 + (readL (rest s 0)).pos : Nat) : Int) = ((1 + (readL (rest s 0)).pos : Nat) : Int) := by omega
    rw [e0] at c1
    generalize wholeL (rest s 0) = wl at *
    generalize kindQ (rest s 0) = k at *
    obtain ⟨E, hE⟩ : ∃ E, 1 + (readL (rest s 0)).pos = E := ⟨_, rfl⟩
    rw [hE] at c1 hw
    obtain ⟨x, hx⟩ : ∃ x, (readL (rest s 0)).err = x := ⟨_, rfl⟩
    rw [hx] at c1 hw
    have C1 := Lib.hid c1
    clear c0 c1 e0 hq vis hV hE hx
    by_cases h1 : x = 0
    · subst h1
      by_cases h2 : E < s.size
      · rw [if_pos ⟨rfl, h2⟩] at hw
        subst hw
        have x1 : decide ((E : Int) < (s.size : Int)) = true := decide_eq_true (by omega)
        go_enter Tryd.func24, Tryd.ntmps24
        go_wp2_with fail
        refine (C0.out _).mono ?_
        rintro e w1 ⟨rfl, rfl⟩
        go_wp2_with fail
        refine C1.out.mono ?_
        rintro e w2 ⟨rfl, hb2, -⟩
        have HB2 := Lib.hid hb2
        clear hb2
        go_wp2_with fail
        go_ret
        exact ⟨rfl, HB2.out, fun h => absurd h (by decide)⟩
      · rw [if_neg (fun q => h2 q.2)] at hw
        subst hw
        have x1 : decide ((E : Int) < (s.size : Int)) = false := decide_eq_false (by omega)
        go_enter Tryd.func24, Tryd.ntmps24
        go_wp2_with fail
        refine (C0.out _).mono ?_
        rintro e w1 ⟨rfl, rfl⟩
        go_wp2_with fail
        refine C1.out.mono ?_
        rintro e w2 ⟨rfl, hb2, hv2⟩
        have HB2 := Lib.hid hb2
        have HV2 := Lib.hid hv2
        clear hb2 hv2
        go_wp2_with fail
        go_ret
        exact ⟨rfl, HB2.out, HV2.out⟩
    · rw [if_neg (fun q => h1 q.1)] at hw
      rw [hw]
      clear hw
      have x1 : (x == 0) = false := by rw [beq_eq_false_iff_ne]; exact h1
      have H1 := Lib.hid h1
      clear h1
      go_enter Tryd.func24, Tryd.ntmps24
      go_wp2_with fail
      refine (C0.out _).mono ?_
      rintro e w1 ⟨rfl, rfl⟩
      go_wp2_with fail
      refine C1.out.mono ?_
      rintro e w2 ⟨rfl, hb2, hv2⟩
      have HB2 := Lib.hid hb2
      clear hb2 hv2
      go_wp2_with fail
      go_ret
      exact ⟨rfl, HB2.out, fun h => absurd h H1.out⟩
end
end Go.Proofs.YtdppfhgihoibnaaDoor.Qt
