/-
  The program's own layout: begin, line, end, over a state behind a pointer. Conditions: sizes.
-/
import Derived.Test.YtmcdclhfjjplnaaLayPst
namespace Go.Proofs.Ytmcdclhfjjplnaa.Lay
open Tks Mrk Go.RowKit
set_option linter.unusedSimpArgs false
set_option linter.unusedVariables false

theorem wrap_succ (i : Nat) (h : i ≤ 1099511627777) : IntKind.i64.wrap ((i : Int) + 1) = (i : Int) + 1 ∧ wrap64 ((i : Int) + 1) = (i : Int) + 1 := by
  have e : wrap64 ((i : Int) + 1) = (i : Int) + 1 := IntWalk.wrap64_in _ ⟨by omega, by omega⟩
  exact ⟨by rw [IntWalk.i64_left]; exact e, e⟩
theorem Lies.set0 {W : World} {b : Nat} {vt vo : Value} {i wt : Int} (h : Lies W b (stO vt i vo wt)) (x : Value) : Lies (W.setCell ⟨b, 0, none⟩ x) b (stO x i vo wt) := Lies.put h 0 _
theorem Lies.set1 {W : World} {b : Nat} {vt vo : Value} {i wt : Int} (h : Lies W b (stO vt i vo wt)) (x : Int) : Lies (W.setCell ⟨b, 1, none⟩ (.int .i64 x)) b (stO vt x vo wt) := Lies.put h 1 _
theorem Lies.set2 {W : World} {b : Nat} {vt vo : Value} {i wt : Int} (h : Lies W b (stO vt i vo wt)) (x : Value) : Lies (W.setCell ⟨b, 2, none⟩ x) b (stO vt i x wt) := Lies.put h 2 _
theorem Lies.set3 {W : World} {b : Nat} {vt vo : Value} {i wt : Int} (h : Lies W b (stO vt i vo wt)) (x : Int) : Lies (W.setCell ⟨b, 3, none⟩ (.int .i64 x)) b (stO vt i vo x) := Lies.put h 3 _
section
variable (vt vo : Value) (i : Nat) (o : List Int) (wt col : Int) (b z : Nat) (g : Option Nat) (w : World) (hs : Lies w b (stO vt (i : Int) vo wt)) (ho : Opn w b z g vo o) (hf : o.length ≤ 1099511627776) (hi : i ≤ 1099511627776)
include hs ho hf hi
omit hi in
theorem begin_low (hq : ¬ topL o < col) :
    Calls Try.prog 32 #[.pointer (some ⟨b, 0, none⟩), .int .i64 col] w fun e w' => e = .returned (.tuple #[]) ∧ Aft w w' b z g vt vo o i o 1 := by
  have T := Lib.hid (top_any vo o w ho.arg hf)
  obtain ⟨a, c, rfl⟩ := ho.arg.len
  obtain ⟨c0, c1, c2, c3, f0, f1, f2, f3⟩ := hs.four
  have d : decide (col ≤ topL o) = true := decide_eq_true (by omega)
  have HS := Lib.hid hs
  have HO := Lib.hid ho
  clear hs ho hf hq
  go_enter Try.func32, Try.ntmps32
  go_wp2_with (first
    | (go_at_call 28; refine T.out.mono ?_; rintro e w2 ⟨rfl, hw⟩; rw [hw]; clear hw))
  refine bodyPost_ret (by simp [results, Try.results32, go_sem]; try rfl) rfl ?_
  exact ⟨rfl, Aft.same HO.out (HS.out.set3 1) ((Kp.refl _ _ _).set 3 _)⟩
theorem begin_high (hq : topL o < col) :
    Calls Try.prog 32 #[.pointer (some ⟨b, 0, none⟩), .int .i64 col] w fun e w' => e = .returned (.tuple #[]) ∧ Aft w w' b z g vt vo o (i + 1) (o ++ [col]) wt := by
  have T := Lib.hid (top_any vo o w ho.arg hf)
  obtain ⟨a, c, rfl⟩ := ho.arg.len
  obtain ⟨c0, c1, c2, c3, f0, f1, f2, f3⟩ := hs.four
  have d : decide (col ≤ topL o) = false := decide_eq_false (by omega)
  obtain ⟨y1, y2⟩ := wrap_succ i (by omega)
  have HS := Lib.hid hs
  have HO := Lib.hid ho
  have HF := Lib.hid hf
  clear hs ho hf hi hq
  go_enter Try.func32, Try.ntmps32
  go_wp2_with (first
    | (go_at_call 28; refine T.out.mono ?_; rintro e w2 ⟨rfl, hw⟩; rw [hw]; clear hw)
    | (at_builtin; refine append_open w rfl _ _ rfl b z g (.slice a o.length c) o rfl HO.out col _ _ rfl HF.out ?_; intro v1 w1 h1 k1 e1; obtain ⟨p2, n2, q2, rfl⟩ := own_slice h1; have H1 := Lib.hid h1; have K1 := Lib.hid k1; have E1 := Lib.hid e1; have L1 := Lib.hid ((Kp.of_row (b := b + w.heap.size) K1.out).lies HS.out (by have := HS.out.lt; omega) (fun e => by have := HO.out.gz b e.symm; have := HO.out.lo; omega)); clear h1 k1 e1; obtain ⟨d0, d1, d2, d3, j0, j1, j2, j3⟩ := L1.out.four))
  go_end0
  refine ⟨rfl, Aft.push (z := z) HO.out (((L1.out.set2 _).set1 ((i + 1 : Nat) : Int))) ?_ E1.out (((Kp.of_row K1.out).set 2 _).set 1 _)⟩
  have h := H1.out
  have lo := HO.out.lo
  unfold IntOwn at h ⊢
  exact ownsRow_setCell_below (ownsRow_setCell_below h (by dsimp only; omega) _) (by dsimp only; omega) _
omit hi in
/-- line: the column ends the innermost block. -/
theorem line_shut (hq : 0 < topL o ∧ col < topL o) :
    Calls Try.prog 34 #[.pointer (some ⟨b, 0, none⟩), .int .i64 col] w fun e w' => e = .returned (.int .i64 20) ∧ Aft w w' b z g vt vo o i o.dropLast wt := by
  have T := Lib.hid (top_any vo o w ho.arg hf)
  have hne : o ≠ [] := top_ne hq.1
  obtain ⟨a, c, rfl⟩ := ho.arg.len
  have U := Lib.hid (outer_any a c o w ho.arg hf hne)
  obtain ⟨c0, c1, c2, c3, f0, f1, f2, f3⟩ := hs.four
  have d1 : decide (0 < topL o) = true := decide_eq_true (by omega)
  have d2 : decide (col < topL o) = true := decide_eq_true (by omega)
  have HS := Lib.hid hs
  have HO := Lib.hid ho
  have HN := Lib.hid hne
  clear hs ho hf hq hne
  go_enter Try.func34, Try.ntmps34
  go_wp2_with (first
    | (go_at_call 28; refine T.out.mono ?_; rintro e w2 ⟨rfl, hw⟩; rw [hw]; clear hw)
    | (go_at_call 29; refine U.out.mono ?_; rintro e w2 ⟨rfl, hw⟩; rw [hw]; clear hw))
  go_ret
  exact ⟨rfl, Aft.pop HO.out HN.out (HS.out.set2 _) ((Kp.refl _ _ _).set 2 _)⟩
/-- line: a mark that is passed, with a token of its own or without. -/
theorem line_past (hq : ¬ (0 < topL o ∧ col < topL o)) :
    Calls Try.prog 34 #[.pointer (some ⟨b, 0, none⟩), .int .i64 col] w fun e w' => e = .returned (.int .i64 (if 0 < topL o ∧ col = topL o then 19 else 0)) ∧ Lies w' b (stO vt ((i + 1 : Nat) : Int) vo 0) ∧ Kp w w' b none := by
  have T := Lib.hid (top_any vo o w ho.arg hf)
  obtain ⟨a, c, rfl⟩ := ho.arg.len
  obtain ⟨c0, c1, c2, c3, f0, f1, f2, f3⟩ := hs.four
  obtain ⟨y1, y2⟩ := wrap_succ i (by omega)
  have FIN := Lib.hid (And.intro ((hs.set1 ((i + 1 : Nat) : Int)).set3 0) (((Kp.refl w b none).set 1 (.int .i64 ((i + 1 : Nat) : Int))).set 3 (.int .i64 0)))
  clear hs ho hf hi
  rcases Int.lt_or_le 0 (topL o) with q1 | q1
  · have d1 : decide (0 < topL o) = true := decide_eq_true q1
    have d2 : decide (col < topL o) = false := decide_eq_false (by omega)
    by_cases q2 : col = topL o
    · rw [if_pos ⟨q1, q2⟩]
      have d3 : (col == topL o) = true := beq_iff_eq.2 q2
      clear hq q1 q2
      go_enter Try.func34, Try.ntmps34
      go_wp2_with (first
        | (go_at_call 28; refine T.out.mono ?_; rintro e w2 ⟨rfl, hw⟩; rw [hw]; clear hw))
      go_ret
      exact ⟨rfl, FIN.out⟩
    · rw [if_neg (fun e => q2 e.2)]
      have d3 : (col == topL o) = false := beq_eq_false_iff_ne.2 q2
      clear hq q1 q2
      go_enter Try.func34, Try.ntmps34
      go_wp2_with (first
        | (go_at_call 28; refine T.out.mono ?_; rintro e w2 ⟨rfl, hw⟩; rw [hw]; clear hw))
      go_ret
      exact ⟨rfl, FIN.out⟩
  · rw [if_neg (by omega)]
    have d1 : decide (0 < topL o) = false := decide_eq_false (by omega)
    clear hq q1
    go_enter Try.func34, Try.ntmps34
    go_wp2_with (first
      | (go_at_call 28; refine T.out.mono ?_; rintro e w2 ⟨rfl, hw⟩; rw [hw]; clear hw))
    go_ret
    exact ⟨rfl, FIN.out⟩
end
end Go.Proofs.Ytmcdclhfjjplnaa.Lay
