/-
  What offsidelaw09's own small and awake answer, where the program's All does what is told of it by the structure Does9. No condition but that.
-/
import Derived.Test.YtmcdclhfjjplnaaLayAll
namespace Go.Proofs.Ytmcdclhfjjplnaa.Lay
open Tks Mrk Go.RowKit
set_option linter.unusedSimpArgs false
set_option linter.unusedVariables false

theorem small_any (v : Value) (l : List Tk) (w : World) (hv : TkArg w v l) :
    Calls Try.prog 9 #[v] w fun e w' => e = .returned (.bool (decide (l.length ≤ 3000))) ∧ Below w.heap.size w w' := by
  obtain ⟨p1, q1, rfl⟩ := hv.len
  clear hv
  by_cases h : l.length ≤ 3000
  · have x1 : decide ((l.length : Int) ≤ 3000) = true := decide_eq_true (by omega)
    have x2 : decide (l.length ≤ 3000) = true := decide_eq_true h
    rw [x2]
    clear h
    go_enter Try.func9, Try.ntmps9
    go_wp2_with fail
    go_ret
    exact ⟨rfl, Below.refl _ _⟩
  · have x1 : decide ((l.length : Int) ≤ 3000) = false := decide_eq_false (by omega)
    have x2 : decide (l.length ≤ 3000) = false := decide_eq_false h
    rw [x2]
    clear h
    go_enter Try.func9, Try.ntmps9
    go_wp2_with fail
    go_ret
    exact ⟨rfl, Below.refl _ _⟩
def awA : Tk := ⟨16, ⟨#[]⟩, 1, 1⟩
def awB : Tk := ⟨1, ⟨#[102]⟩, 0, 0⟩
def awC : Tk := ⟨17, ⟨#[]⟩, 2, 1⟩
def awD : Tk := ⟨1, ⟨#[103]⟩, 0, 0⟩
def awE : Tk := ⟨15, ⟨#[125]⟩, 0, 0⟩
def awL9 : Tk := ⟨18, ⟨#[]⟩, 1, 1⟩
def awS9 : Tk := ⟨19, ⟨#[]⟩, 2, 1⟩
def awR9 : Tk := ⟨20, ⟨#[]⟩, 0, 0⟩
theorem aw_all : allL [awA, awB, awC, awD] = ([awL9, awB, awS9, awD, awR9], 0) := rfl
theorem aw_one : allL [awE] = ([], 90) := rfl
theorem aw_arg4 (w : World) (ty : TypeId) : TkArg (w.alloc (.cells #[.int .i64 16, .string ⟨#[]⟩, .int .i64 1, .int .i64 1, .int .i64 1, .string ⟨#[102]⟩, .int .i64 0, .int .i64 0, .int .i64 17, .string ⟨#[]⟩, .int .i64 2, .int .i64 1, .int .i64 1, .string ⟨#[103]⟩, .int .i64 0, .int .i64 0] ty)) (.slice (some ⟨w.heap.size, 0, none⟩) 4 4) [awA, awB, awC, awD] := by
  refine .inr ⟨w.heap.size, 0, 4, rfl, ?_, fun i x hx k hk => ?_⟩
  · rw [World.size_alloc]
    omega
  · rw [new_cell, Nat.zero_add]
    have hi := (List.getElem?_eq_some_iff.1 hx).1
    simp only [List.length_cons, List.length_nil] at hi
    rcases (by omega : i = 0 ∨ i = 1 ∨ i = 2 ∨ i = 3) with rfl | rfl | rfl | rfl <;> cases hx <;> (rcases (by omega : k = 0 ∨ k = 1 ∨ k = 2 ∨ k = 3) with rfl | rfl | rfl | rfl <;> rfl)
theorem aw_arg1 (w : World) (ty : TypeId) : TkArg (w.alloc (.cells #[.int .i64 15, .string ⟨#[125]⟩, .int .i64 0, .int .i64 0] ty)) (.slice (some ⟨w.heap.size, 0, none⟩) 1 1) [awE] := by
  refine .inr ⟨w.heap.size, 0, 1, rfl, ?_, fun i x hx k hk => ?_⟩
  · rw [World.size_alloc]
    omega
  · rw [new_cell, Nat.zero_add]
    have hi := (List.getElem?_eq_some_iff.1 hx).1
    simp only [List.length_cons, List.length_nil] at hi
    obtain rfl : i = 0 := by omega
    cases hx
    rcases (by omega : k = 0 ∨ k = 1 ∨ k = 2 ∨ k = 3) with rfl | rfl | rfl | rfl <;> rfl
theorem below_one (w : World) (o : Obj) : Below w.heap.size w (w.alloc o) := (Below.refl _ _).alloc (Nat.le_refl _) o
set_option maxRecDepth 1000000 in
set_option maxHeartbeats 4000000 in
theorem awake9_any (D : Does9) (w : World) :
    Calls Try.prog 10 #[] w fun e w' => e = .returned (.bool true) ∧ Below w.heap.size w w' := by
  have C1 : Hid (∀ v W, TkArg W v [awA, awB, awC, awD] → Calls Try.prog 16 #[v] W fun e w' => ∃ r, e = .returned (.tuple #[r, .int .i64 0]) ∧ TkArg w' r [awL9, awB, awS9, awD, awR9] ∧ Below W.heap.size W w') := fun v W h => by
    have := D.all v _ W h (by decide)
    unfold AllOut at this
    rw [aw_all] at this
    exact this
  have C2 : Hid (∀ v W, TkArg W v [awE] → Calls Try.prog 16 #[v] W fun e w' => ∃ r, e = .returned (.tuple #[r, .int .i64 90]) ∧ TkArg w' r [] ∧ Below W.heap.size W w') := fun v W h => by
    have := D.all v _ W h (by decide)
    unfold AllOut at this
    rw [aw_one] at this
    exact this
  clear D
  go_enter Try.func10, Try.ntmps10
  go_wp2_with (first
    | (go_at_call 16; refine (C2.out _ _ (aw_arg1 w1 _)).mono ?_; rintro e w2 ⟨r2, rfl, h4, b2⟩; obtain ⟨p2, q2, e2⟩ := h4.len; have e2 : r2 = .slice p2 0 q2 := e2; subst e2; have bb : Below w1.heap.size w1 w2 := afterL (below_one w1 _) b2; have B2 := Lib.hid (afterL B1.out bb); have HJ := Lib.hid (HI.out.below bb (Nat.le_refl _)); obtain ⟨a0, a1, a2, a3⟩ := HJ.out.four 0 awL9 rfl; obtain ⟨b0, b1, b2', b3⟩ := HJ.out.four 2 awS9 rfl; obtain ⟨c0, c1, c2, c3⟩ := HJ.out.four 4 awR9 rfl; dsimp only [awL9, awS9, awR9] at a0 a1 a2 a3 b0 b1 b2' b3 c0 c1 c2 c3; simp only [Nat.zero_mul, Nat.add_zero, Nat.reduceMul] at a0 a1 a2 a3 b0 b1 b2' b3 c0 c1 c2 c3; clear h4 b2 bb)
    | (go_at_call 16; refine (C1.out _ _ (aw_arg4 w _)).mono ?_; rintro e w1 ⟨r1, rfl, h1, b1⟩; obtain ⟨g, o, c, e1, h2, h3⟩ := h1.cells (by decide); have e1 : r1 = .slice (some ⟨g, o, none⟩) 5 c := e1; subst e1; have HI : Hid (TkIn w1 g o [awL9, awB, awS9, awD, awR9]) := ⟨h2, h3⟩; have B1 := Lib.hid (afterL (below_one w _) b1); clear b1 h1 h2 h3))
  go_ret
  exact ⟨rfl, B2.out⟩
/-- The document's All, as a contract that is wanted. -/
def RefAll : Prop := ∀ (v : Value) (l : List Tk) (W : World), TkArg W v l → l.length ≤ 3000 → Calls Try.prog 17 #[v] W (AllOut W l)
theorem allF_len (l : List Tk) : ∀ (f : Nat) (i : Nat) (o : List Int) (w : Int) (out : List Tk), (allF l f i o w out).1.length ≤ out.length + f
  | 0, _, _, _, _ => by simp [allF]
  | f + 1, i, o, w, out => by
    unfold allF
    split
    · simp
    · split
      · dsimp only
        omega
      · have := allF_len l f (nextL l i o w).at_ (nextL l i o w).opn (nextL l i o w).wait (out ++ [(nextL l i o w).tok])
        rw [List.length_append, List.length_singleton] at this
        omega
theorem allL_len (l : List Tk) : (allL l).1.length ≤ 5 * l.length + 3 := by
  have := allF_len l (5 * l.length + 3) 0 [] 0 []
  unfold allL
  simpa using this
set_option maxRecDepth 1000000 in
set_option maxHeartbeats 4000000 in
theorem alls_walk (D : Does9) (R : RefAll) (v : Value) (l : List Tk) (w : World) (hv : TkArg w v l) :
    Calls Try.prog 5 #[v] w fun e w' => e = .returned (.bool true) ∧ Below w.heap.size w w' := by
  have C0 := Lib.hid (fun W => awake9_any D W)
  have CS := Lib.hid (fun W h => small_any v l W h)
  have HV := Lib.hid hv
  by_cases hl : l.length ≤ 3000
  · have x1 : decide (l.length ≤ 3000) = true := decide_eq_true hl
    have hle := allL_len l
    have C1 := Lib.hid (fun W h => D.all v l W h hl)
    have C2 := Lib.hid (fun W h => R v l W h hl)
    unfold AllOut at C1 C2
    rw [x1] at CS
    generalize allL l = al at *
    obtain ⟨al, ae⟩ := al
    dsimp only at C1 C2 hle
    have HLE := Lib.hid (by omega : al.length ≤ 3518437208880)
    clear D R hv hl x1 hle
    go_enter Try.func5, Try.ntmps5
    go_wp2_with (first
      | (go_at_call 9; refine (CS.out _ HV.out).mono ?_; rintro e w1 ⟨rfl, b1⟩; have B1 := Lib.hid b1; clear b1)
      | (go_at_call 16; refine (C1.out _ (HV.out.below B1.out (Nat.le_refl _))).mono ?_; rintro e w2 ⟨r2, rfl, h2, b2⟩; have B2 := Lib.hid (afterL B1.out b2); have H2 := Lib.hid h2; clear b2 h2)
      | (go_at_call 17; refine (C2.out _ (HV.out.below B2.out (Nat.le_refl _))).mono ?_; rintro e w3 ⟨r3, rfl, h3, b3⟩; have B3 := Lib.hid (afterL B2.out b3); have H3 := Lib.hid h3; have H23 := Lib.hid (H2.out.below b3 (Nat.le_refl _)); clear b3 h3)
      | (go_at_call 10; refine (C0.out _).mono ?_; rintro e w4 ⟨rfl, b4⟩; have B4 := Lib.hid (afterL B3.out b4); have H4 := Lib.hid (H3.out.below b4 (Nat.le_refl _)); have H24 := Lib.hid (H23.out.below b4 (Nat.le_refl _)); clear b4)
      | (go_at_call 18; refine (sameall_any r2 r3 al _ H24.out H4.out HLE.out).mono ?_; rintro e w5 ⟨rfl, b5⟩; have B5 := Lib.hid (afterL B4.out b5); clear b5))
    go_ret
    exact ⟨by simp, B5.out⟩
  · have x1 : decide (l.length ≤ 3000) = false := decide_eq_false hl
    rw [x1] at CS
    clear D R hv hl x1
    go_enter Try.func5, Try.ntmps5
    go_wp2_with (first
      | (go_at_call 9; refine (CS.out _ HV.out).mono ?_; rintro e w1 ⟨rfl, b1⟩; have B1 := Lib.hid b1; clear b1)
      | (go_at_call 10; refine (C0.out _).mono ?_; rintro e w4 ⟨rfl, b4⟩; have B4 := Lib.hid (afterL B1.out b4); clear b4))
    go_ret
    exact ⟨rfl, B4.out⟩
end Go.Proofs.Ytmcdclhfjjplnaa.Lay
