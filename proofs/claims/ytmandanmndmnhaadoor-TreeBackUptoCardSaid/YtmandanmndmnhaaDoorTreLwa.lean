/-
  offsidelaw10's TreeSames and TreeCounts, walked. TreeSames: no condition. TreeCounts: the tree is no larger than 2^40.
-/
import Derived.Test.YtmandanmndmnhaaDoorTreAwk
namespace Go.Proofs.YtmandanmndmnhaaDoor.Tre
open Tks Go.RowKit
set_option linter.unusedSimpArgs false
set_option linter.unusedVariables false

set_option maxRecDepth 1000000 in
set_option maxHeartbeats 8000000 in
theorem sames_walk (h : Hd) (k : Fo) (g : Hd) (l : Fo) (va vb : Value) (w : World) (ha : NdArg w va h k) (hb : NdArg w vb g l) :
    Calls Tryd.prog 3 #[va, vb] w fun e w' => e = .returned (.bool true) ∧ Below w.heap.size w w' := by
  have HA := Lib.hid ha
  have HB := Lib.hid hb
  obtain ⟨ka, rfl, -⟩ := ha
  obtain ⟨kb, rfl, -⟩ := hb
  have CA := Lib.hid (fun W => awake_any W)
  have C1 : Hid (∀ W, Below w.heap.size w W → Calls Tryd.prog 11 #[ndV h ka, ndV g kb] W fun e w' => e = .returned (.bool (sameH h g && sameF k l)) ∧ Below W.heap.size W w') := fun W hW => Same_any h g k l _ _ W (HA.out.below hW (Nat.le_refl _)) (HB.out.below hW (Nat.le_refl _))
  have C2 : Hid (∀ W, Below w.heap.size w W → Calls Tryd.prog 12 #[ndV h ka, ndV g kb] W fun e w' => e = .returned (.bool (sameH h g && sameF k l)) ∧ Below W.heap.size W w') := fun W hW => refsame_any h k g l _ _ W (HA.out.below hW (Nat.le_refl _)) (HB.out.below hW (Nat.le_refl _))
  have C3 : Hid (∀ W, Below w.heap.size w W → Calls Tryd.prog 11 #[ndV h ka, ndV h ka] W fun e w' => e = .returned (.bool true) ∧ Below W.heap.size W w') := fun W hW => by
    have := Same_any h h k k _ _ W (HA.out.below hW (Nat.le_refl _)) (HA.out.below hW (Nat.le_refl _))
    rw [sameH_self, sameF_self] at this
    exact this
  generalize (sameH h g && sameF k l) = r at *
  unfold ndV at *
  clear HA HB
  go_enter Tryd.func3, Tryd.ntmps3
  go_upto_region 1 with fail
  refine gen_world (fun X => Below w.heap.size w X ∧ Lies X w.heap.size (ndO h ka) ∧ Lies X (w.heap.size + 1) (ndO g kb)) ⟨below_two' w _ _, (two_lie w _ _).1, (two_lie w _ _).2⟩ ?_
  rintro X ⟨bX, lX, mX⟩
  generalize hR2 : w.heap.size + 1 = R2 at *
  have KS : Hid (∀ w' : World, Below X.heap.size X w' → (w'.cell? ⟨w.heap.size, 0, none⟩ = some (.int .i64 h.kind) ∧ w'.cell? ⟨w.heap.size, 1, none⟩ = some (.int .i64 h.form) ∧ w'.cell? ⟨w.heap.size, 2, none⟩ = some (.string h.text) ∧ w'.cell? ⟨w.heap.size, 3, none⟩ = some (.int .i64 h.line) ∧ w'.cell? ⟨w.heap.size, 4, none⟩ = some (.int .i64 h.col) ∧ w'.cell? ⟨w.heap.size, 5, none⟩ = some ka ∧ w'.cell? ⟨R2, 0, none⟩ = some (.int .i64 g.kind) ∧ w'.cell? ⟨R2, 1, none⟩ = some (.int .i64 g.form) ∧ w'.cell? ⟨R2, 2, none⟩ = some (.string g.text) ∧ w'.cell? ⟨R2, 3, none⟩ = some (.int .i64 g.line) ∧ w'.cell? ⟨R2, 4, none⟩ = some (.int .i64 g.col) ∧ w'.cell? ⟨R2, 5, none⟩ = some kb)) := by
    intro w' hw
    obtain ⟨a0, a1, a2, a3, a4, a5⟩ := (lX.below hw lX.lt).node
    obtain ⟨b0, b1, b2, b3, b4, b5⟩ := (mX.below hw mX.lt).node
    exact ⟨a0, a1, a2, a3, a4, a5, b0, b1, b2, b3, b4, b5⟩
  obtain ⟨a0, a1, a2, a3, a4, a5⟩ := lX.node
  obtain ⟨b0, b1, b2, b3, b4, b5⟩ := mX.node
  have BX := Lib.hid bX
  clear bX lX mX hR2
  go_region_held3 (fun w' => w'.cell? ⟨w.heap.size, 0, none⟩ = some (.int .i64 h.kind) ∧ w'.cell? ⟨w.heap.size, 1, none⟩ = some (.int .i64 h.form) ∧ w'.cell? ⟨w.heap.size, 2, none⟩ = some (.string h.text) ∧ w'.cell? ⟨w.heap.size, 3, none⟩ = some (.int .i64 h.line) ∧ w'.cell? ⟨w.heap.size, 4, none⟩ = some (.int .i64 h.col) ∧ w'.cell? ⟨w.heap.size, 5, none⟩ = some ka ∧ w'.cell? ⟨R2, 0, none⟩ = some (.int .i64 g.kind) ∧ w'.cell? ⟨R2, 1, none⟩ = some (.int .i64 g.form) ∧ w'.cell? ⟨R2, 2, none⟩ = some (.string g.text) ∧ w'.cell? ⟨R2, 3, none⟩ = some (.int .i64 g.line) ∧ w'.cell? ⟨R2, 4, none⟩ = some (.int .i64 g.col) ∧ w'.cell? ⟨R2, 5, none⟩ = some kb) (first | go_keep | exact S2) (first
    | (go_at_call 10; refine (CA.out _).mono ?_; rintro e w1 ⟨rfl, b1⟩; have B1 := Lib.hid (undrew b1); have S2 := KS.out w1 B1.out; clear b1)
    | (go_at_call 12; refine (C2.out _ (BX.out.trans (B2.out.mono BX.out.size))).mono ?_; rintro e w3 ⟨rfl, b3⟩; have B3 := Lib.hid (afterL B2.out b3); have S2 := KS.out w3 B3.out; clear b3)
    | (have q := B3; clear q; go_at_call 11; refine (C3.out _ (BX.out.trans (B3.out.mono BX.out.size))).mono ?_; rintro e w4 ⟨rfl, b4⟩; have B4 := Lib.hid (afterL B3.out b4); have S2 := KS.out w4 B4.out; clear b4)
    | (go_at_call 11; refine (C1.out _ (BX.out.trans (B1.out.mono BX.out.size))).mono ?_; rintro e w2 ⟨rfl, b2⟩; have B2 := Lib.hid (afterL B1.out b2); have S2 := KS.out w2 B2.out; clear b2))
  go_wp2_with fail
  go_ret
  exact ⟨by simp, BX.out.trans (B4.out.mono BX.out.size)⟩
set_option maxRecDepth 1000000 in
set_option maxHeartbeats 8000000 in
theorem counts_walk (h : Hd) (k : Fo) (va : Value) (w : World) (ha : NdArg w va h k) (hs : sizeF k ≤ 1099511627776) :
    Calls Tryd.prog 4 #[va] w fun e w' => e = .returned (.bool true) ∧ Below w.heap.size w w' := by
  have HA := Lib.hid ha
  obtain ⟨ka, rfl, -⟩ := ha
  have hd := deep_le_size k
  have hl : (leavesN h k).length ≤ 1099511627776 := by
    have := leaves_le k
    unfold leavesN
    split
    · simp
    · omega
  have HLE : Hid ((leavesN h k).length ≤ 3518437208880) := by unfold Hid; omega
  have CA := Lib.hid (fun W => awake_any W)
  have C1 : Hid (∀ W, Below w.heap.size w W → Calls Tryd.prog 13 #[ndV h ka] W fun e w' => e = .returned (.int .i64 ((1 + sizeF k : Nat) : Int)) ∧ Below W.heap.size W w') := fun W hW => Size_any h k _ W (HA.out.below hW (Nat.le_refl _)) hs
  have C2 : Hid (∀ W, Below w.heap.size w W → Calls Tryd.prog 14 #[ndV h ka] W fun e w' => e = .returned (.int .i64 ((1 + sizeF k : Nat) : Int)) ∧ Below W.heap.size W w') := fun W hW => refsize_any h k _ W (HA.out.below hW (Nat.le_refl _)) hs
  have C3 : Hid (∀ W, Below w.heap.size w W → Calls Tryd.prog 15 #[ndV h ka] W fun e w' => e = .returned (.int .i64 ((1 + deepF k : Nat) : Int)) ∧ Below W.heap.size W w') := fun W hW => Depth_any h k _ W (HA.out.below hW (Nat.le_refl _)) (by omega)
  have C4 : Hid (∀ W, Below w.heap.size w W → Calls Tryd.prog 16 #[ndV h ka] W fun e w' => e = .returned (.int .i64 ((1 + deepF k : Nat) : Int)) ∧ Below W.heap.size W w') := fun W hW => refdepth_any h k _ W (HA.out.below hW (Nat.le_refl _)) (by omega)
  have C5 : Hid (∀ W, Below w.heap.size w W → Calls Tryd.prog 18 #[ndV h ka] W fun e w' => ∃ r, e = .returned r ∧ Own w' W.heap.size r (leavesN h k) ∧ Below W.heap.size W w') := fun W hW => Leaves_any h k _ W (HA.out.below hW (Nat.le_refl _)) hl
  have C6 : Hid (∀ W, Below w.heap.size w W → Calls Tryd.prog 19 #[ndV h ka] W fun e w' => ∃ r, e = .returned r ∧ Own w' W.heap.size r (leavesN h k) ∧ Below W.heap.size W w') := fun W hW => refleaves_any h k _ W (HA.out.below hW (Nat.le_refl _)) hs
  generalize leavesN h k = L at *
  obtain ⟨s1, hs1⟩ : ∃ s1 : Int, ((1 + sizeF k : Nat) : Int) = s1 := ⟨_, rfl⟩
  obtain ⟨d1, hd1⟩ : ∃ d1 : Int, ((1 + deepF k : Nat) : Int) = d1 := ⟨_, rfl⟩
  rw [hs1] at C1 C2
  rw [hd1] at C3 C4
  unfold ndV at *
  clear HA hs hd hl hs1 hd1
  go_enter Tryd.func4, Tryd.ntmps4
  go_upto_region 1 with fail
  refine gen_world (fun X => Below w.heap.size w X ∧ Lies X w.heap.size (ndO h ka)) ⟨below_one w _, Lies.new w _⟩ ?_
  rintro X ⟨bX, lX⟩
  have KS : Hid (∀ w' : World, Below X.heap.size X w' → (w'.cell? ⟨w.heap.size, 0, none⟩ = some (.int .i64 h.kind) ∧ w'.cell? ⟨w.heap.size, 1, none⟩ = some (.int .i64 h.form) ∧ w'.cell? ⟨w.heap.size, 2, none⟩ = some (.string h.text) ∧ w'.cell? ⟨w.heap.size, 3, none⟩ = some (.int .i64 h.line) ∧ w'.cell? ⟨w.heap.size, 4, none⟩ = some (.int .i64 h.col) ∧ w'.cell? ⟨w.heap.size, 5, none⟩ = some ka)) := fun w' hw => (lX.below hw lX.lt).node
  obtain ⟨a0, a1, a2, a3, a4, a5⟩ := lX.node
  have BX := Lib.hid bX
  clear bX lX
  go_region_held3 (fun w' => w'.cell? ⟨w.heap.size, 0, none⟩ = some (.int .i64 h.kind) ∧ w'.cell? ⟨w.heap.size, 1, none⟩ = some (.int .i64 h.form) ∧ w'.cell? ⟨w.heap.size, 2, none⟩ = some (.string h.text) ∧ w'.cell? ⟨w.heap.size, 3, none⟩ = some (.int .i64 h.line) ∧ w'.cell? ⟨w.heap.size, 4, none⟩ = some (.int .i64 h.col) ∧ w'.cell? ⟨w.heap.size, 5, none⟩ = some ka) (first | go_keep | exact S2) (first
    | (go_at_call 10; refine (CA.out _).mono ?_; rintro e w1 ⟨rfl, b1⟩; have B1 := Lib.hid (undrew b1); have S2 := KS.out w1 B1.out; clear b1)
    | (go_at_call 13; refine (C1.out _ (BX.out.trans (B1.out.mono BX.out.size))).mono ?_; rintro e w2 ⟨rfl, b2⟩; have B2 := Lib.hid (afterL B1.out b2); have S2 := KS.out w2 B2.out; clear b2)
    | (go_at_call 14; refine (C2.out _ (BX.out.trans (B2.out.mono BX.out.size))).mono ?_; rintro e w3 ⟨rfl, b3⟩; have B3 := Lib.hid (afterL B2.out b3); have S2 := KS.out w3 B3.out; clear b3)
    | (go_at_call 15; refine (C3.out _ (BX.out.trans (B3.out.mono BX.out.size))).mono ?_; rintro e w4 ⟨rfl, b4⟩; have B4 := Lib.hid (afterL B3.out b4); have S2 := KS.out w4 B4.out; clear b4)
    | (go_at_call 16; refine (C4.out _ (BX.out.trans (B4.out.mono BX.out.size))).mono ?_; rintro e w5 ⟨rfl, b5⟩; have B5 := Lib.hid (afterL B4.out b5); have S2 := KS.out w5 B5.out; clear b5)
    | (go_at_call 18; refine (C5.out _ (BX.out.trans (B5.out.mono BX.out.size))).mono ?_; rintro e w6 ⟨r6, rfl, o6, b6⟩; have B6 := Lib.hid (afterL B5.out b6); have O6 := Lib.hid o6; have S2 := KS.out w6 B6.out; clear b6 o6)
    | (go_at_call 19; refine (C6.out _ (BX.out.trans (B6.out.mono BX.out.size))).mono ?_; rintro e w7 ⟨r7, rfl, o7, b7⟩; have B7 := Lib.hid (afterL B6.out b7); have A6 := Lib.hid (O6.out.arg.below b7 (Nat.le_refl _)); have A7 := Lib.hid o7.arg; have S2 := KS.out w7 B7.out; clear b7 o7)
    | (go_at_call 17; refine (sameall_any r6 r7 L _ A6.out A7.out HLE.out).mono ?_; rintro e w8 ⟨rfl, b8⟩; have B8 := Lib.hid (afterL B7.out b8); have S2 := KS.out w8 B8.out; clear b8))
  go_wp2_with fail
  go_ret
  exact ⟨by simp, BX.out.trans (B8.out.mono BX.out.size)⟩
end Go.Proofs.YtmandanmndmnhaaDoor.Tre
