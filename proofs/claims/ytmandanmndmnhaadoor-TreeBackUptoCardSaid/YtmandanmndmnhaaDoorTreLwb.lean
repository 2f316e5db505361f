/-
  offsidelaw10's TreeShows and TreeReads, walked. TreeReads: no condition. TreeShows: what may be shown is no longer than 2^46.
-/
import Derived.Test.YtmandanmndmnhaaDoorTreAwk
namespace Go.Proofs.YtmandanmndmnhaaDoor.Tre
open Tks Go.RowKit
set_option linter.unusedSimpArgs false
set_option linter.unusedVariables false

set_option maxRecDepth 1000000 in
set_option maxHeartbeats 8000000 in
theorem shows_walk (h : Hd) (k : Fo) (va : Value) (w : World) (ha : NdArg w va h k) (hl : (nodeT h (showF k)).length ≤ 70368744177664) :
    Calls Tryd.prog 5 #[va] w fun e w' => e = .returned (.bool true) ∧ Below w.heap.size w w' := by
  have HA := Lib.hid ha
  obtain ⟨ka, rfl, -⟩ := ha
  have CA := Lib.hid (fun W => awake_any W)
  obtain ⟨t, E, C1, C2⟩ : ∃ (t : ByteArray) (E : Int), Hid (∀ W, Below w.heap.size w W → Calls Tryd.prog 20 #[ndV h ka] W fun e w' => e = .returned (.tuple #[.string t, .int .i64 E]) ∧ Below W.heap.size W w') ∧ Hid (∀ W, Below w.heap.size w W → Calls Tryd.prog 21 #[ndV h ka] W fun e w' => e = .returned (.tuple #[.string t, .int .i64 E]) ∧ Below W.heap.size W w') := by
    have D1 := fun W hW => Show_any h k (ndV h ka) W (HA.out.below hW (Nat.le_refl _)) hl
    have D2 := fun W hW => refShow_any h k (ndV h ka) W (HA.out.below hW (Nat.le_refl _)) (fun _ => hl)
    by_cases hr : rightN h (len k) (rightF k) = true
    · rw [if_pos hr] at D1 D2
      exact ⟨_, _, D1, D2⟩
    · rw [if_neg hr] at D1 D2
      exact ⟨_, _, D1, D2⟩
  unfold ndV at *
  clear HA hl
  go_enter Tryd.func5, Tryd.ntmps5
  go_upto_region 1 with fail
  refine gen_world (fun X => Below w.heap.size w X ∧ Lies X w.heap.size (ndO h ka)) ⟨below_one w _, Lies.new w _⟩ ?_
  rintro X ⟨bX, lX⟩
  have LX := Lib.hid lX
  obtain ⟨a0, a1, a2, a3, a4, a5⟩ := lX.node
  have BX := Lib.hid bX
  clear bX lX
  go_wp2_with (first
    | (go_at_call 20; refine (C1.out _ BX.out).mono ?_; rintro e w1 ⟨rfl, b1⟩; have B1 := Lib.hid b1; clear a0 a1 a2 a3 a4 a5; obtain ⟨a0, a1, a2, a3, a4, a5⟩ := (LX.out.below b1 LX.out.lt).node; clear b1)
    | (go_at_call 21; refine (C2.out _ (BX.out.trans (B1.out.mono BX.out.size))).mono ?_; rintro e w2 ⟨rfl, b2⟩; have B2 := Lib.hid (afterL B1.out b2); clear b2)
    | (go_at_call 10; refine (CA.out _).mono ?_; rintro e w3 ⟨rfl, b3⟩; have B3 := Lib.hid (afterL B2.out b3); clear b3))
  go_ret
  exact ⟨by simp, BX.out.trans (B3.out.mono BX.out.size)⟩
theorem sameAH_self (a : Hd) : sameAH a a = true := by simp [sameAH]
set_option maxRecDepth 1000000 in
set_option maxHeartbeats 8000000 in
theorem reads_walk (s : ByteArray) (w : World) :
    Calls Tryd.prog 6 #[.string s] w fun e w' => e = .returned (.bool true) ∧ Below w.heap.size w w' := by
  have CA := Lib.hid (fun W => awake_any W)
  obtain ⟨h, k, E, C1, C2⟩ : ∃ (h : Hd) (k : Fo) (E : Int), Hid (∀ W, Calls Tryd.prog 22 #[.string s] W fun e w' => ∃ a n c, e = .returned (.tuple #[ndV h (.slice a n c), .int .i64 E]) ∧ KArg w' (.slice a n c) k ∧ Below W.heap.size W w') ∧ Hid (∀ W, Calls Tryd.prog 23 #[.string s] W fun e w' => ∃ a n c, e = .returned (.tuple #[ndV h (.slice a n c), .int .i64 E]) ∧ KArg w' (.slice a n c) k ∧ Below W.heap.size W w') := by
    have D1 := fun W => Read_any s W
    have D2 := fun W => refRead_any s W
    cases hr : readS s with
    | error x =>
      refine ⟨zeroH, .nil, x, fun W => (D1 W).mono fun e w' H => ?_, fun W => (D2 W).mono fun e w' H => ?_⟩ <;>
      · obtain ⟨h, k, a, n, c, E, he, hk, hb, ht⟩ := H
        unfold Told at ht
        rw [hr] at ht
        obtain ⟨rfl, rfl, rfl⟩ := ht
        exact ⟨a, n, c, he, hk.arg, hb⟩
    | ok p =>
      obtain ⟨h0, k0⟩ := p
      refine ⟨h0, k0, 0, fun W => (D1 W).mono fun e w' H => ?_, fun W => (D2 W).mono fun e w' H => ?_⟩ <;>
      · obtain ⟨h, k, a, n, c, E, he, hk, hb, ht⟩ := H
        unfold Told at ht
        rw [hr] at ht
        obtain ⟨rfl, rfl, rfl⟩ := ht
        exact ⟨a, n, c, he, hk.arg, hb⟩
  have CE : Hid (∀ va vb W, KArg W va k → KArg W vb k → Calls Tryd.prog 24 #[ndV h va, ndV h vb] W fun e w' => e = .returned (.bool true) ∧ Below W.heap.size W w') := fun va vb W ha hb => by
    have := refsameall_any h k h k _ _ W ⟨va, rfl, ha⟩ ⟨vb, rfl, hb⟩
    rw [sameAH_self, sameAF_self] at this
    exact this
  unfold ndV at *
  go_enter Tryd.func6, Tryd.ntmps6
  go_upto_region 2 with (first
    | (go_at_call 22; refine (C1.out _).mono ?_; rintro e w1 ⟨a1, n1, c1, rfl, k1, b1⟩; have B1 := Lib.hid b1; have K1 := Lib.hid k1; clear b1 k1))
  refine gen_world (fun Z => Below w.heap.size w Z ∧ Lies Z w1.heap.size (ndO h (.slice a1 n1 c1)) ∧ KArg Z (.slice a1 n1 c1) k) ⟨afterL B1.out (below_one w1 _), Lies.new w1 _, K1.out.below (below_one w1 _) (Nat.le_refl _)⟩ ?_
  rintro Z ⟨bZ, lZ, kZ⟩
  have BZ := Lib.hid bZ
  have LZ := Lib.hid lZ
  have KZ := Lib.hid kZ
  clear bZ lZ kZ K1
  generalize hM : w1.heap.size = M at *
  clear hM
  go_upto_region 3 with (first
    | (go_at_call 23; refine (C2.out _).mono ?_; rintro e w2 ⟨a2, n2, c2, rfl, k2, b2⟩; have B2 := Lib.hid b2; have K2 := Lib.hid k2; clear b2 k2))
  refine gen_world (fun Y => Below Z.heap.size Z Y ∧ Lies Y w2.heap.size (ndO h (.slice a2 n2 c2)) ∧ KArg Y (.slice a2 n2 c2) k) ⟨afterL B2.out (below_one w2 _), Lies.new w2 _, K2.out.below (below_one w2 _) (Nat.le_refl _)⟩ ?_
  rintro Y ⟨bY, lY, kY⟩
  have BY := Lib.hid bY
  have LY := Lib.hid lY
  have KY := Lib.hid kY
  have LV := Lib.hid (LZ.out.below bY LZ.out.lt)
  have KV := Lib.hid (KZ.out.below bY (Nat.le_refl _))
  clear bY lY kY K2
  generalize hP : w2.heap.size = P at *
  clear hP
  go_wp2_with (first
    | (go_at_call 10; refine (CA.out _).mono ?_; rintro e w3 ⟨rfl, b3⟩; have B3 := Lib.hid b3; obtain ⟨a0, a1, a2, a3, a4, a5⟩ := (LV.out.below b3 LV.out.lt).node; obtain ⟨b0, b1, b2, b3', b4, b5⟩ := (LY.out.below b3 LY.out.lt).node; have KV3 := Lib.hid (KV.out.below b3 (Nat.le_refl _)); have KY3 := Lib.hid (KY.out.below b3 (Nat.le_refl _)); clear b3)
    | (go_at_call 24; refine (CE.out _ _ _ KV3.out KY3.out).mono ?_; rintro e w4 ⟨rfl, b4⟩; have B4 := Lib.hid (afterL B3.out b4); clear b4))
  go_ret
  exact ⟨by simp, BZ.out.trans ((BY.out.trans (B4.out.mono BY.out.size)).mono BZ.out.size)⟩
end Go.Proofs.YtmandanmndmnhaaDoor.Tre
