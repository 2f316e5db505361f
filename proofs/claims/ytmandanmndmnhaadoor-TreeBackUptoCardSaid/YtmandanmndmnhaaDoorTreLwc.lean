/-
  offsidelaw10's TreeBack and TreeAgain, walked. TreeAgain: no condition. TreeBack: the tree is no deeper than 2^40, and what may be shown no longer than 2^46.
-/
import Derived.Test.YtmandanmndmnhaaDoorTreAwk
namespace Go.Proofs.YtmandanmndmnhaaDoor.Tre
open Tks Go.RowKit
set_option linter.unusedSimpArgs false
set_option linter.unusedVariables false

/-- What Read answers, told by its three parts. -/
def Reads (s : ByteArray) (h : Hd) (k : Fo) (E : Int) : Prop := ∀ W, Calls Tryd.prog 22 #[.string s] W fun e w' => ∃ a n c, e = .returned (.tuple #[ndV h (.slice a n c), .int .i64 E]) ∧ KArg w' (.slice a n c) k ∧ Below W.heap.size W w'
theorem reads_ok {s : ByteArray} {h : Hd} {k : Fo} (hr : readS s = .ok (h, k)) : Reads s h k 0 := fun W => (Read_any s W).mono fun e w' H => by
  obtain ⟨h, k, a, n, c, E, he, hk, hb, ht⟩ := H
  unfold Told at ht
  rw [hr] at ht
  obtain ⟨rfl, rfl, rfl⟩ := ht
  exact ⟨a, n, c, he, hk.arg, hb⟩
theorem reads_error {s : ByteArray} {E : Int} (hr : readS s = .error E) : Reads s zeroH .nil E := fun W => (Read_any s W).mono fun e w' H => by
  obtain ⟨h, k, a, n, c, E, he, hk, hb, ht⟩ := H
  unfold Told at ht
  rw [hr] at ht
  obtain ⟨rfl, rfl, rfl⟩ := ht
  exact ⟨a, n, c, he, hk.arg, hb⟩
theorem readS_again {s : ByteArray} {h : Hd} {k : Fo} (hr : readS s = .ok (h, k)) : (⟨(nodeT h (showF k)).toArray⟩ : ByteArray) = s ∧ rightN h (len k) (rightF k) = true ∧ (nodeT h (showF k)).length ≤ 70368744177664 := by
  unfold readS at hr
  split at hr
  · cases hr
  · rename_i hs
    split at hr
    · cases hr
    · rename_i h1 k1 q ht
      split at hr
      · rename_i hq
        simp only [Except.ok.injEq, Prod.mk.injEq] at hr
        obtain ⟨rfl, rfl⟩ := hr
        obtain ⟨e1, e2⟩ := again_tree ht
        rw [hq, List.append_nil] at e1
        have e3 := rest_full s
        rw [e1] at e3
        refine ⟨?_, e2, by omega⟩
        rw [← e1]
        rfl
      · cases hr
theorem sameH_strip (h : Hd) : sameH h (hd0 h.kind h.form h.text) = true := by simp [sameH, hd0]
set_option maxRecDepth 1000000 in
set_option maxHeartbeats 8000000 in
theorem back_walk (h : Hd) (k : Fo) (va : Value) (w : World) (ha : NdArg w va h k) (hd : deepF k ≤ 1099511627776) (hl : (nodeT h (showF k)).length ≤ 70368744177664) :
    Calls Tryd.prog 7 #[va] w fun e w' => e = .returned (.bool true) ∧ Below w.heap.size w w' := by
  have HA := Lib.hid ha
  obtain ⟨ka, rfl, -⟩ := ha
  have CA := Lib.hid (fun W => awake_any W)
  have CD : Hid (∀ W, Below w.heap.size w W → Calls Tryd.prog 15 #[ndV h ka] W fun e w' => e = .returned (.int .i64 ((1 + deepF k : Nat) : Int)) ∧ Below W.heap.size W w') := fun W hW => Depth_any h k _ W (HA.out.below hW (Nat.le_refl _)) hd
  have D1 := fun W hW => Show_any h k (ndV h ka) W (HA.out.below hW (Nat.le_refl _)) hl
  by_cases hr : rightN h (len k) (rightF k) = true
  · rw [if_pos hr] at D1
    have hb := readS_back h k hr
    have hsz : (⟨(nodeT h (showF k)).toArray⟩ : ByteArray).size = (nodeT h (showF k)).length := by simp [ByteArray.size]
    rw [← hsz] at hb
    generalize (⟨(nodeT h (showF k)).toArray⟩ : ByteArray) = t at D1 hb hsz
    obtain ⟨h2, k2, E, CR0, cs⟩ : ∃ h2 k2 E, Reads t h2 k2 E ∧ ((16777216 < t.size ∧ E = 3) ∨ (¬ 16777216 < t.size ∧ 1000 < 1 + deepF k ∧ E = 2) ∨ (¬ 16777216 < t.size ∧ ¬ 1000 < 1 + deepF k ∧ E = 0 ∧ (sameH h h2 && sameF k k2) = true)) := by
      by_cases g1 : 16777216 < t.size
      · rw [if_pos g1] at hb
        exact ⟨_, _, _, reads_error hb, .inl ⟨g1, rfl⟩⟩
      · rw [if_neg g1] at hb
        by_cases g2 : 1 + deepF k ≤ 1000
        · rw [if_pos g2] at hb
          exact ⟨_, _, _, reads_ok hb, .inr (.inr ⟨g1, by omega, rfl, by rw [sameH_strip, sameF_strip]; rfl⟩)⟩
        · rw [if_neg g2] at hb
          exact ⟨_, _, _, reads_error hb, .inr (.inl ⟨g1, by omega, rfl⟩)⟩
    have CR := Lib.hid CR0
    have C1 := Lib.hid D1
    have CS : Hid (∀ v2 W, Below w.heap.size w W → KArg W v2 k2 → Calls Tryd.prog 11 #[ndV h ka, ndV h2 v2] W fun e w' => e = .returned (.bool (sameH h h2 && sameF k k2)) ∧ Below W.heap.size W w') := fun v2 W hW hv => Same_any h h2 k k2 _ _ W (HA.out.below hW (Nat.le_refl _)) ⟨v2, rfl, hv⟩
    have HC := Lib.hid cs
    obtain ⟨d1, hd1⟩ : ∃ d1 : Int, ((1 + deepF k : Nat) : Int) = d1 := ⟨_, rfl⟩
    rw [hd1] at CD
    have HD := Lib.hid hd1
    unfold Reads at CR
    unfold ndV at CR C1 CS CD
    clear HA hd hl hr hb hsz CR0 cs D1 hd1
    go_enter Tryd.func7, Tryd.ntmps7
    go_upto_region 1 with fail
    refine gen_world (fun X => Below w.heap.size w X ∧ Lies X w.heap.size (ndO h ka)) ⟨below_one w _, Lies.new w _⟩ ?_
    rintro X ⟨bX, lX⟩
    have LX := Lib.hid lX
    have BX := Lib.hid bX
    clear bX lX
    go_upto_region 6 with (first
      | (go_at_call 10; refine (CA.out _).mono ?_; rintro e w1 ⟨rfl, b1⟩; have B1 := Lib.hid b1; obtain ⟨a0, a1, a2, a3, a4, a5⟩ := (LX.out.below b1 LX.out.lt).node; clear b1)
      | (go_at_call 20; refine (C1.out _ (BX.out.trans (B1.out.mono BX.out.size))).mono ?_; rintro e w2 ⟨rfl, b2⟩; have B2 := Lib.hid (afterL B1.out b2); clear b2 a0 a1 a2 a3 a4 a5)
      | (go_at_call 22; refine (CR.out _).mono ?_; rintro e w3 ⟨ra, rn, rc, rfl, k3, b3⟩; have B3 := Lib.hid (afterL B2.out b3); have K3 := Lib.hid k3; clear b3 k3))
    refine gen_world (fun Z => Below X.heap.size X Z ∧ Lies Z w3.heap.size (ndO h2 (.slice ra rn rc)) ∧ KArg Z (.slice ra rn rc) k2) ⟨afterL B3.out (below_one w3 _), Lies.new w3 _, K3.out.below (below_one w3 _) (Nat.le_refl _)⟩ ?_
    rintro Z ⟨bZ, lZ, kZ⟩
    have BZ := Lib.hid (BX.out.trans (bZ.mono BX.out.size))
    have LZ := Lib.hid lZ
    have KZ := Lib.hid kZ
    have LV := Lib.hid (LX.out.below bZ LX.out.lt)
    obtain ⟨a0, a1, a2, a3, a4, a5⟩ := LV.out.node
    clear bZ lZ kZ K3
    generalize hM : w3.heap.size = M at *
    clear hM
    rcases HC.out with ⟨g1, hE⟩ | ⟨g1, g2, hE⟩ | ⟨g1, g2, hE, g3⟩
    · subst hE
      have x1 : decide ((16777216 : Int) < (t.size : Int)) = true := decide_eq_true (by omega)
      have x1n : decide (16777216 < t.size) = true := decide_eq_true g1
      clear g1 HC
      go_wp2_with fail
      go_ret
      exact ⟨by simp, BZ.out⟩
    · subst hE
      have x1 : decide ((16777216 : Int) < (t.size : Int)) = false := decide_eq_false (by omega)
      have x1n : decide (16777216 < t.size) = false := decide_eq_false g1
      have x2 : decide ((1000 : Int) < d1) = true := decide_eq_true (by have := HD.out; omega)
      clear g1 g2 HC
      go_wp2_with (first
        | (go_at_call 15; refine (CD.out _ BZ.out).mono ?_; rintro e w4 ⟨rfl, b4⟩; have B4 := Lib.hid b4; clear b4))
      go_ret
      exact ⟨by simp, afterL BZ.out B4.out⟩
    · subst hE
      have x1 : decide ((16777216 : Int) < (t.size : Int)) = false := decide_eq_false (by omega)
      have x1n : decide (16777216 < t.size) = false := decide_eq_false g1
      have x2 : decide ((1000 : Int) < d1) = false := decide_eq_false (by have := HD.out; omega)
      rw [g3] at CS
      clear g1 g2 g3 HC
      go_wp2_with (first
        | (go_at_call 15; refine (CD.out _ BZ.out).mono ?_; rintro e w4 ⟨rfl, b4⟩; have B4 := Lib.hid b4; clear a0 a1 a2 a3 a4 a5; obtain ⟨a0, a1, a2, a3, a4, a5⟩ := (LV.out.below b4 LV.out.lt).node; obtain ⟨c0, c1, c2, c3, c4, c5⟩ := (LZ.out.below b4 LZ.out.lt).node; have K4 := Lib.hid (KZ.out.below b4 (Nat.le_refl _)); clear b4)
        | (go_at_call 11; refine (CS.out _ _ (afterL BZ.out B4.out) K4.out).mono ?_; rintro e w5 ⟨rfl, b5⟩; have B5 := Lib.hid (afterL B4.out b5); clear b5))
      go_ret
      exact ⟨by simp, afterL BZ.out B5.out⟩
  · rw [if_neg hr] at D1
    have C1 := Lib.hid D1
    unfold ndV at C1 CD
    clear HA hd hl hr D1 CD
    go_enter Tryd.func7, Tryd.ntmps7
    go_upto_region 1 with fail
    refine gen_world (fun X => Below w.heap.size w X ∧ Lies X w.heap.size (ndO h ka)) ⟨below_one w _, Lies.new w _⟩ ?_
    rintro X ⟨bX, lX⟩
    have LX := Lib.hid lX
    have BX := Lib.hid bX
    clear bX lX
    go_wp2_with (first
      | (go_at_call 10; refine (CA.out _).mono ?_; rintro e w1 ⟨rfl, b1⟩; have B1 := Lib.hid b1; obtain ⟨a0, a1, a2, a3, a4, a5⟩ := (LX.out.below b1 LX.out.lt).node; clear b1)
      | (go_at_call 20; refine (C1.out _ (BX.out.trans (B1.out.mono BX.out.size))).mono ?_; rintro e w2 ⟨rfl, b2⟩; have B2 := Lib.hid (afterL B1.out b2); clear b2))
    go_ret
    exact ⟨by simp, BX.out.trans (B2.out.mono BX.out.size)⟩
set_option maxRecDepth 1000000 in
set_option maxHeartbeats 8000000 in
theorem again_walk (s : ByteArray) (w : World) :
    Calls Tryd.prog 8 #[.string s] w fun e w' => e = .returned (.bool true) ∧ Below w.heap.size w w' := by
  have CA := Lib.hid (fun W => awake_any W)
  cases hr : readS s with
  | error x =>
    have CR := Lib.hid (reads_error hr)
    unfold Reads ndV zeroH at CR
    have CS : Hid (∀ v W, KArg W v .nil → Calls Tryd.prog 11 #[ndV zeroH v, ndV zeroH (.slice none 0 0)] W fun e w' => e = .returned (.bool true) ∧ Below W.heap.size W w') := fun v W hv => by
      have := Same_any zeroH zeroH .nil .nil _ _ W ⟨v, rfl, hv⟩ ⟨_, rfl, KArg.nil W none 0⟩
      rw [sameH_self, sameF_self] at this
      exact this
    unfold ndV zeroH at CS
    have hx : x ≠ 0 := by
      intro e
      subst e
      unfold readS at hr
      split at hr
      · simp at hr
      · split at hr
        · rename_i e _
          simp only [Except.error.injEq] at hr
          split at hr <;> omega
        · split at hr
          · cases hr
          · simp at hr
    have x1 : (x != 0) = true := bne_iff_ne.2 hx
    have x2 : (x == 0) = false := beq_eq_false_iff_ne.2 hx
    clear hr hx
    go_enter Tryd.func8, Tryd.ntmps8
    go_upto_region 3 with (first
      | (go_at_call 10; refine (CA.out _).mono ?_; rintro e w1 ⟨rfl, b1⟩; have B1 := Lib.hid b1; clear b1)
      | (go_at_call 22; refine (CR.out _).mono ?_; rintro e w2 ⟨ra, rn, rc, rfl, k2, b2⟩; have B2 := Lib.hid (afterL B1.out b2); have K2 := Lib.hid k2; clear b2 k2))
    refine gen_world (fun Z => Below w.heap.size w Z ∧ Lies Z w2.heap.size (ndO ⟨0, 0, ⟨#[]⟩, 0, 0⟩ (.slice ra rn rc)) ∧ KArg Z (.slice ra rn rc) .nil) ⟨afterL B2.out (below_one w2 _), Lies.new w2 _, K2.out.below (below_one w2 _) (Nat.le_refl _)⟩ ?_
    rintro Z ⟨bZ, lZ, kZ⟩
    have BZ := Lib.hid bZ
    have KZ := Lib.hid kZ
    obtain ⟨a0, a1, a2, a3, a4, a5⟩ := lZ.node
    clear bZ lZ kZ K2
    generalize hM : w2.heap.size = M at *
    clear hM
    go_wp2_with (first
      | (go_at_call 11; refine (CS.out _ _ KZ.out).mono ?_; rintro e w3 ⟨rfl, b3⟩; have B3 := Lib.hid b3; clear b3))
    go_ret
    exact ⟨by simp, afterL BZ.out B3.out⟩
  | ok p =>
    obtain ⟨h, k⟩ := p
    obtain ⟨e1, e2, e3⟩ := readS_again hr
    have CR := Lib.hid (reads_ok hr)
    have CS : Hid (∀ v W, KArg W v k → Calls Tryd.prog 20 #[ndV h v] W fun e w' => e = .returned (.tuple #[.string s, .int .i64 0]) ∧ Below W.heap.size W w') := fun v W hv => by
      have := Show_any h k _ W ⟨v, rfl, hv⟩ e3
      rw [if_pos e2, e1] at this
      exact this
    unfold Reads at CR
    unfold ndV at CR CS
    clear hr e1 e2 e3
    go_enter Tryd.func8, Tryd.ntmps8
    go_upto_region 3 with (first
      | (go_at_call 10; refine (CA.out _).mono ?_; rintro e w1 ⟨rfl, b1⟩; have B1 := Lib.hid b1; clear b1)
      | (go_at_call 22; refine (CR.out _).mono ?_; rintro e w2 ⟨ra, rn, rc, rfl, k2, b2⟩; have B2 := Lib.hid (afterL B1.out b2); have K2 := Lib.hid k2; clear b2 k2))
    refine gen_world (fun Z => Below w.heap.size w Z ∧ Lies Z w2.heap.size (ndO h (.slice ra rn rc)) ∧ KArg Z (.slice ra rn rc) k) ⟨afterL B2.out (below_one w2 _), Lies.new w2 _, K2.out.below (below_one w2 _) (Nat.le_refl _)⟩ ?_
    rintro Z ⟨bZ, lZ, kZ⟩
    have BZ := Lib.hid bZ
    have KZ := Lib.hid kZ
    obtain ⟨a0, a1, a2, a3, a4, a5⟩ := lZ.node
    clear bZ lZ kZ K2
    generalize hM : w2.heap.size = M at *
    clear hM
    go_wp2_with (first
      | (go_at_call 20; refine (CS.out _ _ KZ.out).mono ?_; rintro e w3 ⟨rfl, b3⟩; have B3 := Lib.hid b3; clear b3))
    go_ret
    exact ⟨by simp, afterL BZ.out B3.out⟩
end Go.Proofs.YtmandanmndmnhaaDoor.Tre
