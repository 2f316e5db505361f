/-
  offsidelaw09's own law LayoutCloses, where the program's All and Close do what is told of them by the structure Does9. No condition but that.
-/
import Derived.Test.YtmcdclhfjjplnaaLayAwk
namespace Go.Proofs.Ytmcdclhfjjplnaa.Lay
open Tks Mrk Go.RowKit
set_option linter.unusedSimpArgs false
set_option linter.unusedVariables false

theorem close_fit {s : Sx} (h1 : s.toks.length ≤ 3000) (h2 : s.opn.length ≤ 3000) : Fit9 (closeS s).1 := by
  unfold closeS
  split
  · refine ⟨by dsimp only; omega, ?_⟩
    dsimp only
    rw [List.length_dropLast]
    omega
  · exact ⟨by decide, by decide⟩
set_option maxRecDepth 1000000 in
set_option maxHeartbeats 4000000 in
theorem closes_walk (D : Does9) (v : Value) (s : Sx) (w : World) (hv : StV w v s) :
    Calls Try.prog 4 #[v] w fun e w' => e = .returned (.bool true) ∧ Below w.heap.size w w' := by
  have C0 := Lib.hid (fun W => awake9_any D W)
  have HV := Lib.hid hv
  have D2 := Lib.hid D.close
  obtain ⟨vt, vo, rfl, ht, ho⟩ := hv
  obtain ⟨p1, q1, rfl⟩ := ht.len
  obtain ⟨p2, q2, rfl⟩ := ho.len
  have CS : Hid (∀ W, Below w.heap.size w W → Calls Try.prog 9 #[.slice p1 s.toks.length q1] W fun e w' => e = .returned (.bool (decide (s.toks.length ≤ 3000))) ∧ Below W.heap.size W w') := fun W h => small_any _ s.toks W (ht.below h (Nat.le_refl _))
  clear D ht ho
  by_cases h1 : s.toks.length ≤ 3000
  · have x1 : decide (s.toks.length ≤ 3000) = true := decide_eq_true h1
    rw [x1] at CS
    by_cases h2 : s.opn.length ≤ 3000
    · have hf : Fit9 s := ⟨by omega, by omega⟩
      have x2 : decide ((3000 : Int) < (s.opn.length : Int)) = false := decide_eq_false (by omega)
      have x3 : decide (3000 < s.opn.length) = false := decide_eq_false (by omega)
      have C1 := Lib.hid (fun W (h : Below w.heap.size w W) => D2.out _ s W (HV.out.below h (Nat.le_refl _)) hf)
      have C2 := Lib.hid (fun W (h : Below w.heap.size w W) => refclose_any _ s W (HV.out.below h (Nat.le_refl _)) hf)
      have HF := Lib.hid (close_fit h1 h2)
      unfold CloseOut at C1 C2
      generalize closeS s = cs at *
      obtain ⟨cs, ok⟩ := cs
      dsimp only at C1 C2 HF
      clear h1 h2 hf x1 D2
      go_enter Try.func4, Try.ntmps4
      go_upto_region 4 with (first
        | (go_at_call 9; refine (CS.out _ (below_one w _)).mono ?_; rintro e w1 ⟨rfl, b1⟩; have L1 := Lib.hid ((Lies.new w (stO (.slice p1 s.toks.length q1) s.at_ (.slice p2 s.opn.length q2) s.wait)).below b1 (by rw [World.size_alloc]; omega)); have B1 := Lib.hid (afterL (below_one w _) b1); clear b1; obtain ⟨c0, c1, c2, c3, -⟩ := L1.out.four)
        | (go_at_call 14; refine (C1.out _ B1.out).mono ?_; rintro e w2 ⟨v2, rfl, s2, b2⟩; have S2 := Lib.hid s2; obtain ⟨vt2, vo2, rfl, t2, o2⟩ := s2; obtain ⟨p3, q3, rfl⟩ := t2.len; obtain ⟨p4, q4, rfl⟩ := o2.len; have L2 := Lib.hid (L1.out.below b2 L1.out.lt); have B2 := Lib.hid (afterL B1.out b2); clear b2 t2 o2))
      clear c0 c1 c2 c3
      refine world_new (fun Y => Lies Y w.heap.size (stO (.slice p1 s.toks.length q1) s.at_ (.slice p2 s.opn.length q2) s.wait) ∧ Lies Y w2.heap.size (stO (.slice p3 cs.toks.length q3) cs.at_ (.slice p4 cs.opn.length q4) cs.wait) ∧ Below w2.heap.size w2 Y) ⟨L2.out.alloc _, Lies.new w2 _, below_one w2 _⟩ ?_
      rintro Y ⟨l1, l2, bY⟩
      have BY := Lib.hid (afterL B2.out bY)
      have SY := Lib.hid (S2.out.below bY (Nat.le_refl _))
      have L3 := Lib.hid l1
      have L4 := Lib.hid l2
      clear l1 l2 bY S2
      generalize w2.heap.size = K2 at *
      obtain ⟨c0, c1, c2, c3, -⟩ := L3.out.four
      go_upto_region 5 with (first
        | (go_at_call 15; refine (C2.out _ BY.out).mono ?_; rintro e w3 ⟨v3, rfl, s3, b3⟩; have S3 := Lib.hid s3; obtain ⟨vt3, vo3, rfl, t3, o3⟩ := s3; obtain ⟨p5, q5, rfl⟩ := t3.len; obtain ⟨p6, q6, rfl⟩ := o3.len; have L5 := Lib.hid (L4.out.below b3 L4.out.lt); have SZ := Lib.hid (SY.out.below b3 (Nat.le_refl _)); have B3 := Lib.hid (afterL BY.out b3); clear b3 t3 o3))
      clear c0 c1 c2 c3
      refine world_new (fun Z => Lies Z K2 (stO (.slice p3 cs.toks.length q3) cs.at_ (.slice p4 cs.opn.length q4) cs.wait) ∧ Lies Z w3.heap.size (stO (.slice p5 cs.toks.length q5) cs.at_ (.slice p6 cs.opn.length q6) cs.wait) ∧ Below w3.heap.size w3 Z) ⟨L5.out.alloc _, Lies.new w3 _, below_one w3 _⟩ ?_
      rintro Z ⟨l1, l2, bZ⟩
      have BZ := Lib.hid (afterL B3.out bZ)
      have SA := Lib.hid (SZ.out.below bZ (Nat.le_refl _))
      have SB := Lib.hid (S3.out.below bZ (Nat.le_refl _))
      have L6 := Lib.hid l1
      have L7 := Lib.hid l2
      clear l1 l2 bZ S3
      generalize w3.heap.size = K3 at *
      go_wp2_with (first
        | (go_at_call 10; refine (C0.out _).mono ?_; rintro e w4 ⟨rfl, b4⟩; have B4 := Lib.hid (afterL BZ.out b4); have SA4 := Lib.hid (SA.out.below b4 (Nat.le_refl _)); have SB4 := Lib.hid (SB.out.below b4 (Nat.le_refl _)); obtain ⟨c0, c1, c2, c3, -⟩ := (L6.out.below b4 L6.out.lt).four; obtain ⟨d0, d1, d2, d3, -⟩ := (L7.out.below b4 L7.out.lt).four; clear b4)
        | (go_at_call 13; refine (samestate_any _ _ cs _ SA4.out SB4.out HF.out).mono ?_; rintro e w5 ⟨rfl, b5⟩; have B5 := Lib.hid (afterL B4.out b5); clear b5))
      go_ret
      exact ⟨by simp, B5.out⟩
    · have x2 : decide ((3000 : Int) < (s.opn.length : Int)) = true := decide_eq_true (by omega)
      have x3 : decide (3000 < s.opn.length) = true := decide_eq_true (by omega)
      clear h1 h2 x1 D2
      go_enter Try.func4, Try.ntmps4
      go_wp2_with (first
        | (go_at_call 9; refine (CS.out _ (below_one w _)).mono ?_; rintro e w1 ⟨rfl, b1⟩; have L1 := Lib.hid ((Lies.new w (stO (.slice p1 s.toks.length q1) s.at_ (.slice p2 s.opn.length q2) s.wait)).below b1 (by rw [World.size_alloc]; omega)); have B1 := Lib.hid (afterL (below_one w _) b1); clear b1; obtain ⟨c0, c1, c2, c3, -⟩ := L1.out.four)
        | (go_at_call 10; refine (C0.out _).mono ?_; rintro e w4 ⟨rfl, b4⟩; have B4 := Lib.hid (afterL B1.out b4); clear b4))
      go_ret
      exact ⟨rfl, B4.out⟩
  · have x1 : decide (s.toks.length ≤ 3000) = false := decide_eq_false h1
    rw [x1] at CS
    clear h1 x1 D2
    go_enter Try.func4, Try.ntmps4
    go_wp2_with (first
      | (go_at_call 9; refine (CS.out _ (below_one w _)).mono ?_; rintro e w1 ⟨rfl, b1⟩; have B1 := Lib.hid (afterL (below_one w _) b1); clear b1)
      | (go_at_call 10; refine (C0.out _).mono ?_; rintro e w4 ⟨rfl, b4⟩; have B4 := Lib.hid (afterL B1.out b4); clear b4))
    go_ret
    exact ⟨rfl, B4.out⟩
end Go.Proofs.Ytmcdclhfjjplnaa.Lay
