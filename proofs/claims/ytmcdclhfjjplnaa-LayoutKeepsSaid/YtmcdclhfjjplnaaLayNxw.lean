/-
  offsidelaw09's own law LayoutNexts, where the program's All and Next do what is told of them by the structure Does9. No condition but that.
-/
import Derived.Test.YtmcdclhfjjplnaaLayClz
namespace Go.Proofs.Ytmcdclhfjjplnaa.Lay
open Tks Mrk Go.RowKit
set_option linter.unusedSimpArgs false
set_option linter.unusedVariables false

theorem nextR_len : ∀ (r : List Tk) (i : Nat) (o : List Int) (w : Int), (nextR r i o w).opn.length ≤ o.length + 1
  | [], i, o, w => by
    unfold nextR
    split
    · dsimp only; omega
    · split
      · dsimp only; rw [List.length_dropLast]; omega
      · dsimp only; omega
  | t :: r, i, o, w => by
    unfold nextR
    repeat' split
    all_goals first
      | exact nextR_len r (i + 1) o 0
      | (simp; done)
      | (simp; omega)
theorem next_fit {s : Sx} (h1 : s.toks.length ≤ 3000) (h2 : s.opn.length ≤ 3000) : Fit9 (nextS s).2.1 := by
  unfold nextS
  split
  · have := nextR_len (s.toks.drop s.at_.toNat) s.at_.toNat s.opn s.wait
    refine ⟨by dsimp only; omega, ?_⟩
    dsimp only [nextL]
    omega
  · exact ⟨by decide, by decide⟩
/-- The document's Next, as a contract that is wanted. -/
def RefNexts : Prop := ∀ (v : Value) (s : Sx) (W : World), StV W v s → Fit9 s → Calls Try.prog 12 #[v] W (NextOut W s)
set_option maxRecDepth 1000000 in
set_option maxHeartbeats 4000000 in
theorem nexts_walk (D : Does9) (R : RefNexts) (v : Value) (s : Sx) (w : World) (hv : StV w v s) :
    Calls Try.prog 3 #[v] w fun e w' => e = .returned (.bool true) ∧ Below w.heap.size w w' := by
  have C0 := Lib.hid (fun W => awake9_any D W)
  have HV := Lib.hid hv
  have D2 := Lib.hid D.next
  obtain ⟨vt, vo, rfl, ht, ho⟩ := hv
  obtain ⟨p1, q1, rfl⟩ := ht.len
  obtain ⟨p2, q2, rfl⟩ := ho.len
  have CS : Hid (∀ W, Below w.heap.size w W → Calls Try.prog 9 #[.slice p1 s.toks.length q1] W fun e w' => e = .returned (.bool (decide (s.toks.length ≤ 3000))) ∧ Below W.heap.size W w') := fun W h => small_any _ s.toks W (ht.below h (Nat.le_refl _))
  clear D ht ho
  by_cases h1 : s.toks.length ≤ 3000
  · have x1 : decide (s.toks.length ≤ 3000) = true := decide_eq_true h1
    rw [x1] at CS
    by_cases h2 : s.opn.length ≤ 3000
    · have hf : Fit9 s := ⟨by omega, by omega⟩
      have x2 : decide ((3000 : Int) < (s.opn.length : Int)) = false := decide_eq_false (by omega)
      have x3 : decide (3000 < s.opn.length) = false := decide_eq_false (by omega)
      have C1 := Lib.hid (fun W (h : Below w.heap.size w W) => D2.out _ s W (HV.out.below h (Nat.le_refl _)) hf)
      have C2 := Lib.hid (fun W (h : Below w.heap.size w W) => R _ s W (HV.out.below h (Nat.le_refl _)) hf)
      have HF := Lib.hid (next_fit h1 h2)
      unfold NextOut tkV9 at C1 C2
      generalize nextS s = cs at *
      obtain ⟨⟨nk, nt, nl, nc⟩, cs, ne⟩ := cs
      dsimp only at C1 C2 HF
      clear h1 h2 hf x1 D2 R
      go_enter Try.func3, Try.ntmps3
      go_upto_region 4 with (first
        | (go_at_call 9; refine (CS.out _ (below_one w _)).mono ?_; rintro e w1 ⟨rfl, b1⟩; have L1 := Lib.hid ((Lies.new w (stO (.slice p1 s.toks.length q1) s.at_ (.slice p2 s.opn.length q2) s.wait)).below b1 (by rw [World.size_alloc]; omega)); have B1 := Lib.hid (afterL (below_one w _) b1); clear b1; obtain ⟨c0, c1, c2, c3, -⟩ := L1.out.four)
        | (go_at_call 11; refine (C1.out _ B1.out).mono ?_; rintro e w2 ⟨v2, rfl, s2, b2⟩; have S2 := Lib.hid s2; obtain ⟨vt2, vo2, rfl, t2, o2⟩ := s2; obtain ⟨p3, q3, rfl⟩ := t2.len; obtain ⟨p4, q4, rfl⟩ := o2.len; have L2 := Lib.hid (L1.out.below b2 L1.out.lt); have B2 := Lib.hid (afterL B1.out b2); clear b2 t2 o2))
      clear c0 c1 c2 c3
      refine world_new (fun Y => Lies Y w.heap.size (stO (.slice p1 s.toks.length q1) s.at_ (.slice p2 s.opn.length q2) s.wait) ∧ Lies Y w2.heap.size (tkO ⟨nk, nt, nl, nc⟩) ∧ Lies Y (w2.heap.size + 1) (stO (.slice p3 cs.toks.length q3) cs.at_ (.slice p4 cs.opn.length q4) cs.wait) ∧ Below w2.heap.size w2 Y) ⟨(L2.out.alloc _).alloc _, (two_lie w2 _ _).1, (two_lie w2 _ _).2, below_two w2 _ _⟩ ?_
      rintro Y ⟨l1, l9, l2, bY⟩
      have BY := Lib.hid (afterL B2.out bY)
      have SY := Lib.hid (S2.out.below bY (Nat.le_refl _))
      have L3 := Lib.hid l1
      have L4 := Lib.hid l2
      have M4 := Lib.hid l9
      clear l1 l2 l9 bY S2
      generalize w2.heap.size + 1 = K2b at *
      generalize w2.heap.size = K2 at *
      obtain ⟨c0, c1, c2, c3, -⟩ := L3.out.four
      go_upto_region 5 with (first
        | (go_at_call 12; refine (C2.out _ BY.out).mono ?_; rintro e w3 ⟨v3, rfl, s3, b3⟩; have S3 := Lib.hid s3; obtain ⟨vt3, vo3, rfl, t3, o3⟩ := s3; obtain ⟨p5, q5, rfl⟩ := t3.len; obtain ⟨p6, q6, rfl⟩ := o3.len; have L5 := Lib.hid (L4.out.below b3 L4.out.lt); have M5 := Lib.hid (M4.out.below b3 M4.out.lt); have SZ := Lib.hid (SY.out.below b3 (Nat.le_refl _)); have B3 := Lib.hid (afterL BY.out b3); clear b3 t3 o3))
      clear c0 c1 c2 c3
      refine world_new (fun Z => Lies Z K2 (tkO ⟨nk, nt, nl, nc⟩) ∧ Lies Z K2b (stO (.slice p3 cs.toks.length q3) cs.at_ (.slice p4 cs.opn.length q4) cs.wait) ∧ Lies Z w3.heap.size (tkO ⟨nk, nt, nl, nc⟩) ∧ Lies Z (w3.heap.size + 1) (stO (.slice p5 cs.toks.length q5) cs.at_ (.slice p6 cs.opn.length q6) cs.wait) ∧ Below w3.heap.size w3 Z) ⟨(M5.out.alloc _).alloc _, (L5.out.alloc _).alloc _, (two_lie w3 _ _).1, (two_lie w3 _ _).2, below_two w3 _ _⟩ ?_
      rintro Z ⟨l8, l1, l9, l2, bZ⟩
      have BZ := Lib.hid (afterL B3.out bZ)
      have SA := Lib.hid (SZ.out.below bZ (Nat.le_refl _))
      have SB := Lib.hid (S3.out.below bZ (Nat.le_refl _))
      have L6 := Lib.hid l1
      have L7 := Lib.hid l2
      have M6 := Lib.hid l8
      have M7 := Lib.hid l9
      clear l1 l2 l8 l9 bZ S3
      generalize w3.heap.size + 1 = K3b at *
      generalize w3.heap.size = K3 at *
      go_wp2_with (first
        | (go_at_call 10; refine (C0.out _).mono ?_; rintro e w4 ⟨rfl, b4⟩; have B4 := Lib.hid (afterL BZ.out b4); have SA4 := Lib.hid (SA.out.below b4 (Nat.le_refl _)); have SB4 := Lib.hid (SB.out.below b4 (Nat.le_refl _)); obtain ⟨c0, c1, c2, c3, -⟩ := (L6.out.below b4 L6.out.lt).four; obtain ⟨d0, d1, d2, d3, -⟩ := (L7.out.below b4 L7.out.lt).four; obtain ⟨e0, e1, e2, e3, -⟩ := lies_tok (M6.out.below b4 M6.out.lt); obtain ⟨g0, g1, g2, g3, -⟩ := lies_tok (M7.out.below b4 M7.out.lt); dsimp only at e0 e1 e2 e3 g0 g1 g2 g3; clear b4)
        | (go_at_call 13; refine (samestate_any _ _ cs _ SA4.out SB4.out HF.out).mono ?_; rintro e w5 ⟨rfl, b5⟩; have B5 := Lib.hid (afterL B4.out b5); clear b5))
      go_ret
      exact ⟨by simp, B5.out⟩
    · have x2 : decide ((3000 : Int) < (s.opn.length : Int)) = true := decide_eq_true (by omega)
      have x3 : decide (3000 < s.opn.length) = true := decide_eq_true (by omega)
      clear h1 h2 x1 D2
      go_enter Try.func3, Try.ntmps3
      go_wp2_with (first
        | (go_at_call 9; refine (CS.out _ (below_one w _)).mono ?_; rintro e w1 ⟨rfl, b1⟩; have L1 := Lib.hid ((Lies.new w (stO (.slice p1 s.toks.length q1) s.at_ (.slice p2 s.opn.length q2) s.wait)).below b1 (by rw [World.size_alloc]; omega)); have B1 := Lib.hid (afterL (below_one w _) b1); clear b1; obtain ⟨c0, c1, c2, c3, -⟩ := L1.out.four)
        | (go_at_call 10; refine (C0.out _).mono ?_; rintro e w4 ⟨rfl, b4⟩; have B4 := Lib.hid (afterL B1.out b4); clear b4))
      go_ret
      exact ⟨rfl, B4.out⟩
  · have x1 : decide (s.toks.length ≤ 3000) = false := decide_eq_false h1
    rw [x1] at CS
    clear h1 x1 D2
    go_enter Try.func3, Try.ntmps3
    go_wp2_with (first
      | (go_at_call 9; refine (CS.out _ (below_one w _)).mono ?_; rintro e w1 ⟨rfl, b1⟩; have B1 := Lib.hid (afterL (below_one w _) b1); clear b1)
      | (go_at_call 10; refine (C0.out _).mono ?_; rintro e w4 ⟨rfl, b4⟩; have B4 := Lib.hid (afterL B1.out b4); clear b4))
    go_ret
    exact ⟨rfl, B4.out⟩
end Go.Proofs.Ytmcdclhfjjplnaa.Lay
